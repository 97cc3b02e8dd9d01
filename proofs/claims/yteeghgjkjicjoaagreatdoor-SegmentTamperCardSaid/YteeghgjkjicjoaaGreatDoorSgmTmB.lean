import Derived.Test.YteeghgjkjicjoaaGreatDoorSgmTmA
import Derived.Test.YteeghgjkjicjoaaGreatDoorC27
import Derived.Test.YteeghgjkjicjoaaGreatDoorC34
import Derived.Test.YteeghgjkjicjoaaGreatDoorC37
set_option maxRecDepth 100000
set_option maxHeartbeats 16000000
namespace Go.Proofs.YteeghgjkjicjoaaGreatDoor.Sgm
open Go.RowKit Dsk Slt Epo
theorem opens_each {k C:List Int} {most:Nat}:∀ (l:List (List Int)) (i least:Nat) (T:List (List Int)),opensL k C most i least l = some T -> T.length = l.length /\ ∀ j,j < l.length -> ∃ x,Seal.openL k C (i + j) (l.getD j []) = some x /\ T.getD j [] = x.1
 | [],i,least,T,h => by
   cases h
   exact ⟨rfl,fun j hj => absurd hj (Nat.not_lt_zero _)⟩
 | s :: r,i,least,T,h => by
   unfold opensL at h
   cases e:Seal.openL k C i s with
   | none => rw [e] at h; cases h
   | some x =>
     rw [e] at h
     dsimp only at h
     split at h
     . cases h
     . cases e2:opensL k C most (i + 1) x.2 r with
       | none => rw [e2] at h; cases h
       | some T2 =>
         rw [e2] at h
         cases h
         obtain ⟨h1,h2⟩:=opens_each r (i + 1) x.2 T2 e2
         refine ⟨by simp [h1],fun j hj => ?_⟩
         cases j with
         | zero => exact ⟨x,e,rfl⟩
         | succ j =>
           obtain ⟨y,hy1,hy2⟩:=h2 j (by simpa using hj)
           refine ⟨y,?_,by simpa using hy2⟩
           rw [show i + (j + 1) = i + 1 + j by omega]
           simpa using hy1
theorem opens_begin {k C:List Int} {m1 m2 i1 i2:Nat} {ts ws:List (List Int)} {T U:List (List Int)} (h1:opensL k C m1 0 i1 ts = some T) (h2:opensL k C m2 0 i2 ws = some U) (h:¬ ∃ i,i < ts.length /\ ForgedAt k C ts ws i):T.length <= U.length /\ T = U.take T.length:=by
 obtain ⟨l1,a1⟩:=opens_each ts 0 i1 T h1
 obtain ⟨l2,a2⟩:=opens_each ws 0 i2 U h2
 have hno:∀ i,i < ts.length -> i < ws.length /\ ws.getD i [] = ts.getD i []:=fun i hi => by
  obtain ⟨x,hx,_⟩:=a1 i hi
  rw [Nat.zero_add] at hx
  have hn:¬ ForgedAt k C ts ws i:=fun hf => h ⟨i,hi,hf⟩
  unfold ForgedAt at hn
  rw [hx] at hn
  constructor
  . refine Nat.lt_of_not_le (fun hle => hn ⟨rfl,.inl hle⟩)
  . exact Classical.byContradiction (fun hne => hn ⟨rfl,.inr hne⟩)
 have hle:ts.length <= ws.length:=by
  rcases Nat.lt_or_ge ws.length ts.length with hlt | hge
  . have:=(hno ws.length hlt).1; omega
  . exact hge
 refine ⟨by omega,?_⟩
 apply List.ext_getElem
 . rw [List.length_take]; omega
 . intro j hj hj2
   rw [List.getElem_take]
   have hjt:j < ts.length:=by omega
   obtain ⟨x,hx1,hx2⟩:=a1 j hjt
   obtain ⟨y,hy1,hy2⟩:=a2 j (by omega)
   rw [(hno j hjt).2] at hy1
   rw [hx1] at hy1
   cases hy1
   have e1:T.getD j [] = T[j]:=by simp [List.getD_eq_getElem?_getD,hj]
   have e2:U.getD j [] = U[j]'(by omega):=by simp [List.getD_eq_getElem?_getD,show j < U.length by omega]
   rw [<- e1,<- e2,hx2,hy2]
theorem opn_log2 {D:DS} (h9:9 <= D.secs) (hw:D.data.length = D.secs * 128) (ho:D.off = false) (hl:D.laid = false) (key C':List Int) (cs:List (List Int)) (e:Bool) :
 ((opnD D key C' cs e).secs = D.secs /\ reg (opnD D key C' cs e) 8 (D.secs - 8) = reg D 8 (D.secs - 8)) /\ (opnX D key C' cs e = 0 \/ opnX D key C' cs e = 9):=by
 have hx0:xs0 D = 0 \/ xs0 D = 9:=by
  unfold xs0
  rw [ho,if_neg (by decide)]
  unfold tellE
  split
  . exact .inr rfl
  . exact .inl rfl
 by_cases h0:xs0 D = 0
 . by_cases h1:xs1 e = 0
   . by_cases h2:xs2 (opnR D key C' cs) = 0
     . obtain ⟨e1,e2⟩:=opn_x3 h0 h1 h2
       rw [e1,e2]
       by_cases hv:vD D = 1024
       . refine ⟨?_,.inl ?_⟩
         . unfold nxtD; rw [if_pos hv]; exact ⟨rfl,rfl⟩
         . unfold nxtE; rw [if_pos hv]
       . have hle:vD D <= 1024:=by
          have h:=lead_le 1 (regL D 0 1024)
          have h2:(regL D 0 1024).length <= 1024:=by unfold regL; simp; omega
          exact Nat.le_trans h h2
         have hN:=next_q D 0 (vD D) ho (by omega)
         have hnD:nxtD D (vD D) = (nextD D 0 (vD D)).1:=by unfold nxtD; rw [if_neg hv]
         have hnE:nxtE D (vD D) = (nextD D 0 (vD D)).2:=by unfold nxtE; rw [if_neg hv]
         have hcalm:=run_calm (0 + vD D / 128) (nextB D 0 (vD D)) 1 0 D hl ho
         refine ⟨?_,.inl (by rw [hnE]; exact hcalm.2.2)⟩
         rw [hnD]
         refine ⟨by unfold DS.secs; rw [hN.len],?_⟩
         refine list_eq (by rw [Slt.reg_len (by rw [hN.len]; omega),Slt.reg_len (by omega)]) (fun j hj => ?_)
         rw [Slt.reg_len (by rw [hN.len]; omega)] at hj
         rw [Slt.reg_get hj,Slt.reg_get hj,hN.at_,if_neg (by omega)]
     . obtain ⟨e1,e2⟩:=opn_x2 h0 h1 h2
       rw [e1,e2]
       refine ⟨⟨rfl,rfl⟩,.inr ?_⟩
       cases hR:opnR D key C' cs with
       | none => rfl
       | some T => rw [hR] at h2; exact absurd rfl h2
   . obtain ⟨e1,e2⟩:=opn_x1 (D:=D) (key:=key) (C:=C') (cs:=cs) h0 h1
     rw [e1,e2]
     refine ⟨⟨rfl,rfl⟩,.inr ?_⟩
     cases e with
     | true => rfl
     | false => exact absurd rfl h1
 . obtain ⟨e1,e2⟩:=opn_x0 (key:=key) (C:=C') (cs:=cs) (e:=e) h0
   rw [e1,e2]
   exact ⟨⟨rfl,rfl⟩,.inr (hx0.resolve_left h0)⟩
structure TD (w0 w:World) (K:DK) (D:DS) (n:Nat):Prop where
 sd:SD w0 w K D
 secs:D.secs = n
 off:D.off = false
 calm:D.laid = false
 wr:D.writes <= 33000
theorem TD.later {w0 w w':World} {K:DK} {D:DS} {n:Nat} (h:TD w0 w K D n) (hb:Below w.heap.size w w'):TD w0 w' K D n:=⟨h.sd.later hb,h.secs,h.off,h.calm,h.wr⟩
theorem td_put {w0 w:World} {K:DK} {D:DS} {n:Nat} (h:TD w0 w K D n) (k m:Nat) (hk:k + m <= n * 128) (A:Option Addr) (c:Nat) (b:List Int) (hl:b.length = m) (hi:InB b) (hB:Byt w A c b) :
 Calls Tryz.prog 16 #[.pointer (some ⟨K.g,0,none⟩),.int .i64 k,.slice A m c] w fun e w' => e = .returned (.int .i64 0) /\ (∃ D',TD w0 w' K D' n) /\ Chg K.bl w w':=by
 have hw:=h.sd.dsk.ok.whole128
 have hs:=h.secs
 refine (put_ok h.sd.dsk k m (by rw [hw,hs]; exact hk) A c b hl hi hB).mono ?_
 rintro e w' ⟨rfl,hd,hc⟩
 refine ⟨rfl,⟨_,h.sd.chg hd hc h.sd.kb,?_,h.off,h.calm,h.wr⟩,hc⟩
 show (splice D.data k b).length / 128 = n
 rw [splice_len _ _ _ (by rw [hw,hs,hl]; exact hk)]
 exact hs
def TOQ (w0 w:World) (K:DK) (n:Nat) (k C:List Int) (e:Ending) (w':World):Prop :=
 ∃ D' cs Rr eb,SD w0 w' K D' /\ Chg K.bl w w' /\ D'.secs = n /\ Reads ((D'.data.drop (8 * 128)).take ((D'.secs - 8) * 128)) cs Rr eb /\
   (e = .returned (.tuple #[.pointer none,.int .i64 9]) \/ ∃ J G S v T least m,eb = false /\ e = .returned (.tuple #[.pointer (some ⟨G.g,0,none⟩),.int .i64 0]) /\ SE w0 w' K D' J G S ⟨k,C,v,T,false⟩ /\ opensL k C m 0 least (cs.map textC) = some T /\ cs.length <= 16384)
theorem td_open {w0 w:World} {K:DK} {D:DS} {n:Nat} (h:TD w0 w K D n) (h9:9 <= n) (hn:n <= 72) {key:List Int} (hk:key.length = 32) (hkb:InB key) (s:ByteArray) (hs:s.size <= 100) (lv:Int) (cp:Nat) :
 Calls Tryz.prog 17 #[.pointer (some ⟨K.g,0,none⟩),.agg (u8s key),.string s,.agg #[.int .i64 lv,.int .u64 (cp:Nat)]] w (TOQ w0 w K n key (ctxL s lv cp)):=by
 obtain ⟨cs,Rr,e,hr⟩:=reads_all _ (logL D) (Nat.le_refl _)
 have hsec:=h.secs
 have hw:=h.sd.dsk.ok.whole128
 have hll:(logL D).length <= 9216:=by unfold logL; rw [List.length_take,List.length_drop]; omega
 refine (open_any h.sd.dsk (by omega) (by have:=h.wr; omega) key hk hkb s hs lv cp hr (fun t ht => by have:=reads_len hr hll t ht; omega) h.sd.lw h.sd.kt h.sd.kl).mono ?_
 rintro ee w' ⟨p,rfl,hd,hc,hS⟩
 obtain ⟨⟨l1,l2⟩,hx⟩:=opn_log2 (by omega) hw h.off h.calm key (ctxL s lv cp) cs e
 have hsz:=h.sd.low.size
 refine ⟨_,cs,Rr,e,h.sd.chg hd hc h.sd.kb,hc,by rw [l1,hsec],?_,?_⟩
 . rw [l1]
   have e2:((opnD D key (ctxL s lv cp) cs e).data.drop (8 * 128)).take ((D.secs - 8) * 128) = logL D:=by rw [logL_reg,<- l2]; rfl
   rw [e2]
   exact hr
 . unfold SgW at hS
   rcases hx with hx | hx
   . right
     rw [if_pos hx] at hS
     obtain ⟨J,G,T,rfl,hT,hN⟩:=hS
     have he:e = false:=by
      cases e with
      | false => rfl
      | true =>
        exfalso
        by_cases h0:xs0 D = 0
        . rw [(opn_x1 (D:=D) (key:=key) (C:=ctxL s lv cp) (cs:=cs) (e:=true) h0 (by decide)).1] at hx
          exact absurd hx (by decide)
        . rw [(opn_x0 h0).1] at hx
          exact h0 hx
     have hcnt:cs.length <= 16384:=by
      have hlg:=hN.sg.lg
      have h1:=hlg.cnt
      have h2:=hlg.fit
      have h3:=hlg.end_
      have e1:(logS D cs).texts.length = cs.length:=by show (cs.map textC).length = _; rw [List.length_map]
      omega
     rw [hx]
     exact ⟨J,G,_,_,T,1,vD D,he,rfl,⟨h.sd.chg hd hc h.sd.kb,hN.sg,fun q hq => Nat.le_trans hsz (hN.jn q hq),fun q hq => Nat.le_trans hsz (hN.jt q hq),fun q hq => Nat.le_trans hsz (hN.gn q hq),fun q hq => Nat.le_trans hsz (hN.gt q hq)⟩,hT,hcnt⟩
   . left
     rw [if_neg (by rw [hx]; decide)] at hS
     rw [hS,hx]
theorem forged_tm {w:World} {v u:Value} {A:Option Addr} {m c:Nat} {T W:List (List Int)} {key C:List Int} (hv:TxS T v w) (hw:TxAt w A W) (hm:W.length = m) (hu:SlB C u w) (hF:∃ i,i < T.length /\ ForgedAt key C T W i) (h9:∀ t ∈ T,t.length <= 9000) (hl:T.length <= 1000000) (hm1:m <= 1000000) (hk:key.length = 32) (hkb:InB key) (hCb:InB C) (hC:C.length <= 1000) :
 Calls Tryz.prog 20 #[v,.slice A m c,.agg (u8s key),u] w fun e w' => e = .returned (.bool true) /\ Below w.heap.size w w':=by
 obtain ⟨A0,c0,rfl,hx⟩:=hv
 obtain ⟨A3,c3,rfl,hB⟩:=hu
 refine (forged_any A0 A A3 T.length c0 m c C.length c3 T W key C rfl hm hx hw hl hm1 h9 hk hkb rfl hCb hC hB).mono ?_
 rintro e w' ⟨⟨b,rfl,hb⟩,low⟩
 rw [hb.2 hF]
 exact ⟨rfl,low⟩
end Go.Proofs.YteeghgjkjicjoaaGreatDoor.Sgm
