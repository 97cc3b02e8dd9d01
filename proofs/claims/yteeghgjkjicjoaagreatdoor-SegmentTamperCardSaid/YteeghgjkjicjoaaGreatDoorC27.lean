/- Texts of ours, merged. -/
import Derived.Test.YteeghgjkjicjoaaGreatDoorC26
set_option maxRecDepth 100000
set_option maxHeartbeats 16000000
namespace Go.Proofs.YteeghgjkjicjoaaGreatDoor.Sgm
open Go.RowKit Dsk Slt Epo
attribute [local go_sem ↓ high] loadAtH loadAtB loadAtW
structure F0 (n:Nat) (key C:List Int) (D:DS) (S:LS):Prop where
 sg:SGd D S ⟨key,C,1,[],false⟩ []
 calm:D.laid = false
 secs:D.secs = n
 wr:D.writes <= 1
 data:D.data = (nextD (newD n) 0 0).1.data
structure FL (i n:Nat) (key C:List Int) (D0:DS) (S0:LS) (us:List (List Int)) (D:DS) (S:LS) (V:GV):Prop where
 eq:(D,S,V) = goL (D0,S0,⟨key,C,1,[],false⟩) (us.take i)
 good:∃ R,SGd D S V R
 calm:D.laid = false
 ep:V.ep = 1
 secs:D.secs = n
 wr:D.writes <= 3000 * ((i:Int) + 1)
 tn:V.T.length <= i
 kc:V.key = key /\ V.C = C
theorem FL.zero {n:Nat} {key C:List Int} {D:DS} {S:LS} (h:F0 n key C D S) (us:List (List Int)):FL 0 n key C D S us D S ⟨key,C,1,[],false⟩ :=
 ⟨rfl,⟨[],h.sg⟩,h.calm,rfl,h.secs,by have:=h.wr; push_cast; omega,Nat.le_refl _,rfl,rfl⟩
theorem FL.next {i n:Nat} {key C:List Int} {D0:DS} {S0:LS} {us:List (List Int)} {D:DS} {S:LS} {V:GV} (h:FL i n key C D0 S0 us D S V) (hi:i < us.length) (ht:InB (us.getD i [])) (hl:(us.getD i []).length <= 2000) :
 FL (i + 1) n key C D0 S0 us (appG D S V (us.getD i [])).1 (appG D S V (us.getD i [])).2.1 (appG D S V (us.getD i [])).2.2.1:=by
 obtain ⟨R,hR⟩:=h.good
 have hwr:=h.wr
 have heq:((appG D S V (us.getD i [])).1,(appG D S V (us.getD i [])).2.1,(appG D S V (us.getD i [])).2.2.1) = goL (D0,S0,⟨key,C,1,[],false⟩) (us.take (i + 1)):=by
  rw [goL_next _ _ _ hi,<- h.eq]; rfl
 obtain ⟨a1,a2,_⟩:=app_good hR ht (by omega) (by rw [h.ep]; decide)
 by_cases hx:refX D S V (us.getD i []).length = 0
 . obtain ⟨x1,x2,x3,_,_,x6,_⟩:=appG_get hR h.calm hx (by rw [h.ep]; decide) ht
   have hv:(appG D S V (us.getD i [])).2.2.1 = { V with T:=V.T ++ [us.getD i []] }:=by
    obtain ⟨hfit,r2⟩:=fit_used hx
    have hrl:(recL V (us.getD i [])).length = 36 + Seal.bkt (us.getD i []).length:=Seal.sealL_length _ _ _ _ r2
    have hbl:=Seal.bkt_le r2
    obtain ⟨q1,_⟩:=app_calm (t:=recL V (us.getD i [])) h.calm hR.off (by rw [hrl]; exact hfit) hR.slost (by omega)
    rw [appG_ok hx q1]
   refine ⟨heq,⟨_,x1⟩,x2,by rw [x3]; exact h.ep,a1.trans h.secs,by push_cast; omega,?_,by rw [hv]; exact h.kc⟩
   rw [hv]
   have:=h.tn
   simp only [List.length_append,List.length_singleton]
   omega
 . rw [appG_ref hx] at heq ⊢
   exact ⟨heq,⟨R,hR⟩,h.calm,h.ep,h.secs,by push_cast; omega,Nat.le_succ_of_le h.tn,h.kc⟩
theorem opn_is {D:DS} {k C:List Int} {v:Nat} {R:List (List Int × Nat)} (h:DG D k C v R) (hv:v < 1024) {key C':List Int} {cs:List (List Int)} {e:Bool} (hx:opnX D key C' cs e = 0):opnD D key C' cs e = (nextD D 0 v).1:=by
 have hvD:vD D = v:=h.cnt.lead1
 have h0:xs0 D = 0:=Decidable.byContradiction fun h0 => by rw [(opn_x0 h0).1] at hx; exact h0 hx
 have h1:xs1 e = 0:=Decidable.byContradiction fun h1 => by rw [(opn_x1 h0 h1).1] at hx; exact h1 hx
 have h2:xs2 (opnR D key C' cs) = 0:=Decidable.byContradiction fun h2 => by rw [(opn_x2 h0 h1 h2).1] at hx; exact h2 hx
 rw [(opn_x3 h0 h1 h2).2,hvD]
 unfold nxtD
 rw [if_neg (by omega)]
theorem sd_openF {w0 w:World} {K:DK} {n:Nat} (h:SD w0 w K (newD n)) (hn9:9 <= n) {key:List Int} (hk:key.length = 32) (hkb:InB key) (s:ByteArray) (hs:s.size <= 100) (lv:Int) (cp:Nat) :
 Calls Tryz.prog 17 #[.pointer (some ⟨K.g,0,none⟩),.agg (u8s key),.string s,.agg #[.int .i64 lv,.int .u64 (cp:Nat)]] w fun e w' => ∃ J G D' S,e = .returned (.tuple #[.pointer (some ⟨G.g,0,none⟩),.int .i64 0]) /\ SE w0 w' K D' J G S ⟨key,ctxL s lv cp,1,[],false⟩ /\ F0 n key (ctxL s lv cp) D' S:=by
 have hg:=new_good n hn9 key (ctxL s lv cp)
 obtain ⟨cs,Rr,e,hr⟩:=reads_all _ (logL (newD n)) (Nat.le_refl _)
 obtain ⟨q1,q2,q3,q4,q5,q6,q7,q8⟩:=open_good hg (by decide) rfl rfl hr
 refine (open_any h.dsk hg.n9 (by show (0:Int) <= _; decide) key hk hkb s hs lv cp hr (by rw [q3]; exact seals_short _ _ _ _ _ _ hg.ris) h.lw h.kt h.kl).mono ?_
 rintro ee w' ⟨p,rfl,hd,hc,hS⟩
 unfold SgW at hS
 rw [if_pos q1] at hS
 obtain ⟨J,G,T,rfl,hT,hN⟩:=hS
 rw [q2] at hT
 cases hT
 rw [q4] at hN
 rw [q1]
 have hsz:=h.low.size
 exact ⟨J,G,_,_,rfl,⟨h.chg hd hc h.kb,hN.sg,fun q hq => Nat.le_trans hsz (hN.jn q hq),fun q hq => Nat.le_trans hsz (hN.jt q hq),fun q hq => Nat.le_trans hsz (hN.gn q hq),fun q hq => Nat.le_trans hsz (hN.gt q hq)⟩,q8 _ rfl,q6,(opn_secs hg (by decide) rfl q1).trans (newD_secsN n),q7,by rw [opn_is hg (by decide) q1]⟩
theorem f_append {w0 w:World} {K:DK} {D:DS} {J:LK} {G:GK} {S:LS} {V:GV} (h:SE w0 w K D J G S V) {i n:Nat} {key C:List Int} {D0:DS} {S0:LS} {us:List (List Int)} (hf:FL i n key C D0 S0 us D S V) (hi:i < us.length) (h10:i < 10) (A:Option Addr) (m c:Nat) (hm:(us.getD i []).length = m) (hm2:m <= 2000) (hB:Byt w0 A c (us.getD i [])) (hin:InB (us.getD i [])) :
 Calls Tryz.prog 24 #[.pointer (some ⟨G.g,0,none⟩),.slice A m c] w fun e w' => (∃ E,e = .returned (.int .i64 E)) /\ ∃ J' G' D' S' V',G'.g = G.g /\ SE w0 w' K D' J' G' S' V' /\ FL (i + 1) n key C D0 S0 us D' S' V':=by
 obtain ⟨R,hR⟩:=hf.good
 have hw:=hf.wr
 have htn:=hf.tn
 have h9:=hR.dg.n9
 refine (se_append h A m c (us.getD i []) hm (hB.below h.sd.low (Nat.le_refl _)) (fun h0 a ha => ?_) hin (by omega) (by omega) (by rw [hR.from_,hR.secs]; omega) (by omega)).mono ?_
 . obtain ⟨g,off,e,hlt,_⟩:=hB.2.2 h0
   rw [e] at ha
   cases ha
   exact ⟨fun hm => by have:=h.sd.kb _ hm; simp only at this; omega,fun hm => by have:=h.jn _ hm; simp only at this; omega,fun hm => by have:=h.gn _ hm; simp only at this; omega⟩
 . rintro e w' ⟨rfl,J',G',hgg,hs',_,_,_⟩
   exact ⟨⟨_,rfl⟩,J',G',_,_,_,hgg,hs',hf.next hi hin (by omega)⟩
def cutT (ts:List (List Int)):List (List Int):=(ts.take 10).map (·.take 2000)
theorem cutT_len (ts:List (List Int)):(cutT ts).length = min 10 ts.length:=by simp [cutT]
theorem cutT_get {ts:List (List Int)} {i:Nat} (hi:i < ts.length) (h10:i < 10):(cutT ts).getD i [] = (ts.getD i []).take 2000:=by
 simp [cutT,List.getD_eq_getElem?_getD,hi,h10]
def FillQ (w:World) (n:Nat) (key C:List Int) (us:List (List Int)) (e:Ending) (w':World):Prop :=
 ∃ K D0 S0 D S V g m B,e = .returned (.tuple #[.pointer (some ⟨K.g,0,none⟩),.slice (some ⟨g,0,none⟩) m m]) /\ V.T.length = m /\ Slt.Rows B V.T m m g w' /\ (∀ q ∈ K.bl,q < B) /\ w.heap.size <= B /\ SD w w' K D /\ F0 n key C D0 S0 /\ FL us.length n key C D0 S0 us D S V
def FilP (w2:World) (K:DK) (g0 i n:Nat) (key C:List Int) (D0:DS) (S0:LS) (us:List (List Int)) (_v:Value) (w':World):Prop:=∃ J' G' D' S' V',G'.g = g0 /\ SE w2 w' K D' J' G' S' V' /\ FL (i + 1) n key C D0 S0 us D' S' V'
theorem filled_any (A:Option Addr) (k c:Nat) (ts:List (List Int)) (key:List Int) (s:ByteArray) (lv:Int) (cp sc:Nat) (hk:key.length = 32) (hkb:InB key) (hsc:sc < 256) (hss:s.size <= 40) (w:World) (hL:Seal.SLaid w) (hT:TxAt w A ts) (hkn:ts.length = k) (hk9:k <= 9223372036854775807) (hlen:∀ t ∈ ts,t.length <= 9223372036854775807) :
 Calls Tryz.prog 12 #[.slice A k c,.agg (u8s key),.agg #[.string s,.int .i64 lv,.int .u64 (cp:Nat),.int .u8 (sc:Nat)]] w (FillQ w (9 + sc % 64) key (ctxL s lv cp) (cutT ts)):=by
 obtain ⟨w2,hw2⟩:∃ w2,w2 = (w.alloc (.cells (u8s key) 24)).alloc (.cells #[.string s,.int .i64 lv,.int .u64 (cp:Nat),.int .u8 (sc:Nat)] 29):=⟨_,rfl⟩
 have hb2:Below w.heap.size w w2:=by rw [hw2]; exact ((Below.refl _ _).alloc (Nat.le_refl _) _).alloc (by rw [World.size_alloc]; omega) _
 have hsz2:w2.heap.size = w.heap.size + 2:=by rw [hw2,World.size_alloc,World.size_alloc]
 have hbx:Bx w2 w.heap.size (w.heap.size + 1) key s lv cp sc:=by rw [hw2]; exact ⟨(two_new w _ _).1,(two_new w _ _).2⟩
 have HB2:=lhd hb2
 have Hsz:=lhd hsz2
 have HT2:Hid (TxAt w2 A ts):=hT.later hb2
 have HL2:=lhd (hL.later hb2)
 have HLw:=lhd hL
 have Hbx:=lhd hbx
 have Hk:Hid (key.length = 32 /\ InB key):=⟨hk,hkb⟩
 have Hkn:=lhd hkn
 have Hw2:=lhd hw2
 have Hlen:=lhd hlen
 have HsK:Hid ((Tryz.prog.info? 24).map (·.size) = some (u8s key).size):=by show _ = _; rw [u8s_size,hk]; exact Seal.infoH
 have hsK:=HsK.out
 have Hs100:Hid (s.size <= 100):=by show _ <= _; omega
 have Hsc:Hid (sc < 256):=hsc
 obtain ⟨_,f2,_,f4,_⟩:=Hbx.out.facts Hk.out.1
 clear hL hT hkn hk hkb hb2 hsz2 hbx hw2 hlen hss
 obtain ⟨n,hn⟩:∃ n:Nat,n = 9 + sc % 64:=⟨_,rfl⟩
 have HnI:Hid (9 + (sc:Int) % 64 = (n:Int)):=by show _ = _; omega
 have Hn9:Hid (9 <= n /\ n <= 72):=⟨by omega,by omega⟩
 rw [<- hn]
 clear hn
 go_enter Tryz.func12,Tryz.ntmps12
 go_upto_region 1 with (fail)
 rw [<- Hw2.out]
 go_upto_region 4 with (go_at_call 8; rw [HnI.out]; refine (sd_new n w2 HL2.out (by have:=Hn9.out; omega) (by have:=Hn9.out; omega)).mono ?_; rintro e w3 ⟨K,rfl,hq3⟩; have Q3:=lhd hq3; clear hq3)
 have Hbk:Hid (w.heap.size < w2.heap.size /\ w.heap.size + 1 < w2.heap.size):=by have:=Hsz.out; exact ⟨by omega,by omega⟩
 have Hfac:Hid (∀ W,Below w2.heap.size w2 W -> (loadH (.pointer (some ⟨w.heap.size,0,none⟩))).run Tryz.prog W = .ok (.agg (u8s key)) W /\ W.cell? ⟨w.heap.size + 1,0,none⟩ = some (.string s) /\ (loadB (.pointer (some ⟨w.heap.size + 1,1,none⟩))).run Tryz.prog W = .ok (.agg #[.int .i64 lv,.int .u64 (cp:Nat)]) W /\ W.cell? ⟨w.heap.size + 1,3,none⟩ = some (.int .u8 (sc:Nat)) /\ (loadW (.pointer (some ⟨w.heap.size + 1,0,none⟩))).run Tryz.prog W = .ok (.agg #[.string s,.int .i64 lv,.int .u64 (cp:Nat),.int .u8 (sc:Nat)]) W):=fun W hW => (Hbx.out.below hW Hbk.out.1 Hbk.out.2).facts Hk.out.1
 have Hop:=lhd (sd_openF Q3.out Hn9.out.1 Hk.out.1 Hk.out.2 s Hs100.out lv cp)
 clear f2 f4
 obtain ⟨k1,k2,k3,_,_⟩:=Hfac.out _ Q3.out.low
 go_upto_region 7 with (go_at_call 17; refine Hop.out.mono ?_; rintro e w4 ⟨J0,G0,D0,S0,rfl,hq4,hi4⟩; have Q4:=lhd hq4; have I4:=lhd hi4; clear hq4 hi4)
 clear k1 k2 k3 Hop Q3
 have hKl:=Q4.out.sd.kl
 have HKl:=lhd hKl
 clear hKl
 obtain ⟨us,hus⟩:∃ us,us = cutT ts:=⟨_,rfl⟩
 have Hus:=lhd hus
 have hul:us.length = min 10 k:=by rw [hus,cutT_len,Hkn.out]
 rw [<- hus]
 have Hul:=lhd hul
 clear hus hul
 go_wp2
 go_loopw [12] (fun v12 wr => ∃ (i:Nat),v12 = .int .i64 i /\ i <= k /\ i <= 10 /\ ∃ J G D S V,Hid (G.g = G0.g /\ SE w2 wr K D J G S V /\ FL i n key (ctxL s lv cp) D0 S0 us D S V)) (fun v _ => k - (intOf v).toNat)
 case atStart => exact ⟨0,rfl,Nat.zero_le _,Nat.zero_le _,J0,G0,D0,S0,_,rfl,Q4.out,FL.zero I4.out us⟩
 case round =>
  obtain ⟨i,rfl,hik,hi10,J,G,D,S,V,hr⟩:=hrel
  clear Q4
  by_cases hlt:i < k /\ i < 10
  . obtain ⟨hlk,hl10⟩:=hlt
    have hI1:(i:Int) < (k:Int):=by omega
    have hI2:(i:Int) < 10:=by omega
    obtain ⟨b0,off,B,cc,rfl,hg,hcell,hB,hin⟩:=HT2.out.at_ i (by rw [Hkn.out]; exact hlk)
    have hc0:=(hr.out.2.1.sd.low.cell (p:=⟨b0,off + i,none⟩) hg).trans hcell
    have hu:us.getD i [] = (ts.getD i []).take 2000:=by rw [Hus.out]; exact cutT_get (by rw [Hkn.out]; exact hlk) hl10
    obtain ⟨m,hm⟩:∃ m,m = (ts.getD i []).length:=⟨_,rfl⟩
    rw [<- hm] at hc0
    have hm9:m <= 9223372036854775807:=by
     rw [hm,List.getD_eq_getElem?_getD,List.getElem?_eq_getElem (by rw [Hkn.out]; exact hlk)]
     exact Hlen.out _ (List.getElem_mem _)
    have hmc:m <= cc:=by rw [hm]; exact hB.1
    have Hc0:=lhd hc0
    have hiu:i < us.length:=by rw [Hul.out]; omega
    have hBu:Byt w2 B cc (us.getD i []):=by rw [hu]; exact byt_take hB 2000
    have hinu:InB (us.getD i []):=by rw [hu]; exact hin.take 2000
    by_cases hmm:m <= 2000
    . have hlu:(us.getD i []).length = m:=by rw [hu,List.length_take,<- hm]; omega
      have Hap:Hid (∀ W,Below wr.heap.size wr W -> Calls Tryz.prog 24 #[.pointer (some ⟨G0.g,0,none⟩),.slice B m cc] W fun e w' => (∃ E,e = .returned (.int .i64 E)) /\ ∃ J' G' D' S' V',G'.g = G0.g /\ SE w2 w' K D' J' G' S' V' /\ FL (i + 1) n key (ctxL s lv cp) D0 S0 us D' S' V'):=fun W hW => by
       have:=f_append (hr.out.2.1.later hW) hr.out.2.2 hiu hl10 B m cc hlu hmm hBu hinu
       rw [hr.out.1] at this
       exact this
      have hmI:(m:Int) <= 2000:=by omega
      have hmN:¬ (2000:Int) < (m:Int):=by omega
      have hmcI:(m:Int) <= (cc:Int):=by omega
      clear hcell hB hin hu hm hlu hBu hinu hr hc0
      go_upto_region 10 with (fail)
      have apx:apartB [46,47,48,49,50,51,52,53,54,55,56,57,58] = true:=by decide
      refine wp_region_any (by kernel_rfl) ?_
      change wpAny _ _ _ _ _ _ _ (World.drew _)
      refine wpAny_inv2 (fun ll aa wx => Hid (ll.size = 13 /\ RC 12 wr ll wx) /\ ∃ (z:Nat -> Value),Hid (aa = ⟨#[Value.slice (some { block:=b0,off:=off }) k c,Value.agg (u8s key),Value.agg #[Value.string s,Value.int IntKind.i64 lv,Value.int IntKind.u64 ((cp:Nat):Int),Value.int IntKind.u8 ((sc:Nat):Int)],undef,Value.pointer (some { block:=w.heap.size,off:=0 }),Value.pointer (some { block:=w.heap.size + 1,off:=0 }),Value.pointer none,Value.slice none 0 0,Value.pointer (some { block:=K.g,off:=0 }),Value.int IntKind.i64 0,Value.pointer (some { block:=G0.g,off:=0 }),Value.int IntKind.i64 0,Value.int IntKind.i64 ((i:Nat):Int),Value.tuple #[Value.pointer (some { block:=K.g,off:=0 }),Value.int IntKind.i64 0],Value.pointer (some { block:=w.heap.size + 1,off:=3 }),Value.int IntKind.u8 ((sc:Nat):Int),Value.int IntKind.u8 (((sc:Nat):Int) % 64),Value.int IntKind.i64 (((sc:Nat):Int) % 64),Value.int IntKind.i64 ((n:Nat):Int),Value.tuple #[Value.pointer (some { block:=K.g,off:=0 }),Value.int IntKind.i64 0],Value.pointer (some { block:=K.g,off:=0 }),Value.int IntKind.i64 0,Value.int IntKind.i64 0,Value.bool false,Value.tuple #[Value.pointer (some { block:=G0.g,off:=0 }),Value.int IntKind.i64 0],Value.pointer (some { block:=K.g,off:=0 }),Value.agg (u8s key),Value.pointer (some { block:=w.heap.size + 1,off:=0 }),Value.string s,Value.pointer (some { block:=w.heap.size + 1,off:=1 }),Value.agg #[Value.int IntKind.i64 lv,Value.int IntKind.u64 ((cp:Nat):Int)],Value.tuple #[Value.pointer (some { block:=G0.g,off:=0 }),Value.int IntKind.i64 0],Value.pointer (some { block:=G0.g,off:=0 }),Value.int IntKind.i64 0,Value.int IntKind.i64 0,Value.bool false,Value.int IntKind.i64 ((i:Nat):Int),Value.slice (some { block:=b0,off:=off }) k c,Value.int IntKind.i64 ((k:Nat):Int),Value.bool true,Value.bool true,Value.int IntKind.i64 ((i:Nat):Int),Value.bool true,Value.bool true,u44,u45,z 46,z 47,z 48,z 49,z 50,z 51,z 52,z 53,z 54,z 55,z 56,z 57,z 58,undef,undef,undef],[]⟩) /\ Holding [46,47,48,49,50,51,52,53,54,55,56,57,58] [some (.pointer (some ⟨G0.g,0,none⟩)),some (.slice (some ⟨b0,off,none⟩) k c),some (.int .i64 ((i:Nat):Int)),some (.pointer (some ⟨b0,off + i,none⟩)),some (.slice B m cc),some (.slice (some ⟨b0,off,none⟩) k c),some (.int .i64 ((i:Nat):Int)),some (.pointer (some ⟨b0,off + i,none⟩)),some (.slice B m cc),some (.int .i64 ((m:Nat):Int)),some (.int .i64 ((m:Nat):Int)),some (.slice B m cc),none] ll z /\ Whn ll 12 (FilP w2 K G0.g i n key (ctxL s lv cp) D0 S0 us) (z 58) wx) ?_ (by kernel_rfl) ?_ ?_ _ rfl _ _ ?_
      . rintro ll aa wx ⟨hI,_⟩
        exact hI.out.1
      . rintro ll aa wx ⟨hI,z,ha,hz,hp12⟩ hall
        have hx:=lhd hI.out.2
        have p12:=hp12.get (hall 12 (by decide))
        clear hall hz hI hp12
        obtain rfl:=ha.out
        clear ha
        clear apx
        obtain ⟨J4,G4,D4,S4,V4,hg4,hw4,hf4⟩:=p12
        have W4:=lhd hw4
        have F4:=lhd hf4
        have Gg4:=lhd hg4
        clear hx hw4 hf4 hg4
        go_wp2
        exact ⟨⟨i + 1,by go_num,by omega,by omega,J4,G4,D4,S4,V4,Gg4.out,W4.out,F4.out⟩,by simp [intOf]; omega⟩
      . rintro ll aa wx i ⟨hI,z,ha,hz,hp12⟩ hcl hi hu hw
        obtain rfl:=ha.out
        have hsz:=lhd hI.out.1
        have hx:=lhd hI.out.2
        clear ha hI
        have hin:i < 13:=hi
        obtain rfl | rfl | rfl | rfl | rfl | rfl | rfl | rfl | rfl | rfl | rfl | rfl | rfl:i = 0 \/ i = 1 \/ i = 2 \/ i = 3 \/ i = 4 \/ i = 5 \/ i = 6 \/ i = 7 \/ i = 8 \/ i = 9 \/ i = 10 \/ i = 11 \/ i = 12:=by omega
        . refine wpOp_plain rfl rfl ?_
          go_simp
          exact ⟨⟨by simp [hsz.out],hx.out.same (by decide)⟩,upd z 46 (.pointer (some ⟨G0.g,0,none⟩)),(by unfold Hid; simp [upd]),hz.nx apx hsz.out 0,hp12.kp⟩
        . refine wpOp_plain rfl rfl ?_
          go_simp
          exact ⟨⟨by simp [hsz.out],hx.out.same (by decide)⟩,upd z 47 (.slice (some ⟨b0,off,none⟩) k c),(by unfold Hid; simp [upd]),hz.nx apx hsz.out 1,hp12.kp⟩
        . refine wpOp_plain rfl rfl ?_
          go_simp
          exact ⟨⟨by simp [hsz.out],hx.out.same (by decide)⟩,upd z 48 (.int .i64 ((i:Nat):Int)),(by unfold Hid; simp [upd]),hz.nx apx hsz.out 2,hp12.kp⟩
        . have e1:z 47 = .slice (some ⟨b0,off,none⟩) k c:=hz 1 _ (hw 1 (by kernel_rfl)) rfl
          have e2:z 48 = .int .i64 ((i:Nat):Int):=hz 2 _ (hw 2 (by kernel_rfl)) rfl
          refine wpOp_plain rfl rfl ?_
          go_simp
          exact ⟨⟨by simp [hsz.out],hx.out.same (by decide)⟩,upd z 49 (.pointer (some ⟨b0,off + i,none⟩)),(by unfold Hid; simp [upd,e1,e2]),hz.nx apx hsz.out 3,hp12.kp⟩
        . have e3:z 49 = .pointer (some ⟨b0,off + i,none⟩):=hz 3 _ (hw 3 (by kernel_rfl)) rfl
          have lw:=hx.out.low (not_listed (fun hl => hcl 11 4 (hcl 12 11 hl (by kernel_rfl)) (by kernel_rfl)) hu)
          have cl:wx.cell? ⟨b0,off + i,none⟩ = some (.slice B m cc):=(lw.cell (p:=⟨b0,off + i,none⟩) (World.block_lt_of_cell? _ _ Hc0.out)).trans Hc0.out
          refine wpOp_plain rfl rfl ?_
          go_simp
          exact ⟨⟨by simp [hsz.out],hx.out.same (by decide)⟩,upd z 50 (.slice B m cc),(by unfold Hid; simp [upd,e3]),hz.nx apx hsz.out 4,hp12.kp⟩
        . refine wpOp_plain rfl rfl ?_
          go_simp
          exact ⟨⟨by simp [hsz.out],hx.out.same (by decide)⟩,upd z 51 (.slice (some ⟨b0,off,none⟩) k c),(by unfold Hid; simp [upd]),hz.nx apx hsz.out 5,hp12.kp⟩
        . refine wpOp_plain rfl rfl ?_
          go_simp
          exact ⟨⟨by simp [hsz.out],hx.out.same (by decide)⟩,upd z 52 (.int .i64 ((i:Nat):Int)),(by unfold Hid; simp [upd]),hz.nx apx hsz.out 6,hp12.kp⟩
        . have e5:z 51 = .slice (some ⟨b0,off,none⟩) k c:=hz 5 _ (hw 5 (by kernel_rfl)) rfl
          have e6:z 52 = .int .i64 ((i:Nat):Int):=hz 6 _ (hw 6 (by kernel_rfl)) rfl
          refine wpOp_plain rfl rfl ?_
          go_simp
          exact ⟨⟨by simp [hsz.out],hx.out.same (by decide)⟩,upd z 53 (.pointer (some ⟨b0,off + i,none⟩)),(by unfold Hid; simp [upd,e5,e6]),hz.nx apx hsz.out 7,hp12.kp⟩
        . have e7:z 53 = .pointer (some ⟨b0,off + i,none⟩):=hz 7 _ (hw 7 (by kernel_rfl)) rfl
          have lw:=hx.out.low (not_listed (fun hl => hcl 9 8 (hcl 10 9 (hcl 11 10 (hcl 12 11 hl (by kernel_rfl)) (by kernel_rfl)) (by kernel_rfl)) (by kernel_rfl)) hu)
          have cl:wx.cell? ⟨b0,off + i,none⟩ = some (.slice B m cc):=(lw.cell (p:=⟨b0,off + i,none⟩) (World.block_lt_of_cell? _ _ Hc0.out)).trans Hc0.out
          refine wpOp_plain rfl rfl ?_
          go_simp
          exact ⟨⟨by simp [hsz.out],hx.out.same (by decide)⟩,upd z 54 (.slice B m cc),(by unfold Hid; simp [upd,e7]),hz.nx apx hsz.out 8,hp12.kp⟩
        . have e8:z 54 = .slice B m cc:=hz 8 _ (hw 8 (by kernel_rfl)) rfl
          refine wpOp_plain rfl rfl ?_
          go_simp
          exact ⟨⟨by simp [hsz.out],hx.out.same (by decide)⟩,upd z 55 (.int .i64 ((m:Nat):Int)),(by unfold Hid; simp [upd,e8]),hz.nx apx hsz.out 9,hp12.kp⟩
        . have e9:z 55 = .int .i64 ((m:Nat):Int):=hz 9 _ (hw 9 (by kernel_rfl)) rfl
          refine wpOp_plain rfl rfl ?_
          go_simp
          exact ⟨⟨by simp [hsz.out],hx.out.same (by decide)⟩,upd z 56 (.int .i64 ((m:Nat):Int)),(by unfold Hid; simp [upd,e9]),hz.nx apx hsz.out 10,hp12.kp⟩
        . have e4:z 50 = .slice B m cc:=hz 4 _ (hw 4 (by kernel_rfl)) rfl
          have e10:z 56 = .int .i64 ((m:Nat):Int):=hz 10 _ (hw 10 (by kernel_rfl)) rfl
          refine wpOp_plain rfl rfl ?_
          go_simp
          exact ⟨⟨by simp [hsz.out],hx.out.same (by decide)⟩,upd z 57 (.slice B m cc),(by unfold Hid; simp [upd,e4,e10]),hz.nx apx hsz.out 11,hp12.kp⟩
        . have e0:z 46 = .pointer (some ⟨G0.g,0,none⟩):=hz 0 _ (hw 0 (by kernel_rfl)) rfl
          have e11:z 57 = .slice B m cc:=hz 11 _ (hw 11 (by kernel_rfl)) rfl
          refine wpOp_plain rfl rfl ?_
          go_simp
          go_at_call 24
          refine (Hap.out wx (hx.out.low hu)).mono ?_
          rintro e w' ⟨⟨E,rfl⟩,hq⟩
          exact ⟨⟨by simp [hsz.out],RC.done (by rw [hsz.out]; decide)⟩,upd z 58 (.int .i64 E),(by unfold Hid; simp [upd,e0,e11]),hz.nn apx hsz.out 12,Whn.done (hq)⟩
      . exact ⟨⟨rfl,RC.start⟩,fun xx => (#[Value.slice (some { block:=b0,off:=off }) k c,Value.agg (u8s key),Value.agg #[Value.string s,Value.int IntKind.i64 lv,Value.int IntKind.u64 ((cp:Nat):Int),Value.int IntKind.u8 ((sc:Nat):Int)],undef,Value.pointer (some { block:=w.heap.size,off:=0 }),Value.pointer (some { block:=w.heap.size + 1,off:=0 }),Value.pointer none,Value.slice none 0 0,Value.pointer (some { block:=K.g,off:=0 }),Value.int IntKind.i64 0,Value.pointer (some { block:=G0.g,off:=0 }),Value.int IntKind.i64 0,Value.int IntKind.i64 ((i:Nat):Int),Value.tuple #[Value.pointer (some { block:=K.g,off:=0 }),Value.int IntKind.i64 0],Value.pointer (some { block:=w.heap.size + 1,off:=3 }),Value.int IntKind.u8 ((sc:Nat):Int),Value.int IntKind.u8 (((sc:Nat):Int) % 64),Value.int IntKind.i64 (((sc:Nat):Int) % 64),Value.int IntKind.i64 ((n:Nat):Int),Value.tuple #[Value.pointer (some { block:=K.g,off:=0 }),Value.int IntKind.i64 0],Value.pointer (some { block:=K.g,off:=0 }),Value.int IntKind.i64 0,Value.int IntKind.i64 0,Value.bool false,Value.tuple #[Value.pointer (some { block:=G0.g,off:=0 }),Value.int IntKind.i64 0],Value.pointer (some { block:=K.g,off:=0 }),Value.agg (u8s key),Value.pointer (some { block:=w.heap.size + 1,off:=0 }),Value.string s,Value.pointer (some { block:=w.heap.size + 1,off:=1 }),Value.agg #[Value.int IntKind.i64 lv,Value.int IntKind.u64 ((cp:Nat):Int)],Value.tuple #[Value.pointer (some { block:=G0.g,off:=0 }),Value.int IntKind.i64 0],Value.pointer (some { block:=G0.g,off:=0 }),Value.int IntKind.i64 0,Value.int IntKind.i64 0,Value.bool false,Value.int IntKind.i64 ((i:Nat):Int),Value.slice (some { block:=b0,off:=off }) k c,Value.int IntKind.i64 ((k:Nat):Int),Value.bool true,Value.bool true,Value.int IntKind.i64 ((i:Nat):Int),Value.bool true,Value.bool true,u44,u45,u46,u47,u48,u49,u50,u51,u52,u53,u54,u55,u56,u57,u58,undef,undef,undef]:Array Value).getD xx undef,rfl,Holding.start,Whn.none (by decide)⟩
    . have hlu:(us.getD i []).length = 2000:=by rw [hu,List.length_take,<- hm]; omega
      have Hap:Hid (∀ W,Below wr.heap.size wr W -> Calls Tryz.prog 24 #[.pointer (some ⟨G0.g,0,none⟩),.slice B 2000 cc] W fun e w' => (∃ E,e = .returned (.int .i64 E)) /\ ∃ J' G' D' S' V',G'.g = G0.g /\ SE w2 w' K D' J' G' S' V' /\ FL (i + 1) n key (ctxL s lv cp) D0 S0 us D' S' V'):=fun W hW => by
       have:=f_append (hr.out.2.1.later hW) hr.out.2.2 hiu hl10 B 2000 cc hlu (by omega) hBu hinu
       rw [hr.out.1] at this
       exact this
      have hmI:¬ (m:Int) <= 2000:=by omega
      have hmN:¬ (m:Int) <= 2000:=by omega
      have hmcI:(2000:Int) <= (cc:Int):=by omega
      clear hcell hB hin hu hm hlu hBu hinu hr hc0
      go_upto_region 10 with (fail)
      have apx:apartB [46,47,48,49,50,51,52,53,54,55,56,57,58] = true:=by decide
      refine wp_region_any (by kernel_rfl) ?_
      change wpAny _ _ _ _ _ _ _ (World.drew _)
      refine wpAny_inv2 (fun ll aa wx => Hid (ll.size = 13 /\ RC 12 wr ll wx) /\ ∃ (z:Nat -> Value),Hid (aa = ⟨#[Value.slice (some { block:=b0,off:=off }) k c,Value.agg (u8s key),Value.agg #[Value.string s,Value.int IntKind.i64 lv,Value.int IntKind.u64 ((cp:Nat):Int),Value.int IntKind.u8 ((sc:Nat):Int)],undef,Value.pointer (some { block:=w.heap.size,off:=0 }),Value.pointer (some { block:=w.heap.size + 1,off:=0 }),Value.pointer none,Value.slice none 0 0,Value.pointer (some { block:=K.g,off:=0 }),Value.int IntKind.i64 0,Value.pointer (some { block:=G0.g,off:=0 }),Value.int IntKind.i64 0,Value.int IntKind.i64 ((i:Nat):Int),Value.tuple #[Value.pointer (some { block:=K.g,off:=0 }),Value.int IntKind.i64 0],Value.pointer (some { block:=w.heap.size + 1,off:=3 }),Value.int IntKind.u8 ((sc:Nat):Int),Value.int IntKind.u8 (((sc:Nat):Int) % 64),Value.int IntKind.i64 (((sc:Nat):Int) % 64),Value.int IntKind.i64 ((n:Nat):Int),Value.tuple #[Value.pointer (some { block:=K.g,off:=0 }),Value.int IntKind.i64 0],Value.pointer (some { block:=K.g,off:=0 }),Value.int IntKind.i64 0,Value.int IntKind.i64 0,Value.bool false,Value.tuple #[Value.pointer (some { block:=G0.g,off:=0 }),Value.int IntKind.i64 0],Value.pointer (some { block:=K.g,off:=0 }),Value.agg (u8s key),Value.pointer (some { block:=w.heap.size + 1,off:=0 }),Value.string s,Value.pointer (some { block:=w.heap.size + 1,off:=1 }),Value.agg #[Value.int IntKind.i64 lv,Value.int IntKind.u64 ((cp:Nat):Int)],Value.tuple #[Value.pointer (some { block:=G0.g,off:=0 }),Value.int IntKind.i64 0],Value.pointer (some { block:=G0.g,off:=0 }),Value.int IntKind.i64 0,Value.int IntKind.i64 0,Value.bool false,Value.int IntKind.i64 ((i:Nat):Int),Value.slice (some { block:=b0,off:=off }) k c,Value.int IntKind.i64 ((k:Nat):Int),Value.bool true,Value.bool true,Value.int IntKind.i64 ((i:Nat):Int),Value.bool true,Value.bool true,u44,u45,z 46,z 47,z 48,z 49,z 50,z 51,z 52,z 53,z 54,z 55,z 56,z 57,z 58,undef,undef,undef],[]⟩) /\ Holding [46,47,48,49,50,51,52,53,54,55,56,57,58] [some (.pointer (some ⟨G0.g,0,none⟩)),some (.slice (some ⟨b0,off,none⟩) k c),some (.int .i64 ((i:Nat):Int)),some (.pointer (some ⟨b0,off + i,none⟩)),some (.slice B m cc),some (.slice (some ⟨b0,off,none⟩) k c),some (.int .i64 ((i:Nat):Int)),some (.pointer (some ⟨b0,off + i,none⟩)),some (.slice B m cc),some (.int .i64 ((m:Nat):Int)),some (.int .i64 2000),some (.slice B 2000 cc),none] ll z /\ Whn ll 12 (FilP w2 K G0.g i n key (ctxL s lv cp) D0 S0 us) (z 58) wx) ?_ (by kernel_rfl) ?_ ?_ _ rfl _ _ ?_
      . rintro ll aa wx ⟨hI,_⟩
        exact hI.out.1
      . rintro ll aa wx ⟨hI,z,ha,hz,hp12⟩ hall
        have hx:=lhd hI.out.2
        have p12:=hp12.get (hall 12 (by decide))
        clear hall hz hI hp12
        obtain rfl:=ha.out
        clear ha
        clear apx
        obtain ⟨J4,G4,D4,S4,V4,hg4,hw4,hf4⟩:=p12
        have W4:=lhd hw4
        have F4:=lhd hf4
        have Gg4:=lhd hg4
        clear hx hw4 hf4 hg4
        go_wp2
        exact ⟨⟨i + 1,by go_num,by omega,by omega,J4,G4,D4,S4,V4,Gg4.out,W4.out,F4.out⟩,by simp [intOf]; omega⟩
      . rintro ll aa wx i ⟨hI,z,ha,hz,hp12⟩ hcl hi hu hw
        obtain rfl:=ha.out
        have hsz:=lhd hI.out.1
        have hx:=lhd hI.out.2
        clear ha hI
        have hin:i < 13:=hi
        obtain rfl | rfl | rfl | rfl | rfl | rfl | rfl | rfl | rfl | rfl | rfl | rfl | rfl:i = 0 \/ i = 1 \/ i = 2 \/ i = 3 \/ i = 4 \/ i = 5 \/ i = 6 \/ i = 7 \/ i = 8 \/ i = 9 \/ i = 10 \/ i = 11 \/ i = 12:=by omega
        . refine wpOp_plain rfl rfl ?_
          go_simp
          exact ⟨⟨by simp [hsz.out],hx.out.same (by decide)⟩,upd z 46 (.pointer (some ⟨G0.g,0,none⟩)),(by unfold Hid; simp [upd]),hz.nx apx hsz.out 0,hp12.kp⟩
        . refine wpOp_plain rfl rfl ?_
          go_simp
          exact ⟨⟨by simp [hsz.out],hx.out.same (by decide)⟩,upd z 47 (.slice (some ⟨b0,off,none⟩) k c),(by unfold Hid; simp [upd]),hz.nx apx hsz.out 1,hp12.kp⟩
        . refine wpOp_plain rfl rfl ?_
          go_simp
          exact ⟨⟨by simp [hsz.out],hx.out.same (by decide)⟩,upd z 48 (.int .i64 ((i:Nat):Int)),(by unfold Hid; simp [upd]),hz.nx apx hsz.out 2,hp12.kp⟩
        . have e1:z 47 = .slice (some ⟨b0,off,none⟩) k c:=hz 1 _ (hw 1 (by kernel_rfl)) rfl
          have e2:z 48 = .int .i64 ((i:Nat):Int):=hz 2 _ (hw 2 (by kernel_rfl)) rfl
          refine wpOp_plain rfl rfl ?_
          go_simp
          exact ⟨⟨by simp [hsz.out],hx.out.same (by decide)⟩,upd z 49 (.pointer (some ⟨b0,off + i,none⟩)),(by unfold Hid; simp [upd,e1,e2]),hz.nx apx hsz.out 3,hp12.kp⟩
        . have e3:z 49 = .pointer (some ⟨b0,off + i,none⟩):=hz 3 _ (hw 3 (by kernel_rfl)) rfl
          have lw:=hx.out.low (not_listed (fun hl => hcl 11 4 (hcl 12 11 hl (by kernel_rfl)) (by kernel_rfl)) hu)
          have cl:wx.cell? ⟨b0,off + i,none⟩ = some (.slice B m cc):=(lw.cell (p:=⟨b0,off + i,none⟩) (World.block_lt_of_cell? _ _ Hc0.out)).trans Hc0.out
          refine wpOp_plain rfl rfl ?_
          go_simp
          exact ⟨⟨by simp [hsz.out],hx.out.same (by decide)⟩,upd z 50 (.slice B m cc),(by unfold Hid; simp [upd,e3]),hz.nx apx hsz.out 4,hp12.kp⟩
        . refine wpOp_plain rfl rfl ?_
          go_simp
          exact ⟨⟨by simp [hsz.out],hx.out.same (by decide)⟩,upd z 51 (.slice (some ⟨b0,off,none⟩) k c),(by unfold Hid; simp [upd]),hz.nx apx hsz.out 5,hp12.kp⟩
        . refine wpOp_plain rfl rfl ?_
          go_simp
          exact ⟨⟨by simp [hsz.out],hx.out.same (by decide)⟩,upd z 52 (.int .i64 ((i:Nat):Int)),(by unfold Hid; simp [upd]),hz.nx apx hsz.out 6,hp12.kp⟩
        . have e5:z 51 = .slice (some ⟨b0,off,none⟩) k c:=hz 5 _ (hw 5 (by kernel_rfl)) rfl
          have e6:z 52 = .int .i64 ((i:Nat):Int):=hz 6 _ (hw 6 (by kernel_rfl)) rfl
          refine wpOp_plain rfl rfl ?_
          go_simp
          exact ⟨⟨by simp [hsz.out],hx.out.same (by decide)⟩,upd z 53 (.pointer (some ⟨b0,off + i,none⟩)),(by unfold Hid; simp [upd,e5,e6]),hz.nx apx hsz.out 7,hp12.kp⟩
        . have e7:z 53 = .pointer (some ⟨b0,off + i,none⟩):=hz 7 _ (hw 7 (by kernel_rfl)) rfl
          have lw:=hx.out.low (not_listed (fun hl => hcl 9 8 (hcl 10 9 (hcl 11 10 (hcl 12 11 hl (by kernel_rfl)) (by kernel_rfl)) (by kernel_rfl)) (by kernel_rfl)) hu)
          have cl:wx.cell? ⟨b0,off + i,none⟩ = some (.slice B m cc):=(lw.cell (p:=⟨b0,off + i,none⟩) (World.block_lt_of_cell? _ _ Hc0.out)).trans Hc0.out
          refine wpOp_plain rfl rfl ?_
          go_simp
          exact ⟨⟨by simp [hsz.out],hx.out.same (by decide)⟩,upd z 54 (.slice B m cc),(by unfold Hid; simp [upd,e7]),hz.nx apx hsz.out 8,hp12.kp⟩
        . have e8:z 54 = .slice B m cc:=hz 8 _ (hw 8 (by kernel_rfl)) rfl
          refine wpOp_plain rfl rfl ?_
          go_simp
          exact ⟨⟨by simp [hsz.out],hx.out.same (by decide)⟩,upd z 55 (.int .i64 ((m:Nat):Int)),(by unfold Hid; simp [upd,e8]),hz.nx apx hsz.out 9,hp12.kp⟩
        . have e9:z 55 = .int .i64 ((m:Nat):Int):=hz 9 _ (hw 9 (by kernel_rfl)) rfl
          refine wpOp_plain rfl rfl ?_
          go_simp
          exact ⟨⟨by simp [hsz.out],hx.out.same (by decide)⟩,upd z 56 (.int .i64 2000),(by unfold Hid; simp [upd,e9,hmN]),hz.nx apx hsz.out 10,hp12.kp⟩
        . have e4:z 50 = .slice B m cc:=hz 4 _ (hw 4 (by kernel_rfl)) rfl
          have e10:z 56 = .int .i64 2000:=hz 10 _ (hw 10 (by kernel_rfl)) rfl
          refine wpOp_plain rfl rfl ?_
          go_simp
          exact ⟨⟨by simp [hsz.out],hx.out.same (by decide)⟩,upd z 57 (.slice B 2000 cc),(by unfold Hid; simp [upd,e4,e10]),hz.nx apx hsz.out 11,hp12.kp⟩
        . have e0:z 46 = .pointer (some ⟨G0.g,0,none⟩):=hz 0 _ (hw 0 (by kernel_rfl)) rfl
          have e11:z 57 = .slice B 2000 cc:=hz 11 _ (hw 11 (by kernel_rfl)) rfl
          refine wpOp_plain rfl rfl ?_
          go_simp
          go_at_call 24
          refine (Hap.out wx (hx.out.low hu)).mono ?_
          rintro e w' ⟨⟨E,rfl⟩,hq⟩
          exact ⟨⟨by simp [hsz.out],RC.done (by rw [hsz.out]; decide)⟩,upd z 58 (.int .i64 E),(by unfold Hid; simp [upd,e0,e11]),hz.nn apx hsz.out 12,Whn.done (hq)⟩
      . exact ⟨⟨rfl,RC.start⟩,fun xx => (#[Value.slice (some { block:=b0,off:=off }) k c,Value.agg (u8s key),Value.agg #[Value.string s,Value.int IntKind.i64 lv,Value.int IntKind.u64 ((cp:Nat):Int),Value.int IntKind.u8 ((sc:Nat):Int)],undef,Value.pointer (some { block:=w.heap.size,off:=0 }),Value.pointer (some { block:=w.heap.size + 1,off:=0 }),Value.pointer none,Value.slice none 0 0,Value.pointer (some { block:=K.g,off:=0 }),Value.int IntKind.i64 0,Value.pointer (some { block:=G0.g,off:=0 }),Value.int IntKind.i64 0,Value.int IntKind.i64 ((i:Nat):Int),Value.tuple #[Value.pointer (some { block:=K.g,off:=0 }),Value.int IntKind.i64 0],Value.pointer (some { block:=w.heap.size + 1,off:=3 }),Value.int IntKind.u8 ((sc:Nat):Int),Value.int IntKind.u8 (((sc:Nat):Int) % 64),Value.int IntKind.i64 (((sc:Nat):Int) % 64),Value.int IntKind.i64 ((n:Nat):Int),Value.tuple #[Value.pointer (some { block:=K.g,off:=0 }),Value.int IntKind.i64 0],Value.pointer (some { block:=K.g,off:=0 }),Value.int IntKind.i64 0,Value.int IntKind.i64 0,Value.bool false,Value.tuple #[Value.pointer (some { block:=G0.g,off:=0 }),Value.int IntKind.i64 0],Value.pointer (some { block:=K.g,off:=0 }),Value.agg (u8s key),Value.pointer (some { block:=w.heap.size + 1,off:=0 }),Value.string s,Value.pointer (some { block:=w.heap.size + 1,off:=1 }),Value.agg #[Value.int IntKind.i64 lv,Value.int IntKind.u64 ((cp:Nat):Int)],Value.tuple #[Value.pointer (some { block:=G0.g,off:=0 }),Value.int IntKind.i64 0],Value.pointer (some { block:=G0.g,off:=0 }),Value.int IntKind.i64 0,Value.int IntKind.i64 0,Value.bool false,Value.int IntKind.i64 ((i:Nat):Int),Value.slice (some { block:=b0,off:=off }) k c,Value.int IntKind.i64 ((k:Nat):Int),Value.bool true,Value.bool true,Value.int IntKind.i64 ((i:Nat):Int),Value.bool true,Value.bool true,u44,u45,u46,u47,u48,u49,u50,u51,u52,u53,u54,u55,u56,u57,u58,undef,undef,undef]:Array Value).getD xx undef,rfl,Holding.start,Whn.none (by decide)⟩
  . have hend:i = us.length:=by rw [Hul.out]; omega
    have htn:=hr.out.2.2.tn
    have Htx:=lhd (se_texts hr.out.2.1 (by omega))
    have HBl:Hid (w2.heap.size <= wr.heap.size):=hr.out.2.1.sd.low.size
    have HKw:Hid (∀ q ∈ K.bl,q < wr.heap.size):=hr.out.2.1.sd.kl
    have Hgg:=lhd hr.out.1
    have HFL:=lhd hr.out.2.2
    obtain ⟨m,hm⟩:∃ m,m = V.T.length:=⟨_,rfl⟩
    rw [<- hm] at Htx
    have Hm:=lhd hm
    have hgp:G.ptr = .pointer (some ⟨G0.g,0,none⟩):=by unfold GK.ptr; rw [hr.out.1]
    rw [hgp] at Htx
    clear hr hm hgp
    have hor:¬ (i:Int) < (k:Int) \/ ((i:Int) < (k:Int) /\ ¬ (i:Int) < 10):=by omega
    rcases hor with hI | ⟨hI,hI2⟩
    all_goals
     go_wp2_with (go_at_call 19; refine Htx.out.mono ?_; rintro e w6 ⟨g,rfl,hrw,hse,_⟩; have Hrw:=lhd hrw; have Hse:=lhd hse; clear hrw hse)
     go_ret2
     have hsd:=Hse.out.sd
     refine ⟨K,D0,S0,D,S,V,g,m,wr.heap.size,rfl,Hm.out.symm,Hrw.out,HKw.out,Nat.le_trans HB2.out.size HBl.out,⟨hsd.dsk,HB2.out.trans (hsd.low.mono HB2.out.size),fun q hq => Nat.le_trans HB2.out.size (hsd.kb q hq),?_⟩,I4.out,by rw [<- Hus.out,<- hend]; exact HFL.out⟩
     exact HLw.out
end Go.Proofs.YteeghgjkjicjoaaGreatDoor.Sgm
namespace Go.Proofs.YteeghgjkjicjoaaGreatDoor.Sgm
open Go.RowKit Dsk Slt Epo
theorem opn_none {D:DS} {k C k2 C2:List Int} {v:Nat} {R:List (List Int × Nat)} (h:DG D k C v R) (ho:D.off = false) {cs:List (List Int)} {Rr:List Int} {e:Bool} (hr:Reads (logL D) cs Rr e) :
 e = false /\ cs.map textC = sealsL k C 0 R /\ (opensL k2 C2 v 0 1 (sealsL k C 0 R) = none -> opnX D k2 C2 cs e = 9):=by
 obtain ⟨u,hu⟩:=h.log
 rw [<- logL_reg] at hu
 obtain ⟨rfl,hcs,hus⟩:=log_reads hu hr
 refine ⟨rfl,hcs,fun hn => ?_⟩
 have hvD:vD D = v:=h.cnt.lead1
 have hx0:xs0 D = 0:=by unfold xs0; rw [ho,if_neg (by decide)]; exact h.cnt.te
 have hR:opnR D k2 C2 cs = none:=by
  unfold opnR
  rw [hvD,hcs]
  exact hn
 have hx2:xs2 (opnR D k2 C2 cs) = 9:=by rw [hR]; rfl
 rw [(opn_x2 (e:=false) hx0 rfl (by rw [hx2]; decide)).1,hx2]
theorem reads_len {L R:List Int} {cs:List (List Int)} {e:Bool} (hr:Reads L cs R e) {m:Nat} (hm:L.length <= m):∀ t ∈ cs.map textC,t.length <= m:=by
 intro t ht
 obtain ⟨c,hc,rfl⟩:=List.mem_map.1 ht
 have h1:=(List.sublist_flatten_of_mem hc).length_le
 have h2:=congrArg List.length hr.eq
 rw [List.length_append] at h2
 have h3:(textC c).length <= c.length:=by unfold textC; rw [List.length_take,List.length_drop]; omega
 omega
end Go.Proofs.YteeghgjkjicjoaaGreatDoor.Sgm

namespace Go.Proofs.YteeghgjkjicjoaaGreatDoor.Seal
open Go.RowKit
theorem own_row {w:World} {g k:Nat} {L:List Int} (h:w.heap[g]? = some (.cells (u8s L) 5 (0,0))) (hl:L.length = k) (hk:k <= maxLen) {B:Nat} (hB:B <= g):OwnB B L (.slice (some ⟨g,0,none⟩) k k) w:=by
 subst hl
 exact ⟨by rw [vals_length,Nat.mul_one],.inr ⟨g,L.length,u8s L,rfl,hB,h,Nat.le_refl _,hk,by rw [u8s_size,Nat.mul_one],by rw [Nat.mul_one,show (u8s L).toList = vals L from rfl]; exact List.take_of_length_le (by rw [vals_length]; exact Nat.le_refl _)⟩⟩
theorem div_pow (n j:Nat):n / 256 ^ j / 256 = n / 256 ^ (j + 1):=by rw [Nat.div_div_eq_div_mul,Nat.pow_succ]
theorem rnumber_any (n k:Nat) (hk:k <= 8) (hn:n < 18446744073709551616) (w:World):Calls Tryz.prog 95 #[.int .u64 (n:Int),.int .i64 (k:Int)] w fun e w' => ∃ v,e = .returned v /\ OwnB w.heap.size (numL n k) v w' /\ Below w.heap.size w w':=by
 have km:=mk_any k (by omega) w
 have hkI:(k:Int) <= 8:=by omega
 have HN:=lhd hn
 clear hn
 go_enter Tryz.func95,Tryz.ntmps95
 go_upto_region 3 with (fail)
 have r0:=Go.heap_alloc_new w (.cells (u8s (zeros k)) 5)
 have b0:Below w.heap.size w (w.alloc (.cells (u8s (zeros k)) 5)):=(Below.refl _ _).alloc (Nat.le_refl _) _
 clear km
 generalize w.alloc _ = w0 at r0 b0 ⊢
 go_loopw [0,6] (fun v x wr => ∃ j:Nat,j <= k /\ v = .int .u64 ((n / 256 ^ j:Nat):Int) /\ x = .int .i64 ((k:Int) - 1 - j) /\ Hid (wr.heap[w.heap.size]? = some (.cells (u8s (numI n k j)) 5 (0,0))) /\ Hid (Below w.heap.size w wr)) (fun _ x _ => (intOf x + 1).toNat)
 case atStart => exact ⟨0,Nat.zero_le _,by simp,by simp,by show _ = _; rw [r0]; simp [numI,numL],b0⟩
 case round =>
  obtain ⟨j,hj,rfl,rfl,hr,hb⟩:=hrel
  clear r0 b0
  by_cases hlt:j < k
  . obtain ⟨i,hi⟩:∃ i,i = k - 1 - j:=⟨_,rfl⟩
    have e:(k:Int) - 1 - (j:Int) = (i:Int):=by omega
    have hik:(i:Int) < (k:Int):=by omega
    have hin:i < k:=by omega
    have hset:=numI_set (n:=n) hlt
    rw [<- hi] at hset
    obtain ⟨m,hm⟩:∃ m:Nat,m = n / 256 ^ j:=⟨_,rfl⟩
    have hdp:=div_pow n j
    rw [<- hm] at hset hdp
    have hc:=row8_cell hr.out i (by rw [numI_length hj]; exact hin)
    have hf:=free_row hr.out i
    have Hr2:=row8_set hr.out i ((m % 256:Nat):Int)
    rw [hset] at Hr2
    have HR:=lhd Hr2
    have Hdp:=lhd hdp
    have Hm2:Hid (m < 18446744073709551616):=by show _ < _; rw [hm]; exact Nat.lt_of_le_of_lt (Nat.div_le_self _ _) HN.out
    have he:(k:Int) - 1 - ((j + 1:Nat):Int) = (i:Int) - 1:=by omega
    have He:=lhd he
    rw [e,<- hm]
    clear Hr2 hset hi e hm hdp he
    go_wp2
    have hw:IntKind.u64.wrap ((m:Int) / 256) = ((n / 256 ^ (j + 1):Nat):Int):=by
     rw [<- Hdp.out]
     have:=Hm2.out
     simp [IntKind.wrap,IntKind.bits,IntKind.signed]; omega
    rw [hw]
    have hcast:((m % 256:Nat):Int) = (m:Int) % 256:=by omega
    have hR:=HR.out
    rw [hcast] at hR
    exact ⟨⟨j + 1,by omega,rfl,by rw [He.out],hR,Below.setCell (p:=⟨w.heap.size,i,none⟩) hb.out (Nat.le_refl _) _⟩,by simp [intOf]⟩
  . have e:(k:Int) - 1 - (j:Int) = -1:=by omega
    obtain rfl:j = k:=by omega
    rw [e]
    clear e
    go_wp2
    go_ret
    refine ⟨_,rfl,own_row (k:=j) (by have:=hr.out; rwa [numI,Nat.sub_self,zeros,List.replicate_zero,List.nil_append] at this) (numL_length n j) (by unfold maxLen; omega) (Nat.le_refl _),hb.out⟩
end Go.Proofs.YteeghgjkjicjoaaGreatDoor.Seal
namespace Go.Proofs.YteeghgjkjicjoaaGreatDoor
def PR:List Int:=[2,3,5,7,11,13,17,19,23,29,31,37,41,43,47,53,59,61,67,71,73,79,83,89,97,101,103,107,109,113,127,131,137,139,149,151,157,163,167,173,179,181,191,193,197,199,211,223,227,229,233,239,241,251,257,263,269,271,277,281,283,293,307,311]
def R2:List Int:=[6074000999,7439101573,9603838834,11363415354,14244795007,15485724812,17708603819,18721328409]
def R3:List Int:=[5411319704,6194414737,7344290767,8215976869,9551921755,10098905585,11043570340,11460697813,12214315672,13195500289,13492127166,14311783875,14809980276,15046980094,15499789991,16133124468,16720292289,16907126662,17444216262,17784676812,17950125167,18429019306,18734950876,19175934170,19734090066,20001703533,20132865992,20390182855,20516441075,20764397895,21588763473,21813078375,22141143685,22248366392,22769593852,22871018771,23170020180,23461497531,23651862830,23931792517,24205322401,24295138891,24734567280,24820601251,24990902297,25075189284,25569408389,26045227120,26200031510,26276752392,26428864332,26653801653,26727943347,27092625994,27306805839,27517677555,27725365998,27793908591,27997534228,28131656200,28198240250,28526537963,28973835255,29099129074]
def runP:List Int -> Int -> Bool
 | [],_ => true
 | x :: r,c => if x * x <= c then (if c % x = 0 then false else runP r c) else true
def prN (k:Nat):List Int:=PR.filter fun p => decide (p < (k:Int) + 2)
theorem prN_step_all:∀ k:Fin 311,prN (k.val + 1) = if runP (prN k.val) ((k.val:Int) + 2) = true then prN k.val ++ [(k.val:Int) + 2] else prN k.val:=by decide +kernel
theorem prN_take_all:∀ k:Fin 312,prN k.val = PR.take (prN k.val).length:=by decide +kernel
theorem prN_few_all:∀ k:Fin 312,(prN k.val).length < 64 -> k.val < 310:=by decide +kernel
theorem prN_in_all:∀ k:Fin 312,(prN k.val).length <= 64:=by decide +kernel
theorem prN_step (k:Nat) (h:k < 311):prN (k + 1) = if runP (prN k) ((k:Int) + 2) = true then prN k ++ [(k:Int) + 2] else prN k:=prN_step_all ⟨k,h⟩
theorem prN_take (k:Nat) (h:k < 312):prN k = PR.take (prN k).length:=prN_take_all ⟨k,h⟩
theorem prN_few (k:Nat) (h:k < 312) (hl:(prN k).length < 64):k < 310:=prN_few_all ⟨k,h⟩ hl
theorem PR_in_all:∀ j:Fin 64,2 <= PR.getD j.val 0 /\ PR.getD j.val 0 < 312:=by decide +kernel
theorem PR_in (j:Nat) (h:j < 64):2 <= PR.getD j 0 /\ PR.getD j 0 < 312:=PR_in_all ⟨j,h⟩
theorem PR_length:PR.length = 64:=rfl
theorem prN_zero:prN 0 = []:=by decide +kernel
theorem runP_step {l:List Int} {c:Int} (j:Nat) (h:j < l.length):runP (l.drop j) c = if l.getD j 0 * l.getD j 0 <= c then (if c % l.getD j 0 = 0 then false else runP (l.drop (j + 1)) c) else true:=by
 rw [List.drop_eq_getElem_cons h]
 have e:l.getD j 0 = l[j]:=by simp [List.getD_eq_getElem?_getD,h]
 rw [e]
 rfl
theorem runP_end {l:List Int} {c:Int} (j:Nat) (h:l.length <= j):runP (l.drop j) c = true:=by
 rw [List.drop_eq_nil_of_le h]; rfl
end Go.Proofs.YteeghgjkjicjoaaGreatDoor
