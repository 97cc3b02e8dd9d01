/- Texts of ours, merged. -/
import Derived.Test.YteeghgjkjicjoaaGreatDoorB24
namespace Go.Proofs.YteeghgjkjicjoaaGreatDoor
open Go.RowKit
theorem lhd {p : Prop} (h : p) : Hid p := Lib.hid h
theorem Holding.nx {dsts : List Nat} {vl : List (Option Value)} {l : Array Bool} {s : Nat → Value} (h : Holding dsts vl l s) (hd : apartB dsts = true) (hs : l.size = dsts.length) (i : Nat) {v : Value} (hi : i < dsts.length := by decide) (hv : ∀ v', vl.getD i none = some v' → v = v' := by exact fun _ h => Option.some.inj h) : Holding dsts vl (l.setIfInBounds i true) (upd s (dsts.getD i 0) v) := h.next hd hs i hi v hv
theorem Holding.nn {dsts : List Nat} {vl : List (Option Value)} {l : Array Bool} {s : Nat → Value} (h : Holding dsts vl l s) (hd : apartB dsts = true) (hs : l.size = dsts.length) (i : Nat) {v : Value} (hi : i < dsts.length := by decide) (hv : ∀ v', vl.getD i none = some v' → v = v' := by exact fun _ h => by cases h) : Holding dsts vl (l.setIfInBounds i true) (upd s (dsts.getD i 0) v) := h.next hd hs i hi v hv
theorem Whn.kp {l : Array Bool} {i k : Nat} {p : Value → World → Prop} {v : Value} {w : World} (h : Whn l i p v w) (hne : i ≠ k := by decide) : Whn (l.setIfInBounds k true) i p v w := h.keep hne
theorem Whu.kp {l : Array Bool} {i q k : Nat} {p : Value → World → Prop} {v : Value} {w : World} (h : Whu l i q p v w) (hne : i ≠ k := by decide) : Whu (l.setIfInBounds k true) i q p v w := h.keep hne
end Go.Proofs.YteeghgjkjicjoaaGreatDoor
set_option maxRecDepth 100000
set_option maxHeartbeats 16000000
namespace Go.Proofs.YteeghgjkjicjoaaGreatDoor.Sgm
open Go.RowKit Dsk Slt Epo
structure DG (D:DS) (k C:List Int) (v:Nat) (R:List (List Int × Nat)):Prop where
 n9:9 <= D.secs
 w128:D.data.length = D.secs * 128
 cnt:Cnt (regL D 0 1024) v
 ris:Ris v 1 R
 log:∃ u,LogAt (reg D 8 (D.secs - 8)) (sealsL k C 0 R) u
theorem logL_reg (D:DS):logL D = reg D 8 (D.secs - 8):=rfl
structure SGd (D:DS) (S:LS) (V:GV) (R:List (List Int × Nat)):Prop where
 dg:DG D V.key V.C V.ep R
 from_:S.from_ = 8
 secs:S.secs = D.secs - 8
 txs:S.texts = sealsL V.key V.C 0 R
 T:V.T = R.map (·.1)
 log:LogAt (reg D 8 (D.secs - 8)) S.texts S.used
 slost:S.lost = false
 vlost:V.lost = false
 off:D.off = false
 ep:V.ep ≠ 0
theorem open_good {D:DS} {k C:List Int} {v:Nat} {R:List (List Int × Nat)} (h:DG D k C v R) (hv:v < 1024) (ho:D.off = false) (hl:D.laid = false) {cs:List (List Int)} {Rr:List Int} {e:Bool} (hr:Reads (logL D) cs Rr e) :
 opnX D k C cs e = 0 /\ opnR D k C cs = some (R.map (·.1)) /\ cs.map textC = sealsL k C 0 R /\ nxtP D (vD D) = v + 1 /\ (opnD D k C cs e).off = false /\ (opnD D k C cs e).laid = false /\ (opnD D k C cs e).writes <= D.writes + 1 /\ ∀ V:GV,V = ⟨k,C,v + 1,R.map (·.1),false⟩ -> SGd (opnD D k C cs e) (logS D cs) V R:=by
 obtain ⟨u,hu⟩:=h.log
 rw [<- logL_reg] at hu
 obtain ⟨rfl,hcs,hus⟩:=log_reads hu hr
 have hvD:vD D = v:=h.cnt.lead1
 have hx0:xs0 D = 0:=by unfold xs0; rw [ho,if_neg (by decide)]; exact h.cnt.te
 have hR:opnR D k C cs = some (R.map (·.1)):=by
  unfold opnR
  rw [hvD,hcs]
  exact opens_seals k C v (by omega) R 0 1 h.ris
 have hx2:xs2 (opnR D k C cs) = 0:=by rw [hR]; rfl
 have hdue:D.due = false:=by unfold DS.due; rw [hl]; rfl
 have hN:=next_q D 0 v ho (by have:=h.w128; have:=h.n9; omega)
 obtain ⟨y1,y2,y3,_,_⟩:=hN.yes hdue
 obtain ⟨e1,e2⟩:=opn_x3 (e:=false) hx0 rfl hx2
 have hne:¬ v = 1024:=by omega
 have hnE:nxtE D (vD D) = 0:=by unfold nxtE; rw [hvD,if_neg hne]; exact y1
 have hnD:nxtD D (vD D) = (nextD D 0 v).1:=by unfold nxtD; rw [hvD,if_neg hne]
 have hnP:nxtP D (vD D) = v + 1:=by unfold nxtP; rw [hvD,if_neg hne,if_pos y1]
 have hdata:9 * 128 <= D.data.length:=by have:=h.w128; have:=h.n9; omega
 have hsec:(nextD D 0 v).1.secs = D.secs:=by unfold DS.secs; rw [hN.len]
 have hreg:reg (nextD D 0 v).1 8 (D.secs - 8) = reg D 8 (D.secs - 8):=by
  have hw:=h.w128
  refine list_eq (by rw [Slt.reg_len (by rw [hN.len]; omega),Slt.reg_len (by omega)]) (fun j hj => ?_)
  rw [Slt.reg_len (by rw [hN.len]; omega)] at hj
  rw [Slt.reg_get hj,Slt.reg_get hj,hN.at_,if_neg (by omega)]
 have hcnt:Cnt (regL (nextD D 0 v).1 0 1024) (v + 1):=by
  have:=hN.cnt (n:=1024) (by omega) (by omega) h.cnt
  rwa [if_pos (.inl hdue)] at this
 refine ⟨by rw [e1]; exact hnE,hR,hcs,hnP,by rw [e2,hnD]; exact y2,by rw [e2,hnD,y3]; exact hl,by rw [e2,hnD,hN.wr]; exact Int.le_refl _,?_⟩
 rintro V rfl
 rw [e2,hnD]
 refine ⟨⟨by rw [hsec]; exact h.n9,by rw [hN.len,hsec]; exact h.w128,hcnt,h.ris.mono (by show v <= v + 1; omega),⟨u,by rw [hsec,hreg]; exact hu⟩⟩,rfl,by rw [hsec]; rfl,hcs,rfl,?_,rfl,rfl,y2,by simp⟩
 rw [hsec,hreg]
 show LogAt _ (cs.map textC) (useR cs (List.range cs.length))
 rw [hcs,hus]
 exact hu
theorem app_ahead {D:DS} {S:LS} {t:List Int} (hend:(S.from_ + S.secs) * 128 <= D.data.length) (hfit:S.used + tk t.length <= S.secs) (ho:D.off = false) (hlost:S.lost = false) (ht:t.length <= 262144):∀ j,j < S.from_ * 128 -> (appD D S t).1.data.getD j 0 = D.data.getD j 0:=by
 intro j hj
 have hk:=run_first (k:=firstK t.length (S.secs - S.used)) (n:=t.length) (F:=S.secs - S.used) (by omega) rfl
 have hkv:firstK t.length (S.secs - S.used) = min (tk t.length + 1) (S.secs - S.used):=rfl
 obtain ⟨k,hke⟩:∃ k,k = firstK t.length (S.secs - S.used):=⟨_,rfl⟩
 have htp:=tk_pos t.length
 have htf:=tk_fit t.length
 have hD:(appD D S t).1 = (writD D (S.from_ + S.used) t k).1:=by
  unfold appD
  rw [if_neg (by rw [hlost,ho]; simp),if_neg (by omega),if_neg (by omega),<- hke]
  split <;> rfl
 rw [hD]
 have hsl:(slotB 0 t k).length = k * 128:=slotB_len _ _ _ (by rw [hke,hkv]; omega)
 have h1:=weak_run (S.from_ + S.used) (slotB 0 t k) k 0 D ho (by rw [hke,hkv]; omega) (by omega)
 have hq1:=run_q (S.from_ + S.used) (slotB 0 t k) k 0 D ho (by rw [hke,hkv]; omega) (by omega)
 unfold writD
 split
 . rename_i h0
   have h2:=weak_run (S.from_ + S.used) ((slotB 1 t k).take 128) 1 0 (runD D (S.from_ + S.used) (slotB 0 t k) 0 k).1 (hq1.on h0) (by rw [hq1.len]; omega) (by rw [take128_len _ _ _ (by rw [hke,hkv]; omega)]; omega)
   rw [h2.out j (.inl (by omega)),h1.out j (.inl (by omega))]
 . rw [h1.out j (.inl (by omega))]
theorem step_calm (D:DS) (k:Nat) (b:List Int) (hl:D.laid = false):(stepD D k b).off = D.off /\ (stepD D k b).laid = false:=by
 have hdue:D.due = false:=by unfold DS.due; rw [hl]; rfl
 unfold stepD
 rw [hdue]
 exact ⟨rfl,hl⟩
theorem run_calm (k:Nat) (b:List Int):∀ (n i:Nat) (D:DS),D.laid = false -> D.off = false -> (runD D k b i n).1.off = false /\ (runD D k b i n).1.laid = false /\ (runD D k b i n).2 = 0:=by
 intro n
 induction n with
 | zero => intro i D hl ho; exact ⟨ho,hl,rfl⟩
 | succ n ih =>
   intro i D hl ho
   obtain ⟨h1,h2⟩:=step_calm D (k + i) (secL b i) hl
   rw [ho] at h1
   rw [run_on h1]
   exact ih (i + 1) _ h2 h1
theorem app_calm {D:DS} {S:LS} {t:List Int} (hl:D.laid = false) (ho:D.off = false) (hfit:S.used + tk t.length <= S.secs) (hlost:S.lost = false) (ht:t.length <= 262144):(appD D S t).2.2 = 0 /\ (appD D S t).1.laid = false:=by
 obtain ⟨k,hke⟩:∃ k,k = firstK t.length (S.secs - S.used):=⟨_,rfl⟩
 have h1:=run_calm (S.from_ + S.used) (slotB 0 t k) k 0 D hl ho
 have h2:=run_calm (S.from_ + S.used) ((slotB 1 t k).take 128) 1 0 (runD D (S.from_ + S.used) (slotB 0 t k) 0 k).1 h1.2.1 h1.1
 have hw:writD D (S.from_ + S.used) t k = runD (runD D (S.from_ + S.used) (slotB 0 t k) 0 k).1 (S.from_ + S.used) ((slotB 1 t k).take 128) 0 1:=writD_yes h1.2.2
 unfold appD
 rw [if_neg (by rw [hlost,ho]; simp),if_neg (by omega),if_neg (by omega),<- hke,hw,if_pos h2.2.2]
 exact ⟨rfl,h2.2.1⟩
theorem app_good {D:DS} {S:LS} {V:GV} {R:List (List Int × Nat)} {t:List Int} (h:SGd D S V R) (ht:InB t) (hl:t.length <= 131068) (hep:V.ep < 4294967296) :
 (appG D S V t).1.secs = D.secs /\ (appG D S V t).1.writes <= D.writes + 2100 /\
 (((appG D S V t).2.2.2 = 7 /\ (appG D S V t).1 = D /\ (appG D S V t).2.1 = S /\ (appG D S V t).2.2.1 = V) \/
  ((appG D S V t).2.2.2 = 0 /\ SGd (appG D S V t).1 (appG D S V t).2.1 (appG D S V t).2.2.1 (R ++ [(t,V.ep)]) /\ (appG D S V t).2.2.1 = { V with T:=V.T ++ [t] }) \/
  ((appG D S V t).2.2.2 = 12 /\ (appG D S V t).2.2.1 = { V with lost:=true } /\ (DG (appG D S V t).1 V.key V.C V.ep R \/ DG (appG D S V t).1 V.key V.C V.ep (R ++ [(t,V.ep)])))):=by
 by_cases hx:refX D S V t.length = 0
 rotate_left
 . rw [appG_ref hx]
   have h7:refX D S V t.length = 7:=by
    unfold refX at hx ⊢
    rw [if_neg h.ep,if_neg (by omega),if_neg (by rw [h.vlost,h.off]; simp)] at hx ⊢
    split
    . rfl
    . rename_i h2; rw [if_neg h2] at hx; exact absurd rfl hx
   exact ⟨rfl,by show D.writes <= _; omega,.inl ⟨h7,rfl,rfl,rfl⟩⟩
 . obtain ⟨_,r2,_,_,r5⟩:=ref_zero hx
   have hrl:(recL V t).length = 36 + Seal.bkt t.length:=Seal.sealL_length _ _ _ _ r2
   have hbl:=Seal.bkt_le r2
   have hfr:=(roomL_iff (roomI (S.secs - S.used)) t.length r2).1 r5
   have hF:36 + Seal.bkt t.length + 5 <= (S.secs - S.used) * 128:=by
    unfold roomI at hfr
    split at hfr
    . omega
    . split at hfr <;> omega
   have hfit:S.used + tk (recL V t).length <= S.secs:=by rw [hrl]; unfold tk; omega
   have hw:=h.dg.w128
   have h9:=h.dg.n9
   have hend:(S.from_ + S.secs) * 128 <= D.data.length:=by rw [h.from_,h.secs]; omega
   have hA:=app_log (t:=recL V t) (by rw [h.from_,h.secs]; exact h.log) h.slost h.off hend (by omega) hfit
   have hah:=app_ahead (t:=recL V t) hend hfit h.off h.slost (by omega)
   rw [h.from_] at hah
   obtain ⟨hlen,hwr,hget⟩:=hA
   rw [h.from_,h.secs] at hget
   have hsec:(appD D S (recL V t)).1.secs = D.secs:=by unfold DS.secs; rw [hlen]
   have hcnt:Cnt (regL (appD D S (recL V t)).1 0 1024) V.ep:=by
    have hc:=h.dg.cnt
    rw [Epo.cnt_reg (by omega)] at hc
    rw [Epo.cnt_reg (by rw [hlen]; omega)]
    exact ⟨hc.1,fun j hj => by rw [hah _ (by omega)]; exact hc.2 j hj⟩
   have hsn:S.texts ++ [recL V t] = sealsL V.key V.C 0 (R ++ [(t,V.ep)]):=by
    rw [seals_snoc,h.txs,Nat.zero_add]
    unfold recL
    rw [h.T,List.length_map]
   have hris:Ris V.ep 1 (R ++ [(t,V.ep)]):=Ris.snoc ht r2 (by have:=h.ep; omega) h.dg.ris
   have hwr2:(appD D S (recL V t)).1.writes <= D.writes + 2100:=by
    have:tk (recL V t).length <= 1100:=by rw [hrl]; unfold tk; omega
    omega
   have hdg:∀ (R':List (List Int × Nat)) (u:Nat),Ris V.ep 1 R' -> LogAt (reg (appD D S (recL V t)).1 8 (D.secs - 8)) (sealsL V.key V.C 0 R') u -> DG (appD D S (recL V t)).1 V.key V.C V.ep R':=fun R' u h1 h2 =>
    ⟨by rw [hsec]; exact h9,by rw [hlen,hsec]; exact hw,hcnt,h1,u,by rw [hsec]; exact h2⟩
   rcases hget with ⟨g1,g2,g3,g4⟩ | ⟨g1,g2,g3,g4⟩
   . rw [appG_ok hx g1]
     rw [hsn] at g4
     refine ⟨hsec,hwr2,.inr (.inl ⟨rfl,?_,rfl⟩)⟩
     refine ⟨hdg _ _ hris g4,by rw [g3],by rw [g3,hsec],by rw [g3]; exact hsn,by show V.T ++ [t] = _; rw [h.T,List.map_append]; rfl,?_,by rw [g3]; exact h.slost,h.vlost,g2,h.ep⟩
     rw [hsec,g3]
     show LogAt _ (S.texts ++ [recL V t]) _
     rw [hsn]
     exact g4
   . have hne:(appD D S (recL V t)).2.2 ≠ 0:=by rw [g1]; decide
     rw [appG_no hx hne]
     refine ⟨hsec,hwr2,.inr (.inr ⟨g1,rfl,?_⟩)⟩
     rcases g4 with g4 | g4
     . left
       rw [h.txs] at g4
       exact hdg _ _ h.dg.ris g4
     . right
       rw [hsn] at g4
       exact hdg _ _ hris g4
theorem app_good_calm {D:DS} {S:LS} {V:GV} {R:List (List Int × Nat)} {t:List Int} (h:SGd D S V R) (hc:D.laid = false) (hx:refX D S V t.length = 0):(appG D S V t).2.2.2 = 0 /\ (appG D S V t).1.laid = false:=by
 obtain ⟨_,r2,_,_,r5⟩:=ref_zero hx
 have hrl:(recL V t).length = 36 + Seal.bkt t.length:=Seal.sealL_length _ _ _ _ r2
 have hbl:=Seal.bkt_le r2
 have hfr:=(roomL_iff (roomI (S.secs - S.used)) t.length r2).1 r5
 have hF:36 + Seal.bkt t.length + 5 <= (S.secs - S.used) * 128:=by
  unfold roomI at hfr
  split at hfr
  . omega
  . split at hfr <;> omega
 have hfit:S.used + tk (recL V t).length <= S.secs:=by rw [hrl]; unfold tk; omega
 obtain ⟨h1,h2⟩:=app_calm (t:=recL V t) hc h.off hfit h.slost (by omega)
 rw [appG_ok hx h1]
 exact ⟨rfl,h2⟩
theorem new_good (n:Nat) (hn:9 <= n) (k C:List Int):DG (newD n) k C 0 []:=by
 have hs:(newD n).secs = n:=by simp [newD,DS.secs]
 refine ⟨by rw [hs]; exact hn,by rw [hs]; simp [newD],?_,trivial,0,?_⟩
 . rw [Epo.cnt_reg (by simp [newD]; omega)]
   refine ⟨Nat.zero_le _,fun j hj => ?_⟩
   rw [if_neg (Nat.not_lt_zero _)]
   simp only [newD,List.getD_eq_getElem?_getD,List.getElem?_replicate]
   split <;> rfl
 . rw [hs]
   have:reg (newD n) 8 (n - 8) = List.replicate ((n - 8) * 128) 0:=by
    unfold reg newD
    rw [List.drop_replicate,List.take_replicate]
    congr 1
    omega
   rw [this]
   exact log_empty _
theorem bsec_get (b:List Int) (i x:Nat) (h:x < 128):(secL b i).getD x 0 = b.getD (i * 128 + x) 0:=by
 unfold secL
 rw [getD_take' h,getD_drop']
theorem run_get (k:Nat) (b:List Int):∀ (n i:Nat) (D:DS),D.laid = false -> D.off = false -> (k + i + n) * 128 <= D.data.length -> (i + n) * 128 <= b.length ->
 (runD D k b i n).1.data.length = D.data.length /\ ∀ j,(runD D k b i n).1.data.getD j 0 = if (k + i) * 128 <= j /\ j < (k + i + n) * 128 then b.getD (j - k * 128) 0 else D.data.getD j 0:=by
 intro n
 induction n with
 | zero =>
   intro i D _ _ _ _
   exact ⟨rfl,fun j => by rw [if_neg (by omega)]; rfl⟩
 | succ n ih =>
   intro i D hl ho hd hb
   obtain ⟨h1,h2⟩:=step_calm D (k + i) (secL b i) hl
   rw [ho] at h1
   have hdue:D.due = false:=by unfold DS.due; rw [hl]; rfl
   have hs:=secL_len b i (by omega)
   have hdat:(stepD D (k + i) (secL b i)).data = splice D.data ((k + i) * 128) (secL b i):=by unfold stepD; rw [hdue]; rfl
   have hlen:(stepD D (k + i) (secL b i)).data.length = D.data.length:=by rw [hdat]; exact splice_len _ _ _ (by rw [hs]; omega)
   rw [run_on h1]
   obtain ⟨q1,q2⟩:=ih (i + 1) _ h2 h1 (by rw [hlen]; omega) (by omega)
   refine ⟨q1.trans hlen,fun j => ?_⟩
   rw [q2,hdat,splice_getD _ _ _ (by rw [hs]; omega),hs]
   by_cases c1:(k + (i + 1)) * 128 <= j /\ j < (k + (i + 1) + n) * 128
   . rw [if_pos c1,if_pos (by omega)]
   . rw [if_neg c1]
     by_cases c2:j < (k + i) * 128
     . rw [if_pos c2,if_neg (by omega)]
     . rw [if_neg c2]
       by_cases c3:j < (k + i) * 128 + 128
       . rw [if_pos c3,if_pos (by omega),bsec_get _ _ _ (by omega)]
         congr 1
         omega
       . rw [if_neg c3,if_neg (by omega)]
theorem slot_get (m:Int) (t:List Int) (k x:Nat):(slotB m t k).getD x 0 = if x = 0 then m else if x < 5 then (be4 t.length).getD (x - 1) 0 else if x < 5 + t.length then t.getD (x - 5) 0 else 0:=by
 unfold slotB
 cases x with
 | zero => rfl
 | succ x =>
   rw [if_neg (by omega),List.getD_cons_succ]
   have h4:(be4 t.length).length = 4:=rfl
   by_cases h1:x < 4
   . rw [getD_append_lt (by rw [h4]; exact h1),if_pos (by omega)]; rfl
   . rw [getD_append_ge (by rw [h4]; omega),h4,if_neg (by omega)]
     by_cases h2:x - 4 < t.length
     . rw [getD_append_lt h2,if_pos (by omega)]
       congr 1
     . rw [getD_append_ge (by omega),if_neg (by omega)]
       simp only [List.getD_eq_getElem?_getD,List.getElem?_replicate]
       split <;> rfl
theorem app_get {D:DS} {S:LS} {t:List Int} (hl:D.laid = false) (ho:D.off = false) (hfit:S.used + tk t.length <= S.secs) (hlost:S.lost = false) (ht:t.length <= 262144) (hend:(S.from_ + S.secs) * 128 <= D.data.length) :
 (appD D S t).1.data.length = D.data.length /\ ∀ j,(appD D S t).1.data.getD j 0 = if (S.from_ + S.used) * 128 <= j /\ j < (S.from_ + S.used + firstK t.length (S.secs - S.used)) * 128 then (slotB 1 t (firstK t.length (S.secs - S.used))).getD (j - (S.from_ + S.used) * 128) 0 else D.data.getD j 0:=by
 have hk:=run_first (k:=firstK t.length (S.secs - S.used)) (n:=t.length) (F:=S.secs - S.used) (by omega) rfl
 obtain ⟨k,hke⟩:∃ k,k = firstK t.length (S.secs - S.used):=⟨_,rfl⟩
 rw [<- hke] at hk ⊢
 have htp:=tk_pos t.length
 have hsl0:(slotB 0 t k).length = k * 128:=slotB_len _ _ _ (by omega)
 have hsl1:(slotB 1 t k).length = k * 128:=slotB_len _ _ _ (by omega)
 have h1:=run_calm (S.from_ + S.used) (slotB 0 t k) k 0 D hl ho
 have hw:writD D (S.from_ + S.used) t k = runD (runD D (S.from_ + S.used) (slotB 0 t k) 0 k).1 (S.from_ + S.used) ((slotB 1 t k).take 128) 0 1:=writD_yes h1.2.2
 have hD:(appD D S t).1 = (writD D (S.from_ + S.used) t k).1:=by
  unfold appD
  rw [if_neg (by rw [hlost,ho]; simp),if_neg (by omega),if_neg (by omega),<- hke]
  split <;> rfl
 obtain ⟨a1,a2⟩:=run_get (S.from_ + S.used) (slotB 0 t k) k 0 D hl ho (by omega) (by omega)
 obtain ⟨b1,b2⟩:=run_get (S.from_ + S.used) ((slotB 1 t k).take 128) 1 0 _ h1.2.1 h1.1 (by rw [a1]; omega) (by rw [List.length_take,hsl1]; omega)
 rw [hD,hw]
 refine ⟨b1.trans a1,fun j => ?_⟩
 rw [b2,a2]
 simp only [Nat.add_zero]
 by_cases c1:(S.from_ + S.used) * 128 <= j /\ j < (S.from_ + S.used + 1) * 128
 . rw [if_pos c1,if_pos (by omega),getD_take' (by omega)]
 . rw [if_neg c1]
   by_cases c2:(S.from_ + S.used) * 128 <= j /\ j < (S.from_ + S.used + k) * 128
   . have e0:¬ j - (S.from_ + S.used) * 128 = 0:=by omega
     rw [if_pos c2,if_pos c2,slot_get,slot_get,if_neg e0,if_neg e0]
   . rw [if_neg c2,if_neg c2]
theorem fit_used {D:DS} {S:LS} {V:GV} {m:Nat} (hx:refX D S V m = 0):S.used + tk (36 + Seal.bkt m) <= S.secs /\ m <= 131068:=by
 obtain ⟨_,r2,_,_,r5⟩:=ref_zero hx
 have hbl:=Seal.bkt_le r2
 have hfr:=(roomL_iff (roomI (S.secs - S.used)) m r2).1 r5
 have hF:36 + Seal.bkt m + 5 <= (S.secs - S.used) * 128:=by
  unfold roomI at hfr
  split at hfr
  . omega
  . split at hfr <;> omega
 exact ⟨by unfold tk; omega,r2⟩
theorem appG_get {D:DS} {S:LS} {V:GV} {R:List (List Int × Nat)} {t:List Int} (h:SGd D S V R) (hl:D.laid = false) (hx:refX D S V t.length = 0) (he:V.ep < 4294967296) (ht:InB t) :
 SGd (appG D S V t).1 (appG D S V t).2.1 (appG D S V t).2.2.1 (R ++ [(t,V.ep)]) /\ (appG D S V t).1.laid = false /\ (appG D S V t).2.2.1.ep = V.ep /\ (appG D S V t).2.1.used = S.used + tk (36 + Seal.bkt t.length) /\ (appG D S V t).1.data.length = D.data.length /\ (appG D S V t).2.2.2 = 0 /\
 ∃ k,tk (36 + Seal.bkt t.length) <= k /\ S.used + k <= S.secs /\ k = firstK (36 + Seal.bkt t.length) (S.secs - S.used) /\ ∀ j,(appG D S V t).1.data.getD j 0 = if (8 + S.used) * 128 <= j /\ j < (8 + S.used + k) * 128 then (slotB 1 (recL V t) k).getD (j - (8 + S.used) * 128) 0 else D.data.getD j 0:=by
 obtain ⟨hfit,r2⟩:=fit_used hx
 obtain ⟨c1,c2⟩:=app_good_calm h hl hx
 have hrl:(recL V t).length = 36 + Seal.bkt t.length:=Seal.sealL_length _ _ _ _ r2
 have hbl:=Seal.bkt_le r2
 have hw:=h.dg.w128
 have h9:=h.dg.n9
 obtain ⟨_,_,a3⟩:=app_good h ht r2 he
 have hgood:SGd (appG D S V t).1 (appG D S V t).2.1 (appG D S V t).2.2.1 (R ++ [(t,V.ep)]) /\ (appG D S V t).2.2.1 = { V with T:=V.T ++ [t] }:=by
  rcases a3 with ⟨e,_⟩ | ⟨_,e1,e2⟩ | ⟨e,_⟩
  . rw [c1] at e; cases e
  . exact ⟨e1,e2⟩
  . rw [c1] at e; cases e
 obtain ⟨q1,q2⟩:=app_calm (t:=recL V t) hl h.off (by rw [hrl]; exact hfit) h.slost (by omega)
 obtain ⟨p1,p2⟩:=app_get (t:=recL V t) hl h.off (by rw [hrl]; exact hfit) h.slost (by omega) (by rw [h.from_,h.secs]; omega)
 have hG:(appG D S V t).1 = (appD D S (recL V t)).1 /\ (appG D S V t).2.1 = (appD D S (recL V t)).2.1:=by rw [appG_ok hx q1]; exact ⟨rfl,rfl⟩
 have hu:(appD D S (recL V t)).2.1.used = S.used + tk (36 + Seal.bkt t.length):=by
  have q1':=q1
  unfold appD at q1' ⊢
  rw [if_neg (by rw [h.slost,h.off]; simp),if_neg (by omega),if_neg (by rw [hrl]; omega)] at q1' ⊢
  split
  . show S.used + tk (recL V t).length = _
    rw [hrl]
  . rename_i hne
    rw [if_neg hne] at q1'
    exact absurd q1' hne
 rw [h.from_,hrl] at p2
 have hk:=run_first (k:=firstK (36 + Seal.bkt t.length) (S.secs - S.used)) (n:=36 + Seal.bkt t.length) (F:=S.secs - S.used) (by omega) rfl
 refine ⟨hgood.1,c2,by rw [hgood.2],by rw [hG.2,hu],by rw [hG.1,p1],c1,firstK (36 + Seal.bkt t.length) (S.secs - S.used),hk.1,by omega,rfl,fun j => ?_⟩
 rw [hG.1,p2]
def goG (x:DS × LS × GV) (t:List Int):DS × LS × GV:=((appG x.1 x.2.1 x.2.2 t).1,(appG x.1 x.2.1 x.2.2 t).2.1,(appG x.1 x.2.1 x.2.2 t).2.2.1)
def goL (x:DS × LS × GV) (ts:List (List Int)):DS × LS × GV:=ts.foldl goG x
theorem goL_next (x:DS × LS × GV) (ts:List (List Int)) (i:Nat) (h:i < ts.length):goL x (ts.take (i + 1)) = goG (goL x (ts.take i)) (ts.getD i []):=by
 unfold goL
 rw [List.take_succ_eq_append_getElem h,List.foldl_append]
 simp [List.getD_eq_getElem?_getD,h]
end Go.Proofs.YteeghgjkjicjoaaGreatDoor.Sgm
namespace Go.Proofs.YteeghgjkjicjoaaGreatDoor.Sgm
open Go.RowKit Dsk Slt
theorem texts_any {w:World} {K:DK} {J:LK} {G:GK} {S:LS} {V:GV} (h:Sg w K J G S V) (hN:V.T.length <= 16384):Calls Tryz.prog 19 #[G.ptr] w fun e w' => ∃ g,e = .returned (.slice (some ⟨g,0,none⟩) V.T.length V.T.length) /\ Slt.Rows w.heap.size V.T V.T.length V.T.length g w' /\ Below w.heap.size w w':=by
 have Hm:=lhd (smade_any h)
 obtain ⟨_,_,_,_,_,c5,_⟩:=h.cells
 have hn:=hN
 have H:=lhd h
 obtain ⟨A,c,hv⟩:=own_nilK h.tx.own
 have hown:=h.tx.own
 rw [hv] at c5 hown
 unfold GK.ptr at *
 obtain ⟨n,hn'⟩:∃ n,n = V.T.length:=⟨_,rfl⟩
 rw [<- hn'] at hn c5 hown ⊢
 have HN:=lhd hn'
 have Hown:=lhd hown
 obtain ⟨Cz,hCz,hmk⟩:=mk_slots n (by omega) w
 have hz:Slt.Rows w.heap.size V.T n 0 w.heap.size (w.alloc (.cells Cz 38)):=⟨⟨Cz,Go.heap_alloc_new _ _,hCz,fun i hi => by omega⟩,Nat.le_refl _⟩
 have hb0:Below w.heap.size w (w.alloc (.cells Cz 38)):=(Below.refl _ _).alloc (Nat.le_refl _) _
 have hgl:=h.glt
 have c52:=(hb0.cell (p:=⟨G.g,37,none⟩) hgl).trans c5
 have Hz:=lhd hz
 have Hb0:=lhd hb0
 clear h hn' hv hown hCz hz hgl hb0
 obtain ⟨w1,hw1⟩:∃ w1,w1 = w.alloc (.cells Cz 38):=⟨_,rfl⟩
 rw [<- hw1] at hmk c52 Hz Hb0
 clear hw1
 go_enter Tryz.func19,Tryz.ntmps19
 go_wp2_with (first
  | (go_at_call 48; refine Hm.out.mono ?_; rintro e w' ⟨rfl,rfl⟩))
 go_loopw [20] (fun v wr => ∃ i:Nat,i <= n /\ v = .int .i64 i /\ Hid (Slt.Rows w.heap.size V.T n i w.heap.size wr /\ Below w.heap.size w wr)) (fun v _ => n - (intOf v).toNat)
 case atStart => exact ⟨0,Nat.zero_le _,rfl,Hz.out,Hb0.out⟩
 case round =>
  obtain ⟨i,hi,rfl,hr⟩:=hrel
  by_cases hlt:i < n
  . have hltI:(i:Int) < (n:Int):=by omega
    obtain ⟨g,rfl,hcap,hg,hc⟩:=own_cellS Hown.out i hlt
    obtain ⟨A2,c2,e2,hB2⟩:=H.out.tx.txt i (by rw [<- HN.out]; exact hlt)
    rw [e2] at hc
    have hcr:=(hr.out.2.cell (p:=⟨g,i,none⟩) hg).trans hc
    have hcl:=clone_sl (L:=V.T.getD i []) ⟨A2,c2,rfl,hB2.below hr.out.2 (Nat.le_refl _)⟩ (by
     have hm:V.T.getD i [] ∈ V.T:=by
      rw [List.getD_eq_getElem?_getD,List.getElem?_eq_getElem (by rw [<- HN.out]; exact hlt),Option.getD_some]
      exact List.getElem_mem _
     have:=(H.out.inb _ hm).2
     omega)
    have Hcl:=lhd hcl
    obtain ⟨m2,hm2⟩:∃ m2,m2 = (V.T.getD i []).length:=⟨_,rfl⟩
    rw [<- hm2] at hcr Hcl
    have Hm2:=lhd hm2
    clear hcl hc hB2 hm2 e2
    go_upto_region 7 with (fail)
    have Hr:=lhd (hr.out)
    clear hr
    go_wp2_with (go_at_call 35; refine Hcl.out.mono ?_; rintro e w2 ⟨v2,rfl,ho,hb⟩; obtain ⟨A3,c3,rfl⟩:=own_nilK ho; have Ho:=lhd ho; have Hb:=lhd hb; have hr2:=Hr.out.1.later hb; obtain ⟨⟨C2,hC2,_⟩,_⟩:=id hr2; have f2:=free_row hC2 i; have cc:=cell_row hC2 i; have Hr2:=lhd hr2; clear ho hb hr2 hC2)
    have hlt2:=Hr.out.1.lt
    have ho2:=Ho.out
    rw [Hm2.out] at ho2 ⊢
    refine ⟨⟨i + 1,by omega,by go_num,Hr2.out.next hlt (own_sl ho2 rfl) (fun q hq => by have:=(ho2.lt q hq).1; have:=Hr.out.2.size; omega),(Hr.out.2.trans (Hb.out.mono Hr.out.2.size)).setCell (Nat.le_refl _) _⟩,by simp [intOf]; omega⟩
  . have hltI:¬ (i:Int) < (n:Int):=by omega
    obtain rfl:i = n:=by omega
    go_wp2
    go_ret
    exact ⟨_,rfl,hr.out.1,hr.out.2⟩
end Go.Proofs.YteeghgjkjicjoaaGreatDoor.Sgm
namespace Go.Proofs.YteeghgjkjicjoaaGreatDoor.Sgm
open Go.RowKit Dsk Slt Epo
structure SD (w0 w:World) (K:DK) (D:DS):Prop where
 dsk:Dsk w K D
 low:Below w0.heap.size w0 w
 kb:∀ q ∈ K.bl,w0.heap.size <= q
 laid:Seal.SLaid w0
structure SE (w0 w:World) (K:DK) (D:DS) (J:LK) (G:GK) (S:LS) (V:GV):Prop where
 sd:SD w0 w K D
 sg:Sg w K J G S V
 jn:∀ q ∈ J.bl,w0.heap.size <= q
 jt:∀ q ∈ J.tx,w0.heap.size <= q
 gn:∀ q ∈ G.bl,w0.heap.size <= q
 gt:∀ q ∈ G.tx,w0.heap.size <= q
theorem SD.kl {w0 w:World} {K:DK} {D:DS} (h:SD w0 w K D):∀ q ∈ K.bl,q < w.heap.size:=fun q hq => by
 simp [DK.bl] at hq
 rcases hq with rfl | rfl
 . exact h.dsk.glt
 . exact h.dsk.hlt
theorem SD.lw {w0 w:World} {K:DK} {D:DS} (h:SD w0 w K D):Seal.SLaid w:=slaid_chg h.laid (X:=[]) (Chg.of_below h.low) (by simp)
theorem SD.kt {w0 w:World} {K:DK} {D:DS} (h:SD w0 w K D):∀ q ∈ K.bl,q ∉ Tab:=fun q hq hm => by
 have:=tab_lt h.laid q hm
 have:=h.kb q hq
 omega
theorem SD.later {w0 w w':World} {K:DK} {D:DS} (h:SD w0 w K D) (hb:Below w.heap.size w w'):SD w0 w' K D :=
 ⟨h.dsk.later hb,h.low.trans (hb.mono h.low.size),h.kb,h.laid⟩
theorem SD.chg {w0 w w':World} {K:DK} {D D':DS} {X:List Nat} (h:SD w0 w K D) (hd:Dsk w' K D') (hch:Chg X w w') (hX:∀ q ∈ X,w0.heap.size <= q):SD w0 w' K D' :=
 ⟨hd,hch.below h.low h.low.size (fun k hk => by have:=hX k hk; omega),h.kb,h.laid⟩
theorem SE.later {w0 w w':World} {K:DK} {D:DS} {J:LK} {G:GK} {S:LS} {V:GV} (h:SE w0 w K D J G S V) (hb:Below w.heap.size w w'):SE w0 w' K D J G S V :=
 ⟨h.sd.later hb,h.sg.later hb,h.jn,h.jt,h.gn,h.gt⟩
theorem SE.disk {w0 w w':World} {K:DK} {D D':DS} {J:LK} {G:GK} {S:LS} {V:GV} (h:SE w0 w K D J G S V) (hd:Dsk w' K D') (hc:Chg K.bl w w'):SE w0 w' K D' J G S V :=
 ⟨h.sd.chg hd hc h.sd.kb,h.sg.disk hc,h.jn,h.jt,h.gn,h.gt⟩
theorem sd_new (n:Nat) (w:World) (hL:Seal.SLaid w) (h1:1 <= n) (h2:n <= 16384):Calls Tryz.prog 8 #[.int .i64 n] w fun e w' => ∃ K:DK,e = .returned (.tuple #[.pointer (some ⟨K.g,0,none⟩),.int .i64 0]) /\ SD w w' K (newD n) :=
 (new_ok n w h1 h2).mono fun _ _ ⟨K,e,hd,hb,hg,hh⟩ => ⟨K,e,hd,hb,fun q hq => by
  simp [DK.bl] at hq
  rcases hq with rfl | rfl
  . exact hg
  . exact hh,hL⟩
theorem seals_short (k C:List Int) (most:Nat):∀ (r:List (List Int × Nat)) (i least:Nat),Ris most least r -> ∀ t ∈ sealsL k C i r,t.length <= 200000:=by
 intro r
 induction r with
 | nil => intro i least _ t ht; cases ht
 | cons x r ih =>
   intro i least h t ht
   rcases List.mem_cons.1 ht with rfl | ht
   . rw [Seal.sealL_length _ _ _ _ h.1.2]
     have:=(Seal.bkt_le h.1.2).1
     omega
   . exact ih _ _ h.2.2.2 t ht
theorem opn_secs {D:DS} {k C:List Int} {v:Nat} {R:List (List Int × Nat)} (h:DG D k C v R) (hv:v < 1024) (ho:D.off = false) {key C':List Int} {cs:List (List Int)} {e:Bool} (hx:opnX D key C' cs e = 0):(opnD D key C' cs e).secs = D.secs:=by
 have hvD:vD D = v:=h.cnt.lead1
 have h0:xs0 D = 0:=Decidable.byContradiction fun h0 => by rw [(opn_x0 h0).1] at hx; exact h0 hx
 have h1:xs1 e = 0:=Decidable.byContradiction fun h1 => by rw [(opn_x1 h0 h1).1] at hx; exact h1 hx
 have h2:xs2 (opnR D key C' cs) = 0:=Decidable.byContradiction fun h2 => by rw [(opn_x2 h0 h1 h2).1] at hx; exact h2 hx
 rw [(opn_x3 h0 h1 h2).2,hvD]
 have hN:=next_q D 0 v ho (by have:=h.w128; have:=h.n9; omega)
 have hnD:nxtD D v = (nextD D 0 v).1:=by unfold nxtD; rw [if_neg (by omega)]
 rw [hnD]
 unfold DS.secs
 rw [hN.len]
structure Fresh (w w':World) (K:DK) (J:LK) (G:GK):Prop where
 chg:Chg K.bl w w'
 jn:∀ q ∈ J.bl,w.heap.size <= q
 jt:∀ q ∈ J.tx,w.heap.size <= q
 gn:∀ q ∈ G.bl,w.heap.size <= q
 gt:∀ q ∈ G.tx,w.heap.size <= q
theorem sd_open {w0 w:World} {K:DK} {D:DS} (h:SD w0 w K D) {key:List Int} (hk:key.length = 32) (hkb:InB key) (s:ByteArray) (hs:s.size <= 100) (lv:Int) (cp:Nat) {v:Nat} {R:List (List Int × Nat)} (hg:DG D key (ctxL s lv cp) v R) (hv:v < 1024) (ho:D.off = false) (hl:D.laid = false) (hw:D.writes <= 1152921504606846976) :
 Calls Tryz.prog 17 #[.pointer (some ⟨K.g,0,none⟩),.agg (u8s key),.string s,.agg #[.int .i64 lv,.int .u64 (cp:Nat)]] w fun e w' => ∃ J G D' S,e = .returned (.tuple #[G.ptr,.int .i64 0]) /\ SE w0 w' K D' J G S ⟨key,ctxL s lv cp,v + 1,R.map (·.1),false⟩ /\ SGd D' S ⟨key,ctxL s lv cp,v + 1,R.map (·.1),false⟩ R /\ D'.laid = false /\ D'.writes <= D.writes + 1 /\ D'.secs = D.secs /\ Fresh w w' K J G:=by
 obtain ⟨cs,Rr,e,hr⟩:=reads_all _ (logL D) (Nat.le_refl _)
 obtain ⟨q1,q2,q3,q4,q5,q6,q7,q8⟩:=open_good hg hv ho hl hr
 refine (open_any h.dsk hg.n9 hw key hk hkb s hs lv cp hr (by rw [q3]; exact seals_short _ _ _ _ _ _ hg.ris) h.lw h.kt h.kl).mono ?_
 rintro ee w' ⟨p,rfl,hd,hc,hS⟩
 unfold SgW at hS
 rw [if_pos q1] at hS
 obtain ⟨J,G,T,rfl,hT,hN⟩:=hS
 rw [q2] at hT
 cases hT
 rw [q4] at hN
 rw [q1]
 have hsz:=h.low.size
 exact ⟨J,G,_,_,rfl,⟨h.chg hd hc h.kb,hN.sg,fun q hq => Nat.le_trans hsz (hN.jn q hq),fun q hq => Nat.le_trans hsz (hN.jt q hq),fun q hq => Nat.le_trans hsz (hN.gn q hq),fun q hq => Nat.le_trans hsz (hN.gt q hq)⟩,q8 _ rfl,q6,q7,opn_secs hg hv ho q1,hc,hN.jn,hN.jt,hN.gn,hN.gt⟩
theorem open_bad {D:DS} {k C k2:List Int} {v:Nat} {R:List (List Int × Nat)} (h:DG D k C v R) (ho:D.off = false) {cs:List (List Int)} {Rr:List Int} {e:Bool} (hr:Reads (logL D) cs Rr e) (hn:opensL k2 C v 0 1 (sealsL k C 0 R) = none) :
 opnX D k2 C cs e = 9 /\ opnD D k2 C cs e = D /\ cs.map textC = sealsL k C 0 R:=by
 obtain ⟨u,hu⟩:=h.log
 rw [<- logL_reg] at hu
 obtain ⟨rfl,hcs,hus⟩:=log_reads hu hr
 have hvD:vD D = v:=h.cnt.lead1
 have hx0:xs0 D = 0:=by unfold xs0; rw [ho,if_neg (by decide)]; exact h.cnt.te
 have hR:opnR D k2 C cs = none:=by
  unfold opnR
  rw [hvD,hcs]
  exact hn
 have hx2:xs2 (opnR D k2 C cs) = 9:=by rw [hR]; rfl
 obtain ⟨e1,e2⟩:=opn_x2 (e:=false) hx0 rfl (by rw [hx2]; decide)
 exact ⟨by rw [e1,hx2],e2,hcs⟩
theorem se_other {w0 w:World} {K:DK} {D:DS} {J:LK} {G:GK} {S:LS} {V:GV} (h:SE w0 w K D J G S V) {k key C:List Int} (hk:key.length = 32) (hkb:InB key) (s:ByteArray) (hs:s.size <= 100) (lv:Int) (cp:Nat) (hC:ctxL s lv cp = C) {v:Nat} {R:List (List Int × Nat)} (hg:DG D k C v R) (hn:opensL key C v 0 1 (sealsL k C 0 R) = none) (ho:D.off = false) (hw:D.writes <= 1152921504606846976) :
 Calls Tryz.prog 17 #[.pointer (some ⟨K.g,0,none⟩),.agg (u8s key),.string s,.agg #[.int .i64 lv,.int .u64 (cp:Nat)]] w fun e w' => e = .returned (.tuple #[.pointer none,.int .i64 9]) /\ SE w0 w' K D J G S V:=by
 subst hC
 obtain ⟨cs,Rr,e,hr⟩:=reads_all _ (logL D) (Nat.le_refl _)
 obtain ⟨q1,q2,q3⟩:=open_bad hg ho hr hn
 refine (open_any h.sd.dsk hg.n9 hw key hk hkb s hs lv cp hr (by rw [q3]; exact seals_short _ _ _ _ _ _ hg.ris) h.sd.lw h.sd.kt h.sd.kl).mono ?_
 rintro ee w' ⟨p,rfl,hd,hc,hS⟩
 unfold SgW at hS
 rw [if_neg (by rw [q1]; decide)] at hS
 cases hS
 rw [q2] at hd
 rw [q1]
 exact ⟨rfl,h.disk hd hc⟩
theorem se_epoch {w0 w:World} {K:DK} {D:DS} {J:LK} {G:GK} {S:LS} {V:GV} (h:SE w0 w K D J G S V):Calls Tryz.prog 23 #[G.ptr] w fun e w' => e = .returned (.int .i64 (V.ep:Nat)) /\ w = w':=epoch_any h.sg
theorem se_texts {w0 w:World} {K:DK} {D:DS} {J:LK} {G:GK} {S:LS} {V:GV} (h:SE w0 w K D J G S V) (hN:V.T.length <= 16384):Calls Tryz.prog 19 #[G.ptr] w fun e w' => ∃ g,e = .returned (.slice (some ⟨g,0,none⟩) V.T.length V.T.length) /\ Slt.Rows w.heap.size V.T V.T.length V.T.length g w' /\ SE w0 w' K D J G S V /\ Below w.heap.size w w' :=
 (texts_any h.sg hN).mono fun _ _ ⟨g,e,hr,hb⟩ => ⟨g,e,hr,h.later hb,hb⟩
theorem se_append {w0 w:World} {K:DK} {D:DS} {J:LK} {G:GK} {S:LS} {V:GV} (h:SE w0 w K D J G S V) (A:Option Addr) (n c:Nat) (t:List Int) (htl:t.length = n) (hB:Byt w A c t) (hA:0 < t.length -> ∀ a,A = some a -> a.block ∉ K.bl /\ a.block ∉ J.bl /\ a.block ∉ G.bl) (ht:InB t) (hn:n <= 131068) (hN:V.T.length <= 16384) (hend:S.from_ + S.secs <= D.secs) (hw:D.writes <= 576460752303423488) :
 Calls Tryz.prog 24 #[G.ptr,.slice A n c] w fun e w' => e = .returned (.int .i64 (appG D S V t).2.2.2) /\ ∃ J' G',G'.g = G.g /\ SE w0 w' K (appG D S V t).1 J' G' (appG D S V t).2.1 (appG D S V t).2.2.1 /\ Chg (K.bl ++ J.bl ++ G.bl) w w' /\ (∀ q ∈ K.bl ++ J.bl ++ G.bl,w0.heap.size <= q) /\ AR w K J G (K.bl ++ J.bl ++ G.bl) (appG D S V t).1 (appG D S V t).2.1 (appG D S V t).2.2.1 J' G' w':=by
 refine (gappend_any h.sg h.sd.dsk A n c t htl hB hA ht (by omega) hN h.sd.lw hend hw).mono ?_
 rintro e w' ⟨rfl,J',G',hR⟩
 have hsz:=h.sd.low.size
 have hX:∀ q ∈ K.bl ++ J.bl ++ G.bl,w0.heap.size <= q:=fun q hq => by
  rcases List.mem_append.1 hq with hq | hq
  . rcases List.mem_append.1 hq with hq | hq
    . exact h.sd.kb q hq
    . exact h.jn q hq
  . exact h.gn q hq
 refine ⟨rfl,J',G',hR.gg,⟨h.sd.chg hR.dsk hR.chg hX,hR.sg,fun q hq => ?_,fun q hq => ?_,fun q hq => ?_,fun q hq => ?_⟩,hR.chg,hX,hR⟩
 . exact (hR.jbl q hq).elim (h.jn q) (fun h2 => Nat.le_trans hsz h2)
 . exact (hR.jtx q hq).elim (h.jt q) (fun h2 => Nat.le_trans hsz h2)
 . exact (hR.gbl q hq).elim (h.gn q) (fun h2 => Nat.le_trans hsz h2)
 . exact (hR.gtx q hq).elim (h.gt q) (fun h2 => Nat.le_trans hsz h2)
end Go.Proofs.YteeghgjkjicjoaaGreatDoor.Sgm
namespace Go.Proofs.YteeghgjkjicjoaaGreatDoor.Sgm
open Go.RowKit
def kOne:List Int:=[1,0,0,0,0,0,0,0,0,0,0,0,0,0,0,0,0,0,0,0,0,0,0,0,0,0,0,0,0,0,0,0]
def kTwo:List Int:=[2,0,0,0,0,0,0,0,0,0,0,0,0,0,0,0,0,0,0,0,0,0,0,0,0,0,0,0,0,0,0,0]
theorem kOne_in:InB kOne:=inB_of (by decide)
theorem kTwo_in:InB kTwo:=inB_of (by decide)
def mainS:ByteArray:={ data:=#[109,97,105,110] }
def mainC:List Int:=[4,109,97,105,110,2,0,0,0,0,0,0,0,0]
theorem mainC_eq:ctxL mainS 2 0 = mainC:=by kernel_rfl
def oEnc:List Int:=[172,26,211,94,17,155,170,48,52,121,129,214,68,113,8,93,186,118,15,56,33,81,32,205,252,50,230,12,67,120,169,113]
def oTagA:List Int:=[246,238,7,90,142,172,187,115,4,205,115,134,247,126,226,43,228,120,131,242,185,182,230,51,216,250,124,88,60,105,84,51]
def oTagB:List Int:=[222,197,35,146,97,203,188,182,141,156,125,78,20,98,84,202,178,41,81,141,84,163,101,8,132,213,134,54,212,229,197,129]
def oBody:List Int:=[132,13,115,145,141,166,170,48,34,131,162,6,66,218,78,138,201,19,140,228,3,239,132,92,150,41,181,156,127,237,147,103,9,44,231,35,10,120,248,237,156,202,245,105,198,186,84,177,60,43,70,169,253,179,181,23,101,11,238,8,146,51,223,95]
def oT1:List Int:=[73,227,151,9,91,137,200,67,103,123,221,18,51,64,72,48,67,144,20,37,143,178,179,70,254,165,177,211,229,35,252,11]
def oT2:List Int:=[121,60,253,234,235,222,178,117,161,196,33,110,72,43,31,87,31,191,247,203,119,115,126,171,57,197,102,175,218,122,17,20]
theorem o1:Seal.keyL kOne Seal.encName mainC = oEnc:=by kernel_rfl
theorem o2:Seal.keyL kOne Seal.tagName mainC = oTagA:=by kernel_rfl
theorem o3:Seal.keyL kTwo Seal.tagName mainC = oTagB:=by kernel_rfl
theorem o4:Cha.streamL oEnc 1 (Seal.nonceL 0 1) (Seal.padL [97,98]) = oBody:=by kernel_rfl
theorem o5:hmacL oTagA (Seal.taggedL mainC 0 1 oBody) = oT1:=by kernel_rfl
theorem o6:hmacL oTagB (Seal.taggedL mainC 0 1 oBody) = oT2:=by kernel_rfl
theorem body_lit:Seal.bodyL kOne mainC 0 1 (Seal.padL [97,98]) = oBody:=by unfold Seal.bodyL; rw [o1,o4]
theorem rec_lit:Seal.sealL kOne mainC 0 1 [97,98] = [0,0,0,1] ++ oBody ++ oT1:=by
 unfold Seal.sealL
 rw [body_lit]
 unfold Seal.tagL
 rw [o2,o5]
 rfl
theorem other_none:Seal.openL kTwo mainC 0 (Seal.sealL kOne mainC 0 1 [97,98]) = none:=by
 rw [rec_lit]
 refine Seal.openL_no2 (q:=64) (E:=1) (by decide) (by decide) ?_
 have e1:(([0,0,0,1] ++ oBody ++ oT1).drop 4).take 64 = oBody:=by decide
 have e2:([0,0,0,1] ++ oBody ++ oT1).drop (4 + 64) = oT1:=by decide
 rw [e1,e2]
 unfold Seal.tagL
 rw [o3,o6]
 decide
end Go.Proofs.YteeghgjkjicjoaaGreatDoor.Sgm
namespace Go.Proofs.YteeghgjkjicjoaaGreatDoor.Slt
open Go.RowKit Dsk
theorem rsame_any {w:World} (A A2:Option Addr) (n m c c2:Nat) (L M:List (List Int)) (hn:L.length = n) (hm:M.length = m) (h1:TxAt w A L) (h2:TxAt w A2 M) (hn1:n <= 9223372036854775807) (hm1:m <= 9223372036854775807) :
 Calls Tryz.prog 52 #[.slice A n c,.slice A2 m c2] w fun e w' => e = .returned (.bool (decide (L = M))) /\ Below w.heap.size w w':=by
 have H1:=lhd h1
 have H2:=lhd h2
 have Hn:=lhd hn
 have Hm:=lhd hm
 by_cases hnm:n = m
 . subst hnm
   clear h1 h2 hn hm hm1
   go_enter Tryz.func52,Tryz.ntmps52
   go_wp2
   go_loopw [5] (fun v wr => ∃ i:Nat,i <= n /\ v = .int .i64 i /\ Hid (∀ j,j < i -> L.getD j [] = M.getD j []) /\ Hid (Below w.heap.size w wr)) (fun v _ => n - (intOf v).toNat)
   case atStart => exact ⟨0,Nat.zero_le _,rfl,fun j hj => absurd hj (Nat.not_lt_zero _),Below.refl _ _⟩
   case round =>
    obtain ⟨i,hi,rfl,hj,hr⟩:=hrel
    by_cases hlt:i < n
    . have hltI:(i:Int) < (n:Int):=by omega
      obtain ⟨g,off,B,cb,rfl,hg,hc,hB,hi1⟩:=H1.out.at_ i (by rw [Hn.out]; exact hlt)
      obtain ⟨g2,off2,B2,cb2,rfl,hg2,hc2,hB2,hi2⟩:=H2.out.at_ i (by rw [Hm.out]; exact hlt)
      have hcr:=(hr.out.cell (p:=⟨g,off + i,none⟩) hg).trans hc
      have hcr2:=(hr.out.cell (p:=⟨g2,off2 + i,none⟩) hg2).trans hc2
      have k1:=fun a => Str.conv_any (w:=wr.drewN a) ((hB.below hr.out (Nat.le_refl _)).below (Below.drewN (Below.refl _ _) a) (Nat.le_refl _)) rfl
      have k2:=fun a => Str.conv_any (w:=wr.drewN a) ((hB2.below hr.out (Nat.le_refl _)).below (Below.drewN (Below.refl _ _) a) (Nat.le_refl _)) rfl
      have Hne:=lhd (texts_ne hi1 hi2)
      obtain ⟨T1,hT1⟩:∃ T,T = strOfNums (L.getD i []):=⟨_,rfl⟩
      obtain ⟨T2,hT2⟩:∃ T,T = strOfNums (M.getD i []):=⟨_,rfl⟩
      obtain ⟨l1,hl1⟩:∃ l,l = (L.getD i []).length:=⟨_,rfl⟩
      obtain ⟨l2,hl2⟩:∃ l,l = (M.getD i []).length:=⟨_,rfl⟩
      rw [<- hT1,<- hl1] at k1
      rw [<- hT2,<- hl2] at k2
      rw [<- hl1] at hcr
      rw [<- hl2] at hcr2
      rw [<- hT1,<- hT2] at Hne
      have HT1:=lhd hT1
      have HT2:=lhd hT2
      clear hc hc2 hB hB2 hi1 hi2 hT1 hT2 hl1 hl2
      by_cases he:L.getD i [] = M.getD i []
      . have hT:T1 = T2:=by rw [HT1.out,HT2.out,he]
        subst hT
        go_upto_region 6 with (fail)
        go_quiet (fail)
        go_wp2
        refine ⟨⟨i + 1,by omega,by go_num,?_,?_⟩,by simp [intOf]; omega⟩
        . intro j hj1
          by_cases hji:j = i
          . subst hji; exact he
          . exact hj.out j (by omega)
        . exact Below.drewN hr.out _
      . have hT:=Hne.out he
        go_upto_region 6 with (fail)
        go_quiet (fail)
        go_wp2
        go_ret
        refine ⟨by rw [decide_eq_false (lists_ne he)]; rfl,Below.drewN hr.out _⟩
    . have hltI:¬ (i:Int) < (n:Int):=by omega
      obtain rfl:i = n:=by omega
      go_wp2
      go_ret
      refine ⟨by rw [decide_eq_true (lists_eq (by rw [Hn.out,Hm.out]) (fun j hj' => hj.out j (by rw [<- Hn.out]; exact hj')))]; rfl,hr.out⟩
 . have hnI:¬ (n:Int) = (m:Int):=by omega
   clear h1 h2 hn hm
   go_enter Tryz.func52,Tryz.ntmps52
   go_wp2
   go_ret
   refine ⟨?_,Below.refl _ _⟩
   have e:decide (L = M) = false:=decide_eq_false (fun e => hnm (by rw [<- Hn.out,<- Hm.out,e]))
   rw [e]
   rfl
end Go.Proofs.YteeghgjkjicjoaaGreatDoor.Slt
namespace Go.Proofs.YteeghgjkjicjoaaGreatDoor.Sgm
open Go.RowKit Dsk Slt Epo
theorem lsame_any {w:World} (A A2:Option Addr) (n m c c2:Nat) (L M:List (List Int)) (hn:L.length = n) (hm:M.length = m) (h1:TxAt w A L) (h2:TxAt w A2 M) (hn1:n <= 9223372036854775807) (hm1:m <= 9223372036854775807) :
 Calls Tryz.prog 22 #[.slice A n c,.slice A2 m c2] w fun e w' => e = .returned (.bool (decide (L = M))) /\ Below w.heap.size w w':=by
 have Hs:=lhd (rsame_any A A2 n m c c2 L M hn hm h1 h2 hn1 hm1)
 obtain ⟨b,hb⟩:∃ b,b = decide (L = M):=⟨_,rfl⟩
 rw [<- hb] at Hs ⊢
 clear hn hm h1 h2 hb
 go_enter Tryz.func22,Tryz.ntmps22
 go_wp2_with (go_at_call 52; refine Hs.out.mono ?_; rintro e w2 ⟨rfl,hb2⟩; have Hb2:=lhd hb2; clear hb2)
 go_ret
 exact ⟨rfl,Hb2.out⟩
theorem rows_tx {w:World} {B g:Nat} {L:List (List Int)} (h:Slt.Rows B L L.length L.length g w) (hi:∀ t ∈ L,InB t):TxAt w (some ⟨g,0,none⟩) L:=⟨fun i hl => by
 obtain ⟨⟨C,hC,_,hx⟩,_⟩:=h
 obtain ⟨v,hv,⟨A,c,rfl,hB⟩,_⟩:=hx i hl
 refine ⟨g,0,A,c,rfl,(Array.getElem?_eq_some_iff.1 hC).1,by rw [Nat.zero_add,cell_row hC,hv],hB,hi _ ?_⟩
 rw [List.getD_eq_getElem?_getD,List.getElem?_eq_getElem hl,Option.getD_some]
 exact List.getElem_mem _⟩
end Go.Proofs.YteeghgjkjicjoaaGreatDoor.Sgm
