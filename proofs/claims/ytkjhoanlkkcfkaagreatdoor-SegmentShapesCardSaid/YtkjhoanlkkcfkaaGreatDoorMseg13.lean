/- DERIVED. Texts of ours, merged: XSealOpen XSealAwake XLaw XLawCard XLawBytes XLawHash XSealLaid XSealBuckets. -/
import Derived.Test.YtkjhoanlkkcfkaaGreatDoorMseg12
import Derived.Lib.SlBytesConst
import Derived.Test.YtkjhoanlkkcfkaaGreatDoorProg
import Derived.Test.YtkjhoanlkkcfkaaGreatDoorChecked
import Derived.Test.YtkjhoanlkkcfkaaGreatDoorRows
import Derived.Test.YtkjhoanlkkcfkaaGreatDoorMseg1
import Derived.ProofKit
import Derived.OpenShut
import Derived.Deep.DeepHandedRow
import Derived.Lib.LaidTab
import Derived.ChangeMaps5
import Derived.WideKeyArr2
import Derived.Test.YtkjhoanlkkcfkaaGreatDoorCards
import Derived.Test.YtkjhoanlkkcfkaaGreatDoorTie
/- DERIVED. The contract of seal.Open (mkopen.py writes this text). -/
namespace Go.Proofs.YtkjhoanlkkcfkaaGreatDoor.Seal
open Go.RowKit
/-- what Open answers. -/
def OpenQ (r : Option (List Int × Nat)) (e : Ending) (w' : World) : Prop := match r with
  | none => e = .returned (.tuple #[.slice none 0 0, .int .u32 0, .int .i64 9])
  | some x => ∃ v, e = .returned (.tuple #[v, .int .u32 (x.2 : Nat), .int .i64 0]) ∧ SlB x.1 v w'
theorem open_bad (k : List Int) (sl : Value) (pos ep0 : Nat) (A2 : Option Addr) (m c2 : Nat) (hm : m ≤ 200000) (hb : ¬ isBk ((m : Int) - 36)) (w : World) :
    Calls Tryz.prog 82 #[.agg (u8s k), .agg #[sl, .int .u64 (pos : Nat), .int .u32 (ep0 : Nat)], .slice A2 m c2] w fun e w' => e = .returned (.tuple #[.slice none 0 0, .int .u32 0, .int .i64 9]) ∧ Below w.heap.size w w' := by
  obtain ⟨x, hx⟩ : ∃ x : Int, x = (m : Int) - 36 := ⟨_, rfl⟩
  have hx1 : (m : Int) - 4 - 32 = x := by omega
  have hx2 : -36 ≤ x := by omega
  have hx3 : x ≤ 200000 := by omega
  have hmI : (m : Int) ≤ 200000 := by omega
  have hb2 : Hid (∀ w, Calls Tryz.prog 109 #[.int .i64 x] w fun e w' => e = .returned (.bool false) ∧ w = w') := fun w => by
    have h := isBucket_any x hx2 (by omega) w
    rwa [decide_eq_false (by rw [hx]; exact hb)] at h
  have HX := Lib.hid (below_two w (.cells (u8s k) 24) (.cells #[sl, .int .u64 (pos : Nat), .int .u32 (ep0 : Nat)] 110))
  clear hm hx hb
  go_enter Tryz.func82, Tryz.ntmps82
  go_wp2_with (go_at_call 109; refine (hb2.out _).mono ?_; rintro e w' ⟨rfl, rfl⟩)
  go_ret3
  exact ⟨rfl, HX.out⟩
theorem openL_no1 {k C S : List Int} {pos : Nat} (h : ¬ isBk ((S.length : Int) - 36)) : openL k C pos S = none := by unfold openL; rw [if_neg h]
theorem openL_no2 {k C S : List Int} {pos q E : Nat} (hq : S.length = 36 + q) (hE : be4 S = E) (h : tagL k C pos E ((S.drop 4).take q) ≠ S.drop (4 + q)) : openL k C pos S = none := by
  unfold openL
  split
  · rw [if_neg]
    rw [hE, Int.toNat_natCast, hq, show 36 + q - 36 = q by omega, show 36 + q - 32 = 4 + q by omega]
    exact h
  · rfl
theorem openL_yes {k C S : List Int} {pos q E : Nat} (hb : isBk ((S.length : Int) - 36)) (hq : S.length = 36 + q) (hE : be4 S = E) (h : tagL k C pos E ((S.drop 4).take q) = S.drop (4 + q)) : openL k C pos S = (unpad (bodyL k C pos E ((S.drop 4).take q))).map fun L => (L, E) := by
  unfold openL
  rw [if_pos hb, hE, Int.toNat_natCast, hq, show 36 + q - 36 = q by omega, show 36 + q - 32 = 4 + q by omega, if_pos h]
set_option maxRecDepth 100000 in
set_option maxHeartbeats 8000000 in
theorem open_in (k C S : List Int) (pos ep0 q : Nat) (A A2 : Option Addr) (n c m c2 : Nat) (w : World) (hk : k.length = 32) (hb : InB k) (hC : C.length = n) (hCb : InB C) (hn : n ≤ 1000) (hS : S.length = m) (hSb : InB S) (hm : m = 36 + q) (hbk : isBk (q : Int)) (hp : pos < 18446744073709551616) (hB1 : Byt w A c C) (hB2 : Byt w A2 c2 S) (hLd : SLaid w) :
    Calls Tryz.prog 82 #[.agg (u8s k), .agg #[.slice A n c, .int .u64 (pos : Nat), .int .u32 (ep0 : Nat)], .slice A2 m c2] w fun e w' => OpenQ (openL k C pos S) e w' ∧ Below w.heap.size w w' := by
  obtain ⟨r, hr⟩ : ∃ r, r = openL k C pos S := ⟨_, rfl⟩
  rw [← hr]
  have hbq := isBk_pos hbk
  have hq1 : 64 ≤ q := by omega
  have hq2 : q ≤ 131072 := by omega
  have hE4 := be4_in hSb
  obtain ⟨E, hE⟩ : ∃ E : Nat, be4 S = E := ⟨(be4 S).toNat, by omega⟩
  obtain ⟨B, hB⟩ : ∃ B, B = (S.drop 4).take q := ⟨_, rfl⟩
  obtain ⟨TD, hTD⟩ : ∃ TD, TD = S.drop (4 + q) := ⟨_, rfl⟩
  obtain ⟨TT, hTT⟩ : ∃ TT, TT = tagL k C pos E B := ⟨_, rfl⟩
  obtain ⟨DD, hDD⟩ : ∃ DD, DD = bodyL k C pos E B := ⟨_, rfl⟩
  have hBl : B.length = q := by rw [hB, List.length_take, List.length_drop, hS]; omega
  have hBin : InB B := by rw [hB]; exact (hSb.drop _).take _
  have HBq : Hid (B.length = q ∧ InB B) := ⟨hBl, hBin⟩
  have HTl : Hid (TT.length = 32 ∧ InB TT) := ⟨by rw [hTT]; exact tagL_length _ _ _ _ _, by rw [hTT]; exact tagL_in _ _ _ _ _⟩
  have HTD : Hid (TD.length = 32 ∧ InB TD) := ⟨by rw [hTD, List.length_drop, hS]; omega, by rw [hTD]; exact hSb.drop _⟩
  have HDl : Hid (64 ≤ DD.length ∧ DD.length ≤ 131072 ∧ InB DD) := ⟨by rw [hDD, bodyL_length, hBl]; exact hq1, by rw [hDD, bodyL_length, hBl]; exact hq2, by rw [hDD]; exact bodyL_in hBin⟩
  have HTT : Hid (tagL k C pos E B = TT) := hTT.symm
  have HDD : Hid (bodyL k C pos E B = DD) := hDD.symm
  have HNo : Hid (TT ≠ TD → r = none) := fun h => by rw [hr]; exact openL_no2 (hS.trans hm) hE (by rw [← hB, ← hTT, ← hTD]; exact h)
  have HYes : Hid (TT = TD → r = (unpad DD).map fun L => (L, E)) := fun h => by
    rw [hr, openL_yes (by rw [hS, hm]; rw [show ((36 + q : Nat) : Int) - 36 = q by omega]; exact hbk) (hS.trans hm) hE (by rw [← hB, ← hTT, ← hTD]; exact h), ← hB, hDD]
  have HpE : Hid (pos < 18446744073709551616 ∧ E < 4294967296) := ⟨hp, by omega⟩
  have Hk : Hid (k.length = 32 ∧ InB k) := ⟨hk, hb⟩
  have HCC : Hid (C.length = n ∧ InB C) := ⟨hC, hCb⟩
  have hmc : m ≤ c2 := by rw [← hS]; exact hB2.1
  obtain ⟨g, off, rfl, _, _⟩ := hB2.2.2 (by omega)
  have HBb0 : Hid (∀ w', Below w.heap.size w w' → Byt w' (some ⟨g, off + 4, none⟩) (c2 - 4) B) := fun w' h => by rw [hB]; exact byt_sub (hB2.below h (Nat.le_refl _)) 4 q (by omega) (by omega)
  have HTDb0 : Hid (∀ w', Below w.heap.size w w' → Byt w' (some ⟨g, off + (4 + q), none⟩) (c2 - (4 + q)) TD) := fun w' h => by
    have h2 := byt_sub (hB2.below h (Nat.le_refl _)) (4 + q) 32 (by omega) (by omega)
    rwa [List.take_of_length_le (by rw [List.length_drop]; omega), ← hTD] at h2
  have HRd : Hid (∀ w', Below w.heap.size w w' → Calls Tryz.prog 110 #[.slice (some ⟨g, off, none⟩) 4 c2] w' fun e w'' => e = .returned (.int .u32 (E : Nat)) ∧ Below w'.heap.size w' w'') := fun w' h => by
    have h2 := read_any (some ⟨g, off, none⟩) 4 c2 S w' (hB2.below h (Nat.le_refl _)) (Nat.le_refl _) (by omega) hSb
    rwa [hE] at h2
  have HIs : Hid (∀ w, Calls Tryz.prog 109 #[.int .i64 (q : Nat)] w fun e w' => e = .returned (.bool true) ∧ w = w') := fun w => by
    have h := isBucket_any (q : Nat) (by omega) (by omega) w
    rwa [decide_eq_true hbk] at h
  have HC0 := Lib.hid hB1
  have HLD0 := Lib.hid hLd
  have HsK0 : Hid ((Tryz.prog.info? 24).map (·.size) = some (u8s k).size) := by show _ = _; rw [u8s_size, hk]; exact infoH
  have hx1 : (m : Int) - 4 - 32 = q := by omega
  have hmI : (m : Int) ≤ 131108 := by omega
  have h4c : (4 : Int) ≤ c2 := by omega
  have h4m : (4 : Int) ≤ m := by omega
  have hlow0 := below_two w (.cells (u8s k) 24) (.cells #[.slice A n c, .int .u64 (pos : Nat), .int .u32 (ep0 : Nat)] 110)
  have hK0 := (two_new w (.cells (u8s k) 24) (.cells #[.slice A n c, .int .u64 (pos : Nat), .int .u32 (ep0 : Nat)] 110)).1
  have hP0 := (two_new w (.cells (u8s k) 24) (.cells #[.slice A n c, .int .u64 (pos : Nat), .int .u32 (ep0 : Nat)] 110)).2
  have Hlow0 := Lib.hid hlow0
  have HK0 := Lib.hid hK0
  have HP0 := Lib.hid hP0
  have Hmq := Lib.hid hm
  clear hr hbq hE4 hE hB hTD hTT hDD hBl hBin hk hb hC hCb hS hSb hbk hp hB1 hB2 hLd hlow0 hK0 hP0 hm
  go_enter Tryz.func82, Tryz.ntmps82
  go_upto_region 4 with (go_at_call 109; refine (HIs.out _).mono ?_; rintro e w' ⟨rfl, rfl⟩)
  generalize World.alloc _ _ = w0 at Hlow0 HK0 HP0 ⊢
  have Hrd := Lib.hid (HRd.out w0 Hlow0.out)
  clear HRd HIs
  have hgP : ∀ w1 : World, Below w0.heap.size w0 w1 → w1.cell? ⟨w.heap.size + 1, 2, none⟩ = some (.int .u32 (ep0 : Nat)) ∧ w1.frozen? ⟨w.heap.size + 1, 2, none⟩ = false := fun w1 h => by
    have hb := (h.block _ (Array.getElem?_eq_some_iff.1 HP0.out).1).trans HP0.out
    exact ⟨by rw [cell_row hb]; rfl, free_row hb 2⟩
  have HgP := Lib.hid hgP
  clear hgP
  go_upto_region 5 with (go_at_call 110; refine Hrd.out.mono ?_; rintro e w1 ⟨rfl, hb1⟩; have cP := (HgP.out _ hb1).1; have fP := (HgP.out _ hb1).2; have Hb1 := Lib.hid hb1; clear hb1)
  have hb01 : Below w0.heap.size w0 w1 := Hb1.out
  have hlow1 : Below w.heap.size w w1 := Hlow0.out.trans (hb01.mono Hlow0.out.size)
  have hP1 := heap_setCell_same w1 (w.heap.size + 1) 2 _ _ (.int .u32 (E : Nat)) ((hb01.block _ (Array.getElem?_eq_some_iff.1 HP0.out).1).trans HP0.out)
  have hK1 : (w1.setCell ⟨w.heap.size + 1, 2, none⟩ (.int .u32 (E : Nat))).heap[w.heap.size]? = some (.cells (u8s k) 24 (0, 0)) := by
    have h1 := ((Chg.refl [w.heap.size + 1] w1).setCell (p := ⟨w.heap.size + 1, 2, none⟩) (by simp) (.int .u32 (E : Nat)))
    exact (h1.block _ (Nat.lt_of_lt_of_le (Array.getElem?_eq_some_iff.1 HK0.out).1 hb01.size) (by simp)).trans ((hb01.block _ (Array.getElem?_eq_some_iff.1 HK0.out).1).trans HK0.out)
  have hlow1' : Below w.heap.size w (w1.setCell ⟨w.heap.size + 1, 2, none⟩ (.int .u32 (E : Nat))) := Below.setCell (p := ⟨w.heap.size + 1, 2, none⟩) hlow1 (by simp) _
  clear hb01 hlow1 Hb1 cP fP Hrd HgP HP0 HK0 Hlow0
  generalize World.setCell _ _ _ = w2 at hP1 hK1 hlow1' ⊢
  have hgm : 4 + (q : Int) ≤ m := by have := Hmq.out; omega
  have hgc : 4 + (q : Int) ≤ c2 := by omega
  have h04 : 0 ≤ 4 + (q : Int) := by omega
  have h44 : (4 : Int) ≤ 4 + (q : Int) := by omega
  have hT4 : (4 + (q : Int)).toNat = 4 + q := by omega
  have hc4 : ¬ c2 = 4 := by omega
  have hcc : ¬ c2 = 4 + q := by have := Hmq.out; omega
  have hcc2 : ¬ 4 + q = c2 := by have := Hmq.out; omega
  have hmm : m - (4 + q) = 32 := by have := Hmq.out; omega
  have HP1 := Lib.hid hP1
  have HK1 := Lib.hid hK1
  have HL1 := Lib.hid hlow1'
  clear hP1 hK1 hlow1'
  go_quiet (fail)
  have hd : Below w2.heap.size w2 (w2.drewN nq) := Below.drewN (Below.refl _ _) nq
  have HK2 : Hid ((w2.drewN nq).heap[w.heap.size]? = some (.cells (u8s k) 24 (0, 0))) := HK1.out
  have HPL2 : Hid ((w2.drewN nq).heap[w.heap.size + 1]? = some (.cells #[.slice A n c, .int .u64 (pos : Nat), .int .u32 (E : Nat)] 110 (0, 0))) := HP1.out
  have HL2 : Hid (Below w.heap.size w (w2.drewN nq)) := HL1.out.trans (hd.mono HL1.out.size)
  clear hd HK1 HP1 HL1
  generalize w2.drewN nq = w2 at HK2 HPL2 HL2 ⊢
  have HC2 := Lib.hid (HC0.out.below HL2.out (Nat.le_refl _))
  have HLD2 := Lib.hid (HLD0.out.later HL2.out)
  have HBb := Lib.hid (HBb0.out _ HL2.out)
  clear hgm hgc h04 h44 hT4 hc4 hcc hcc2 hmm HC0 HLD0 hmI
  go_upto_region 7 with (first
      | (go_at_call 91; refine (tagOf_any k C B pos E A (some ⟨g, off + 4, none⟩) n c q (c2 - 4) w2 Hk.out.1 Hk.out.2 HCC.out.1 HCC.out.2 hn HBq.out.1 HBq.out.2 hq2 HpE.out HC2.out HBb.out HLD2.out).mono ?_; rintro e w5 ⟨rfl, hb5⟩; rw [HTT.out]; have Hb5 := Lib.hid hb5; clear hb5)
      | (refine wpList_store_new rfl (.tmp 12) (.tmp 37) rfl TT HTl.out.1 _ (by rfl) (by rfl) (by rfl) ?_; intro w6 hr6 hb6; have HT6 := Lib.hid hr6; have Hb6 := Lib.hid hb6; clear hr6 hb6)
      | (refine wpList_load_row rfl 24 (.tmp 3) rfl w.heap.size rfl 24 (u8s k) (0, 0) _ HK2.out Tryz.underlying24 rfl HsK0.out ?_)
      | (refine wpList_load_row rfl 110 (.tmp 4) rfl (w.heap.size + 1) rfl 110 #[.slice A n c, .int .u64 (pos : Nat), .int .u32 (E : Nat)] (0, 0) _ HPL2.out Tryz.underlying110 rfl infoP ?_))
  have hl26 : Below w2.heap.size w2 w6 := Hb5.out.trans (Hb6.out.mono Hb5.out.size)
  have HL6 := Lib.hid (HL2.out.trans (hl26.mono HL2.out.size))
  have HC6 := Lib.hid (HC2.out.below hl26 (Nat.le_refl _))
  have HLD6 := Lib.hid (HLD2.out.later hl26)
  have HBb6 := Lib.hid (HBb0.out _ HL6.out)
  have HTD6 := Lib.hid (HTDb0.out _ HL6.out)
  have HK6 := Lib.hid ((hl26.block _ (Array.getElem?_eq_some_iff.1 HK2.out).1).trans HK2.out)
  have HPL6 := Lib.hid ((hl26.block _ (Array.getElem?_eq_some_iff.1 HPL2.out).1).trans HPL2.out)
  clear hl26 Hb5 Hb6 HC2 HLD2 HBb HBb0 HTDb0 HK2 HPL2 HL2
  by_cases htt : TT = TD
  · have HEq : Hid (Calls Tryz.prog 111 #[.slice (some ⟨w5.heap.size, 0, none⟩) 32 32, .slice (some ⟨g, off + (4 + q), none⟩) 32 (c2 - (4 + q))] w6 fun e w' => e = .returned (.bool true) ∧ ∃ q, w' = w6.drewN q) := by
      have hd := HTD6.out
      rw [← htt] at hd
      exact equal_yes TT _ _ 32 _ 32 w6 HTl.out.1 HTl.out.2 (byt_rowF HT6.out HTl.out.1) hd (by decide)
    have hy := HYes.out htt
    have HY := Lib.hid hy
    clear hy HYes HNo htt HTD6 HTD HTl
    cases hu : unpad DD with
    | none =>
      have HU := Lib.hid hu
      clear hu
      go_wp2_with (first
        | (go_at_call 111; refine HEq.out.mono ?_; rintro e w7 ⟨rfl, q7, rfl⟩)
        | (go_at_call 89; refine (ciphered_any k C B pos E A (some ⟨g, off + 4, none⟩) n c q (c2 - 4) _ Hk.out.1 Hk.out.2 HCC.out.1 HCC.out.2 hn HBq.out.1 hq2 HpE.out (HC6.out.below (Below.drewN (Below.refl _ _) q7) (Nat.le_refl _)) (HBb6.out.below (Below.drewN (Below.refl _ _) q7) (Nat.le_refl _)) (HLD6.out.later (Below.drewN (Below.refl _ _) q7))).mono ?_; rintro e w8 ⟨v8, rfl, hs8, hb8⟩; rw [HDD.out] at hs8; obtain ⟨A8, c8, rfl, hs8⟩ := hs8; have Hs8 := Lib.hid hs8; have Hb8 := Lib.hid ((Below.drewN (Below.refl _ _) q7).trans hb8); clear hs8 hb8)
        | (go_at_call 112; refine (unpadded_any A8 DD.length c8 DD w8 rfl HDl.out.1 HDl.out.2.1 Hs8.out HDl.out.2.2).mono ?_; rintro e w9 ⟨he9, hb9⟩; rw [HU.out] at he9; have he9 : e = Ending.returned (.tuple #[.slice none 0 0, .bool false]) := he9; subst he9; have Hb9 := Lib.hid hb9; clear hb9)
        | (refine wpList_load_row rfl 24 (.tmp 3) rfl w.heap.size rfl 24 (u8s k) (0, 0) _ HK6.out Tryz.underlying24 rfl HsK0.out ?_)
        | (refine wpList_load_row rfl 110 (.tmp 4) rfl (w.heap.size + 1) rfl 110 #[.slice A n c, .int .u64 (pos : Nat), .int .u32 (E : Nat)] (0, 0) _ HPL6.out Tryz.underlying110 rfl infoP ?_))
      go_ret3
      refine ⟨?_, HL6.out.trans ((Hb8.out.trans (Hb9.out.mono Hb8.out.size)).mono HL6.out.size)⟩
      rw [HY.out, HU.out]
      rfl
    | some T =>
      have HU := Lib.hid hu
      clear hu
      go_upto_region 12 with (first
        | (go_at_call 111; refine HEq.out.mono ?_; rintro e w7 ⟨rfl, q7, rfl⟩)
        | (go_at_call 89; refine (ciphered_any k C B pos E A (some ⟨g, off + 4, none⟩) n c q (c2 - 4) _ Hk.out.1 Hk.out.2 HCC.out.1 HCC.out.2 hn HBq.out.1 hq2 HpE.out (HC6.out.below (Below.drewN (Below.refl _ _) q7) (Nat.le_refl _)) (HBb6.out.below (Below.drewN (Below.refl _ _) q7) (Nat.le_refl _)) (HLD6.out.later (Below.drewN (Below.refl _ _) q7))).mono ?_; rintro e w8 ⟨v8, rfl, hs8, hb8⟩; rw [HDD.out] at hs8; obtain ⟨A8, c8, rfl, hs8⟩ := hs8; have Hs8 := Lib.hid hs8; have Hb8 := Lib.hid ((Below.drewN (Below.refl _ _) q7).trans hb8); clear hs8 hb8)
        | (go_at_call 112; refine (unpadded_any A8 DD.length c8 DD w8 rfl HDl.out.1 HDl.out.2.1 Hs8.out HDl.out.2.2).mono ?_; rintro e w9 ⟨he9, hb9⟩; rw [HU.out] at he9; obtain ⟨v9, he9, hs9⟩ := he9; subst he9; have Hs9 := Lib.hid hs9; clear hs9; have Hb9 := Lib.hid hb9; clear hb9)
        | (refine wpList_load_row rfl 24 (.tmp 3) rfl w.heap.size rfl 24 (u8s k) (0, 0) _ HK6.out Tryz.underlying24 rfl HsK0.out ?_)
        | (refine wpList_load_row rfl 110 (.tmp 4) rfl (w.heap.size + 1) rfl 110 #[.slice A n c, .int .u64 (pos : Nat), .int .u32 (E : Nat)] (0, 0) _ HPL6.out Tryz.underlying110 rfl infoP ?_))
      have hl69 : Below w6.heap.size w6 w9 := Hb8.out.trans (Hb9.out.mono Hb8.out.size)
      have hP9 := cell_row ((hl69.block _ (Array.getElem?_eq_some_iff.1 HPL6.out).1).trans HPL6.out) 2
      simp only [List.getElem?_toArray, List.getElem?_cons_zero, List.getElem?_cons_succ] at hP9
      have HL9 := Lib.hid (HL6.out.trans (hl69.mono HL6.out.size))
      clear hl69 Hb8 Hb9
      go_quiet (fail)
      go_wp2
      go_ret3
      refine ⟨?_, Below.drewN HL9.out _⟩
      rw [HY.out, HU.out]
      exact ⟨v9, rfl, Hs9.out.later (Below.drewN (Below.refl _ _) _)⟩
  · have HEq : Hid (Calls Tryz.prog 111 #[.slice (some ⟨w5.heap.size, 0, none⟩) 32 32, .slice (some ⟨g, off + (4 + q), none⟩) 32 (c2 - (4 + q))] w6 fun e w' => e = .returned (.bool false) ∧ ∃ q, w' = w6.drewN q) :=
      equal_no TT TD _ _ 32 _ 32 32 w6 HTl.out.1 HTD.out.1 HTl.out.2 HTD.out.2 (byt_rowF HT6.out HTl.out.1) HTD6.out (by decide) htt
    have hy := HNo.out htt
    have HY := Lib.hid hy
    clear hy HYes HNo htt HTD6 HTD HTl
    go_wp2_with (go_at_call 111; refine HEq.out.mono ?_; rintro e w7 ⟨rfl, q7, rfl⟩)
    go_ret3
    refine ⟨?_, Below.drewN HL6.out _⟩
    rw [HY.out]
    rfl
theorem open_any (k C S : List Int) (pos ep0 : Nat) (A A2 : Option Addr) (n c m c2 : Nat) (w : World) (hk : k.length = 32) (hb : InB k) (hC : C.length = n) (hCb : InB C) (hn : n ≤ 1000) (hS : S.length = m) (hSb : InB S) (hm : m ≤ 200000) (hp : pos < 18446744073709551616) (hB1 : Byt w A c C) (hB2 : Byt w A2 c2 S) (hLd : SLaid w) :
    Calls Tryz.prog 82 #[.agg (u8s k), .agg #[.slice A n c, .int .u64 (pos : Nat), .int .u32 (ep0 : Nat)], .slice A2 m c2] w fun e w' => OpenQ (openL k C pos S) e w' ∧ Below w.heap.size w w' := by
  by_cases h : isBk ((m : Int) - 36)
  · have hp := isBk_pos h
    obtain ⟨q, hq⟩ : ∃ q : Nat, m = 36 + q := ⟨m - 36, by omega⟩
    exact open_in k C S pos ep0 q A A2 n c m c2 w hk hb hC hCb hn hS hSb hq (by rwa [hq, show ((36 + q : Nat) : Int) - 36 = q by omega] at h) (by assumption) hB1 hB2 hLd
  · rw [openL_no1 (by rw [hS]; exact h)]
    exact open_bad k _ pos ep0 A2 m c2 hm h w
end Go.Proofs.YtkjhoanlkkcfkaaGreatDoor.Seal
/- DERIVED. What was sealed opens, on lists; the statements' own helpers of layer 11: here, awake. -/
namespace Go.Proofs.YtkjhoanlkkcfkaaGreatDoor.Seal
open Go.RowKit
theorem open_seal (k C L : List Int) (pos ep : Nat) (hL : InB L) (hm : L.length ≤ 131068) (he : ep < 4294967296) : openL k C pos (sealL k C pos ep L) = some (L, ep) := by
  obtain ⟨q, hq⟩ : ∃ q, q = bkt L.length := ⟨_, rfl⟩
  obtain ⟨BB, hBB⟩ : ∃ BB, BB = bodyL k C pos ep (padL L) := ⟨_, rfl⟩
  obtain ⟨TT, hTT⟩ : ∃ TT, TT = tagL k C pos ep BB := ⟨_, rfl⟩
  have hS : sealL k C pos ep L = numL ep 4 ++ (BB ++ TT) := by rw [hTT, hBB]; unfold sealL; rw [List.append_assoc]
  have hBl : BB.length = q := by rw [hBB, bodyL_length, padL_length hm, hq]
  have hTl : TT.length = 32 := by rw [hTT]; exact tagL_length _ _ _ _ _
  have hlen : (numL ep 4 ++ (BB ++ TT)).length = 36 + q := by rw [List.length_append, List.length_append, numL_length, hBl, hTl]; omega
  have hbk : isBk (q : Int) := by rw [hq]; exact bkt_bk hm
  have hd4 : (numL ep 4 ++ (BB ++ TT)).drop 4 = BB ++ TT := by
    rw [List.drop_append_of_le_length (by rw [numL_length]; exact Nat.le_refl _), List.drop_of_length_le (by rw [numL_length]; exact Nat.le_refl _), List.nil_append]
  have hE : be4 (numL ep 4 ++ (BB ++ TT)) = ep := by
    rw [← be4_take, List.take_append_of_le_length (by rw [numL_length]; exact Nat.le_refl _), List.take_of_length_le (by rw [numL_length]; exact Nat.le_refl _), be4_numL _ he]
  have hB : ((numL ep 4 ++ (BB ++ TT)).drop 4).take q = BB := by
    rw [hd4, List.take_append_of_le_length (by omega), List.take_of_length_le (by omega)]
  have hT : (numL ep 4 ++ (BB ++ TT)).drop (4 + q) = TT := by
    rw [← List.drop_drop, hd4, List.drop_append_of_le_length (by omega), List.drop_of_length_le (by omega), List.nil_append]
  rw [hS, openL_yes (by rw [hlen, show ((36 + q : Nat) : Int) - 36 = q by omega]; exact hbk) hlen hE (by rw [hB, hT, hTT]), hB, hBB]
  have e : bodyL k C pos ep (bodyL k C pos ep (padL L)) = padL L := Cha.stream_twice _ _ _ _ (padL_in hL)
  rw [e, unpad_pad L hm]
  rfl
end Go.Proofs.YtkjhoanlkkcfkaaGreatDoor.Seal
/- DERIVED. What every law's frame wants, of any layer: no number of a type is typed. -/
namespace Go.Proofs.YtkjhoanlkkcfkaaGreatDoor
open Go.ChangeShapes Go.WideShapes Go.ChangeAt Go.RowKit
theorem own : ownKnob Tryz.prog.godebug = none := by kernel_rfl
theorem laidOut : laidOutB Tryz.prog = true := by kernel_rfl
theorem trodAll_below {H : Type} {enc : TypeId × Value → H} {W W' : World} (hb : Below W.heap.size W W') : ∀ {ts : List TypeId} {vs : List Value} {ds : List (DataW H)} {ps : List MemPlace},
    (∀ t ∈ ts, Tryz.prog.readableRec t = true ∧ t < Tryz.prog.types.size) → (∀ x ∈ ps, x.block < W.heap.size) → DataW.TrodAll enc Tryz.prog W 0 (fun _ => true) true ts vs ds ps →
    DataW.TrodAll enc Tryz.prog W' 0 (fun b => decide (b < W.heap.size)) true ts vs ds ps
  | [], vs, ds, ps, _, _, h => by
    obtain ⟨rfl, rfl, rfl⟩ := trodAll_nil h
    exact trodAll_mk0
  | t :: ts, vs, ds, ps, ht, hlt, h => by
    obtain ⟨v0, vs0, d0, ds0, p0, q0, rfl, rfl, rfl, h0, r0⟩ := trodAll_cons h
    have h1 := ht t (List.mem_cons_self ..)
    exact trodAll_cons_mk (Below.trod laidOut h1.1 h1.2 h0 hb (fun x hx => hlt x (List.mem_append_left _ hx)))
      (trodAll_below hb (fun t' h' => ht t' (List.mem_cons_of_mem _ h')) (fun x hx => hlt x (List.mem_append_right _ hx)) r0)
/-- a law's end: it answers true, and what came in is as it was. -/
theorem law_post {H : Type} {enc : TypeId × Value → H} {f : Func} {s : ChangeSpec} {W W' : World} {args : Array Value} {ds gs : List (DataW H)} {before : List MemPlace}
    (hW : DataW.Whole enc Tryz.prog f.params.toList s.vars false W args.toList ds gs before) (hv : s.vars = []) (hr : f.resultTypes = #[4])
    (hp : ∀ t ∈ f.params.toList, Tryz.prog.readableRec t = true ∧ t < Tryz.prog.types.size)
    (hs : (s.fn H (ds ++ [])).results = [.lit (.bool true)] ∧ (s.fn H (ds ++ [])).args = ds ∧ (s.fn H (ds ++ [])).vars = []) (hb : Below W.heap.size W W') :
    s.post enc Tryz.prog f false true false false W args (.bool true) W' := by
  have hW' := hW
  obtain ⟨p, q, hA, hV, rfl, _, _⟩ := hW
  rw [hv] at hV
  obtain ⟨rfl, rfl⟩ := trodVars_none hV
  refine ⟨ds, [], p ++ [], [], p, [], hW', ?_, ?_, ?_, hb.frame _, fun h => by cases h⟩
  · rw [hs.1, hr]
    exact trodAll_mk1 (shut_bool Tryz.underlying4 true)
  · rw [hs.2.1]
    exact trodAll_below hb hp (fun x hx => by simpa using hW'.lt x (by simpa using hx)) hA
  · rw [hs.2.2, hv]
    rfl
def fillRow (cs : Array Value) : Obj → Obj
  | .cells _ t frozen => .cells cs t frozen
  | o => o
/-- the number in a value. -/
def numIn : Value → Int
  | .int _ q => q
  | _ => 0
theorem mapM_each {α β : Type} (f : α → Option β) : ∀ (L : List α) (ys : List β), L.mapM f = some ys → ∀ i ∈ L, ∃ y, f i = some y
  | [], _, _, _, h => by cases h
  | a :: L, ys, h, i, hi => by
    rw [List.mapM_cons] at h
    simp only [bind, Option.bind_eq_some_iff, pure, Option.some.injEq] at h
    obtain ⟨y, hy, zs, hzs, _⟩ := h
    rcases List.mem_cons.1 hi with rfl | hi
    · exact ⟨y, hy⟩
    · exact mapM_each f L zs hzs i hi
/-- the readings of an array's cells, one by one. -/
theorem trod_arr {H : Type} {enc : TypeId × Value → H} {W : World} {T E : TypeId} {n : Nat} {k : IntKind} (arr : WideMaps.ArrKey Tryz.prog T E n) (hE : Tryz.prog.underlying E = some (.int k)) {xs : Array Value} (hn : xs.size = n) {d : DataW H} {p : List MemPlace}
    (h : DataW.Trod enc Tryz.prog W 0 (fun _ => true) true T (.agg xs) d p) : ∃ l : List Int, xs = (l.map (Value.int k)).toArray ∧ l.length = n ∧ ∀ j, j < n → (Lit.int k (l.getD j 0)).wf = true := by
  obtain ⟨fuel, hf⟩ := h
  cases fuel with
  | zero => simp [DataW.trod] at hf
  | succ m =>
    rw [DataW.trod_step] at hf
    unfold DataW.trodStep at hf
    simp only [arr.hu, Value.cells] at hf
    rw [if_pos (by rw [arr.size]; simpa using hn)] at hf
    simp only [Option.map_eq_some_iff] at hf
    obtain ⟨ys, hy, _⟩ := hf
    have each : ∀ i, i < n → ∃ a : Int, xs[i]? = some (.int k a) ∧ (Lit.int k a).wf = true := by
      intro i hi
      obtain ⟨y, hy1⟩ := mapM_each _ _ _ hy i (List.mem_range.2 hi)
      obtain ⟨a, ea, _, wa⟩ := DataW.trod_int hE hy1
      rw [arr.one, Nat.mul_one] at ea
      have e2 : xs.toList[i]? = some (.int k a) := by
        have := congrArg (fun l : List Value => l[0]?) ea
        simpa [List.getElem?_take, List.getElem?_drop] using this
      rw [Array.getElem?_toList] at e2
      exact ⟨a, e2, wa⟩
    refine ⟨xs.toList.map numIn, ?_, by rw [List.length_map, Array.length_toList, hn], fun j hj => ?_⟩
    · refine Array.ext_getElem? fun i => ?_
      by_cases hi : i < n
      · obtain ⟨a, ha, _⟩ := each i hi
        rw [ha]
        simp [ha, numIn]
      · rw [Array.getElem?_eq_none (by omega), Array.getElem?_eq_none (by simp; omega)]
    · obtain ⟨a, ha, h0⟩ := each j hj
      simpa [List.getD_eq_getElem?_getD, ha, numIn] using h0
set_option maxRecDepth 100000 in
/-- a parameter that is an array of numbers. -/
theorem open_arr {H : Type} {enc : TypeId × Value → H} {W : World} {base : Nat} {v : Value} {d : DataW H} {p : List MemPlace} {T E : TypeId} {n : Nat} {k : IntKind} (arr : WideMaps.ArrKey Tryz.prog T E n) (hE : Tryz.prog.underlying E = some (.int k)) (hv : Value.okWide Tryz.prog W .any base T v)
    (h : DataW.Trod enc Tryz.prog W 0 (fun _ => true) true T v d p) : ∃ l : List Int, v = .agg (l.map (Value.int k)).toArray ∧ l.length = n ∧ ∀ j, j < n → (Lit.int k (l.getD j 0)).wf = true := by
  obtain ⟨xs, rfl, hn⟩ := WideMaps.okWide_arr arr hv
  obtain ⟨l, rfl, h1, h2⟩ := trod_arr arr hE hn h
  exact ⟨l, rfl, h1, h2⟩
theorem inB_wf {l : List Int} {n : Nat} (hl : l.length = n) (h : ∀ j, j < n → (Lit.int .u8 (l.getD j 0)).wf = true) : InB l := by
  intro j
  by_cases hj : j < n
  · have h2 : 0 ≤ l.getD j 0 ∧ l.getD j 0 ≤ 255 := by simpa [Lit.wf, IntKind.bits, IntKind.signed, IntKind.min, IntKind.max] using h j hj
    omega
  · rw [getD_out _ _ (by omega)]; omega
end Go.Proofs.YtkjhoanlkkcfkaaGreatDoor
/- DERIVED. What the cards ask of a law's parameters (a seat with cards alone). -/
namespace Go.Proofs.YtkjhoanlkkcfkaaGreatDoor
open Go.ChangeShapes Go.WideShapes Go.ChangeAt Go.RowKit
/-- no parameter wants a stand-in: what the cards ask, of a function whose parameters' types are ts. -/
theorem plain_of {b : Bool} {name : String} {n : Nat} {f0 : Func} {ts : List TypeId} (hn : Tryz.prog.funcNamed name = some n) (hf0 : Tryz.prog.funcs[n]? = some f0) (hp : f0.params.toList = ts) (hl : b = Tryz.pinned.checked.prog.looks [])
    (ht : (ts.all fun t => !Tryz.prog.wantsStandIn t) = true) (f : FuncId) (fn : Func) (hf : Tryz.pinned.checked.prog.funcNamed name = some f) (hfn : Tryz.pinned.checked.prog.funcs[f]? = some fn) :
    b = Tryz.pinned.checked.prog.looks [] ∧ ∀ (j : Nat) t, fn.params[j]? = some t → Tryz.pinned.checked.prog.wantsStandIn t = false := by
  obtain rfl : f = n := Option.some.inj (hn.symm.trans hf) |>.symm
  obtain rfl : fn = f0 := (Option.some.inj (hf0.symm.trans hfn)).symm
  refine ⟨hl, fun j t h => ?_⟩
  have hm : t ∈ ts := by rw [← hp]; simpa using Array.mem_of_getElem? h
  have := List.all_eq_true.1 ht t hm
  exact (show Tryz.prog.wantsStandIn t = false by simpa using this)
end Go.Proofs.YtkjhoanlkkcfkaaGreatDoor
/- DERIVED. A parameter []byte, opened. -/
namespace Go.Proofs.YtkjhoanlkkcfkaaGreatDoor
open Go.ChangeShapes Go.WideShapes Go.ChangeAt Go.RowKit
theorem cells5 : Tryz.prog.cellsOf 5 = 1 := by kernel_rfl
set_option maxRecDepth 100000 in
/-- a parameter []byte: the bytes that it reads as. -/
theorem open_bytes {H : Type} {enc : TypeId × Value → H} {W : World} {base : Nat} {v : Value} {d : DataW H} {p : List MemPlace} (hv : Value.okWide Tryz.prog W .any base 38 v)
    (h : DataW.Trod enc Tryz.prog W 0 (fun _ => true) true 38 v d p) : ∃ (A : Option Addr) (c : Nat) (L : List Int), v = .slice A L.length c ∧ InB L ∧ Byt W A c L ∧ L.length ≤ maxLen := by
  obtain ⟨a0, len, cap, rfl⟩ := okWide_slice Tryz.underlying38 hv
  obtain ⟨fuel, hf⟩ := h
  rcases open_ints Tryz.underlying38 Tryz.underlying5 cells5 hf with ⟨hcs, _⟩ | ⟨a, len', cap', zs, hcs, _, hl, hm, hz, _, hcell, hwz⟩
  · simp [Value.cells] at hcs
    obtain ⟨rfl, rfl, rfl⟩ := hcs
    exact ⟨none, 0, [], rfl, fun j => by simp, ⟨Nat.le_refl _, fun _ => rfl, fun h => absurd h (Nat.lt_irrefl 0)⟩, Nat.zero_le _⟩
  · simp [Value.cells] at hcs
    obtain ⟨rfl, rfl, rfl⟩ := hcs
    simp only [if_true] at hz
    have hlen : (zs.take len).length = len := by simp; omega
    refine ⟨some a, cap, zs.take len, by rw [hlen], ?_, ⟨by rw [hlen]; exact hl, (fun h => by cases h), (fun h => ?_)⟩, by rw [hlen]; omega⟩
    · intro j
      by_cases hj : j < len
      · have hj' : j < zs.length := by omega
        have e : (zs.take len).getD j 0 = zs[j] := by simp [List.getD_eq_getElem?_getD, hj, hj']
        have := hwz zs[j] (List.getElem_mem hj')
        have h2 : 0 ≤ zs[j] ∧ zs[j] ≤ 255 := by simpa [Lit.wf, IntKind.bits, IntKind.signed, IntKind.min, IntKind.max] using this
        rw [e]
        omega
      · rw [List.getD_eq_getElem?_getD, List.getElem?_eq_none (by rw [hlen]; exact Nat.le_of_not_lt hj)]; simp
    · rw [hlen] at h
      obtain ⟨b, off, spot⟩ := a
      have hspot : spot = none := by simpa [Addr.add] using World.cell?_spot (hcell 0 (by omega))
      subst hspot
      refine ⟨b, off, rfl, ?_, fun j hj => ?_⟩
      · have := World.block_lt_of_cell? W _ (hcell 0 (by omega))
        simpa [Addr.add] using this
      · rw [hlen] at hj
        rw [← Addr.add_mid, hcell j (by omega)]
        simp [List.getD_eq_getElem?_getD, hj]
end Go.Proofs.YtkjhoanlkkcfkaaGreatDoor
/- DERIVED. A parameter that is an api.Hash, opened: 32 bytes. -/
namespace Go.Proofs.YtkjhoanlkkcfkaaGreatDoor
open Go.ChangeShapes Go.WideShapes Go.ChangeAt Go.RowKit
theorem arrHash : WideMaps.ArrKey Tryz.prog 24 5 32 := ⟨by kernel_rfl, by kernel_rfl, by kernel_rfl, by kernel_rfl⟩
set_option maxRecDepth 100000 in
/-- a parameter that is an api.Hash. -/
theorem open_hash {H : Type} {enc : TypeId × Value → H} {W : World} {base : Nat} {v : Value} {d : DataW H} {p : List MemPlace} (hv : Value.okWide Tryz.prog W .any base 24 v)
    (h : DataW.Trod enc Tryz.prog W 0 (fun _ => true) true 24 v d p) : ∃ l : List Int, v = .agg (u8s l) ∧ l.length = 32 ∧ InB l := by
  obtain ⟨l, rfl, h1, h2⟩ := open_arr arrHash Tryz.underlying5 hv h
  exact ⟨l, rfl, h1, inB_wf h1 h2⟩
end Go.Proofs.YtkjhoanlkkcfkaaGreatDoor
/- DERIVED. What the rows' list of layer 11's three tables gives the walks; a world for the witness; a parameter that is a Place. -/
namespace Go.Proofs.YtkjhoanlkkcfkaaGreatDoor.Seal
open Go.ChangeShapes Go.WideShapes Go.ChangeAt Go.RowKit
theorem gS : Tryz.prog.globalNamed "redwax/sha.startWords" = some 1 := by kernel_rfl
theorem gK : Tryz.prog.globalNamed "redwax/sha.roundWords" = some 2 := by kernel_rfl
theorem gSType : (Tryz.prog.globals[1]?).map (·.type) = some 194 := by kernel_rfl
theorem gKType : (Tryz.prog.globals[2]?).map (·.type) = some 223 := by kernel_rfl
theorem cells23 : Tryz.prog.cellsOf 194 = 8 := by kernel_rfl
theorem cells55 : Tryz.prog.cellsOf 223 = 64 := by kernel_rfl
theorem cells22 : Tryz.prog.cellsOf 47 = 1 := by kernel_rfl
def SW : List Int := [1779033703, 3144134277, 1013904242, 2773480762, 1359893119, 2600822924, 528734635, 1541459225]
theorem gQ : Tryz.prog.globalNamed "redwax/chacha.quarters" = some 0 := by kernel_rfl
theorem gQType : (Tryz.prog.globals[0]?).map (·.type) = some 206 := by kernel_rfl
theorem cellsQ : Tryz.prog.cellsOf 206 = 32 := by kernel_rfl
theorem cellsQ4 : Tryz.prog.cellsOf 205 = 4 := by kernel_rfl
theorem cellsQ1 : Tryz.prog.cellsOf 3 = 1 := by kernel_rfl
/-- the table's four numbers at k. -/
def rowQ (k : Nat) : List Int := [(Cha.qn k 0 : Nat), (Cha.qn k 1 : Nat), (Cha.qn k 2 : Nat), (Cha.qn k 3 : Nat)]
theorem laid_shape : (Rows.laid_redwax_chacha_quarters : DataW Unit) = .agg ((List.range 8).map fun k => Lib.tabData .i64 (rowQ k)) := by rfl
set_option maxRecDepth 100000 in
theorem nested {H : Type} {enc : TypeId × Value → H} {w : World} {base : Nat} {sp : Nat → Bool} {held : Bool} {fuel : Nat} {cs : List Value} {p : List MemPlace}
    (h : DataW.trod enc Tryz.prog w base sp held fuel 206 cs = some (.agg ((List.range 8).map fun k => Lib.tabData .i64 (rowQ k)), p)) : cs = Cha.QW.map (Value.int .i64) := by
  cases fuel with
  | zero => simp [DataW.trod] at h
  | succ fuel =>
    simp only [DataW.trod, Tryz.underlying206, cellsQ4, cellsQ] at h
    split at h
    · rename_i hl
      obtain ⟨xs, hm, hx⟩ := Option.map_eq_some_iff.1 h
      have hxs : xs.map (·.1) = (List.range 8).map fun k => (Lib.tabData .i64 (rowQ k) : DataW H) := by
        have := congrArg Prod.fst hx
        simpa using this
      have each : ∀ k, k < 8 → (cs.drop (k * 4)).take 4 = (rowQ k).map (Value.int .i64) := by
        intro k hk
        obtain ⟨b, hb, hf⟩ := Lib.mapM_at hm k k (by simp [hk])
        have h2 : (xs.map (·.1))[k]? = some b.1 := by simp [hb]
        rw [hxs] at h2
        simp only [List.getElem?_map, List.getElem?_range hk, Option.map_some, Option.some.injEq] at h2
        have hf' : DataW.trod enc Tryz.prog w base sp held fuel 205 ((cs.drop (k * 4)).take 4) = some (Lib.tabData .i64 (rowQ k), b.2) := by rw [hf, h2]
        exact Lib.cells_of_tab Tryz.underlying205 Tryz.underlying3 cellsQ1 cellsQ4 hf'
      have hlen : cs.length = 32 := by simpa using hl
      apply List.ext_getElem?
      intro j
      by_cases hj : j < 32
      · have he := each (j / 4) (by omega)
        have h1 : ((cs.drop (j / 4 * 4)).take 4)[j % 4]? = cs[j]? := by
          rw [List.getElem?_take, if_pos (by omega), List.getElem?_drop, show j / 4 * 4 + j % 4 = j by omega]
        rw [← h1, he]
        have all : ∀ j, j < 32 → (rowQ (j / 4))[j % 4]? = Cha.QW[j]? := by decide
        rw [List.getElem?_map, List.getElem?_map, all j hj]
      · rw [List.getElem?_eq_none (by omega), List.getElem?_eq_none (by simp [Cha.QW, Cha.QN]; omega)]
    · cases h

/-- the rows' list. -/
def laidList : List (String × DataW Unit) := [("redwax/chacha.quarters", Rows.laid_redwax_chacha_quarters), ("redwax/sha.startWords", Rows.laid_redwax_sha_startWords), ("redwax/sha.roundWords", Rows.laid_redwax_sha_roundWords)]
set_option maxRecDepth 100000 in
theorem laid_of {W : World} (h : laidMetH Tryz.prog laidList W) : SLaid W := by
  obtain ⟨ps, ⟨g0, t0, cs0, f0, p0, q0, hg0, ht0, hv0, hd0, ⟨g1, t1, cs1, f1, p1, q1, hg1, ht1, hv1, hd1, ⟨g2, t2, cs2, f2, p2, q2, hg2, ht2, hv2, hd2, _⟩, _⟩, _⟩, _⟩ := h
  obtain rfl := Option.some.inj (gQ.symm.trans hg0)
  obtain rfl := Option.some.inj (gQType.symm.trans ht0)
  obtain rfl := Option.some.inj (gS.symm.trans hg1)
  obtain rfl := Option.some.inj (gSType.symm.trans ht1)
  obtain rfl := Option.some.inj (gK.symm.trans hg2)
  obtain rfl := Option.some.inj (gKType.symm.trans ht2)
  have h1 : Lib.TabIs Tryz.prog W "redwax/sha.startWords" .u32 SW := by
    have hc := Lib.cells_of_tab (zs := SW) Tryz.underlying194 Tryz.underlying47 cells22 cells23 hd1
    unfold Lib.TabIs
    rw [hv1]
    congr 1
    apply Array.ext'
    simpa using hc
  have h2 : Lib.TabIs Tryz.prog W "redwax/sha.roundWords" .u32 KW := by
    have hc := Lib.cells_of_tab (zs := KW) Tryz.underlying223 Tryz.underlying47 cells22 cells55 hd2
    unfold Lib.TabIs
    rw [hv2]
    congr 1
    apply Array.ext'
    simpa using hc
  refine ⟨⟨fun j hj => h2.cell gK j hj, fun j hj => h1.cell gS j hj, ?_⟩, ?_⟩
  · have b1 : 2 < W.heap.size := World.block_lt_of_cell? W _ (h2.cell gK 0 (by decide))
    have b0 : 1 < W.heap.size := World.block_lt_of_cell? W _ (h1.cell gS 0 (by decide))
    unfold lim
    omega
  · rw [laid_shape] at hd0
    have hc := nested hd0
    unfold World.var? at hv0
    rw [gQ] at hv0
    simp only [Option.bind_some] at hv0
    split at hv0
    · rename_i cs t fr hh
      refine ⟨t, fr, ?_⟩
      rw [hh]
      have e : cs = Arr.nums .i64 Cha.QW := by
        have := Option.some.inj hv0
        unfold Arr.nums
        rw [← hc, this]
      rw [e]
    · cases hv0
/-- a world for the witness: the settled one, the three tables laid. -/
noncomputable def laidWorld (os : Os) : World :=
  { World.holding Tryz.prog os ⟨#[], #[], []⟩ with heap := (((World.holding Tryz.prog os ⟨#[], #[], []⟩).heap.modify 1 (fillRow (SW.map (Value.int .u32)).toArray)).modify 2 (fillRow (KW.map (Value.int .u32)).toArray)).modify 0 (fillRow (Cha.QW.map (Value.int .i64)).toArray) }
set_option maxRecDepth 100000 in
theorem bytes_cell {H : Type} {enc : TypeId × Value → H} {W : World} {fuel : Nat} {cs : List Value} {y : DataW H × List MemPlace} (hf : DataW.trod enc Tryz.prog W 0 (fun _ => true) true fuel 38 cs = some y) :
    ∃ (A : Option Addr) (c : Nat) (L : List Int), cs = [.slice A L.length c] ∧ InB L ∧ Byt W A c L ∧ L.length ≤ maxLen := by
  rcases open_ints Tryz.underlying38 Tryz.underlying5 cells5 hf with ⟨hcs, _⟩ | ⟨a, len, cap, zs, hcs, _, hl, hm, hz, _, hcell, hwz⟩
  · exact ⟨none, 0, [], hcs, fun j => by simp, ⟨Nat.le_refl _, fun _ => rfl, fun h => absurd h (Nat.lt_irrefl 0)⟩, Nat.zero_le _⟩
  · simp only [if_true] at hz
    have hlen : (zs.take len).length = len := by simp; omega
    refine ⟨some a, cap, zs.take len, by rw [hlen]; exact hcs, ?_, ⟨by rw [hlen]; exact hl, (fun h => by cases h), (fun h => ?_)⟩, by rw [hlen]; omega⟩
    · intro j
      by_cases hj : j < len
      · have hj' : j < zs.length := by omega
        have e : (zs.take len).getD j 0 = zs[j] := by simp [List.getD_eq_getElem?_getD, hj, hj']
        have := hwz zs[j] (List.getElem_mem hj')
        have h2 : 0 ≤ zs[j] ∧ zs[j] ≤ 255 := by simpa [Lit.wf, IntKind.bits, IntKind.signed, IntKind.min, IntKind.max] using this
        rw [e]
        omega
      · rw [List.getD_eq_getElem?_getD, List.getElem?_eq_none (by rw [hlen]; exact Nat.le_of_not_lt hj)]; simp
    · rw [hlen] at h
      obtain ⟨b, off, spot⟩ := a
      have hspot : spot = none := by simpa [Addr.add] using World.cell?_spot (hcell 0 (by omega))
      subst hspot
      refine ⟨b, off, rfl, ?_, fun j hj => ?_⟩
      · have := World.block_lt_of_cell? W _ (hcell 0 (by omega))
        simpa [Addr.add] using this
      · rw [hlen] at hj
        rw [← Addr.add_mid, hcell j (by omega)]
        simp [List.getD_eq_getElem?_getD, hj]
set_option maxRecDepth 100000 in
theorem cellsPl : Tryz.prog.cellsOf 110 = 3 := by kernel_rfl
theorem cellsSl : Tryz.prog.cellsOf 38 = 1 := by kernel_rfl
theorem cells64 : Tryz.prog.cellsOf 25 = 1 := by kernel_rfl
theorem cells32 : Tryz.prog.cellsOf 47 = 1 := by kernel_rfl
set_option maxRecDepth 100000 in
/-- a parameter that is a Place. -/
theorem open_place {H : Type} {enc : TypeId × Value → H} {W : World} {base : Nat} {v : Value} {d : DataW H} {p : List MemPlace} (hv : Value.okWide Tryz.prog W .any base 110 v)
    (h : DataW.Trod enc Tryz.prog W 0 (fun _ => true) true 110 v d p) : ∃ (A : Option Addr) (c : Nat) (C : List Int) (pos ep : Nat), v = .agg #[.slice A C.length c, .int .u64 (pos : Nat), .int .u32 (ep : Nat)] ∧ InB C ∧ Byt W A c C ∧ C.length ≤ maxLen ∧ pos < 18446744073709551616 ∧ ep < 4294967296 := by
  obtain ⟨cs, rfl, hsz⟩ := okWide_struct Tryz.underlying110 hv
  rw [cellsPl] at hsz
  obtain ⟨fuel, hf⟩ := h
  obtain ⟨xs, n, _, _, _, hlen, hff⟩ := DataW.trod_struct Tryz.underlying110 hf
  obtain ⟨y0, y1, y2, rfl⟩ : ∃ y0 y1 y2, xs = [y0, y1, y2] := by
    match xs, hlen with
    | [a, b, c], _ => exact ⟨a, b, c, rfl⟩
  obtain ⟨u0, u1, u2, rfl⟩ : ∃ u0 u1 u2, cs = #[u0, u1, u2] := by
    match cs, hsz with
    | ⟨[a, b, c]⟩, _ => exact ⟨a, b, c, rfl⟩
  have q0 : DataW.trod enc Tryz.prog W 0 (fun _ => true) true n 38 (List.take (Tryz.prog.cellsOf 38) (List.drop 0 [u0, u1, u2])) = some y0 := hff 0 _ rfl
  have q1 : DataW.trod enc Tryz.prog W 0 (fun _ => true) true n 25 (List.take (Tryz.prog.cellsOf 25) (List.drop 1 [u0, u1, u2])) = some y1 := hff 1 _ rfl
  have q2 : DataW.trod enc Tryz.prog W 0 (fun _ => true) true n 47 (List.take (Tryz.prog.cellsOf 47) (List.drop 2 [u0, u1, u2])) = some y2 := hff 2 _ rfl
  rw [cellsSl] at q0
  rw [cells64] at q1
  rw [cells32] at q2
  obtain ⟨A, c, C, h0, hin, hby, hmx⟩ := bytes_cell q0
  obtain ⟨b, hb, _, hbw⟩ := DataW.trod_int Tryz.underlying25 q1
  obtain ⟨e, he, _, hew⟩ := DataW.trod_int Tryz.underlying47 q2
  simp only [List.drop_zero, List.take_succ_cons, List.take_zero, List.drop_succ_cons, List.cons.injEq, and_true] at h0 hb he
  subst h0 hb he
  have hb2 : 0 ≤ b ∧ b ≤ 18446744073709551615 := by simpa [Lit.wf, IntKind.bits, IntKind.signed, IntKind.min, IntKind.max] using hbw
  have he2 : 0 ≤ e ∧ e ≤ 4294967295 := by simpa [Lit.wf, IntKind.bits, IntKind.signed, IntKind.min, IntKind.max] using hew
  refine ⟨A, c, C, b.toNat, e.toNat, ?_, hin, hby, hmx, by omega, by omega⟩
  rw [Int.toNat_of_nonneg hb2.1, Int.toNat_of_nonneg he2.1]
end Go.Proofs.YtkjhoanlkkcfkaaGreatDoor.Seal
/- DERIVED. The walk of SealBuckets. -/
namespace Go.Proofs.YtkjhoanlkkcfkaaGreatDoor.Seal
open Go.RowKit
set_option maxRecDepth 100000 in
theorem rbucket_any (n : Int) (w : World) : Calls Tryz.prog 70 #[.int .i64 n] w fun e w' => e = .returned (.int .i64 (bktI n)) ∧ w = w' := by
  by_cases h0 : n < 0
  · have e : Hid (0 = bktI n) := by unfold Hid bktI; rw [if_pos (Or.inl h0)]
    go_enter Tryz.func70, Tryz.ntmps70
    go_wp2
    go_ret
    exact ⟨ret_i64 e.out, rfl⟩
  by_cases h1 : 131068 < n
  · have e : Hid (0 = bktI n) := by unfold Hid bktI; rw [if_pos (Or.inr h1)]
    go_enter Tryz.func70, Tryz.ntmps70
    go_wp2
    go_ret
    exact ⟨ret_i64 e.out, rfl⟩
  obtain ⟨m, rfl⟩ : ∃ m : Nat, n = m := ⟨n.toNat, by omega⟩
  have hm : m ≤ 131068 := by omega
  have E : Hid (((bkt m : Nat) : Int) = bktI m) := by unfold Hid bktI; rw [if_neg (by omega), Int.toNat_natCast]
  have h1' : ¬ (131068 < (m : Int)) := by omega
  go_enter Tryz.func70, Tryz.ntmps70
  go_upto_region 4 with (fail)
  go_loopw [3] (fun v wr => ∃ b : Nat, v = .int .i64 b ∧ Hid (BkI m b) ∧ wr = w) (fun v _ => 131072 - (intOf v).toNat)
  case atStart => exact ⟨64, rfl, BkI.start m, rfl⟩
  case round =>
    obtain ⟨b, rfl, hb, rfl⟩ := hrel
    have hle := hb.out.le
    have hps := hb.out.pos
    have hmI : (m : Int) ≤ 131068 := by omega
    have hbI : (b : Int) ≤ 131072 := by omega
    by_cases hlt : b < m + 4
    · have hltI : (b : Int) < (m : Int) + 4 := by omega
      have Hn := Lib.hid (hb.out.next hlt hm)
      have hn2 := Hn.out.le
      have hn2I : 2 * (b : Int) ≤ 131072 := by omega
      go_wp2
      refine ⟨⟨2 * b, by go_num, Hn.out, trivial⟩, by simp [intOf]; omega⟩
    · have hltI : ¬ (b : Int) < (m : Int) + 4 := by omega
      have He := Lib.hid (hb.out.end hlt)
      go_wp2
      go_ret
      exact ⟨ret_i64 (by rw [He.out, E.out]), rfl⟩
end Go.Proofs.YtkjhoanlkkcfkaaGreatDoor.Seal
