/- DERIVED. The reference's May, prefix; the law's of. -/
import Derived.Test.YtmbcojpdigoojaaGreatDoorPthRef2
import Derived.Test.YtmbcojpdigoojaaGreatDoorRulCheckAny
import Derived.Test.YtmbcojpdigoojaaGreatDoorRulLarge
namespace Go.Proofs.YtmbcojpdigoojaaGreatDoor.Rul
open Go.RowKit Lab Pth
theorem may_any (a : Int) (c : Nat) (w : World) : Calls Tryz.prog 24 #[.agg (lab a c)] w fun e w' => e = .returned (.bool (decide (Lab.chk a = 0))) ∧ Below w.heap.size w w' := by
  have low : Below w.heap.size w (w.alloc (.cells (lab a c) 34)) := (Below.refl _ _).alloc (Nat.le_refl _) _
  have h1 := Go.heap_alloc_new w (.cells (lab a c) 34)
  obtain ⟨W1, hW1⟩ : ∃ W1, W1 = w.alloc (.cells (lab a c) 34) := ⟨_, rfl⟩
  rw [← hW1] at h1 low
  have HW1 : Hid (w.alloc (.cells #[.int .i64 a, .int .u64 c] 34) = W1) := hW1.symm
  have c0 := cell_row h1 0
  simp only [List.getElem?_toArray, List.getElem?_cons_zero] at c0
  have L := Lib.hid low
  clear hW1 low h1
  by_cases h0 : 0 ≤ a
  · by_cases h15 : a ≤ 15
    · have HR : Hid (decide (Lab.chk a = 0) = true) := by show _ = _; unfold Lab.chk; rw [if_pos ⟨h0, h15⟩]; rfl
      rw [HR.out]
      go_enter Tryz.func24, Tryz.ntmps24
      go_upto_region 1 with fail
      rw [HW1.out]
      go_wp2
      go_ret
      exact ⟨rfl, L.out⟩
    · have HR : Hid (decide (Lab.chk a = 0) = false) := by show _ = _; unfold Lab.chk; rw [if_neg (by omega)]; rfl
      rw [HR.out]
      go_enter Tryz.func24, Tryz.ntmps24
      go_upto_region 1 with fail
      rw [HW1.out]
      go_wp2
      go_ret
      exact ⟨rfl, L.out⟩
  · have HR : Hid (decide (Lab.chk a = 0) = false) := by show _ = _; unfold Lab.chk; rw [if_neg (by omega)]; rfl
    rw [HR.out]
    go_enter Tryz.func24, Tryz.ntmps24
    go_upto_region 1 with fail
    rw [HW1.out]
    go_wp2
    go_ret
    exact ⟨rfl, L.out⟩
theorem pre_two (s : ByteArray) : Pth.pre s = 0 ∨ Pth.pre s = 15 := by
  unfold Pth.pre Pth.chk
  split
  · exact .inl rfl
  · split
    · exact .inl rfl
    · exact .inr rfl
theorem rprefix_any (s : ByteArray) (w : World) (hs : s.size ≤ 1000) : Calls Tryz.prog 23 #[.string s] w fun e w' => e = .returned (.bool (decide (Pth.pre s = 0))) ∧ Below w.heap.size w w' := by
  by_cases h0 : s.data.toList = []
  · have hl : s.toList = [] := by rw [Lib.toList_data, h0]
    have HR : Hid (decide (Pth.pre s = 0) = true) := by show _ = _; unfold Pth.pre; rw [if_pos h0]; rfl
    rw [HR.out]
    clear h0
    go_enter Tryz.func23, Tryz.ntmps23
    go_wp2
    go_ret
    exact ⟨rfl, Below.refl _ _⟩
  · have hl : s.toList.isEmpty = false := by rw [Lib.toList_data]; cases h : s.data.toList <;> simp_all
    have hl2 : (s.toList == []) = false := by rw [Lib.toList_data]; cases h : s.data.toList <;> simp_all
    have HR : Hid (Pth.pre s = Pth.chk s) := by show _ = _; unfold Pth.pre; rw [if_neg h0]
    rw [HR.out]
    have HC := Lib.hid (fun W => rcheck_any s W hs)
    have htwo : Pth.chk s = 0 ∨ Pth.chk s = 15 := by rw [← HR.out]; exact pre_two s
    clear h0 HR
    obtain ⟨z, hz⟩ : ∃ z, Pth.chk s = z := ⟨_, rfl⟩
    rw [hz] at htwo HC ⊢
    clear hz
    rcases htwo with rfl | rfl
    · go_enter Tryz.func23, Tryz.ntmps23
      go_wp2_with (go_at_call 41; refine (HC.out _).mono ?_; rintro e w' ⟨rfl, hb⟩)
      go_ret
      exact ⟨rfl, hb⟩
    · go_enter Tryz.func23, Tryz.ntmps23
      go_wp2_with (go_at_call 41; refine (HC.out _).mono ?_; rintro e w' ⟨rfl, hb⟩)
      go_ret
      exact ⟨rfl, hb⟩
theorem infoT2 : (Tryz.prog.info? 30).map (·.size) = some 2 := by kernel_rfl
theorem of_any (v : Int) (A : Option Addr) (n c : Nat) (w : World) : Calls Tryz.prog 9 #[.agg (tabV v A n c)] w fun e w' => e = .returned (.agg (tabV v A n c)) ∧ Below w.heap.size w w' := by
  have h2 := two_new w (.cells (tabV v A n c) 24) (.cells (tabV 0 none 0 0) 30)
  have k2 : Below w.heap.size w ((w.alloc (.cells (tabV v A n c) 24)).alloc (.cells (tabV 0 none 0 0) 30)) := ((Below.refl _ _).alloc (Nat.le_refl _) _).alloc (by rw [World.size_alloc]; omega) _
  obtain ⟨W2, hW2⟩ : ∃ W2, W2 = (w.alloc (.cells (tabV v A n c) 24)).alloc (.cells (tabV 0 none 0 0) 30) := ⟨_, rfl⟩
  rw [← hW2] at h2 k2
  have HW2 : Hid ((w.alloc (.cells (tabV v A n c) 24)).alloc (.cells #[.int .i64 0, .slice none 0 0] 30) = W2) := by show _ = _; rw [hW2]
  have c0 := cell_row h2.1 0
  have c1 := cell_row h2.1 1
  simp only [List.getElem?_toArray, List.getElem?_cons_zero, List.getElem?_cons_succ] at c0 c1
  have HB := Lib.hid h2.2
  have K2 := Lib.hid k2
  clear h2 k2 hW2
  go_enter Tryz.func9, Tryz.ntmps9
  go_upto_region 1 with fail
  rw [HW2.out]
  go_wp2_with (refine wpList_store_row rfl 30 (.tmp 2) (.tmp 7) rfl (w.heap.size + 1) (tabV v A n c) rfl rfl 30 _ HB.out infoT2 rfl (tab_one ..) ?_)
  exact bodyPost_ret (v := .agg (tabV v A n c)) (results_cell_row rfl _ _ (w.heap.size + 1) 30 _ (0, 0) _ rfl (setRow_at HB.out) Tryz.underlying30 rfl infoT2) rfl ⟨rfl, Lab.below_setRow K2.out (by omega) _⟩
end Go.Proofs.YtmbcojpdigoojaaGreatDoor.Rul
