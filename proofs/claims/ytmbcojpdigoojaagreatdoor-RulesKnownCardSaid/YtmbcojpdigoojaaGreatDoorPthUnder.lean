/- DERIVED. paths.Under, paths.Parts, paths.Order of any texts. -/
import Derived.Test.YtmbcojpdigoojaaGreatDoorPthCheck
import Derived.WalkLawsBesides
namespace Go.Proofs.YtmbcojpdigoojaaGreatDoor.Pth
open Go.RowKit
theorem und_no {p l : List UInt8} (h : isP l = false) : und p l = false := by rw [und, h, Bool.false_and]
theorem und_empty {p l : List UInt8} (h : isP l = true) (hp : p = []) : und p l = true := by rw [und, h, hp]; rfl
theorem und_same {p l : List UInt8} (h : isP l = true) (hp : p = l) : und p l = true := by rw [und, h, hp]; simp
theorem und_else {p l : List UInt8} (h : isP l = true) (hp : p ≠ []) (he : p ≠ l) : und p l = Lib.hasPrefix l (p ++ [47]) := by
  rw [und, h, Bool.true_and, beq_eq_false_iff_ne.2 hp, beq_eq_false_iff_ne.2 he, Bool.false_or, Bool.false_or]
theorem chk_yes {s : ByteArray} (h : isP s.data.toList = true) : chk s = 0 := by rw [chk, h]; rfl
theorem chk_no {s : ByteArray} (h : isP s.data.toList = false) : chk s = 15 := by rw [chk, h]; rfl
theorem ne_empty {s : ByteArray} (h : s.data.toList ≠ []) : s.toList.isEmpty = false := by rw [Lib.toList_data]; cases e : s.data.toList <;> simp_all
theorem eq_lists {a b : ByteArray} (h : a.data.toList = b.data.toList) : (a.toList == b.toList) = true := by rw [Lib.toList_data, Lib.toList_data, h]; simp
theorem ne_lists {a b : ByteArray} (h : a.data.toList ≠ b.data.toList) : (a.toList == b.toList) = false := by rw [Lib.toList_data, Lib.toList_data]; simpa using h
set_option maxHeartbeats 1000000 in
theorem under_any (p l : ByteArray) (w : World) (hL : Laid w) (hp : p.size ≤ 1000) (hl : l.size ≤ 1000) : Calls Tryz.prog 42 #[.string p, .string l] w fun e w' => e = .returned (.bool (und p.data.toList l.data.toList)) ∧ Below w.heap.size w w' := by
  cases hi : isP l.data.toList
  · have hc := chk_no hi
    have HR := Lib.hid (und_no (p := p.data.toList) hi)
    clear hi
    go_enter Tryz.func42, Tryz.ntmps42
    go_wp2_with (go_at_call 39; refine (check_any _ _ hL (by omega)).mono ?_; rw [hc]; rintro e w' ⟨rfl, hb1⟩)
    go_ret
    exact ⟨ret_b HR.out.symm, hb1⟩
  · have hc := chk_yes hi
    by_cases h0 : p.data.toList = []
    · have HR := Lib.hid (und_empty hi h0)
      have hl0 : p.toList = [] := by rw [Lib.toList_data, h0]
      clear hi h0
      go_enter Tryz.func42, Tryz.ntmps42
      go_wp2_with (go_at_call 39; refine (check_any _ _ hL (by omega)).mono ?_; rw [hc]; rintro e w' ⟨rfl, hb1⟩)
      go_ret
      exact ⟨ret_b HR.out.symm, hb1⟩
    · have hl0 := ne_empty h0
      by_cases he : p.data.toList = l.data.toList
      · have HR := Lib.hid (und_same hi he)
        have hle := eq_lists he
        clear hi h0 he
        go_enter Tryz.func42, Tryz.ntmps42
        go_wp2_with (go_at_call 39; refine (check_any _ _ hL (by omega)).mono ?_; rw [hc]; rintro e w' ⟨rfl, hb1⟩)
        go_ret
        exact ⟨ret_b HR.out.symm, hb1⟩
      · have HR := Lib.hid (und_else hi h0 he)
        have hle := ne_lists he
        clear hi h0 he
        go_enter Tryz.func42, Tryz.ntmps42
        go_wp2_with (first
          | (go_at_call 39; refine (check_any _ _ hL (by omega)).mono ?_; rw [hc]; rintro e w' ⟨rfl, hb1⟩)
          | (go_at_call 60; refine (Tryz.strings_HasPrefix _ _ _).mono ?_; rintro e w' ⟨rfl, rfl⟩))
        go_ret
        exact ⟨ret_b HR.out.symm, hb1⟩
theorem clone_any (s : ByteArray) (w : World) (hs : s.size ≤ 1000) : Calls Tryz.prog 53 #[.string s] w fun e w' => e = .returned (.string s) ∧ Below w.heap.size w w' := by
  go_enter Tryz.func53, Tryz.ntmps53
  go_wp2_with (go_at_call 68; refine (Tryz.stringslite_Clone s _ (by omega)).mono ?_; rintro e w' ⟨rfl, hb1⟩)
  go_ret
  exact ⟨rfl, hb1⟩
set_option maxHeartbeats 1000000 in
theorem less_lists (a b : ByteArray) : Op.bytesLess a.toList b.toList = decide (ordL a.data.toList b.data.toList = -1) := by rw [Lib.toList_data, Lib.toList_data, less_ord]
theorem order_any (a b : ByteArray) (w : World) : Calls Tryz.prog 22 #[.string a, .string b] w fun e w' => e = .returned (.int .i64 (ordL a.data.toList b.data.toList)) ∧ w = w' := by
  have hn := ord_neg a.data.toList b.data.toList
  rcases ord_three a.data.toList b.data.toList with h | h | h
  · have h1 : Op.bytesLess a.toList b.toList = true := by rw [less_lists, h]; rfl
    have HR := Lib.hid h
    clear h hn
    go_enter Tryz.func22, Tryz.ntmps22
    go_wp2
    go_ret
    exact ⟨ret_z HR.out.symm, rfl⟩
  · have h1 : Op.bytesLess a.toList b.toList = false := by rw [less_lists, h]; rfl
    have h2 : Op.bytesLess b.toList a.toList = false := by rw [less_lists, hn, h]; rfl
    have h3 : (a.toList == b.toList) = true := eq_lists ((ord_eq _ _).1 h)
    have HR := Lib.hid h
    clear h hn
    go_enter Tryz.func22, Tryz.ntmps22
    go_wp2
    go_ret
    exact ⟨ret_z HR.out.symm, rfl⟩
  · have h1 : Op.bytesLess a.toList b.toList = false := by rw [less_lists, h]; rfl
    have h2 : Op.bytesLess b.toList a.toList = true := by rw [less_lists, hn, h]; rfl
    have h3 : (a.toList == b.toList) = false := ne_lists (fun e => by rw [(ord_eq _ _).2 e] at h; cases h)
    have HR := Lib.hid h
    clear h hn
    go_enter Tryz.func22, Tryz.ntmps22
    go_wp2
    go_ret
    exact ⟨ret_z HR.out.symm, rfl⟩
end Go.Proofs.YtmbcojpdigoojaaGreatDoor.Pth
