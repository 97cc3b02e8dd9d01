/- DERIVED. The contracts as a law's walk takes them (From: what was there stays, and the world is laid); the laws' cut and works. -/
import Derived.Test.YtihdmfkkpdajlaaDoorPthUnder
namespace Go.Proofs.YtihdmfkkpdajlaaDoor.Pth
open Go.RowKit
/-- of what was there at w0 nothing has turned, and the world is laid. -/
def From (w0 w : World) : Prop := Below w0.heap.size w0 w ∧ Laid w
theorem From.refl {w : World} (h : Laid w) : From w w := ⟨Below.refl _ _, h⟩
theorem From.next {w0 w w' : World} (h : From w0 w) (hb : Below w.heap.size w w') : From w0 w' := ⟨h.1.trans (hb.mono h.1.size), h.2.below hb (Nat.le_refl _)⟩
theorem From.alloc {w0 w : World} (h : From w0 w) (o : Obj) : From w0 (w.alloc o) := h.next ((Below.refl _ _).alloc (Nat.le_refl _) _)
theorem check_from {w0 w : World} (s : ByteArray) (h : From w0 w) (hs : s.size ≤ 1000) : Calls Tryd.prog 10 #[.string s] w fun e w' => e = .returned (.int .i64 (chk s)) ∧ From w0 w' :=
  (check_any s w h.2 (by omega)).mono fun _ _ ⟨he, hb⟩ => ⟨he, h.next hb⟩
theorem prefix_from {w0 w : World} (s : ByteArray) (h : From w0 w) (hs : s.size ≤ 1000) : Calls Tryd.prog 12 #[.string s] w fun e w' => e = .returned (.int .i64 (pre s)) ∧ From w0 w' :=
  (prefix_any s w h.2 (by omega)).mono fun _ _ ⟨he, hb⟩ => ⟨he, h.next hb⟩
def undB (p l : ByteArray) : Bool := und p.data.toList l.data.toList
theorem under_from {w0 w : World} (p l : ByteArray) (h : From w0 w) (hp : p.size ≤ 1000) (hl : l.size ≤ 1000) : Calls Tryd.prog 17 #[.string p, .string l] w fun e w' => e = .returned (.bool (undB p l)) ∧ From w0 w' :=
  (under_any p l w h.2 hp hl).mono fun _ _ ⟨he, hb⟩ => ⟨he, h.next hb⟩
def ordB (p l : ByteArray) : Int := ordL p.data.toList l.data.toList
theorem ordB_in (p l : ByteArray) : -1 ≤ ordB p l ∧ ordB p l ≤ 1 := by
  rcases ord_three p.data.toList l.data.toList with h | h | h <;> (unfold ordB; omega)
theorem order_from {w : World} (a b : ByteArray) : Calls Tryd.prog 19 #[.string a, .string b] w fun e w' => e = .returned (.int .i64 (ordB a b)) ∧ w = w' := order_any a b w
theorem bytes_eq {a b : ByteArray} (h : a.data.toList = b.data.toList) : a = b := by
  obtain ⟨⟨a⟩⟩ := a
  obtain ⟨⟨b⟩⟩ := b
  simpa using h
theorem nth_data (s : ByteArray) (k : Nat) : (nth (pcB s) k).data.toList = (pcs s.data.toList).getD k [] := by
  rw [← pcB_map, nth, List.getD_eq_getElem?_getD, List.getD_eq_getElem?_getD, List.getElem?_map]
  cases (pcB s)[k]? <;> rfl
def cutS (s : ByteArray) : ByteArray := s.extract 0 (min s.size 200)
theorem cutS_size (s : ByteArray) : (cutS s).size ≤ 200 := by rw [cutS, ByteArray.size_extract]; omega
theorem ret_s {a b : ByteArray} (h : a = b) : Ending.returned (.string a) = Ending.returned (.string b) := by rw [h]
theorem cut_any (s : ByteArray) (w : World) (hs : s.size ≤ maxLen) : Calls Tryd.prog 8 #[.string s] w fun e w' => e = .returned (.string (cutS s)) ∧ w = w' := by
  unfold maxLen at hs
  by_cases h : s.size ≤ 200
  · have hm : min (s.size : Int) 200 = s.size := by omega
    have HR := Lib.hid (show cutS s = s by rw [cutS, Nat.min_eq_left h]; simp)
    go_enter Tryd.func8, Tryd.ntmps8
    go_wp2
    all_goals
      go_ret
      exact ⟨ret_s HR.out.symm, rfl⟩
  · have hm : min (s.size : Int) 200 = 200 := by omega
    have HR := Lib.hid (show cutS s = s.extract 0 200 by rw [cutS, Nat.min_eq_right (by omega)])
    go_enter Tryd.func8, Tryd.ntmps8
    go_wp2
    all_goals
      go_ret
      exact ⟨ret_s HR.out.symm, rfl⟩
theorem parts_from {w0 w : World} (s : ByteArray) (h : From w0 w) (hs : s.size ≤ 1000) (hi : isP s.data.toList = true) : Calls Tryd.prog 9 #[.string s] w fun e w' =>
    ∃ g, w.heap.size ≤ g ∧ e = .returned (.slice (some ⟨g, 0, none⟩) (pcB s).length (pcB s).length) ∧ w'.heap[g]? = some (.cells (txts (pcB s)) 9 (0, 0)) ∧ From w0 w' :=
  (parts_yes s w h.2 hs hi).mono fun _ _ ⟨g, h1, h2, h3, hb⟩ => ⟨g, h1, h2, h3, h.next hb⟩
def wA : ByteArray := ⟨#[97]⟩
def wAB : ByteArray := ⟨#[97, 47, 98, 46, 99]⟩
set_option maxHeartbeats 1000000 in
theorem works_any {w0 w : World} (h : From w0 w) : Calls Tryd.prog 15 #[] w fun e w' => e = .returned (.bool true) ∧ From w0 w' := by
  have n2 : (pcB ⟨#[97, 47, 98, 46, 99]⟩).length = 2 := by rw [pcB_length]; decide
  have e1 : nth (pcB ⟨#[97, 47, 98, 46, 99]⟩) 1 = ⟨#[98, 46, 99]⟩ := bytes_eq (by rw [nth_data]; decide)
  have c1 : chk ⟨#[97, 47, 98, 46, 99]⟩ = 0 := by decide
  have c2 : chk ⟨#[97, 47, 46, 46]⟩ = 15 := by decide
  have u1 : undB ⟨#[97]⟩ ⟨#[97, 47, 98, 46, 99]⟩ = true := by decide
  have u2 : undB ⟨#[97]⟩ ⟨#[97, 98]⟩ = false := by decide
  have o1 : ordB ⟨#[97]⟩ ⟨#[98]⟩ = -1 := by decide
  go_enter Tryd.func15, Tryd.ntmps15
  go_wp2_with fail
  refine (parts_from _ h (by decide) (by decide)).mono ?_
  rintro e w1 ⟨g, hg, rfl, hrow, h1⟩
  rw [n2]
  have hcell := txts_cell hrow 1 (by rw [n2]; decide)
  rw [e1] at hcell
  have hlt : g < w1.heap.size := (Array.getElem?_eq_some_iff.1 hrow).1
  clear hrow e1 n2
  have k1 := From.refl h1.2
  go_wp2_with fail
  refine (check_from _ k1 (by decide)).mono ?_
  rw [c1]
  rintro e w2 ⟨rfl, k2⟩
  clear k1
  go_wp2_with fail
  refine (check_from _ k2 (by decide)).mono ?_
  rw [c2]
  rintro e w3 ⟨rfl, k3⟩
  have hcell3 := (k3.1.cell (p := ⟨g, 1, none⟩) hlt).trans hcell
  clear k2 hcell
  go_wp2_with fail
  refine (under_from _ _ k3 (by decide) (by decide)).mono ?_
  rw [u1]
  rintro e w4 ⟨rfl, k4⟩
  clear k3 hcell3
  go_wp2_with fail
  refine (under_from _ _ k4 (by decide) (by decide)).mono ?_
  rw [u2]
  rintro e w5 ⟨rfl, k5⟩
  clear k4
  go_wp2_with fail
  refine (order_from _ _).mono ?_
  rw [o1]
  rintro e w6 ⟨rfl, rfl⟩
  go_wp2
  go_ret
  exact ⟨rfl, h1.next k5.1⟩
end Go.Proofs.YtihdmfkkpdajlaaDoor.Pth
