/- DERIVED. A parameter that is a slice of labels, opened. -/
import Derived.Test.YtmgjhinbkhebjaaDoorLabRows
import Derived.Test.YtmgjhinbkhebjaaDoorLabLaid
namespace Go.Proofs.YtmgjhinbkhebjaaDoor.Lab
open Go.ChangeShapes Go.WideShapes Go.ChangeAt Go.RowKit
set_option maxRecDepth 100000 in
theorem labs_list {H : Type} {enc : TypeId × Value → H} {W : World} {n : Nat} {a : Addr} : ∀ (len : Nat) (elems : List (DataW H × List MemPlace)), elems.length = len →
    (∀ i, i < len → (W.cells? 0 (a.add (i * 2)) 2).bind (DataW.trod enc Tryd.prog W 0 (fun _ => true) true n 24) = elems[i]?) →
    ∃ xs : List (Int × Nat), xs.length = len ∧ ∀ i x, xs[i]? = some x → W.cells? 0 (a.add (i * 2)) 2 = some (lab x.1 x.2).toList := by
  intro len
  induction len with
  | zero => exact fun _ _ _ => ⟨[], rfl, (fun i x h => by simp at h)⟩
  | succ m ih =>
    intro elems hl h
    obtain ⟨xs, hxl, hx⟩ := ih (elems.take m) (by simp; omega) (fun i hi => by rw [h i (by omega), List.getElem?_take, if_pos hi])
    have hm := h m (by omega)
    rw [List.getElem?_eq_getElem (by omega : m < elems.length)] at hm
    obtain ⟨cs, hcs, htr⟩ := Option.bind_eq_some_iff.1 hm
    obtain ⟨a1, c1, rfl, _⟩ := lab_cells (World.cells?_some hcs).2.1 htr
    refine ⟨xs ++ [(a1, c1)], by simp [hxl], ?_⟩
    intro i y hy
    by_cases hi : i < m
    · rw [List.getElem?_append_left (by omega)] at hy
      exact hx i y hy
    · have hlen := (List.getElem?_eq_some_iff.1 hy).1
      simp only [List.length_append, List.length_singleton] at hlen
      obtain rfl : i = m := by omega
      rw [List.getElem?_append_right (by omega), hxl, Nat.sub_self] at hy
      obtain rfl := Option.some.inj hy
      exact hcs
set_option maxRecDepth 100000 in
/-- a parameter []Label. -/
theorem open_labs {H : Type} {enc : TypeId × Value → H} {W : World} {base : Nat} {v : Value} {d : DataW H} {p : List MemPlace} (hv : Value.okWide Tryd.prog W .any base 32 v)
    (h : DataW.Trod enc Tryd.prog W 0 (fun _ => true) true 32 v d p) : ∃ (A : Option Addr) (c : Nat) (xs : List (Int × Nat)), v = .slice A xs.length c ∧ Labs W A c xs ∧ xs.length ≤ maxLen := by
  obtain ⟨a0, len, cap, rfl⟩ := okWide_slice Tryd.underlying32 hv
  obtain ⟨fuel, hf⟩ := h
  rcases DataW.trod_slice Tryd.underlying32 hf with ⟨hcs, _⟩ | ⟨a, len', cap', elems, rest, n, _, hcs, _, _, hl, hm, hz, hel, _, _⟩
  · simp [Value.cells] at hcs
    obtain ⟨rfl, rfl, rfl⟩ := hcs
    exact ⟨none, 0, [], rfl, ⟨Nat.le_refl _, fun _ => rfl, fun h => absurd h (Nat.lt_irrefl 0)⟩, Nat.zero_le _⟩
  · simp [Value.cells] at hcs
    obtain ⟨rfl, rfl, rfl⟩ := hcs
    rw [cellsLab] at hel
    obtain ⟨xs, hxl, hx⟩ := labs_list len elems hz hel
    refine ⟨some a, cap, xs, by rw [hxl], ⟨by rw [hxl]; exact hl, (fun h => by cases h), (fun h => ?_)⟩, by rw [hxl]; omega⟩
    obtain ⟨x0, h0⟩ : ∃ x0, xs[0]? = some x0 := ⟨_, List.getElem?_eq_getElem h⟩
    have k0 := (World.cells?_some (hx 0 x0 h0)).2.2 0 (by omega)
    rw [show (lab x0.1 x0.2).toList[0]? = some (.int .i64 x0.1) from rfl] at k0
    obtain ⟨b, off, spot⟩ := a
    have hspot : spot = none := by simpa [Addr.add] using World.cell?_spot k0
    subst hspot
    refine ⟨b, off, rfl, ?_, fun i x hi j v hv => ?_⟩
    · have := World.block_lt_of_cell? W _ k0
      simpa [Addr.add] using this
    · obtain ⟨_, hlen, hc⟩ := World.cells?_some (hx i x hi)
      have hj : j < 2 := by rw [← hlen]; exact (List.getElem?_eq_some_iff.1 hv).1
      have := hc j hj
      rw [hv] at this
      rw [Addr.add_mid, Addr.add_mid] at this
      exact this
end Go.Proofs.YtmgjhinbkhebjaaDoor.Lab
