/- DERIVED. A parameter []Value of layer 4's laws, opened; the laws' few. -/
import Derived.Test.YtigfcmnknijobaaCodVal
namespace Go.Proofs.Ytigfcmnknijobaa.Cod
open Go.ChangeShapes Go.WideShapes Go.ChangeAt Go.RowKit
/-- the slice (A, xs.length, c) reads as the Values xs. -/
def Vals (w : World) (A : Option Addr) (c : Nat) (xs : List Val) : Prop :=
  xs.length ≤ c ∧ (A = none → c = 0) ∧ (0 < xs.length → ∃ b off, A = some ⟨b, off, none⟩ ∧ b < w.heap.size ∧ ∀ i x, xs[i]? = some x → w.rangeAt b (off + i * 39) x.cells.toList)
theorem Vals.below {w w' : World} {B c : Nat} {A : Option Addr} {xs : List Val} (h : Vals w A c xs) (hb : Below B w w') (hB : w.heap.size ≤ B) : Vals w' A c xs :=
  ⟨h.1, h.2.1, fun hl => by
    obtain ⟨b, off, hA, hg, hc⟩ := h.2.2 hl
    exact ⟨b, off, hA, Nat.lt_of_lt_of_le hg hb.size, fun i x hx j v hv => (hb.cell (p := ⟨b, off + i * 39 + j, none⟩) (Nat.lt_of_lt_of_le hg hB)).trans (hc i x hx j v hv)⟩⟩
theorem vals_list {H : Type} {enc : TypeId × Value → H} {W : World} {n : Nat} {a : Addr} : ∀ (len : Nat) (elems : List (DataW H × List MemPlace)), elems.length = len →
    (∀ i, i < len → (W.cells? 0 (a.add (i * 39)) 39).bind (DataW.trod enc Try.prog W 0 (fun _ => true) true n 36) = elems[i]?) →
    ∃ xs : List Val, xs.length = len ∧ (∀ x ∈ xs, x.Ok) ∧ ∀ i x, xs[i]? = some x → W.cells? 0 (a.add (i * 39)) 39 = some x.cells.toList := by
  intro len
  induction len with
  | zero => exact fun _ _ _ => ⟨[], rfl, (fun _ h => by cases h), (fun i x h => by simp at h)⟩
  | succ m ih =>
    intro elems hl h
    obtain ⟨xs, hxl, hok, hx⟩ := ih (elems.take m) (by simp; omega) (fun i hi => by rw [h i (by omega), List.getElem?_take, if_pos hi])
    have hm := h m (by omega)
    rw [List.getElem?_eq_getElem (by omega : m < elems.length)] at hm
    obtain ⟨cs, hcs, htr⟩ := Option.bind_eq_some_iff.1 hm
    obtain ⟨x, rfl, ok⟩ := val_cells (World.cells?_some hcs).2.1 htr
    refine ⟨xs ++ [x], by simp [hxl], ?_, ?_⟩
    · intro y hy
      rcases List.mem_append.1 hy with hy | hy
      · exact hok y hy
      · obtain rfl := List.mem_singleton.1 hy
        exact ok
    · intro i y hy
      by_cases hi : i < m
      · rw [List.getElem?_append_left (by omega)] at hy
        exact hx i y hy
      · have hlen := (List.getElem?_eq_some_iff.1 hy).1
        simp only [List.length_append, List.length_singleton] at hlen
        obtain rfl : i = m := by omega
        rw [List.getElem?_append_right (by omega), hxl, Nat.sub_self] at hy
        obtain rfl := Option.some.inj hy
        exact hcs
/-- a parameter []Value. -/
theorem open_vals {H : Type} {enc : TypeId × Value → H} {W : World} {base : Nat} {v : Value} {d : DataW H} {p : List MemPlace} (hv : Value.okWide Try.prog W .any base 23 v)
    (h : DataW.Trod enc Try.prog W 0 (fun _ => true) true 23 v d p) : ∃ (A : Option Addr) (c : Nat) (xs : List Val), v = .slice A xs.length c ∧ (∀ x ∈ xs, x.Ok) ∧ Vals W A c xs ∧ xs.length ≤ maxLen := by
  obtain ⟨a0, len, cap, rfl⟩ := okWide_slice Try.underlying23 hv
  obtain ⟨fuel, hf⟩ := h
  rcases DataW.trod_slice Try.underlying23 hf with ⟨hcs, _⟩ | ⟨a, len', cap', elems, rest, n, _, hcs, _, _, hl, hm, hz, hel, _, _⟩
  · simp [Value.cells] at hcs
    obtain ⟨rfl, rfl, rfl⟩ := hcs
    exact ⟨none, 0, [], rfl, (fun _ h => by cases h), ⟨Nat.le_refl _, fun _ => rfl, fun h => absurd h (Nat.lt_irrefl 0)⟩, Nat.zero_le _⟩
  · simp [Value.cells] at hcs
    obtain ⟨rfl, rfl, rfl⟩ := hcs
    rw [cellsVal] at hel
    obtain ⟨xs, hxl, hok, hx⟩ := vals_list len elems hz hel
    refine ⟨some a, cap, xs, by rw [hxl], hok, ⟨by rw [hxl]; exact hl, (fun h => by cases h), (fun h => ?_)⟩, by rw [hxl]; omega⟩
    obtain ⟨x0, h0⟩ : ∃ x0, xs[0]? = some x0 := ⟨_, List.getElem?_eq_getElem h⟩
    have k0 := (World.cells?_some (hx 0 x0 h0)).2.2 0 (by omega)
    rw [Array.getElem?_toList, x0.c0] at k0
    obtain ⟨b, off, spot⟩ := a
    have hspot : spot = none := by simpa [Addr.add] using World.cell?_spot k0
    subst hspot
    refine ⟨b, off, rfl, ?_, fun i x hi j v hv => ?_⟩
    · have := World.block_lt_of_cell? W _ k0
      simpa [Addr.add] using this
    · obtain ⟨_, hlen, hc⟩ := World.cells?_some (hx i x hi)
      have hj : j < 39 := by rw [← hlen]; exact (List.getElem?_eq_some_iff.1 hv).1
      have := hc j hj
      rw [hv] at this
      rw [Addr.add_mid, Addr.add_mid] at this
      exact this
end Go.Proofs.Ytigfcmnknijobaa.Cod
