/- DERIVED. A parameter [][16]byte; how one of its masks is loaded. -/
import Derived.Test.YtlofnpebknfmkaaDskMut
import Derived.Test.YtlofnpebknfmkaaLawBytes
namespace Go.Proofs.Ytlofnpebknfmkaa.Epo
open Go.ChangeShapes Go.WideShapes Go.ChangeAt Go.RowKit Dsk
theorem cellsM : Try.prog.cellsOf 45 = 16 := by kernel_rfl
theorem arrMask : WideMaps.ArrKey Try.prog 45 5 16 := ⟨by kernel_rfl, by kernel_rfl, by kernel_rfl, by kernel_rfl⟩
/-- a mask's bytes. -/
structure MOk (m : List Int) : Prop where
  len : m.length = 16
  inb : InB m
theorem mask_cells {H : Type} {enc : TypeId × Value → H} {W : World} {fuel : Nat} {cs : List Value} {y : DataW H × List MemPlace} (hl : cs.length = 16)
    (hf : DataW.trod enc Try.prog W 0 (fun _ => true) true fuel 45 cs = some y) : ∃ m : List Int, cs = vals m ∧ MOk m := by
  obtain ⟨m, hm, hm1, hm2⟩ := trod_arr arrMask Try.underlying5 (xs := cs.toArray) (by simp; omega) (d := y.1) (p := y.2) ⟨fuel, hf⟩
  exact ⟨m, by simpa [vals] using congrArg Array.toList hm, hm1, inB_wf hm1 hm2⟩
/-- the slice (A, ms.length, c) reads as these masks. -/
def Masks (w : World) (A : Option Addr) (c : Nat) (ms : List (List Int)) : Prop :=
  ms.length ≤ c ∧ (A = none → c = 0) ∧ (0 < ms.length → ∃ b off, A = some ⟨b, off, none⟩ ∧ b < w.heap.size ∧ ∀ i m, ms[i]? = some m → w.rangeAt b (off + i * 16) (vals m))
theorem Masks.below {w w' : World} {B c : Nat} {A : Option Addr} {ms : List (List Int)} (h : Masks w A c ms) (hb : Below B w w') (hB : w.heap.size ≤ B) : Masks w' A c ms :=
  ⟨h.1, h.2.1, fun hl => by
    obtain ⟨b, off, hA, hg, hc⟩ := h.2.2 hl
    exact ⟨b, off, hA, Nat.lt_of_lt_of_le hg hb.size, fun i x hx j v hv => (hb.cell (p := ⟨b, off + i * 16 + j, none⟩) (Nat.lt_of_lt_of_le hg hB)).trans (hc i x hx j v hv)⟩⟩
theorem masks_list {H : Type} {enc : TypeId × Value → H} {W : World} {n : Nat} {a : Addr} : ∀ (len : Nat) (elems : List (DataW H × List MemPlace)), elems.length = len →
    (∀ i, i < len → (W.cells? 0 (a.add (i * 16)) 16).bind (DataW.trod enc Try.prog W 0 (fun _ => true) true n 45) = elems[i]?) →
    ∃ xs : List (List Int), xs.length = len ∧ (∀ x ∈ xs, MOk x) ∧ ∀ i x, xs[i]? = some x → W.cells? 0 (a.add (i * 16)) 16 = some (vals x) := by
  intro len
  induction len with
  | zero => exact fun _ _ _ => ⟨[], rfl, (fun _ h => by cases h), (fun i x h => by simp at h)⟩
  | succ m ih =>
    intro elems hl h
    obtain ⟨xs, hxl, hok, hx⟩ := ih (elems.take m) (by simp; omega) (fun i hi => by rw [h i (by omega), List.getElem?_take, if_pos hi])
    have hm := h m (by omega)
    rw [List.getElem?_eq_getElem (by omega : m < elems.length)] at hm
    obtain ⟨cs, hcs, htr⟩ := Option.bind_eq_some_iff.1 hm
    obtain ⟨x, rfl, ok⟩ := mask_cells (World.cells?_some hcs).2.1 htr
    refine ⟨xs ++ [x], by simp [hxl], ?_, ?_⟩
    · intro y hy
      rcases List.mem_append.1 hy with hy | hy
      · exact hok y hy
      · obtain rfl := List.mem_singleton.1 hy
        exact ok
    · intro i y hy
      by_cases hi : i < m
      · rw [List.getElem?_append_left (by omega)] at hy
        exact hx i y hy
      · have hlen := (List.getElem?_eq_some_iff.1 hy).1
        simp only [List.length_append, List.length_singleton] at hlen
        obtain rfl : i = m := by omega
        rw [List.getElem?_append_right (by omega), hxl, Nat.sub_self] at hy
        obtain rfl := Option.some.inj hy
        exact hcs
theorem open_masks {H : Type} {enc : TypeId × Value → H} {W : World} {base : Nat} {v : Value} {d : DataW H} {p : List MemPlace} (hv : Value.okWide Try.prog W .any base 43 v)
    (h : DataW.Trod enc Try.prog W 0 (fun _ => true) true 43 v d p) : ∃ (A : Option Addr) (c : Nat) (xs : List (List Int)), v = .slice A xs.length c ∧ (∀ x ∈ xs, MOk x) ∧ Masks W A c xs ∧ xs.length ≤ maxLen := by
  obtain ⟨a0, len, cap, rfl⟩ := okWide_slice Try.underlying43 hv
  obtain ⟨fuel, hf⟩ := h
  rcases DataW.trod_slice Try.underlying43 hf with ⟨hcs, _⟩ | ⟨a, len', cap', elems, rest, n, _, hcs, _, _, hl, hm, hz, hel, _, _⟩
  · simp [Value.cells] at hcs
    obtain ⟨rfl, rfl, rfl⟩ := hcs
    exact ⟨none, 0, [], rfl, (fun _ h => by cases h), ⟨Nat.le_refl _, fun _ => rfl, fun h => absurd h (Nat.lt_irrefl 0)⟩, Nat.zero_le _⟩
  · simp [Value.cells] at hcs
    obtain ⟨rfl, rfl, rfl⟩ := hcs
    rw [cellsM] at hel
    obtain ⟨xs, hxl, hok, hx⟩ := masks_list len elems hz hel
    refine ⟨some a, cap, xs, by rw [hxl], hok, ⟨by rw [hxl]; exact hl, (fun h => by cases h), (fun h => ?_)⟩, by rw [hxl]; omega⟩
    obtain ⟨x0, h0⟩ : ∃ x0, xs[0]? = some x0 := ⟨_, List.getElem?_eq_getElem h⟩
    have hl0 := (hok x0 (List.mem_of_getElem? h0)).len
    have k0 := (World.cells?_some (hx 0 x0 h0)).2.2 0 (by omega)
    rw [List.getElem?_eq_getElem (by rw [vals_length]; omega)] at k0
    obtain ⟨b, off, spot⟩ := a
    have hspot : spot = none := by simpa [Addr.add] using World.cell?_spot k0
    subst hspot
    refine ⟨b, off, rfl, ?_, fun i x hi j v hv => ?_⟩
    · have := World.block_lt_of_cell? W _ k0
      simpa [Addr.add] using this
    · obtain ⟨_, hlen, hc⟩ := World.cells?_some (hx i x hi)
      have hj : j < 16 := by rw [← hlen]; exact (List.getElem?_eq_some_iff.1 hv).1
      have := hc j hj
      rw [hv] at this
      rw [Addr.add_mid, Addr.add_mid] at this
      exact this
noncomputable def loadM (v : Value) : Sem Value := Instr.loadAt 45 v
theorem loadAtM (v : Value) : Instr.loadAt 45 v = loadM v := rfl
theorem loadM_eq {w : World} {b o : Nat} {m : List Int} (hm : m.length = 16) (h : w.rangeAt b o (vals m)) : (loadM (.pointer (some ⟨b, o, none⟩))).run Try.prog w = .ok (.agg (vals m).toArray) w := by
  unfold loadM
  exact run_loadAt_mid (P := Try.prog) w b o 45 (vals m) _ h Try.underlying45 rfl (by rw [vals_length, hm]; exact info16)
attribute [irreducible] loadM
end Go.Proofs.Ytlofnpebknfmkaa.Epo
