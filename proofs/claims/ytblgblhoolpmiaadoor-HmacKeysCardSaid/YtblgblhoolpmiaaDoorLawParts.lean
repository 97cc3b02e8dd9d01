/- DERIVED. A parameter [][]byte, opened. -/
import Derived.Test.YtblgblhoolpmiaaDoorLawBytes
import Derived.Test.YtblgblhoolpmiaaDoorRef2Keys
namespace Go.Proofs.YtblgblhoolpmiaaDoor
open Go.ChangeShapes Go.WideShapes Go.ChangeAt Go.RowKit
/-- one slice of bytes, read out of its cell. -/
theorem part_cells {H : Type} {enc : TypeId × Value → H} {W : World} {n : Nat} {cs : List Value} {y : DataW H × List MemPlace} (hf : DataW.trod enc Tryd.prog W 0 (fun _ => true) true n 26 cs = some y) : ∃ p : Part, cs = [p.val] ∧ InB p.M ∧ Byt W p.A p.c p.M := by
  rcases open_ints Tryd.underlying26 Tryd.underlying5 cells5 hf with ⟨hcs, _⟩ | ⟨a, len, cap, zs, hcs, _, hl, hm, hz, _, hcell, hwz⟩
  · exact ⟨⟨none, 0, []⟩, hcs, fun j => by simp, Nat.le_refl _, fun _ => rfl, fun h => absurd h (Nat.lt_irrefl 0)⟩
  · simp only [if_true] at hz
    have hlen : (zs.take len).length = len := by simp; omega
    refine ⟨⟨some a, cap, zs.take len⟩, by rw [hcs]; simp only [Part.val, hlen], ?_, ⟨by simp only [hlen]; exact hl, (fun h => by cases h), (fun h => ?_)⟩⟩
    · intro j
      by_cases hj : j < len
      · have hj' : j < zs.length := by omega
        have e : (zs.take len).getD j 0 = zs[j] := by simp [List.getD_eq_getElem?_getD, hj, hj']
        have := hwz zs[j] (List.getElem_mem hj')
        have h2 : 0 ≤ zs[j] ∧ zs[j] ≤ 255 := by simpa [Lit.wf, IntKind.bits, IntKind.signed, IntKind.min, IntKind.max] using this
        show 0 ≤ (zs.take len).getD j 0 ∧ (zs.take len).getD j 0 < 256
        rw [e]
        omega
      · show 0 ≤ (zs.take len).getD j 0 ∧ (zs.take len).getD j 0 < 256
        rw [List.getD_eq_getElem?_getD, List.getElem?_eq_none (by rw [hlen]; exact Nat.le_of_not_lt hj)]; simp
    · simp only [hlen] at h
      obtain ⟨b, off, spot⟩ := a
      have hspot : spot = none := by simpa [Addr.add] using World.cell?_spot (hcell 0 (by omega))
      subst hspot
      refine ⟨b, off, rfl, ?_, fun j hj => ?_⟩
      · have := World.block_lt_of_cell? W _ (hcell 0 (by omega))
        simpa [Addr.add] using this
      · simp only [hlen] at hj
        rw [← Addr.add_mid, hcell j (by omega)]
        simp [List.getD_eq_getElem?_getD, hj]
theorem parts_list {H : Type} {enc : TypeId × Value → H} {W : World} {n : Nat} {a : Addr} : ∀ (len : Nat) (elems : List (DataW H × List MemPlace)), elems.length = len →
    (∀ i, i < len → (W.cells? 0 (a.add (i * 1)) 1).bind (DataW.trod enc Tryd.prog W 0 (fun _ => true) true n 26) = elems[i]?) →
    ∃ xs : List Part, xs.length = len ∧ (∀ x ∈ xs, InB x.M ∧ Byt W x.A x.c x.M) ∧ ∀ i x, xs[i]? = some x → W.cells? 0 (a.add (i * 1)) 1 = some [x.val] := by
  intro len
  induction len with
  | zero => exact fun _ _ _ => ⟨[], rfl, (fun _ h => by cases h), (fun i x h => by simp at h)⟩
  | succ m ih =>
    intro elems hl h
    obtain ⟨xs, hxl, hok, hx⟩ := ih (elems.take m) (by simp; omega) (fun i hi => by rw [h i (by omega), List.getElem?_take, if_pos hi])
    have hm := h m (by omega)
    rw [List.getElem?_eq_getElem (by omega : m < elems.length)] at hm
    obtain ⟨cs, hcs, htr⟩ := Option.bind_eq_some_iff.1 hm
    obtain ⟨x, rfl, ok⟩ := part_cells htr
    refine ⟨xs ++ [x], by simp [hxl], ?_, ?_⟩
    · intro y hy
      rcases List.mem_append.1 hy with hy | hy
      · exact hok y hy
      · obtain rfl := List.mem_singleton.1 hy
        exact ok
    · intro i y hy
      by_cases hi : i < m
      · rw [List.getElem?_append_left (by omega)] at hy
        exact hx i y hy
      · have hlen := (List.getElem?_eq_some_iff.1 hy).1
        simp only [List.length_append, List.length_singleton] at hlen
        obtain rfl : i = m := by omega
        rw [List.getElem?_append_right (by omega), hxl, Nat.sub_self] at hy
        obtain rfl := Option.some.inj hy
        exact hcs
theorem cellsSl : Tryd.prog.cellsOf 26 = 1 := by kernel_rfl
/-- a parameter [][]byte. -/
theorem open_parts {H : Type} {enc : TypeId × Value → H} {W : World} {base : Nat} {v : Value} {d : DataW H} {p : List MemPlace} (hv : Value.okWide Tryd.prog W .any base 47 v)
    (h : DataW.Trod enc Tryd.prog W 0 (fun _ => true) true 47 v d p) : ∃ (A : Option Addr) (c : Nat) (ps : List Part), v = .slice A ps.length c ∧ PartsAt W A ps ∧ ps.length ≤ c ∧ (A = none → c = 0) ∧ ps.length ≤ maxLen := by
  obtain ⟨a0, len, cap, rfl⟩ := okWide_slice Tryd.underlying47 hv
  obtain ⟨fuel, hf⟩ := h
  rcases DataW.trod_slice Tryd.underlying47 hf with ⟨hcs, _⟩ | ⟨a, len', cap', elems, rest, n, _, hcs, _, _, hl, hm, hz, hel, _, _⟩
  · simp [Value.cells] at hcs
    obtain ⟨rfl, rfl, rfl⟩ := hcs
    exact ⟨none, 0, [], rfl, ⟨fun j h => absurd h (Nat.not_lt_zero _), fun j h => absurd h (Nat.not_lt_zero _)⟩, Nat.le_refl _, fun _ => rfl, Nat.zero_le _⟩
  · simp [Value.cells] at hcs
    obtain ⟨rfl, rfl, rfl⟩ := hcs
    rw [cellsSl] at hel
    obtain ⟨xs, hxl, hok, hx⟩ := parts_list len elems hz hel
    refine ⟨some a, cap, xs, by rw [hxl], ⟨fun j hj => ?_, fun j hj => ⟨(hok _ (List.getElem_mem hj)).2, (hok _ (List.getElem_mem hj)).1⟩⟩, by rw [hxl]; exact hl, (fun h => by cases h), by rw [hxl]; omega⟩
    have k0 := (World.cells?_some (hx j xs[j] (List.getElem?_eq_getElem hj))).2.2 0 (by omega)
    obtain ⟨b, off, spot⟩ := a
    have k1 : W.cell? ((⟨b, off, spot⟩ : Addr).add (j * 1)) = some xs[j].val := by
      have e : ((⟨b, off, spot⟩ : Addr).add (j * 1)).add 0 = (⟨b, off, spot⟩ : Addr).add (j * 1) := by simp [Addr.add]
      rw [e] at k0
      simpa using k0
    have k00 := (World.cells?_some (hx 0 xs[0] (List.getElem?_eq_getElem (by omega)))).2.2 0 (by omega)
    have hspot : spot = none := by simpa [Addr.add] using World.cell?_spot k00
    subst hspot
    rw [Addr.add_mid, Nat.mul_one] at k1
    exact ⟨b, off, rfl, by have := World.block_lt_of_cell? W _ k1; simpa using this, k1⟩
end Go.Proofs.YtblgblhoolpmiaaDoor
