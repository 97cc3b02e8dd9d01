/- DERIVED. A parameter []myers.Step, opened. -/
import Derived.Test.YtnpbogioehpeoaaMyrStep
import Derived.SliceStrings
import Derived.ProofKit
import Derived.OpenShut
namespace Go.Proofs.Ytnpbogioehpeoaa.Myr
open Go.ChangeShapes Go.WideShapes Go.ChangeAt Go.RowKit Lns
theorem cellsStep : Try.prog.cellsOf 43 = 3 := by kernel_rfl
theorem cellsInt : Try.prog.cellsOf 3 = 1 := by kernel_rfl
set_option maxRecDepth 100000 in
theorem step_cells {H : Type} {enc : TypeId × Value → H} {W : World} {fuel : Nat} {cs : List Value} {y : DataW H × List MemPlace} (hl : cs.length = 3)
    (hf : DataW.trod enc Try.prog W 0 (fun _ => true) true fuel 43 cs = some y) : ∃ s : Sti, cs = c3 s := by
  obtain ⟨xs, n, _, _, _, hlen, hff⟩ := DataW.trod_struct Try.underlying43 hf
  obtain ⟨y0, y1, y2, rfl⟩ : ∃ y0 y1 y2, xs = [y0, y1, y2] := by
    match xs, hlen with
    | [a, b, c], _ => exact ⟨a, b, c, rfl⟩
  have q0 : DataW.trod enc Try.prog W 0 (fun _ => true) true n 3 (List.take (Try.prog.cellsOf 3) (List.drop 0 cs)) = some y0 := hff 0 _ rfl
  have q1 : DataW.trod enc Try.prog W 0 (fun _ => true) true n 3 (List.take (Try.prog.cellsOf 3) (List.drop 1 cs)) = some y1 := hff 1 _ rfl
  have q2 : DataW.trod enc Try.prog W 0 (fun _ => true) true n 3 (List.take (Try.prog.cellsOf 3) (List.drop 2 cs)) = some y2 := hff 2 _ rfl
  rw [cellsInt] at q0 q1 q2
  obtain ⟨a, ha, _, _⟩ := DataW.trod_int Try.underlying3 q0
  obtain ⟨b, hb, _, _⟩ := DataW.trod_int Try.underlying3 q1
  obtain ⟨c, hc, _, _⟩ := DataW.trod_int Try.underlying3 q2
  match cs, hl with
  | [u, v, z], _ =>
    simp only [List.drop_zero, List.take_succ_cons, List.take_zero, List.drop_succ_cons, List.cons.injEq, and_true] at ha hb hc
    exact ⟨(a, b, c), by rw [ha, hb, hc]; rfl⟩
set_option maxRecDepth 100000 in
theorem steps_list {H : Type} {enc : TypeId × Value → H} {W : World} {n : Nat} {a : Addr} : ∀ (len : Nat) (elems : List (DataW H × List MemPlace)), elems.length = len →
    (∀ i, i < len → (W.cells? 0 (a.add (i * 3)) 3).bind (DataW.trod enc Try.prog W 0 (fun _ => true) true n 43) = elems[i]?) →
    ∃ xs : List Sti, xs.length = len ∧ ∀ i x, xs[i]? = some x → W.cells? 0 (a.add (i * 3)) 3 = some (c3 x) := by
  intro len
  induction len with
  | zero => exact fun _ _ _ => ⟨[], rfl, (fun i x h => by simp at h)⟩
  | succ m ih =>
    intro elems hl h
    obtain ⟨xs, hxl, hx⟩ := ih (elems.take m) (by simp; omega) (fun i hi => by rw [h i (by omega), List.getElem?_take, if_pos hi])
    have hm := h m (by omega)
    rw [List.getElem?_eq_getElem (by omega : m < elems.length)] at hm
    obtain ⟨cs, hcs, htr⟩ := Option.bind_eq_some_iff.1 hm
    obtain ⟨s, rfl⟩ := step_cells (World.cells?_some hcs).2.1 htr
    refine ⟨xs ++ [s], by simp [hxl], ?_⟩
    intro i y hy
    by_cases hi : i < m
    · rw [List.getElem?_append_left (by omega)] at hy
      exact hx i y hy
    · have hlen := (List.getElem?_eq_some_iff.1 hy).1
      simp only [List.length_append, List.length_singleton] at hlen
      obtain rfl : i = m := by omega
      rw [List.getElem?_append_right (by omega), hxl, Nat.sub_self] at hy
      obtain rfl := Option.some.inj hy
      exact hcs
set_option maxRecDepth 100000 in
/-- a parameter []myers.Step. -/
theorem open_steps {H : Type} {enc : TypeId × Value → H} {W : World} {base : Nat} {v : Value} {d : DataW H} {p : List MemPlace} (hv : Value.okWide Try.prog W .any base 24 v)
    (h : DataW.Trod enc Try.prog W 0 (fun _ => true) true 24 v d p) : ∃ S : List Sti, RdS S v W := by
  obtain ⟨a0, len, cap, rfl⟩ := okWide_slice Try.underlying24 hv
  obtain ⟨fuel, hf⟩ := h
  rcases DataW.trod_slice Try.underlying24 hf with ⟨hcs, _⟩ | ⟨a, len', cap', elems, rest, n, _, hcs, _, _, hl, hm, hz, hel, _, _⟩
  · simp [Value.cells] at hcs
    obtain ⟨rfl, rfl, rfl⟩ := hcs
    exact ⟨[], none, 0, rfl, Nat.le_refl _, fun h => absurd h (Nat.lt_irrefl 0)⟩
  · simp [Value.cells] at hcs
    obtain ⟨rfl, rfl, rfl⟩ := hcs
    rw [cellsStep] at hel
    obtain ⟨xs, hxl, hx⟩ := steps_list len elems hz hel
    refine ⟨xs, some a, cap, by rw [hxl], by rw [hxl]; exact hl, fun h => ?_⟩
    have k0 := (World.cells?_some (hx 0 xs[0] (List.getElem?_eq_getElem h))).2.2 0 (by omega)
    obtain ⟨b, off, spot⟩ := a
    rw [show (c3 xs[0])[0]? = some (.int .i64 xs[0].1) from rfl] at k0
    have hspot : spot = none := by simpa [Addr.add] using World.cell?_spot k0
    subst hspot
    refine ⟨b, off, rfl, ?_, fun j hj => ?_⟩
    · have := World.block_lt_of_cell? W _ k0
      simpa [Addr.add] using this
    · obtain ⟨_, _, hc⟩ := World.cells?_some (hx j xs[j] (List.getElem?_eq_getElem hj))
      rw [sth_lt hj]
      have e0 := hc 0 (by omega)
      have e1 := hc 1 (by omega)
      have e2 := hc 2 (by omega)
      rw [show (c3 xs[j])[0]? = some (.int .i64 xs[j].1) from rfl, Addr.add_mid, Addr.add_mid] at e0
      rw [show (c3 xs[j])[1]? = some (.int .i64 xs[j].2.1) from rfl, Addr.add_mid, Addr.add_mid] at e1
      rw [show (c3 xs[j])[2]? = some (.int .i64 xs[j].2.2) from rfl, Addr.add_mid, Addr.add_mid] at e2
      exact ⟨e0, e1, e2⟩
end Go.Proofs.Ytnpbogioehpeoaa.Myr
