/- DERIVED. A parameter that is a table of rules, opened. -/
import Derived.Test.YtmbcojpdigoojaaDoorRulRows
import Derived.Test.YtmbcojpdigoojaaDoorLawCard
namespace Go.Proofs.YtmbcojpdigoojaaDoor.Rul
open Go.ChangeShapes Go.WideShapes Go.ChangeAt Go.RowKit Lab
theorem wfU {z : Int} (h : (Lit.int .u64 z).wf = true) : 0 ≤ z ∧ z ≤ 18446744073709551615 := by simpa [Lit.wf, IntKind.bits, IntKind.signed, IntKind.min, IntKind.max] using h
theorem wfI {z : Int} (h : (Lit.int .i64 z).wf = true) : -9223372036854775808 ≤ z ∧ z ≤ 9223372036854775807 := by simpa [Lit.wf, IntKind.bits, IntKind.signed, IntKind.min, IntKind.max] using h
theorem cellsLab : Tryd.prog.cellsOf 27 = 2 := by kernel_rfl
theorem cellsI : Tryd.prog.cellsOf 3 = 1 := by kernel_rfl
theorem cellsU : Tryd.prog.cellsOf 25 = 1 := by kernel_rfl
theorem cellsS : Tryd.prog.cellsOf 9 = 1 := by kernel_rfl
theorem cellsR : Tryd.prog.cellsOf 40 = 3 := by kernel_rfl
theorem cellsSl : Tryd.prog.cellsOf 22 = 1 := by kernel_rfl
theorem cellsT : Tryd.prog.cellsOf 24 = 2 := by kernel_rfl
set_option maxRecDepth 100000 in
theorem lab_cells {H : Type} {enc : TypeId × Value → H} {W : World} {fuel : Nat} {cs : List Value} {y : DataW H × List MemPlace} (hl : cs.length = 2)
    (hf : DataW.trod enc Tryd.prog W 0 (fun _ => true) true fuel 27 cs = some y) : ∃ (a : Int) (c : Nat), cs = (lab a c).toList ∧ c < 18446744073709551616 ∧ (-9223372036854775808 ≤ a ∧ a ≤ 9223372036854775807) := by
  obtain ⟨xs, n, _, _, _, hlen, hff⟩ := DataW.trod_struct Tryd.underlying27 hf
  obtain ⟨y0, y1, rfl⟩ : ∃ y0 y1, xs = [y0, y1] := by
    match xs, hlen with
    | [a, b], _ => exact ⟨a, b, rfl⟩
  have q0 : DataW.trod enc Tryd.prog W 0 (fun _ => true) true n 3 (List.take (Tryd.prog.cellsOf 3) (List.drop 0 cs)) = some y0 := hff 0 _ rfl
  have q1 : DataW.trod enc Tryd.prog W 0 (fun _ => true) true n 25 (List.take (Tryd.prog.cellsOf 25) (List.drop 1 cs)) = some y1 := hff 1 _ rfl
  rw [cellsI] at q0
  rw [cellsU] at q1
  obtain ⟨a, ha, _, haw⟩ := DataW.trod_int Tryd.underlying3 q0
  obtain ⟨c, hc, _, hcw⟩ := DataW.trod_int Tryd.underlying25 q1
  match cs, hl with
  | [u, v], _ =>
    simp only [List.drop_zero, List.take_succ_cons, List.take_zero, List.drop_succ_cons, List.cons.injEq, and_true] at ha hc
    obtain ⟨c, rfl⟩ := Int.eq_ofNat_of_zero_le (wfU hcw).1
    exact ⟨a, c, by rw [ha, hc], by have := (wfU hcw).2; omega, wfI haw⟩
/-- a rule whose numbers are in their range. -/
def Rl.Ok (r : Rl) : Prop := r.c < 18446744073709551616 ∧ (-9223372036854775808 ≤ r.a ∧ r.a ≤ 9223372036854775807) ∧ r.p.size ≤ maxLen
set_option maxRecDepth 100000 in
theorem rule_cells {H : Type} {enc : TypeId × Value → H} {W : World} {fuel : Nat} {cs : List Value} {y : DataW H × List MemPlace} (hl : cs.length = 3)
    (hf : DataW.trod enc Tryd.prog W 0 (fun _ => true) true fuel 40 cs = some y) : ∃ r : Rl, cs = (rlc r).toList ∧ r.Ok := by
  obtain ⟨xs, n, _, _, _, hlen, hff⟩ := DataW.trod_struct Tryd.underlying40 hf
  obtain ⟨y0, y1, rfl⟩ : ∃ y0 y1, xs = [y0, y1] := by
    match xs, hlen with
    | [a, b], _ => exact ⟨a, b, rfl⟩
  have q0 : DataW.trod enc Tryd.prog W 0 (fun _ => true) true n 9 (List.take (Tryd.prog.cellsOf 9) (List.drop 0 cs)) = some y0 := hff 0 _ rfl
  have q1 : DataW.trod enc Tryd.prog W 0 (fun _ => true) true n 27 (List.take (Tryd.prog.cellsOf 27) (List.drop 1 cs)) = some y1 := hff 1 _ rfl
  rw [cellsS] at q0
  rw [cellsLab] at q1
  obtain ⟨s, hs, _, hsw⟩ := DataW.trod_string Tryd.underlying9 q0
  obtain ⟨a, c, hac, hc, ha⟩ := lab_cells (by simp; omega) q1
  match cs, hl with
  | [u, v, x], _ =>
    simp only [List.drop_zero, List.take_succ_cons, List.take_zero, List.drop_succ_cons, List.cons.injEq, and_true] at hs hac
    refine ⟨⟨s, a, c⟩, ?_, hc, ha, hsw⟩
    rw [hs]
    show _ = [Value.string s, .int .i64 a, .int .u64 (c : Nat)]
    rw [hac.1, hac.2]
theorem rules_list {H : Type} {enc : TypeId × Value → H} {W : World} {n : Nat} {a : Addr} : ∀ (len : Nat) (elems : List (DataW H × List MemPlace)), elems.length = len →
    (∀ i, i < len → (W.cells? 0 (a.add (i * 3)) 3).bind (DataW.trod enc Tryd.prog W 0 (fun _ => true) true n 40) = elems[i]?) →
    ∃ xs : List Rl, xs.length = len ∧ (∀ x ∈ xs, x.Ok) ∧ ∀ i x, xs[i]? = some x → W.cells? 0 (a.add (i * 3)) 3 = some (rlc x).toList := by
  intro len
  induction len with
  | zero => exact fun _ _ _ => ⟨[], rfl, (fun _ h => by cases h), (fun i x h => by simp at h)⟩
  | succ m ih =>
    intro elems hl h
    obtain ⟨xs, hxl, hok, hx⟩ := ih (elems.take m) (by simp; omega) (fun i hi => by rw [h i (by omega), List.getElem?_take, if_pos hi])
    have hm := h m (by omega)
    rw [List.getElem?_eq_getElem (by omega : m < elems.length)] at hm
    obtain ⟨cs, hcs, htr⟩ := Option.bind_eq_some_iff.1 hm
    obtain ⟨x, rfl, ok⟩ := rule_cells (World.cells?_some hcs).2.1 htr
    refine ⟨xs ++ [x], by simp [hxl], ?_, ?_⟩
    · intro y hy
      rcases List.mem_append.1 hy with hy | hy
      · exact hok y hy
      · obtain rfl := List.mem_singleton.1 hy
        exact ok
    · intro i y hy
      by_cases hi : i < m
      · rw [List.getElem?_append_left (by omega)] at hy
        exact hx i y hy
      · have hlen := (List.getElem?_eq_some_iff.1 hy).1
        simp only [List.length_append, List.length_singleton] at hlen
        obtain rfl : i = m := by omega
        rw [List.getElem?_append_right (by omega), hxl, Nat.sub_self] at hy
        obtain rfl := Option.some.inj hy
        exact hcs
set_option maxRecDepth 100000 in
/-- a slice of rules, read out of its cell. -/
theorem rules_cell {H : Type} {enc : TypeId × Value → H} {W : World} {fuel : Nat} {cs : List Value} {y : DataW H × List MemPlace} (hf : DataW.trod enc Tryd.prog W 0 (fun _ => true) true fuel 22 cs = some y) :
    ∃ (A : Option Addr) (c : Nat) (xs : List Rl), cs = [.slice A xs.length c] ∧ (∀ x ∈ xs, x.Ok) ∧ Ruls W A c xs ∧ xs.length ≤ maxLen := by
  rcases DataW.trod_slice Tryd.underlying22 hf with ⟨hcs, _⟩ | ⟨a, len, cap, elems, rest, n, _, hcs, _, _, hl, hm, hz, hel, _, _⟩
  · exact ⟨none, 0, [], hcs, (fun _ h => by cases h), ⟨Nat.le_refl _, fun _ => rfl, fun h => absurd h (Nat.lt_irrefl 0)⟩, Nat.zero_le _⟩
  · rw [cellsR] at hel
    obtain ⟨xs, hxl, hok, hx⟩ := rules_list len elems hz hel
    refine ⟨some a, cap, xs, by rw [hxl]; exact hcs, hok, ⟨by rw [hxl]; exact hl, (fun h => by cases h), (fun h => ?_)⟩, by rw [hxl]; omega⟩
    obtain ⟨x0, h0⟩ : ∃ x0, xs[0]? = some x0 := ⟨_, List.getElem?_eq_getElem h⟩
    have k0 := (World.cells?_some (hx 0 x0 h0)).2.2 0 (by omega)
    rw [show (rlc x0).toList[0]? = some (.string x0.p) from rfl] at k0
    obtain ⟨b, off, spot⟩ := a
    have hspot : spot = none := by simpa [Addr.add] using World.cell?_spot k0
    subst hspot
    refine ⟨b, off, rfl, ?_, fun i x hi j v hv => ?_⟩
    · have := World.block_lt_of_cell? W _ k0
      simpa [Addr.add] using this
    · obtain ⟨_, hlen, hc⟩ := World.cells?_some (hx i x hi)
      have hj : j < 3 := by rw [← hlen]; exact (List.getElem?_eq_some_iff.1 hv).1
      have := hc j hj
      rw [hv] at this
      rw [Addr.add_mid, Addr.add_mid] at this
      exact this
set_option maxRecDepth 100000 in
/-- a parameter that is a table. -/
theorem open_table {H : Type} {enc : TypeId × Value → H} {W : World} {base : Nat} {v : Value} {d : DataW H} {p : List MemPlace} (hv : Value.okWide Tryd.prog W .any base 24 v)
    (h : DataW.Trod enc Tryd.prog W 0 (fun _ => true) true 24 v d p) : ∃ (z : Int) (A : Option Addr) (c : Nat) (xs : List Rl), v = .agg (tabV z A xs.length c) ∧ (-9223372036854775808 ≤ z ∧ z ≤ 9223372036854775807) ∧ (∀ x ∈ xs, x.Ok) ∧ Ruls W A c xs ∧ xs.length ≤ maxLen := by
  obtain ⟨cs, rfl, hsz⟩ := okWide_struct Tryd.underlying24 hv
  rw [cellsT] at hsz
  obtain ⟨fuel, hf⟩ := h
  obtain ⟨xs, n, _, _, _, hlen, hff⟩ := DataW.trod_struct Tryd.underlying24 hf
  obtain ⟨y0, y1, rfl⟩ : ∃ y0 y1, xs = [y0, y1] := by
    match xs, hlen with
    | [a, b], _ => exact ⟨a, b, rfl⟩
  have q0 : DataW.trod enc Tryd.prog W 0 (fun _ => true) true n 3 (List.take (Tryd.prog.cellsOf 3) (List.drop 0 cs.toList)) = some y0 := hff 0 _ rfl
  have q1 : DataW.trod enc Tryd.prog W 0 (fun _ => true) true n 22 (List.take (Tryd.prog.cellsOf 22) (List.drop 1 cs.toList)) = some y1 := hff 1 _ rfl
  rw [cellsI] at q0
  rw [cellsSl] at q1
  obtain ⟨z, hz, _, hzw⟩ := DataW.trod_int Tryd.underlying3 q0
  obtain ⟨A, c, rs, hcs, hok, hR, hm⟩ := rules_cell q1
  refine ⟨z, A, c, rs, ?_, wfI hzw, hok, hR, hm⟩
  have hl : cs.toList.length = 2 := by simpa using hsz
  obtain ⟨l⟩ := cs
  match l, hl with
  | [u, x], _ =>
    simp only [List.drop_zero, List.take_succ_cons, List.take_zero, List.drop_succ_cons, List.cons.injEq, and_true] at hz hcs
    rw [hz, hcs]
end Go.Proofs.YtmbcojpdigoojaaDoor.Rul
