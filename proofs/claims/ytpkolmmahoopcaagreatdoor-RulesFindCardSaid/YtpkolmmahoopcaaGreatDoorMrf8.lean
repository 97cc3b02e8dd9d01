/- DERIVED. Texts of ours, merged: XRulFLaid XRulOpen XPthRow XPthRef XPthRef2 XPthRef3. -/
import Derived.Test.YtpkolmmahoopcaaGreatDoorMrf2
import Derived.Test.YtpkolmmahoopcaaGreatDoorMrf1
import Derived.ProofKit
import Derived.OpenShut
import Derived.Deep.DeepHandedRow
import Derived.Lib.LaidTab
import Derived.Test.YtpkolmmahoopcaaGreatDoorMrf3
import Derived.Test.YtpkolmmahoopcaaGreatDoorMrf7
import Derived.Test.YtpkolmmahoopcaaGreatDoorMrf5
import Derived.Maps.AppendAt
import Derived.OwnWalk
import Derived.Deep.CutBlock
import Derived.BigQuiet
import Derived.Deep.QuietTactic
/- DERIVED. What the rows' list of the tables gives the walk of RulesFind; a world for the witness. -/
namespace Go.Proofs.YtpkolmmahoopcaaGreatDoor.Rul
open Go.ChangeShapes Go.WideShapes Go.ChangeAt Go.RowKit
def ranges : List Int := [128, 191, 160, 191, 128, 159, 144, 191, 128, 143, 0, 0, 0, 0, 0, 0, 0, 0, 0, 0, 0, 0, 0, 0, 0, 0, 0, 0, 0, 0, 0, 0]
def D32 : List Int := [0, 1, 28, 2, 29, 14, 24, 3, 30, 22, 20, 15, 25, 17, 4, 8, 31, 27, 13, 23, 21, 19, 16, 7, 26, 12, 18, 6, 11, 5, 10, 9]
def D64 : List Int := [0, 1, 56, 2, 57, 49, 28, 3, 61, 58, 42, 50, 38, 29, 17, 4, 62, 47, 59, 36, 45, 43, 51, 22, 53, 39, 33, 30, 24, 18, 12, 5, 63, 55, 48, 27, 60, 41, 37, 16, 46, 35, 44, 21, 52, 32, 23, 11, 54, 26, 40, 15, 34, 20, 31, 10, 25, 14, 19, 9, 13, 8, 7, 6]
def P10 : List Int := [1, 10, 100, 1000, 10000, 100000, 1000000, 10000000, 100000000, 1000000000, 10000000000, 100000000000, 1000000000000, 10000000000000, 100000000000000, 1000000000000000, 10000000000000000, 100000000000000000, 1000000000000000000, 10000000000000000000]
theorem g64 : Tryz.prog.globalNamed "math/bits.deBruijn64tab" = some 3 := by kernel_rfl
theorem g64Type : (Tryz.prog.globals[3]?).map (·.type) = some 121 := by kernel_rfl
theorem cells64t : Tryz.prog.cellsOf 121 = 64 := by kernel_rfl
theorem g10Type : (Tryz.prog.globals[0]?).map (·.type) = some 112 := by kernel_rfl
theorem cells10t : Tryz.prog.cellsOf 112 = 20 := by kernel_rfl
theorem cellsU64 : Tryz.prog.cellsOf 32 = 1 := by kernel_rfl
theorem cells8t : Tryz.prog.cellsOf 5 = 1 := by kernel_rfl
/-- what the walk wants of the tables. -/
def KL (W : World) : Prop := Pth.Laid W ∧ Lab.Laid W ∧ Laid10 W
theorem laid_of {W : World} (h : laidMetH Tryz.prog Rows.rulesFindRow.laid W) (hS : W.ShapedOpen Tryz.prog) : KL W := by
  obtain ⟨ps, ⟨g0, t0, cs0, f0, p0, q0, hg0, ht0, hv0, hd0, ⟨g1, t1, cs1, f1, p1, q1, hg1, ht1, hv1, hd1, ⟨g2, t2, cs2, f2, p2, q2, hg2, ht2, hv2, hd2, _⟩, _⟩, _⟩, _⟩ := h
  refine ⟨Tryz.laysM146.s1_3 W hS, ?_, ?_⟩
  · have h1 : Lib.TabIs Tryz.prog W "math/bits.deBruijn64tab" .u8 D64 := by
      obtain rfl := Option.some.inj (g64.symm.trans hg1)
      obtain rfl := Option.some.inj (g64Type.symm.trans ht1)
      have hc := Lib.cells_of_tab (zs := D64) Tryz.underlying121 Tryz.underlying5 cells8t cells64t hd1
      unfold Lib.TabIs
      rw [hv1]
      congr 1
      apply Array.ext'
      simpa using hc
    exact h1.cell g64 15 (by decide)
  · obtain rfl := Option.some.inj (g10.symm.trans hg2)
    obtain rfl := Option.some.inj (g10Type.symm.trans ht2)
    have hc := Lib.cells_of_tab (zs := Lib.pow10Tab) Tryz.underlying112 Tryz.underlying32 cellsU64 cells10t hd2
    unfold Laid10 Lib.TabIs
    rw [hv2]
    congr 1
    apply Array.ext'
    simpa using hc
/-- a world for the witness: the settled one, the tables laid. -/
noncomputable def laidWorld (os : Os) : World :=
  let w := World.holding Tryz.prog os ⟨#[], #[], []⟩
  { w with heap := ((((w.heap.modify 2 (fillRow (D32.map (Value.int .u8)).toArray)).modify 3 (fillRow (D64.map (Value.int .u8)).toArray)).modify 0 (fillRow (P10.map (Value.int .u64)).toArray)).modify 5 (fillRow (ranges.map (Value.int .u8)).toArray)).modify 4 (fillRow (Go.Pinned.utf8FirstZ.map fun (n : Nat) => Value.int .u8 (n : Int)).toArray) }
end Go.Proofs.YtpkolmmahoopcaaGreatDoor.Rul
/- DERIVED. A parameter that is a table of rules, opened. -/
namespace Go.Proofs.YtpkolmmahoopcaaGreatDoor.Rul
open Go.ChangeShapes Go.WideShapes Go.ChangeAt Go.RowKit Lab
theorem wfU {z : Int} (h : (Lit.int .u64 z).wf = true) : 0 ≤ z ∧ z ≤ 18446744073709551615 := by simpa [Lit.wf, IntKind.bits, IntKind.signed, IntKind.min, IntKind.max] using h
theorem wfI {z : Int} (h : (Lit.int .i64 z).wf = true) : -9223372036854775808 ≤ z ∧ z ≤ 9223372036854775807 := by simpa [Lit.wf, IntKind.bits, IntKind.signed, IntKind.min, IntKind.max] using h
theorem cellsLab : Tryz.prog.cellsOf 34 = 2 := by kernel_rfl
theorem cellsI : Tryz.prog.cellsOf 3 = 1 := by kernel_rfl
theorem cellsU : Tryz.prog.cellsOf 32 = 1 := by kernel_rfl
theorem cellsS : Tryz.prog.cellsOf 9 = 1 := by kernel_rfl
theorem cellsR : Tryz.prog.cellsOf 44 = 3 := by kernel_rfl
theorem cellsSl : Tryz.prog.cellsOf 22 = 1 := by kernel_rfl
theorem cellsT : Tryz.prog.cellsOf 24 = 2 := by kernel_rfl
set_option maxRecDepth 100000 in
theorem lab_cells {H : Type} {enc : TypeId × Value → H} {W : World} {fuel : Nat} {cs : List Value} {y : DataW H × List MemPlace} (hl : cs.length = 2)
    (hf : DataW.trod enc Tryz.prog W 0 (fun _ => true) true fuel 34 cs = some y) : ∃ (a : Int) (c : Nat), cs = (lab a c).toList ∧ c < 18446744073709551616 ∧ (-9223372036854775808 ≤ a ∧ a ≤ 9223372036854775807) := by
  obtain ⟨xs, n, _, _, _, hlen, hff⟩ := DataW.trod_struct Tryz.underlying34 hf
  obtain ⟨y0, y1, rfl⟩ : ∃ y0 y1, xs = [y0, y1] := by
    match xs, hlen with
    | [a, b], _ => exact ⟨a, b, rfl⟩
  have q0 : DataW.trod enc Tryz.prog W 0 (fun _ => true) true n 3 (List.take (Tryz.prog.cellsOf 3) (List.drop 0 cs)) = some y0 := hff 0 _ rfl
  have q1 : DataW.trod enc Tryz.prog W 0 (fun _ => true) true n 32 (List.take (Tryz.prog.cellsOf 32) (List.drop 1 cs)) = some y1 := hff 1 _ rfl
  rw [cellsI] at q0
  rw [cellsU] at q1
  obtain ⟨a, ha, _, haw⟩ := DataW.trod_int Tryz.underlying3 q0
  obtain ⟨c, hc, _, hcw⟩ := DataW.trod_int Tryz.underlying32 q1
  match cs, hl with
  | [u, v], _ =>
    simp only [List.drop_zero, List.take_succ_cons, List.take_zero, List.drop_succ_cons, List.cons.injEq, and_true] at ha hc
    obtain ⟨c, rfl⟩ := Int.eq_ofNat_of_zero_le (wfU hcw).1
    exact ⟨a, c, by rw [ha, hc], by have := (wfU hcw).2; omega, wfI haw⟩
/-- a rule whose numbers are in their range. -/
def Rl.Ok (r : Rl) : Prop := r.c < 18446744073709551616 ∧ (-9223372036854775808 ≤ r.a ∧ r.a ≤ 9223372036854775807) ∧ r.p.size ≤ maxLen
set_option maxRecDepth 100000 in
theorem rule_cells {H : Type} {enc : TypeId × Value → H} {W : World} {fuel : Nat} {cs : List Value} {y : DataW H × List MemPlace} (hl : cs.length = 3)
    (hf : DataW.trod enc Tryz.prog W 0 (fun _ => true) true fuel 44 cs = some y) : ∃ r : Rl, cs = (rlc r).toList ∧ r.Ok := by
  obtain ⟨xs, n, _, _, _, hlen, hff⟩ := DataW.trod_struct Tryz.underlying44 hf
  obtain ⟨y0, y1, rfl⟩ : ∃ y0 y1, xs = [y0, y1] := by
    match xs, hlen with
    | [a, b], _ => exact ⟨a, b, rfl⟩
  have q0 : DataW.trod enc Tryz.prog W 0 (fun _ => true) true n 9 (List.take (Tryz.prog.cellsOf 9) (List.drop 0 cs)) = some y0 := hff 0 _ rfl
  have q1 : DataW.trod enc Tryz.prog W 0 (fun _ => true) true n 34 (List.take (Tryz.prog.cellsOf 34) (List.drop 1 cs)) = some y1 := hff 1 _ rfl
  rw [cellsS] at q0
  rw [cellsLab] at q1
  obtain ⟨s, hs, _, hsw⟩ := DataW.trod_string Tryz.underlying9 q0
  obtain ⟨a, c, hac, hc, ha⟩ := lab_cells (by simp; omega) q1
  match cs, hl with
  | [u, v, x], _ =>
    simp only [List.drop_zero, List.take_succ_cons, List.take_zero, List.drop_succ_cons, List.cons.injEq, and_true] at hs hac
    refine ⟨⟨s, a, c⟩, ?_, hc, ha, hsw⟩
    rw [hs]
    show _ = [Value.string s, .int .i64 a, .int .u64 (c : Nat)]
    rw [hac.1, hac.2]
theorem rules_list {H : Type} {enc : TypeId × Value → H} {W : World} {n : Nat} {a : Addr} : ∀ (len : Nat) (elems : List (DataW H × List MemPlace)), elems.length = len →
    (∀ i, i < len → (W.cells? 0 (a.add (i * 3)) 3).bind (DataW.trod enc Tryz.prog W 0 (fun _ => true) true n 44) = elems[i]?) →
    ∃ xs : List Rl, xs.length = len ∧ (∀ x ∈ xs, x.Ok) ∧ ∀ i x, xs[i]? = some x → W.cells? 0 (a.add (i * 3)) 3 = some (rlc x).toList := by
  intro len
  induction len with
  | zero => exact fun _ _ _ => ⟨[], rfl, (fun _ h => by cases h), (fun i x h => by simp at h)⟩
  | succ m ih =>
    intro elems hl h
    obtain ⟨xs, hxl, hok, hx⟩ := ih (elems.take m) (by simp; omega) (fun i hi => by rw [h i (by omega), List.getElem?_take, if_pos hi])
    have hm := h m (by omega)
    rw [List.getElem?_eq_getElem (by omega : m < elems.length)] at hm
    obtain ⟨cs, hcs, htr⟩ := Option.bind_eq_some_iff.1 hm
    obtain ⟨x, rfl, ok⟩ := rule_cells (World.cells?_some hcs).2.1 htr
    refine ⟨xs ++ [x], by simp [hxl], ?_, ?_⟩
    · intro y hy
      rcases List.mem_append.1 hy with hy | hy
      · exact hok y hy
      · obtain rfl := List.mem_singleton.1 hy
        exact ok
    · intro i y hy
      by_cases hi : i < m
      · rw [List.getElem?_append_left (by omega)] at hy
        exact hx i y hy
      · have hlen := (List.getElem?_eq_some_iff.1 hy).1
        simp only [List.length_append, List.length_singleton] at hlen
        obtain rfl : i = m := by omega
        rw [List.getElem?_append_right (by omega), hxl, Nat.sub_self] at hy
        obtain rfl := Option.some.inj hy
        exact hcs
set_option maxRecDepth 100000 in
/-- a slice of rules, read out of its cell. -/
theorem rules_cell {H : Type} {enc : TypeId × Value → H} {W : World} {fuel : Nat} {cs : List Value} {y : DataW H × List MemPlace} (hf : DataW.trod enc Tryz.prog W 0 (fun _ => true) true fuel 22 cs = some y) :
    ∃ (A : Option Addr) (c : Nat) (xs : List Rl), cs = [.slice A xs.length c] ∧ (∀ x ∈ xs, x.Ok) ∧ Ruls W A c xs ∧ xs.length ≤ maxLen := by
  rcases DataW.trod_slice Tryz.underlying22 hf with ⟨hcs, _⟩ | ⟨a, len, cap, elems, rest, n, _, hcs, _, _, hl, hm, hz, hel, _, _⟩
  · exact ⟨none, 0, [], hcs, (fun _ h => by cases h), ⟨Nat.le_refl _, fun _ => rfl, fun h => absurd h (Nat.lt_irrefl 0)⟩, Nat.zero_le _⟩
  · rw [cellsR] at hel
    obtain ⟨xs, hxl, hok, hx⟩ := rules_list len elems hz hel
    refine ⟨some a, cap, xs, by rw [hxl]; exact hcs, hok, ⟨by rw [hxl]; exact hl, (fun h => by cases h), (fun h => ?_)⟩, by rw [hxl]; omega⟩
    obtain ⟨x0, h0⟩ : ∃ x0, xs[0]? = some x0 := ⟨_, List.getElem?_eq_getElem h⟩
    have k0 := (World.cells?_some (hx 0 x0 h0)).2.2 0 (by omega)
    rw [show (rlc x0).toList[0]? = some (.string x0.p) from rfl] at k0
    obtain ⟨b, off, spot⟩ := a
    have hspot : spot = none := by simpa [Addr.add] using World.cell?_spot k0
    subst hspot
    refine ⟨b, off, rfl, ?_, fun i x hi j v hv => ?_⟩
    · have := World.block_lt_of_cell? W _ k0
      simpa [Addr.add] using this
    · obtain ⟨_, hlen, hc⟩ := World.cells?_some (hx i x hi)
      have hj : j < 3 := by rw [← hlen]; exact (List.getElem?_eq_some_iff.1 hv).1
      have := hc j hj
      rw [hv] at this
      rw [Addr.add_mid, Addr.add_mid] at this
      exact this
set_option maxRecDepth 100000 in
/-- a parameter that is a table. -/
theorem open_table {H : Type} {enc : TypeId × Value → H} {W : World} {base : Nat} {v : Value} {d : DataW H} {p : List MemPlace} (hv : Value.okWide Tryz.prog W .any base 24 v)
    (h : DataW.Trod enc Tryz.prog W 0 (fun _ => true) true 24 v d p) : ∃ (z : Int) (A : Option Addr) (c : Nat) (xs : List Rl), v = .agg (tabV z A xs.length c) ∧ (-9223372036854775808 ≤ z ∧ z ≤ 9223372036854775807) ∧ (∀ x ∈ xs, x.Ok) ∧ Ruls W A c xs ∧ xs.length ≤ maxLen := by
  obtain ⟨cs, rfl, hsz⟩ := okWide_struct Tryz.underlying24 hv
  rw [cellsT] at hsz
  obtain ⟨fuel, hf⟩ := h
  obtain ⟨xs, n, _, _, _, hlen, hff⟩ := DataW.trod_struct Tryz.underlying24 hf
  obtain ⟨y0, y1, rfl⟩ : ∃ y0 y1, xs = [y0, y1] := by
    match xs, hlen with
    | [a, b], _ => exact ⟨a, b, rfl⟩
  have q0 : DataW.trod enc Tryz.prog W 0 (fun _ => true) true n 3 (List.take (Tryz.prog.cellsOf 3) (List.drop 0 cs.toList)) = some y0 := hff 0 _ rfl
  have q1 : DataW.trod enc Tryz.prog W 0 (fun _ => true) true n 22 (List.take (Tryz.prog.cellsOf 22) (List.drop 1 cs.toList)) = some y1 := hff 1 _ rfl
  rw [cellsI] at q0
  rw [cellsSl] at q1
  obtain ⟨z, hz, _, hzw⟩ := DataW.trod_int Tryz.underlying3 q0
  obtain ⟨A, c, rs, hcs, hok, hR, hm⟩ := rules_cell q1
  refine ⟨z, A, c, rs, ?_, wfI hzw, hok, hR, hm⟩
  have hl : cs.toList.length = 2 := by simpa using hsz
  obtain ⟨l⟩ := cs
  match l, hl with
  | [u, x], _ =>
    simp only [List.drop_zero, List.take_succ_cons, List.take_zero, List.drop_succ_cons, List.cons.injEq, and_true] at hz hcs
    rw [hz, hcs]
end Go.Proofs.YtpkolmmahoopcaaGreatDoor.Rul
/- DERIVED. Rows of texts of the call's own: OwnT; an append of one. -/
namespace Go.Proofs.YtpkolmmahoopcaaGreatDoor.Pth
open Go.RowKit
/-- a row of texts of the call's own. -/
def OwnT (base : Nat) (L : List ByteArray) (v : Value) (w : World) : Prop := w.ownsRow base 9 1 v L.length (L.map Value.string)
theorem OwnT.nil (w : World) (base : Nat) : OwnT base [] (.slice none 0 0) w := World.ownsRow_nil w base 9 1
theorem OwnT.row {base : Nat} {L : List ByteArray} {v : Value} {w : World} (h : OwnT base L v w) (hne : 0 < L.length) : ∃ g cap, v = .slice (some ⟨g, 0, none⟩) L.length cap ∧ L.length ≤ cap ∧ base ≤ g ∧ g < w.heap.size ∧ ∀ j, j < L.length → w.cell? ⟨g, j, none⟩ = some (.string (nth L j)) := by
  rcases h.2 with ⟨rfl, h0⟩ | ⟨g, cap, cur, hv, hb, hg, hn, hm, hs, ht⟩
  · omega
  · refine ⟨g, cap, hv, hn, hb, (Array.getElem?_eq_some_iff.1 hg).1, fun j hj => ?_⟩
    have k : (L.map Value.string)[j]? = some (.string (nth L j)) := by simp [nth, hj]
    rw [← ht, List.getElem?_take, if_pos (by omega)] at k
    rw [cell_row hg]
    simpa using k
theorem infoTz : (Tryz.prog.info? 9).map (fun i => (i.zero, i.size, i.bytes)) = some (some (.string ByteArray.empty), 1, 16) := by kernel_rfl
/-- append(m, x), x laid in a block of its own. -/
theorem wpList_append_txt {w : World} {ops : Array Oper} {rest : List Oper} {o : Oper} {a : Act} {Q : Exit → Act → World → Prop} (hgd : o.guard = none) (s y : Operand)
    (ho : o.op = .call { callee := .builtin .append, args := #[s, y], argTypes := #[65, 65] }) (base : Nat) (v : Value) (L : List ByteArray) (x : ByteArray) (hs : a.eval s = v) (hown : OwnT base L v w)
    (hy : a.eval y = .slice (some ⟨w.heap.size, 0, none⟩) 1 1) (h63 : L.length ≤ 100000) (hbase : base ≤ w.heap.size)
    (h : ∀ v' w', OwnT base (L ++ [x]) v' w' → (∀ B u, Below B u w → B ≤ base → Below B u w') → wpList Tryz.prog ops Q rest (a.put o.dst v') w') : wpList Tryz.prog ops Q (o :: rest) a (w.alloc (.cells #[.string x] 9)) := by
  obtain ⟨i0, hi0, hz00, hz10, hz20⟩ := info_parts infoTz
  refine wpList_append_own_at _ hgd s y 65 ho base 9 i0 (.string ByteArray.empty) 1 16 Tryz.underlying65 hi0 hz00 hz10 hz20 rfl (by decide) v L.length (L.map Value.string) hs (hown.alloc _) ⟨w.heap.size, 0, none⟩ 1 1 [.string x] hy rfl
    (fun j u hu => ?_) (fun u hu => ?_) (by unfold maxLen; omega) (by omega) (by rw [World.size_alloc]; omega) ?_
  · have hg : (w.alloc (.cells #[.string x] 9)).heap[w.heap.size]? = some (.cells #[.string x] 9 (0, 0)) := heap_alloc_new _ _
    rw [Addr.add_mid, Nat.zero_add, cell_row hg]
    simpa using hu
  · simp only [List.mem_cons, List.mem_nil_iff, or_false] at hu
    subst hu; rfl
  · intro v' w' hown' hgrow _ _
    refine h v' w' ?_ (fun B u hu hB => ?_)
    · unfold OwnT
      rw [List.length_append, List.map_append]
      exact hown'
    · refine (hu.alloc (by omega) _).grown hgrow (by rw [World.size_alloc]; omega) (fun k hk => ?_)
      have := (hown.lt k hk).1; omega
end Go.Proofs.YtpkolmmahoopcaaGreatDoor.Pth
/- DERIVED. The reference's may, part, Split. -/
namespace Go.Proofs.YtpkolmmahoopcaaGreatDoor.Pth
open Go.RowKit
set_option maxHeartbeats 2000000 in
theorem may_any (c : Int) (w : World) (h0 : 0 ≤ c) (h1 : c ≤ 255) : Calls Tryz.prog 85 #[.int .u8 c] w fun e w' => e = .returned (.bool (alw c)) ∧ w = w' := by
  go_enter Tryz.func85, Tryz.ntmps85
  go_wp2
  all_goals
    go_ret
    refine ⟨ret_b ?_, rfl⟩
    first
      | decide
      | (rw [Bool.eq_iff_iff]; simp only [alw, Bool.or_eq_true, decide_eq_true_eq, beq_iff_eq, true_iff]; omega)
set_option maxHeartbeats 1000000 in
theorem rpart_any (s : ByteArray) (w : World) (hs : s.size ≤ 1000) : Calls Tryz.prog 63 #[.string s] w fun e w' => e = .returned (.bool (partL s.data.toList)) ∧ w = w' := by
  go_enter Tryz.func63, Tryz.ntmps63
  go_wp2
  go_loop [3, 4] (fun v i => ∃ (k : Nat) (d : Bool), k ≤ s.size ∧ i = .int .i64 k ∧ v = .bool !d ∧ Hid (partG d (s.data.toList.drop k) = partL s.data.toList)) (fun _ i => s.size - (intOf i).toNat)
  case atStart => exact ⟨0, true, Nat.zero_le _, rfl, rfl, rfl⟩
  case round =>
    obtain ⟨k, d, hk, rfl, rfl, HS⟩ := hrel
    by_cases hp : k < s.size
    · have hlt := (s[k]'hp).toNat_lt
      cases hal : alw ((s[k]'hp).toNat : Int)
      · have hr := HS.out
        rw [partG_no hp hal] at hr
        have HR := Lib.hid hr
        clear hr HS
        go_wp2_with (go_at_call 85; refine (may_any _ _ (by omega) (by omega)).mono ?_; rintro e w' ⟨rfl, rfl⟩)
        go_ret
        exact ⟨ret_b HR.out, rfl⟩
      · have hr := HS.out
        rw [partG_yes hp hal] at hr
        have HR := Lib.hid hr
        clear hr HS
        cases d
        · go_wp2_with (go_at_call 85; refine (may_any _ _ (by omega) (by omega)).mono ?_; rintro e w' ⟨rfl, rfl⟩)
          go_round
          case rel => exact ⟨k + 1, false, by omega, by go_num, rfl, Lib.hid (by rw [← HR.out]; simp)⟩
          case measure => simp [intOf]; omega
        · cases h46 : (((s[k]'hp).toNat : Int) == 46)
          all_goals
            have h47 : (((s[k]'hp).toNat : Int) != 46) = !(((s[k]'hp).toNat : Int) == 46) := rfl
            rw [h46] at h47
            go_wp2_with (go_at_call 85; refine (may_any _ _ (by omega) (by omega)).mono ?_; rintro e w' ⟨rfl, rfl⟩)
            go_round
            case rel => exact ⟨k + 1, _, by omega, by go_num, rfl, Lib.hid (by rw [← HR.out, h46])⟩
            case measure => simp [intOf]; omega
    · have hr := HS.out
      rw [partG_end hp] at hr
      have HR := Lib.hid hr
      clear hr HS
      go_wp2
      go_ret
      exact ⟨ret_b HR.out, rfl⟩
end Go.Proofs.YtpkolmmahoopcaaGreatDoor.Pth
/- DERIVED. The reference's Split, Is, Check, Prefix. -/
namespace Go.Proofs.YtpkolmmahoopcaaGreatDoor.Pth
open Go.RowKit
theorem map_data_inj : ∀ {L M : List ByteArray}, L.map (·.data.toList) = M.map (·.data.toList) → L = M
  | [], [], _ => rfl
  | [], _ :: _, h => by simp at h
  | _ :: _, [], h => by simp at h
  | a :: L, b :: M, h => by
    simp only [List.map_cons, List.cons.injEq] at h
    rw [bytes_eq h.1, map_data_inj h.2]
/-- how far the reference's Split has come: texts L, from f on, no slash up to i. -/
def At (s : ByteArray) (L : List ByteArray) (f i : Nat) : Prop :=
  f ≤ i ∧ i ≤ s.size ∧ L.length ≤ i ∧ pcs s.data.toList = L.map (·.data.toList) ++ pcs (s.data.toList.drop f) ∧ 47 ∉ (s.data.toList.drop f).take (i - f)
theorem pcs_one : ∀ {l : List UInt8}, 47 ∉ l → pcs l = [l]
  | [], _ => rfl
  | c :: l, h => by
    simp only [List.mem_cons, not_or] at h
    have ih := pcs_one h.2
    simp [pcs, Ne.symm h.1, ih]
theorem At.zero (s : ByteArray) : At s [] 0 0 := ⟨Nat.le_refl _, Nat.zero_le _, Nat.le_refl _, by simp, by simp⟩
theorem take_next {s : ByteArray} {f i : Nat} (hf : f ≤ i) (h : i < s.size) : (s.data.toList.drop f).take (i + 1 - f) = (s.data.toList.drop f).take (i - f) ++ [s[i]] := by
  have e : i + 1 - f = (i - f) + 1 := by omega
  have hl : i - f < (s.data.toList.drop f).length := by rw [List.length_drop, ← Lib.size_eq]; omega
  rw [e, List.take_succ_eq_append_getElem hl, List.getElem_drop]
  have e2 : f + (i - f) = i := by omega
  congr 2
  simp only [e2]
  rfl
theorem At.step {s : ByteArray} {L : List ByteArray} {f i : Nat} (h : At s L f i) (hi : i < s.size) (hc : s[i] ≠ 47) : At s L f (i + 1) := by
  obtain ⟨h1, h2, h3, h4, h5⟩ := h
  refine ⟨by omega, by omega, by omega, h4, ?_⟩
  rw [take_next h1 hi, List.mem_append, not_or]
  exact ⟨h5, by simpa using Ne.symm hc⟩
theorem At.cut {s : ByteArray} {L : List ByteArray} {f i : Nat} (h : At s L f i) (hi : i < s.size) (hc : s[i] = 47) : At s (L ++ [s.extract f i]) (i + 1) (i + 1) := by
  obtain ⟨h1, h2, h3, h4, h5⟩ := h
  refine ⟨by omega, by omega, by rw [List.length_append, List.length_singleton]; omega, ?_, by simp⟩
  have e : s.data.toList.drop f = (s.data.toList.drop f).take (i - f) ++ 47 :: s.data.toList.drop (i + 1) := by
    have k := List.take_append_drop (i - f) (s.data.toList.drop f)
    rw [List.drop_drop, show f + (i - f) = i by omega, drop_at s i hi, hc] at k
    exact k.symm
  rw [h4, List.map_append, List.append_assoc, List.map_cons, List.map_nil, Lib.extract_data]
  congr 1
  conv => lhs; rw [e]
  rw [pcs_app, pcs_one h5]
theorem At.done {s : ByteArray} {L : List ByteArray} {f : Nat} (h : At s L f s.size) : L ++ [s.extract f s.size] = pcB s := by
  obtain ⟨h1, h2, h3, h4, h5⟩ := h
  refine map_data_inj ?_
  rw [pcB_map, h4, List.map_append, List.map_cons, List.map_nil, Lib.extract_data]
  have e : (s.data.toList.drop f).take (s.size - f) = s.data.toList.drop f := by rw [List.take_of_length_le]; rw [List.length_drop, ← Lib.size_eq]; omega
  rw [e] at h5 ⊢
  rw [pcs_one h5]
set_option maxHeartbeats 1000000 in
theorem rsplit_any (s : ByteArray) (w : World) (hs : s.size ≤ 1000) : Calls Tryz.prog 62 #[.string s] w fun e w' => ∃ v, e = .returned v ∧ OwnT w.heap.size (pcB s) v w' ∧ Below w.heap.size w w' := by
  go_enter Tryz.func62, Tryz.ntmps62
  go_wp2
  go_loopw [3, 4, 5] (fun v f i wr => ∃ (L : List ByteArray) (a k : Nat), f = .int .i64 a ∧ i = .int .i64 k ∧ a ≤ k ∧ k ≤ s.size ∧ Hid (At s L a k) ∧ Hid (OwnT w.heap.size L v wr) ∧ Below w.heap.size w wr) (fun _ _ i _ => s.size - (intOf i).toNat)
  case atStart => exact ⟨[], 0, 0, rfl, rfl, Nat.le_refl _, Nat.zero_le _, At.zero s, OwnT.nil _ _, Below.refl _ _⟩
  case round =>
    obtain ⟨L, a, k, rfl, rfl, hak, hk, HA, HO, hb⟩ := hrel
    have hlen := HA.out.2.2.1
    have hsize := hb.size
    by_cases hp : k < s.size
    · by_cases h47 : s[k] = 47
      · have HC := Lib.hid (HA.out.cut hp h47)
        have e47 : (((s[k]'hp).toNat : Int) == 47) = true := by rw [h47]; rfl
        clear h47
        go_wp2_with (at_builtin; refine wpList_append_txt rfl (.tmp 16) (.tmp 21) rfl w.heap.size _ L (s.extract a k) rfl HO.out rfl (by omega) (by omega) ?_; intro v' w1 O1 g1; have hO1 := Lib.hid O1; have hb1 := g1 _ _ hb (Nat.le_refl _); clear g1 O1)
        go_roundw
        case rel => exact ⟨L ++ [s.extract a k], k + 1, k + 1, by go_num, by go_num, Nat.le_refl _, by omega, HC, hO1, hb1⟩
        case measure => simp [intOf]; omega
      · have HC := Lib.hid (HA.out.step hp h47)
        have e47 : (((s[k]'hp).toNat : Int) == 47) = false := by
          rw [beq_eq_false_iff_ne]
          intro e
          exact h47 (UInt8.toNat_inj.1 (by show (s[k]'hp).toNat = 47; omega))
        clear h47
        go_wp2
        go_roundw
        case rel => exact ⟨L, a, k + 1, rfl, by go_num, by omega, by omega, HC, HO, hb⟩
        case measure => simp [intOf]; omega
    · obtain rfl : k = s.size := by omega
      have HC := Lib.hid HA.out.done
      go_wp2_with (at_builtin; refine wpList_append_txt rfl (.tmp 25) (.tmp 29) rfl w.heap.size _ L (s.extract a s.size) rfl HO.out rfl (by omega) (by omega) ?_; intro v' w1 O1 g1; have hO1 := Lib.hid O1; have hb1 := g1 _ _ hb (Nat.le_refl _); clear g1 O1)
      go_ret
      exact ⟨_, rfl, by rw [← HC.out]; exact hO1.out, hb1⟩
theorem isP_few {s : ByteArray} (h : (pcB s).all partS = true) : isP s.data.toList = (decide ((pcB s).length ≤ 8) && decide (s.size ≤ 60)) := by
  rw [isP, ← parts_all, h, Bool.and_true, ← pcB_length, Bool.and_comm, ← Lib.size_eq]
theorem isP_bad {s : ByteArray} (h : (pcB s).all partS = false) : isP s.data.toList = false := by
  rw [isP, ← parts_all, h, Bool.and_false, Bool.and_false]
theorem pcB_pos (s : ByteArray) : 0 < (pcB s).length := by rw [pcB_len]; omega
theorem all_nth {L : List ByteArray} : (L.all partS = true) ↔ ∀ k, k < L.length → partS (nth L k) = true := by
  rw [List.all_eq_true]
  constructor
  · intro h k hk
    have := h L[k] (List.getElem_mem hk)
    simpa [nth, hk] using this
  · intro h x hx
    obtain ⟨k, hk, rfl⟩ := List.getElem_of_mem hx
    have := h k hk
    simpa [nth, hk] using this
def isB (s : ByteArray) : Bool := isP s.data.toList
theorem nth_size {s : ByteArray} {k : Nat} (h : k < (pcB s).length) : (nth (pcB s) k).size ≤ s.size := by
  rw [Lib.size_eq, Lib.size_eq, nth_data]
  have hm : (pcs s.data.toList).getD k [] ∈ pcs s.data.toList := by
    rw [pcB_length] at h
    rw [List.getD_eq_getElem?_getD, List.getElem?_eq_getElem h]
    exact List.getElem_mem h
  have key : ∀ (l : List UInt8) (x : List UInt8), x ∈ pcs l → x.length ≤ l.length := by
    intro l
    induction l with
    | nil => intro x hx; simp [pcs] at hx; subst hx; simp
    | cons c l ih =>
      intro x hx
      by_cases hc : c = 47
      · subst hc
        rw [pcs_cons_eq, List.mem_cons] at hx
        rcases hx with rfl | hx
        · simp
        · have := ih x hx; simp; omega
      · obtain ⟨y, t, e1, e2⟩ := pcs_cons c l hc
        rw [e2, List.mem_cons] at hx
        rw [e1] at ih
        rcases hx with rfl | hx
        · have := ih y (List.mem_cons_self ..); simp; omega
        · have := ih x (List.mem_cons_of_mem _ hx); simp; omega
  exact key _ _ hm
set_option maxHeartbeats 1000000 in
theorem ris_any (s : ByteArray) (w : World) (hs : s.size ≤ 1000) : Calls Tryz.prog 50 #[.string s] w fun e w' => e = .returned (.bool (isB s)) ∧ Below w.heap.size w w' := by
  have hle : (pcB s).length ≤ 1001 := by
    rw [pcB_length, pcs_len]
    have := List.count_le_length (a := (47 : UInt8)) (l := s.data.toList)
    rw [← Lib.size_eq] at this
    omega
  have hpos := pcB_pos s
  go_enter Tryz.func50, Tryz.ntmps50
  go_wp2_with fail
  refine (rsplit_any s w hs).mono ?_
  rintro e w1 ⟨v, rfl, hO, hb⟩
  obtain ⟨g, cap, rfl, hcap, hg0, hg1, hcell⟩ := hO.row hpos
  have HC := Lib.hid hcell
  clear hO hcell
  go_wp2
  go_loop [4] (fun i => ∃ k : Nat, k ≤ (pcB s).length ∧ i = .int .i64 k ∧ Hid (∀ j, j < k → partS (nth (pcB s) j) = true)) (fun i => (pcB s).length - (intOf i).toNat)
  case atStart => exact ⟨0, Nat.zero_le _, rfl, Lib.hid (fun j hj => absurd hj (Nat.not_lt_zero _))⟩
  case round =>
    obtain ⟨k, hk, rfl, HS⟩ := hrel
    by_cases hp : k < (pcB s).length
    · have hc := HC.out k hp
      have hz := nth_size hp
      cases hpt : partS (nth (pcB s) k)
      · have hpl : partL (nth (pcB s) k).data.toList = false := hpt
        have HR : Hid (isB s = false) := isP_bad (by
          cases e : (pcB s).all partS with
          | false => rfl
          | true => rw [all_nth.1 e k hp] at hpt; cases hpt)
        go_wp2_with (go_at_call 63; refine (rpart_any _ _ (by omega)).mono ?_; rw [hpl]; rintro e w' ⟨rfl, rfl⟩)
        go_ret
        exact ⟨ret_b HR.out.symm, hb⟩
      · have hpl : partL (nth (pcB s) k).data.toList = true := hpt
        have HN := Lib.hid hpt
        clear hpt
        go_wp2_with (go_at_call 63; refine (rpart_any _ _ (by omega)).mono ?_; rw [hpl]; rintro e w' ⟨rfl, rfl⟩)
        go_round
        case rel => exact ⟨k + 1, by omega, by go_num, Lib.hid (fun j hj => by
          by_cases e : j = k
          · rw [e]; exact HN.out
          · exact HS.out j (by omega))⟩
        case measure => simp [intOf]; omega
    · obtain rfl : k = (pcB s).length := by omega
      have HR : Hid (isB s = (decide ((pcB s).length ≤ 8) && decide (s.size ≤ 60))) := isP_few (all_nth.2 HS.out)
      clear HS
      by_cases h8 : (pcB s).length ≤ 8
      · go_wp2
        go_ret
        exact ⟨ret_b (by rw [HR.out, decide_eq_true h8]; simp; omega), hb⟩
      · go_wp2
        go_ret
        exact ⟨ret_b (by rw [HR.out, decide_eq_false h8]; simp), hb⟩
theorem isB_yes {s : ByteArray} (h : isB s = true) : chk s = 0 := by rw [chk, show isP s.data.toList = true from h]; rfl
theorem isB_no {s : ByteArray} (h : isB s = false) : chk s = 15 := by rw [chk, show isP s.data.toList = false from h]; rfl
theorem rcheck_any (s : ByteArray) (w : World) (hs : s.size ≤ 1000) : Calls Tryz.prog 35 #[.string s] w fun e w' => e = .returned (.int .i64 (chk s)) ∧ Below w.heap.size w w' := by
  cases h : isB s
  · have HR := Lib.hid (isB_no h)
    go_enter Tryz.func35, Tryz.ntmps35
    go_wp2_with (go_at_call 50; refine (ris_any _ _ hs).mono ?_; rintro e w' ⟨rfl, hb⟩)
    go_ret
    exact ⟨ret_z HR.out.symm, hb⟩
  · have HR := Lib.hid (isB_yes h)
    go_enter Tryz.func35, Tryz.ntmps35
    go_wp2_with (go_at_call 50; refine (ris_any _ _ hs).mono ?_; rintro e w' ⟨rfl, hb⟩)
    go_ret
    exact ⟨ret_z HR.out.symm, hb⟩
theorem rprefix_any (s : ByteArray) (w : World) (hs : s.size ≤ 1000) : Calls Tryz.prog 52 #[.string s] w fun e w' => e = .returned (.int .i64 (pre s)) ∧ Below w.heap.size w w' := by
  by_cases h0 : s.data.toList = []
  · have hl : s.toList = [] := by rw [Lib.toList_data, h0]
    have HC := Lib.hid (show pre s = 0 from if_pos h0)
    go_enter Tryz.func52, Tryz.ntmps52
    clear h0
    go_wp2
    go_ret
    exact ⟨ret_z HC.out.symm, Below.refl _ _⟩
  · have hl := ne_empty h0
    have HC := Lib.hid (show pre s = chk s from if_neg h0)
    clear h0
    go_enter Tryz.func52, Tryz.ntmps52
    go_wp2_with (go_at_call 35; refine (rcheck_any s _ hs).mono ?_; rintro e w' ⟨rfl, hb1⟩)
    go_ret
    exact ⟨ret_z HC.out.symm, hb1⟩
end Go.Proofs.YtpkolmmahoopcaaGreatDoor.Pth
/- DERIVED. The reference's Under and Order. -/
namespace Go.Proofs.YtpkolmmahoopcaaGreatDoor.Pth
open Go.RowKit
theorem pre_long {p l : ByteArray} (h : ¬ p.size < l.size) : Lib.hasPrefix l.data.toList (p.data.toList ++ [47]) = false := by
  rw [Bool.eq_false_iff]
  intro k
  obtain ⟨r, e⟩ := (pre_iff _ _).1 k
  have := congrArg List.length e
  rw [← Lib.size_eq] at this
  simp at this
  omega
theorem pre_cut {p l : ByteArray} (h : p.size < l.size) : l.data.toList = (l.extract 0 p.size).data.toList ++ l[p.size] :: l.data.toList.drop (p.size + 1) := by
  have k := List.take_append_drop p.size l.data.toList
  rw [drop_at l p.size h] at k
  rw [Lib.extract_data, List.drop_zero, Nat.sub_zero]
  exact k.symm
theorem pre_other {p l : ByteArray} (hn : (l.extract 0 p.size).data.toList ≠ p.data.toList) : Lib.hasPrefix l.data.toList (p.data.toList ++ [47]) = false := by
  rw [Bool.eq_false_iff]
  intro k
  obtain ⟨r, e⟩ := (pre_iff _ _).1 k
  apply hn
  rw [Lib.extract_data, e, List.drop_zero, Nat.sub_zero, List.append_assoc, List.take_append_of_le_length (by rw [← Lib.size_eq]; omega), List.take_of_length_le (by rw [← Lib.size_eq]; omega)]
theorem pre_same {p l : ByteArray} (h : p.size < l.size) (he : (l.extract 0 p.size).data.toList = p.data.toList) : Lib.hasPrefix l.data.toList (p.data.toList ++ [47]) = decide (l[p.size] = 47) := by
  have c := pre_cut h
  rw [he] at c
  rw [Bool.eq_iff_iff, pre_iff, decide_eq_true_eq, c]
  constructor
  · rintro ⟨r, e⟩
    rw [List.append_assoc, List.append_cancel_left_eq] at e
    simpa using (List.cons.inj e).1
  · intro e
    exact ⟨l.data.toList.drop (p.size + 1), by rw [e]; simp⟩
theorem und_pre {p l : ByteArray} (h : pre p ≠ 0) : undB p l = false := by
  cases e : undB p l
  · rfl
  · rcases und_prefix e with k | k
    · exact absurd (if_pos k) h
    · refine absurd ?_ h
      unfold pre
      split
      · rfl
      · exact chk_yes k
theorem pre_in (p : ByteArray) : pre p = 0 ∨ pre p = 15 := by
  unfold pre chk
  split
  · exact .inl rfl
  · split
    · exact .inl rfl
    · exact .inr rfl
set_option maxHeartbeats 2000000 in
theorem runder_any (p l : ByteArray) (w : World) (hp : p.size ≤ 1000) (hl : l.size ≤ 1000) : Calls Tryz.prog 37 #[.string p, .string l] w fun e w' => e = .returned (.bool (undB p l)) ∧ Below w.heap.size w w' := by
  rcases pre_in p with hpr | hpr
  · cases hi : isB l
    · have HR : Hid (undB p l = false) := und_no hi
      go_enter Tryz.func37, Tryz.ntmps37
      go_wp2_with fail
      refine (rprefix_any p w hp).mono ?_
      rw [hpr]
      rintro e w1 ⟨rfl, hb1⟩
      go_wp2_with fail
      refine (ris_any l w1 hl).mono ?_
      rw [hi]
      rintro e w2 ⟨rfl, hb2⟩
      go_wp2
      go_ret
      exact ⟨ret_b HR.out.symm, hb1.trans (hb2.mono hb1.size)⟩
    · by_cases h0 : p.data.toList = []
      · have HR : Hid (undB p l = true) := und_empty hi h0
        have hl0 : p.toList = [] := by rw [Lib.toList_data, h0]
        clear h0
        go_enter Tryz.func37, Tryz.ntmps37
        go_wp2_with fail
        refine (rprefix_any p w hp).mono ?_
        rw [hpr]
        rintro e w1 ⟨rfl, hb1⟩
        go_wp2_with fail
        refine (ris_any l w1 hl).mono ?_
        rw [hi]
        rintro e w2 ⟨rfl, hb2⟩
        go_wp2
        go_ret
        exact ⟨ret_b HR.out.symm, hb1.trans (hb2.mono hb1.size)⟩
      · have hl0 := ne_empty h0
        by_cases he : p.data.toList = l.data.toList
        · have HR : Hid (undB p l = true) := und_same hi he
          have hle := eq_lists he
          clear h0 he
          go_enter Tryz.func37, Tryz.ntmps37
          go_wp2_with fail
          refine (rprefix_any p w hp).mono ?_
          rw [hpr]
          rintro e w1 ⟨rfl, hb1⟩
          go_wp2_with fail
          refine (ris_any l w1 hl).mono ?_
          rw [hi]
          rintro e w2 ⟨rfl, hb2⟩
          go_wp2
          go_ret
          exact ⟨ret_b HR.out.symm, hb1.trans (hb2.mono hb1.size)⟩
        · have HE : Hid (undB p l = _) := und_else hi h0 he
          have hle := ne_lists he
          clear h0 he
          go_enter Tryz.func37, Tryz.ntmps37
          go_wp2_with fail
          refine (rprefix_any p w hp).mono ?_
          rw [hpr]
          rintro e w1 ⟨rfl, hb1⟩
          go_wp2_with fail
          refine (ris_any l w1 hl).mono ?_
          rw [hi]
          rintro e w2 ⟨rfl, hb2⟩
          have hb := hb1.trans (hb2.mono hb1.size)
          clear hb1 hb2
          by_cases hlt : p.size < l.size
          · by_cases hx : (l.extract 0 p.size).data.toList = p.data.toList
            · have HR := Lib.hid (HE.out.trans (pre_same hlt hx))
              have hxe := eq_lists hx
              by_cases hc : l[p.size] = 47
              · have hc' : ((l[p.size].toNat : Int) == 47) = true := by rw [hc]; rfl
                have HF := Lib.hid (HR.out.trans (decide_eq_true hc))
                clear hx HE HR hc
                go_wp2
                go_ret
                exact ⟨ret_b HF.out.symm, hb⟩
              · have hc' : ((l[p.size].toNat : Int) == 47) = false := by
                  rw [beq_eq_false_iff_ne]
                  intro e
                  exact hc (UInt8.toNat_inj.1 (by show (l[p.size]).toNat = 47; omega))
                have HF := Lib.hid (HR.out.trans (decide_eq_false hc))
                clear hx HE HR hc
                go_wp2
                go_ret
                exact ⟨ret_b HF.out.symm, hb⟩
            · have HF := Lib.hid (HE.out.trans (pre_other hx))
              have hxe := ne_lists hx
              clear hx HE
              go_wp2
              go_ret
              exact ⟨ret_b HF.out.symm, hb⟩
          · have HF := Lib.hid (HE.out.trans (pre_long hlt))
            clear HE
            go_wp2
            go_ret
            exact ⟨ret_b HF.out.symm, hb⟩
  · have HR : Hid (undB p l = false) := und_pre (by omega)
    go_enter Tryz.func37, Tryz.ntmps37
    go_wp2_with fail
    refine (rprefix_any p w hp).mono ?_
    rw [hpr]
    rintro e w1 ⟨rfl, hb1⟩
    go_wp2
    go_ret
    exact ⟨ret_b HR.out.symm, hb1⟩
end Go.Proofs.YtpkolmmahoopcaaGreatDoor.Pth
