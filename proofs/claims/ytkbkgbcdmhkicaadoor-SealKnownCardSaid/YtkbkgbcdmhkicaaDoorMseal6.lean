/- DERIVED. Texts of ours, merged: XChaState XArrEq XRegionFix. -/
import Derived.Test.YtkbkgbcdmhkicaaDoorMseal5
import Derived.Deep.DeepMust
import Derived.Laws.Tables
import Derived.StillTailTactics
import Derived.Laws.CopyOwn
import Derived.Test.YtkbkgbcdmhkicaaDoorProg
import Derived.Test.YtkbkgbcdmhkicaaDoorMseal1
import Derived.ProofKit
import Derived.ChangeKeysEq
import Derived.Test.YtkbkgbcdmhkicaaDoorMseal3
/- DERIVED. The contracts of chacha.word and chacha.stateOf. -/
namespace Go.Proofs.YtkbkgbcdmhkicaaDoor.Cha
open Go.RowKit
set_option maxHeartbeats 400000 in
theorem word_any (g off len cap : Nat) (a b c d : Int) (hl : 4 ≤ len) (w : World)
    (h0 : w.cell? ⟨g, off, none⟩ = some (.int .u8 a)) (h1 : w.cell? ⟨g, off + 1, none⟩ = some (.int .u8 b)) (h2 : w.cell? ⟨g, off + 2, none⟩ = some (.int .u8 c)) (h3 : w.cell? ⟨g, off + 3, none⟩ = some (.int .u8 d))
    (ha : 0 ≤ a ∧ a < 256) (hb : 0 ≤ b ∧ b < 256) (hc : 0 ≤ c ∧ c < 256) (hd : 0 ≤ d ∧ d < 256) :
    Calls Tryd.prog 72 #[.slice (some ⟨g, off, none⟩) len cap] w fun e w' => e = .returned (.int .u32 (word4 a b c d)) ∧ ∃ n, w' = w.drewN n := by
  obtain ⟨ha0, ha1⟩ := ha
  obtain ⟨hb0, hb1⟩ := hb
  obtain ⟨hc0, hc1⟩ := hc
  obtain ⟨hd0, hd1⟩ := hd
  have l0 : (0 : Int) < len := by omega
  have l1 : (1 : Int) < len := by omega
  have l2 : (2 : Int) < len := by omega
  have l3 : (3 : Int) < len := by omega
  go_enter Tryd.func72, Tryd.ntmps72
  go_wp2
  go_quiet (fail)
  go_wp2
  go_ret
  exact ⟨rfl, nq, rfl⟩
/-- key[4*k:] of an array of n bytes. -/
theorem slice_arr {T : Nat} (n : Nat) (hu : Tryd.prog.underlying T = some (.array n 5)) (wr : World) (g k : Nat) (h : 4 * k < n) : (Instr.sliceAt T (.pointer (some ⟨g, 0, none⟩)) (some (.int .i64 (4 * (k : Int)))) none none).run Tryd.prog wr = .ok (.slice (some ⟨g, 4 * k, none⟩) (n - 4 * k) (n - 4 * k)) wr := by
  have h1 : (4 * (k : Int)).toNat = 4 * k := by omega
  have h2 : ¬ n = 4 * k := by omega
  have h3 : 0 ≤ 4 * (k : Int) := by omega
  have h4 : 4 * (k : Int) ≤ n := by omega
  have hs : ∀ w', (sizeOf 5).run Tryd.prog w' = .ok 1 w' := fun _ => by kernel_rfl
  simp [Instr.sliceAt, Instr.sureAddr, run_underlying hu, Instr.sliceBounds, Instr.sliceBound, asIntOf, h1, h2, h3, h4, hs, Addr.add]
  intro h
  exact h.symm
/-- what the loops of stateOf keep. -/
structure SInv (K Nn l : List Int) (B : Nat) (w wr : World) : Prop where
  key : wr.heap[B]? = some (.cells (u8s K) 23 (0, 0))
  nonce : wr.heap[B + 1]? = some (.cells (u8s Nn) 68 (0, 0))
  res : ∃ Z : List Int, Z.length = 16 ∧ wr.heap[B + 1 + 1]? = some (.cells (u32s Z) 94 (0, 0))
  row : wr.heap[B + 1 + 1 + 1]? = some (.cells (u32s l) 94 (0, 0))
  low : Below B w wr
theorem SInv.drewN {K Nn l : List Int} {B : Nat} {w wr : World} (h : SInv K Nn l B w wr) (n : Nat) : SInv K Nn l B w (wr.drewN n) := ⟨h.key, h.nonce, h.res, h.row, Below.drewN h.low n⟩
theorem SInv.set {K Nn l : List Int} {B : Nat} {w wr : World} (h : SInv K Nn l B w wr) (k : Nat) (v : Int) : SInv K Nn (l.set k v) B w (wr.setCell ⟨B + 1 + 1 + 1, k, none⟩ (.int .u32 v)) := by
  obtain ⟨Z, hZ, hz⟩ := h.res
  refine ⟨?_, ?_, ⟨Z, hZ, ?_⟩, row32_set h.row k v, h.low.setCell (by simp; omega) _⟩
  · rw [heap_setCell_other _ _ _ _ (by simp; omega)]; exact h.key
  · rw [heap_setCell_other _ _ _ _ (by simp)]; exact h.nonce
  · rw [heap_setCell_other _ _ _ _ (by simp)]; exact hz
theorem infoS : (Tryd.prog.info? 94).map (·.size) = some 16 := by kernel_rfl
set_option maxRecDepth 100000 in
set_option maxHeartbeats 1000000 in
theorem stateOf_any (K Nn : List Int) (c : Int) (hK : K.length = 32) (hN : Nn.length = 12) (bK : InB K) (bN : InB Nn) (w : World) :
    Calls Tryd.prog 63 #[.agg (u8s K), .int .u32 c, .agg (u8s Nn)] w fun e' w' => e' = .returned (.agg (u32s (stL K c Nn))) ∧ Below w.heap.size w w' := by
  have HK := Lib.hid hK
  have HN := Lib.hid hN
  have BK := Lib.hid bK
  have BN := Lib.hid bN
  clear hK hN bK bN
  go_enter Tryd.func63, Tryd.ntmps63
  go_wp2
  go_loopw [12] (fun i wr => ∃ k : Nat, k ≤ 8 ∧ i = .int .i64 k ∧ SInv K Nn (stK K c k) w.heap.size w wr) (fun i _ => 8 - (intOf i).toNat)
  case atStart =>
    have h4 := four_new w
    exact ⟨0, Nat.zero_le _, rfl, (h4 _ _ _ _).1, (h4 _ _ _ _).2.1, ⟨[0, 0, 0, 0, 0, 0, 0, 0, 0, 0, 0, 0, 0, 0, 0, 0], rfl, (h4 _ _ _ _).2.2.1⟩, (h4 _ _ _ _).2.2.2, below4 _ _ _ _ _⟩
  case round =>
    obtain ⟨k, hk, rfl, hinv⟩ := hrel
    by_cases hlt : k < 8
    · have c0 := row8_cell hinv.key (4 * k) (by rw [HK.out]; omega)
      have c1 := row8_cell hinv.key (4 * k + 1) (by rw [HK.out]; omega)
      have c2 := row8_cell hinv.key (4 * k + 2) (by rw [HK.out]; omega)
      have c3 := row8_cell hinv.key (4 * k + 3) (by rw [HK.out]; omega)
      have Hc : Hid (Calls Tryd.prog 72 #[.slice (some ⟨w.heap.size, 4 * k, none⟩) (32 - 4 * k) (32 - 4 * k)] wr fun e w' => e = .returned (.int .u32 (wordAt K k)) ∧ ∃ n, w' = wr.drewN n) :=
        word_any _ _ _ _ _ _ _ _ (by omega) _ c0 c1 c2 c3 (BK.out _) (BK.out _) (BK.out _) (BK.out _)
      have hsl := slice_arr 32 Tryd.underlying23 wr w.heap.size k (by omega)
      have hv := row32_cell hinv.row (4 + k) (by rw [stK_length]; omega)
      have hfz := free_row hinv.row (4 + k)
      clear c0 c1 c2 c3
      go_wp2_with (go_at_call 72; refine Hc.out.mono ?_; rintro e w' ⟨rfl, n, rfl⟩)
      go_roundw
      case rel => exact ⟨k + 1, by omega, by go_num, ((hinv.drewN _).set _ _)⟩
      case measure => simp [intOf]; omega
    · have h8 : k = 8 := by omega
      rw [h8] at hinv
      have H8 := Lib.hid h8
      clear h8 hk
      obtain ⟨w1, hw1⟩ : ∃ w1, w1 = wr := ⟨_, rfl⟩
      subst hw1
      go_wp2
      go_loopw [23] (fun i wr => ∃ k : Nat, k ≤ 3 ∧ i = .int .i64 k ∧ SInv K Nn (stN K c Nn k) w.heap.size w wr) (fun i _ => 3 - (intOf i).toNat)
      case atStart => exact ⟨0, Nat.zero_le _, rfl, hinv⟩
      case round =>
        clear hinv
        obtain ⟨k, hk, rfl, hinv⟩ := hrel
        by_cases hlt : k < 3
        · have c0 := row8_cell hinv.nonce (4 * k) (by rw [HN.out]; omega)
          have c1 := row8_cell hinv.nonce (4 * k + 1) (by rw [HN.out]; omega)
          have c2 := row8_cell hinv.nonce (4 * k + 2) (by rw [HN.out]; omega)
          have c3 := row8_cell hinv.nonce (4 * k + 3) (by rw [HN.out]; omega)
          have Hc : Hid (Calls Tryd.prog 72 #[.slice (some ⟨w.heap.size + 1, 4 * k, none⟩) (12 - 4 * k) (12 - 4 * k)] wr fun e w' => e = .returned (.int .u32 (wordAt Nn k)) ∧ ∃ n, w' = wr.drewN n) :=
            word_any _ _ _ _ _ _ _ _ (by omega) _ c0 c1 c2 c3 (BN.out _) (BN.out _) (BN.out _) (BN.out _)
          have hsl := slice_arr 12 Tryd.underlying68 wr (w.heap.size + 1) k (by omega)
          have hv := row32_cell hinv.row (13 + k) (by rw [stN_length]; omega)
          have hfz := free_row hinv.row (13 + k)
          clear c0 c1 c2 c3
          go_wp2_with (go_at_call 72; refine Hc.out.mono ?_; rintro e w' ⟨rfl, n, rfl⟩)
          go_roundw
          case rel => exact ⟨k + 1, by omega, by go_num, ((hinv.drewN _).set _ _)⟩
          case measure => simp [intOf]; omega
        · have h8 : k = 3 := by omega
          rw [h8] at hinv
          have H3 := Lib.hid h8
          clear h8 hk
          obtain ⟨Z, hZ, hz⟩ := hinv.res
          have hr : wr.heap[w.heap.size + 1 + 1 + 1]? = some (.cells (u32s (stL K c Nn)) 94 (0, 0)) := hinv.row
          have low := hinv.low
          have hrow := setRow_heap wr _ _ (u32s (stL K c Nn)) _ _ hz
          have hlow : Below w.heap.size w (wr.setRow (w.heap.size + 1 + 1) (u32s (stL K c Nn))) := below_setRow low (by omega) _
          have hsz : (Tryd.prog.info? 94).map (·.size) = some (u32s (stL K c Nn)).size := by rw [u32s_size, stL_length]; exact infoS
          have hzz : (u32s Z).size = (u32s (stL K c Nn)).size := by rw [u32s_size, u32s_size, stL_length, hZ]
          have Hsz := Lib.hid hsz
          have Hzz := Lib.hid hzz
          have Hr := Lib.hid hr
          have Hz := Lib.hid hz
          have Hrow := Lib.hid hrow
          clear hsz hzz hr hz hrow hZ hinv
          go_wp2_with (first | (with_reducible refine wpList_load_row rfl 94 (.tmp 7) rfl (w.heap.size + 1 + 1 + 1) rfl 94 (u32s (stL K c Nn)) (0, 0) _ Hr.out Tryd.underlying94 rfl Hsz.out ?_) | (with_reducible refine wpList_store_row rfl 94 (.tmp 6) (.tmp 34) rfl (w.heap.size + 1 + 1) (u32s (stL K c Nn)) rfl rfl 94 (u32s Z) Hz.out Hsz.out Hzz.out (u32s_one _) ?_))
          exact bodyPost_ret (v := .agg (u32s (stL K c Nn))) (results_cell_row rfl _ _ (w.heap.size + 1 + 1) 94 _ (0, 0) _ rfl Hrow.out Tryd.underlying94 rfl Hsz.out) rfl ⟨rfl, hlow⟩
end Go.Proofs.YtkbkgbcdmhkicaaDoor.Cha
/- DERIVED. Two arrays of numbers, compared. -/
namespace Go.Proofs.YtkbkgbcdmhkicaaDoor.Arr
open Go.RowKit
/-- a row of numbers of the kind k. -/
def nums (k : IntKind) (l : List Int) : Array Value := (l.map (Value.int k)).toArray
theorem nums_get (k : IntKind) (l : List Int) (j : Nat) (h : j < l.length) : (nums k l)[j]? = some (.int k (l.getD j 0)) := by simp [nums, h]
section
variable {E : Nat} {k : IntKind} (hE : Tryd.prog.underlying E = some (.int k)) (hc : Tryd.prog.cellsOf E = 1) (hg : ∀ w' : World, (isAgg E).run Tryd.prog w' = .ok false w')
include hg in
theorem part_num (l : List Int) (i : Nat) (h : i < l.length) (w : World) : (part E (nums k l) i).run Tryd.prog w = .ok (.int k (l.getD i 0)) w := by
  simp [part, hg, nums_get k l i h]
include hE hc hg in
theorem eqItems_num (d n : Nat) (l m : List Int) (hl : l.length = n) (hm : m.length = n) : ∀ (is : List Nat) (w : World), (∀ i ∈ is, i < n) →
    (Op.eqItems (d + 1) E (Tryd.prog.cellsOf E) (nums k l) (nums k m) is).run Tryd.prog w = .ok (is.all fun i => l.getD i 0 == m.getD i 0) w
  | [], w, _ => by simp [Op.eqItems]
  | i :: is, w, h => by
    have hi := h i (List.mem_cons_self ..)
    have ih := eqItems_num d n l m hl hm is w (fun j hj => h j (List.mem_cons_of_mem _ hj))
    rw [hc] at ih ⊢
    simp only [Op.eqItems, Sem.run_bind, Nat.mul_one, part_num hg l i (by omega) w, part_num hg m i (by omega) w, Result.andThen_ok, run_equalIn_int w d E k k _ _ hE]
    by_cases e : (l.getD i 0 == m.getD i 0) = true
    · simp only [e, Bool.not_true, Bool.false_eq_true, if_false, List.all_cons, Bool.true_and]
      exact ih
    · have e' : (l.getD i 0 == m.getD i 0) = false := by simpa using e
      simp only [e', Bool.not_false, if_true, List.all_cons, Bool.false_and, Sem.run_pure]
theorem all_same (l m : List Int) (n : Nat) (hl : l.length = n) (hm : m.length = n) : ((List.range n).all fun i => l.getD i 0 == m.getD i 0) = decide (l = m) := by
  by_cases e : l = m
  · subst e; simp
  · rw [decide_eq_false e, Bool.eq_false_iff]
    intro h
    apply e
    apply List.ext_getElem (by omega)
    intro j h1 h2
    have := List.all_eq_true.1 h j (List.mem_range.2 (by omega))
    simpa [List.getD_eq_getElem?_getD, h1, h2] using this
include hE hc hg in
/-- ==, of two arrays of n numbers. -/
theorem eql_arr {T n : Nat} (hT : Tryd.prog.underlying T = some (.array n E)) (hi : (Tryd.prog.info? E).isSome = true) (l m : List Int) (hl : l.length = n) (hm : m.length = n) (w : World) :
    (binOp .eql T (.agg (nums k l)) (.agg (nums k m))).run Tryd.prog w = .ok (.bool (decide (l = m))) w := by
  obtain ⟨i, hq⟩ := Option.isSome_iff_exists.1 hi
  rw [run_eql_struct, run_equalIn_array w 9999 (nums k l) (nums k m) hT hq, eqItems_num hE hc hg 9998 n l m hl hm _ w (fun i hi => List.mem_range.1 hi), all_same l m n hl hm]
  rfl
end
end Go.Proofs.YtkbkgbcdmhkicaaDoor.Arr
/- DERIVED. A region that draws its order and whose operations each yield one value, whenever they come up: what its slots hold, by what has come up. -/
namespace Go.Proofs.YtkbkgbcdmhkicaaDoor
/-- a frame's slots, one of them written. -/
def upd (s : Nat → Value) (d : Nat) (v : Value) : Nat → Value := fun x => if x = d then v else s x
/-- what has come up has yielded its value; an operation with no value of its own: none. -/
def Holding (dsts : List Nat) (vl : List (Option Value)) (l : Array Bool) (s : Nat → Value) : Prop := ∀ j v, l.getD j false = true → vl.getD j none = some v → s (dsts.getD j 0) = v
/-- no two operations write one slot. -/
def apartB (dsts : List Nat) : Bool := (List.range dsts.length).all fun i => (List.range dsts.length).all fun j => i == j || dsts.getD i 0 != dsts.getD j 0
theorem apart_of {dsts : List Nat} (h : apartB dsts = true) {i j : Nat} (hi : i < dsts.length) (hj : j < dsts.length) (e : dsts.getD j 0 = dsts.getD i 0) : j = i := by
  have := List.all_eq_true.1 (List.all_eq_true.1 h j (List.mem_range.2 hj)) i (List.mem_range.2 hi)
  simp only [Bool.or_eq_true, beq_iff_eq, bne_iff_ne, ne_eq] at this
  exact this.resolve_right (fun hn => hn e)
theorem Holding.start {dsts : List Nat} {vl : List (Option Value)} {n : Nat} {s : Nat → Value} : Holding dsts vl (Array.replicate n false) s := fun j v h => by
  by_cases hj : j < n
  · simp [Array.getD_eq_getD_getElem?, hj] at h
  · simp [Array.getD_eq_getD_getElem?, hj] at h
theorem Holding.next {dsts : List Nat} {vl : List (Option Value)} {l : Array Bool} {s : Nat → Value} (h : Holding dsts vl l s) (hd : apartB dsts = true) (hs : l.size = dsts.length) (i : Nat) (hi : i < dsts.length) (v : Value) (hv : ∀ v', vl.getD i none = some v' → v = v') :
    Holding dsts vl (l.setIfInBounds i true) (upd s (dsts.getD i 0) v) := fun j v' hl hj => by
  by_cases e : j = i
  · subst e
    unfold upd
    rw [if_pos rfl]
    exact hv v' hj
  · have hl' := (getD_listed hl).resolve_left e
    have hjn : j < dsts.length := by
      by_cases hj' : j < dsts.length
      · exact hj'
      · rw [Array.getD_eq_getD_getElem?, Array.getElem?_eq_none (by omega)] at hl'
        cases hl'
    unfold upd
    rw [if_neg]
    · exact h j v' hl' hj
    · intro he
      exact e (apart_of hd hi hjn he)
theorem Holding.pass {dsts : List Nat} {vl : List (Option Value)} {l : Array Bool} {s : Nat → Value} (h : Holding dsts vl l s) (i : Nat) (hv : vl.getD i none = none) : Holding dsts vl (l.setIfInBounds i true) s := fun j v' hl hj => by
  by_cases e : j = i
  · subst e; rw [hv] at hj; cases hj
  · exact h j v' ((getD_listed hl).resolve_left e) hj
end Go.Proofs.YtkbkgbcdmhkicaaDoor
