/- DERIVED. Contracts of math/bits.RotateLeft32 (a count from 1 to 31) and of chacha.Quarter. -/
import Derived.Test.YtdkfofnkacmliaaDoorProg
import Derived.Test.YtdkfofnkacmliaaDoorChaSpec
import Derived.Outline
import Derived.Deep.QuietTactic
import Derived.BigQuiet
import Derived.Deep.WholeRow
namespace Go.Proofs.YtdkfofnkacmliaaDoor.Cha
open Go.RowKit
theorem and31p_all : ∀ n : Fin 32, bits .and .u64 (n.val : Int) 31 = ((n.val : Nat) : Int) := by decide +kernel
theorem and31p (n : Nat) (h2 : n ≤ 31) : bits .and .u64 (n : Int) 31 = (n : Int) := and31p_all ⟨n, by omega⟩
theorem ret_u32 {a b : Int} (h : a = b) : Ending.returned (.int .u32 a) = .returned (.int .u32 b) := by rw [h]
theorem rotl_eq (x : Int) (n : Nat) : bits .or .u32 (x * 2 ^ n % 4294967296) (x / 2 ^ (32 - n)) = rotl x n := by unfold rotl; rfl
set_option maxHeartbeats 400000 in
theorem rotl_any (x : Int) (n : Nat) (h1 : 1 ≤ n) (h2 : n ≤ 31) (w : World) :
    Calls Tryd.prog 16 #[.int .u32 x, .int .i64 (n : Int)] w fun e w' => e = .returned (.int .u32 (rotl x n)) ∧ w = w' := by
  have hs := and31p n h2
  go_enter Tryd.func16, Tryd.ntmps16
  go_wp2
  go_ret
  exact ⟨ret_u32 (rotl_eq x n), rfl⟩
/-- the same, at a count that is an integer. -/
theorem rotl_same (x n : Int) (h1 : 1 ≤ n) (h2 : n ≤ 31) (w : World) :
    Calls Tryd.prog 16 #[.int .u32 x, .int .i64 n] w fun e w' => e = .returned (.int .u32 (rotl x n.toNat)) ∧ w = w' := by
  obtain ⟨m, rfl⟩ := Int.eq_ofNat_of_zero_le (show 0 ≤ n by omega)
  exact rotl_any x m (by omega) (by omega) w
theorem infoQ : (Tryd.prog.info? 23).map (·.size) = some 4 := by kernel_rfl
theorem four_row {w : World} {g T : Nat} {x0 x1 x2 x3 : Value} (y0 y1 y2 y3 : Value) (h : w.heap[g]? = some (.cells #[x0, x1, x2, x3] T (0, 0))) :
    ((((w.setCell ⟨g, 0, none⟩ y0).setCell ⟨g, 1, none⟩ y1).setCell ⟨g, 2, none⟩ y2).setCell ⟨g, 3, none⟩ y3).heap[g]? = some (.cells #[y0, y1, y2, y3] T (0, 0)) :=
  heap_setCell_same _ _ _ _ _ _ (heap_setCell_same _ _ _ _ _ _ (heap_setCell_same _ _ _ _ _ _ (heap_setCell_same _ _ _ _ _ _ h)))
theorem Below.four {B g : Nat} {w w' : World} (h : Below B w w') (hg : B ≤ g) (y0 y1 y2 y3 : Value) :
    Below B w ((((w'.setCell ⟨g, 0, none⟩ y0).setCell ⟨g, 1, none⟩ y1).setCell ⟨g, 2, none⟩ y2).setCell ⟨g, 3, none⟩ y3) :=
  (((h.setCell hg _).setCell hg _).setCell hg _).setCell hg _
set_option maxRecDepth 100000 in
set_option maxHeartbeats 1000000 in
theorem quarter_lit (a b c d : Int) (w : World) :
    Calls Tryd.prog 8 #[.agg #[.int .u32 a, .int .u32 b, .int .u32 c, .int .u32 d]] w
      fun e' w' => e' = .returned (.agg (u32s [qa2 a b c d, qb2 a b c d, qc2 a b c d, qd2 a b c d])) ∧ Below w.heap.size w w' := by
  go_enter Tryd.func8, Tryd.ntmps8
  go_wp2
  go_quiet (fail)
  go_wp2_with (go_at_call 16; refine (rotl_same _ _ (by decide) (by decide) _).mono ?_; rintro e0 w0 ⟨rfl, rfl⟩)
  have low : Below w.heap.size w (((w.alloc (.cells #[.int .u32 a, .int .u32 b, .int .u32 c, .int .u32 d] 23)).alloc (.cells #[.int .u32 0, .int .u32 0, .int .u32 0, .int .u32 0] 23)).drewN nq) :=
    Below.drewN (((Below.refl _ _).alloc (Nat.le_refl _) _).alloc (by simp) _) nq
  have hrow : (((w.alloc (.cells #[.int .u32 a, .int .u32 b, .int .u32 c, .int .u32 d] 23)).alloc (.cells #[.int .u32 0, .int .u32 0, .int .u32 0, .int .u32 0] 23)).drewN nq).heap[w.heap.size + 1]? = some (.cells #[.int .u32 0, .int .u32 0, .int .u32 0, .int .u32 0] 23 (0, 0)) := (two_new _ _ _).2
  exact bodyPost_ret (v := .agg (u32s [qa2 a b c d, qb2 a b c d, qc2 a b c d, qd2 a b c d])) (results_cell_row rfl _ _ (w.heap.size + 1) 23 _ (0, 0) _ rfl (four_row _ _ _ _ hrow) Tryd.underlying23 rfl infoQ) rfl ⟨rfl, Below.four low (by omega) _ _ _ _⟩
theorem four_of {l : List Int} (h : l.length = 4) : l = [l.getD 0 0, l.getD 1 0, l.getD 2 0, l.getD 3 0] := by
  match l, h with
  | [a, b, c, d], _ => rfl
theorem quarter_any (l : List Int) (hl : l.length = 4) (w : World) :
    Calls Tryd.prog 8 #[.agg (u32s l)] w fun e' w' => e' = .returned (.agg (u32s (quarterL l))) ∧ Below w.heap.size w w' := by
  have h := quarter_lit (l.getD 0 0) (l.getD 1 0) (l.getD 2 0) (l.getD 3 0) w
  have e : u32s l = #[.int .u32 (l.getD 0 0), .int .u32 (l.getD 1 0), .int .u32 (l.getD 2 0), .int .u32 (l.getD 3 0)] := by
    match l, hl with
    | [a, b, c, d], _ => rfl
  rw [e]
  exact h
end Go.Proofs.YtdkfofnkacmliaaDoor.Cha
