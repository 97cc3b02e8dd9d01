/- DERIVED. The contract of codec.comps. -/
import Derived.Test.YtigfcmnknijobaaCodWrite
import Derived.LoopN
namespace Go.Proofs.Ytigfcmnknijobaa.Cod
open Go.RowKit Str
theorem info8x8 : (Try.prog.info? 75).map (·.size) = some 8 := by kernel_rfl
set_option maxRecDepth 100000 in
set_option maxHeartbeats 1000000 in
theorem comps_any (c : Nat) (w : World) :
    Calls Try.prog 48 #[.int .u64 (c : Nat)] w fun e w' => e = .returned (.agg (u8s (compL c))) ∧ Below w.heap.size w w' := by
  go_enter Try.func48, Try.ntmps48
  go_wp2
  refine wp_loop_rounds 9 ?_
  rw [rounds_succ]
  go_wp2
  rw [rounds_succ]
  go_wp2
  rw [rounds_succ]
  go_wp2
  rw [rounds_succ]
  go_wp2
  rw [rounds_succ]
  go_wp2
  rw [rounds_succ]
  go_wp2
  rw [rounds_succ]
  go_wp2
  rw [rounds_succ]
  go_wp2
  rw [rounds_succ]
  go_wp2
  have e : u8s (compL c) = #[.int .u8 ((c : Int) / 72057594037927936 % 256), .int .u8 ((c : Int) / 281474976710656 % 256), .int .u8 ((c : Int) / 1099511627776 % 256), .int .u8 ((c : Int) / 4294967296 % 256), .int .u8 ((c : Int) / 16777216 % 256), .int .u8 ((c : Int) / 65536 % 256), .int .u8 ((c : Int) / 256 % 256), .int .u8 ((c : Int) % 256)] := by simp [u8s, compL]
  rw [e]
  exact bodyPost_ret (v := .agg #[.int .u8 ((c : Int) / 72057594037927936 % 256), .int .u8 ((c : Int) / 281474976710656 % 256), .int .u8 ((c : Int) / 1099511627776 % 256), .int .u8 ((c : Int) / 4294967296 % 256), .int .u8 ((c : Int) / 16777216 % 256), .int .u8 ((c : Int) / 65536 % 256), .int .u8 ((c : Int) / 256 % 256), .int .u8 ((c : Int) % 256)]) (results_cell_row rfl _ _ w.heap.size 75 _ (0, 0) _ rfl (heap_alloc2_old w _ _) Try.underlying75 rfl info8x8) rfl ⟨rfl, ((Below.refl _ _).alloc (Nat.le_refl _) _).alloc (by simp) _⟩
end Go.Proofs.Ytigfcmnknijobaa.Cod
