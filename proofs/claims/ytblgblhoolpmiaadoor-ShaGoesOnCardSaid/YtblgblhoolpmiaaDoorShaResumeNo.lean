/- DERIVED. sha.Resume at its errors (once in XShaKnown). -/
import Derived.Test.YtblgblhoolpmiaaDoorShaResume
namespace Go.Proofs.YtblgblhoolpmiaaDoor
open Go.RowKit
set_option maxRecDepth 100000 in
set_option maxHeartbeats 1000000 in
theorem resume_no (h : List Int) (n : Int) (v : Value) (w : World) (hn : n < 0 ∨ 72057594037927936 < n) :
    Calls Tryd.prog 17 #[.agg (u8s h), .int .i64 n, v] w fun e' w' => e' = .returned (.tuple #[.agg (u8s (List.replicate 32 0)), .int .i64 2]) ∧ Below w.heap.size w w' := by
  have h2 := two_new w (.cells (u8s h) 35) (.cells zero32 35)
  have H2 := Lib.hid h2
  have low0 := Lib.hid (((Below.refl w.heap.size w).alloc (Nat.le_refl _) (.cells (u8s h) 35)).alloc (by simp) (.cells zero32 35))
  obtain ⟨Z, hZ⟩ : ∃ Z : List Int, Z = List.replicate 32 0 := ⟨_, rfl⟩
  have hZl : Z.length = 32 := by rw [hZ]; rfl
  have H35 : Hid ((Tryd.prog.info? 35).map (·.size) = some (u8s Z).size) := by show _ = _; rw [u8s_size, hZl]; exact info35
  have hZu : #[.int .u8 0, .int .u8 0, .int .u8 0, .int .u8 0, .int .u8 0, .int .u8 0, .int .u8 0, .int .u8 0, .int .u8 0, .int .u8 0, .int .u8 0, .int .u8 0, .int .u8 0, .int .u8 0, .int .u8 0, .int .u8 0, .int .u8 0, .int .u8 0, .int .u8 0, .int .u8 0, .int .u8 0, .int .u8 0, .int .u8 0, .int .u8 0, .int .u8 0, .int .u8 0, .int .u8 0, .int .u8 0, .int .u8 0, .int .u8 0, .int .u8 0, .int .u8 0] = u8s Z := by rw [hZ]; rfl
  have HZl := Lib.hid hZl
  have HZu := Lib.hid hZu
  rw [← hZ]
  unfold zero32 at H2 low0
  clear hZ hZl hZu h2
  rcases hn with hn | hn
  · go_enter Tryd.func17, Tryd.ntmps17
    go_wp2_with (refine wpList_store_row rfl 35 (.tmp 6) (.tmp 15) rfl (w.heap.size + 1) (u8s Z) (by rfl) (congrArg Value.agg HZu.out) 35 _ H2.out.2 H35.out (by rw [u8s_size, HZl.out]; rfl) (u8s_one _) ?_)
    exact bodyPost_ret (v := .tuple #[.agg (u8s Z), .int .i64 2]) (results_row_tmp rfl _ _ (w.heap.size + 1) 35 _ (0, 0) _ _ rfl rfl (setRow_heap _ _ _ _ _ _ H2.out.2) Tryd.underlying35 rfl H35.out) rfl ⟨rfl, below_setRow low0.out (by omega) _⟩
  · have hn' : ¬ n < 0 := by omega
    go_enter Tryd.func17, Tryd.ntmps17
    go_wp2_with (refine wpList_store_row rfl 35 (.tmp 6) (.tmp 15) rfl (w.heap.size + 1) (u8s Z) (by rfl) (congrArg Value.agg HZu.out) 35 _ H2.out.2 H35.out (by rw [u8s_size, HZl.out]; rfl) (u8s_one _) ?_)
    exact bodyPost_ret (v := .tuple #[.agg (u8s Z), .int .i64 2]) (results_row_tmp rfl _ _ (w.heap.size + 1) 35 _ (0, 0) _ _ rfl rfl (setRow_heap _ _ _ _ _ _ H2.out.2) Tryd.underlying35 rfl H35.out) rfl ⟨rfl, below_setRow low0.out (by omega) _⟩
end Go.Proofs.YtblgblhoolpmiaaDoor
