/- DERIVED. The walk of the law ShaGoesOn: going on from any digest, beside the reference's. -/
import Derived.Test.YtblgblhoolpmiaaDoorRef1Resume
import Derived.Test.YtblgblhoolpmiaaDoorShaResumeNo
import Derived.Test.YtblgblhoolpmiaaDoorShaAwake
import Derived.Test.YtblgblhoolpmiaaDoorShaEq
namespace Go.Proofs.YtblgblhoolpmiaaDoor.lawGoesOn
open Go.RowKit
set_option maxRecDepth 100000 in
set_option maxHeartbeats 1000000 in
theorem rresume_no (h : List Int) (n : Int) (v : Value) (w : World) (hn : n < 0 ∨ 72057594037927936 < n) :
    Calls Tryd.prog 18 #[.agg (u8s h), .int .i64 n, v] w fun e' w' => e' = .returned (.tuple #[.agg (u8s (List.replicate 32 0)), .int .i64 2]) ∧ Below w.heap.size w w' := by
  have h2 := two_new w (.cells (u8s h) 35) (.cells zero32 35)
  have H2 := Lib.hid h2
  have low0 := Lib.hid (((Below.refl w.heap.size w).alloc (Nat.le_refl _) (.cells (u8s h) 35)).alloc (by simp) (.cells zero32 35))
  obtain ⟨Z, hZ⟩ : ∃ Z : List Int, Z = List.replicate 32 0 := ⟨_, rfl⟩
  have hZl : Z.length = 32 := by rw [hZ]; rfl
  have H35 : Hid ((Tryd.prog.info? 35).map (·.size) = some (u8s Z).size) := by show _ = _; rw [u8s_size, hZl]; exact info35
  have hZu : #[.int .u8 0, .int .u8 0, .int .u8 0, .int .u8 0, .int .u8 0, .int .u8 0, .int .u8 0, .int .u8 0, .int .u8 0, .int .u8 0, .int .u8 0, .int .u8 0, .int .u8 0, .int .u8 0, .int .u8 0, .int .u8 0, .int .u8 0, .int .u8 0, .int .u8 0, .int .u8 0, .int .u8 0, .int .u8 0, .int .u8 0, .int .u8 0, .int .u8 0, .int .u8 0, .int .u8 0, .int .u8 0, .int .u8 0, .int .u8 0, .int .u8 0, .int .u8 0] = u8s Z := by rw [hZ]; rfl
  have HZl := Lib.hid hZl
  have HZu := Lib.hid hZu
  rw [← hZ]
  unfold zero32 at H2 low0
  clear hZ hZl hZu h2
  rcases hn with hn | hn
  · go_enter Tryd.func18, Tryd.ntmps18
    go_wp2_with (refine wpList_store_row rfl 35 (.tmp 6) (.tmp 17) rfl (w.heap.size + 1) (u8s Z) (by rfl) (congrArg Value.agg HZu.out) 35 _ H2.out.2 H35.out (by rw [u8s_size, HZl.out]; rfl) (u8s_one _) ?_)
    exact bodyPost_ret (v := .tuple #[.agg (u8s Z), .int .i64 2]) (results_row_tmp rfl _ _ (w.heap.size + 1) 35 _ (0, 0) _ _ rfl rfl (setRow_heap _ _ _ _ _ _ H2.out.2) Tryd.underlying35 rfl H35.out) rfl ⟨rfl, below_setRow low0.out (by omega) _⟩
  · have hn' : ¬ n < 0 := by omega
    go_enter Tryd.func18, Tryd.ntmps18
    go_wp2_with (refine wpList_store_row rfl 35 (.tmp 6) (.tmp 17) rfl (w.heap.size + 1) (u8s Z) (by rfl) (congrArg Value.agg HZu.out) 35 _ H2.out.2 H35.out (by rw [u8s_size, HZl.out]; rfl) (u8s_one _) ?_)
    exact bodyPost_ret (v := .tuple #[.agg (u8s Z), .int .i64 2]) (results_row_tmp rfl _ _ (w.heap.size + 1) 35 _ (0, 0) _ _ rfl rfl (setRow_heap _ _ _ _ _ _ H2.out.2) Tryd.underlying35 rfl H35.out) rfl ⟨rfl, below_setRow low0.out (by omega) _⟩
set_option maxRecDepth 100000 in
set_option maxHeartbeats 1000000 in
theorem walk_long (h : List Int) (n : Int) (A : Option Addr) (c m : Nat) (w : World) (hL : Laid w) (hm : 3000 < m) (hx : m ≤ 9223372036854775807) :
    Calls Tryd.prog 5 #[.agg (u8s h), .int .i64 n, .slice A m c] w fun e' w' => e' = .returned (.bool true) ∧ Below w.heap.size w w' := by
  have HL := Lib.hid hL
  have hsz := hL.sz
  have hm' : (3000 : Int) < m := by omega
  have low0 := Lib.hid ((Below.refl w.heap.size w).alloc (Nat.le_refl _) (.cells (u8s h) 35))
  clear hL hx hm
  go_enter Tryd.func5, Tryd.ntmps5
  go_wp2_with (go_at_call 14; refine (awake_any _ (HL.out.below low0.out hsz)).mono ?_; rintro e w1 ⟨rfl, low1⟩)
  go_ret
  exact ⟨rfl, low0.out.trans (low1.mono low0.out.size)⟩
set_option maxRecDepth 100000 in
set_option maxHeartbeats 2000000 in
theorem walk_short (h X : List Int) (E n : Int) (A : Option Addr) (c m : Nat) (w : World) (hh : h.length = 32) (hX : X.length = 32) (hL : Laid w) (hs : m ≤ 3000)
    (h1 : ∀ W : World, Below w.heap.size w W → Calls Tryd.prog 17 #[.agg (u8s h), .int .i64 n, .slice A m c] W fun e' w' => e' = .returned (.tuple #[.agg (u8s X), .int .i64 E]) ∧ Below W.heap.size W w')
    (h2 : ∀ W : World, Below w.heap.size w W → Calls Tryd.prog 18 #[.agg (u8s h), .int .i64 n, .slice A m c] W fun e' w' => e' = .returned (.tuple #[.agg (u8s X), .int .i64 E]) ∧ Below W.heap.size W w') :
    Calls Tryd.prog 5 #[.agg (u8s h), .int .i64 n, .slice A m c] w fun e' w' => e' = .returned (.bool true) ∧ Below w.heap.size w w' := by
  have HL := Lib.hid hL
  have hsz := hL.sz
  have hs' : ¬ (3000 : Int) < m := by omega
  have e0 := fun W => eql35_same X hX W
  have HH : Hid ((Tryd.prog.info? 35).map (·.size) = some (u8s h).size) := by show _ = _; rw [u8s_size, hh]; exact info35
  have HXi : Hid ((Tryd.prog.info? 35).map (·.size) = some (u8s X).size) := by show _ = _; rw [u8s_size, hX]; exact info35
  have HX := Lib.hid hX
  have H1 := Lib.hid h1
  have H2 := Lib.hid h2
  have low0 := Lib.hid ((Below.refl w.heap.size w).alloc (Nat.le_refl _) (.cells (u8s h) 35))
  have new0 := Lib.hid (Go.heap_alloc_new w (.cells (u8s h) 35))
  clear hh hX hL h1 h2
  go_enter Tryd.func5, Tryd.ntmps5
  go_wp2_with (first
    | (refine wpList_load_row rfl 35 (.tmp 7) rfl w1.heap.size rfl 35 (u8s X) (0, 0) _ R7.out Tryd.underlying35 rfl HXi.out ?_)
    | (refine wpList_load_row rfl 35 (.tmp 9) rfl w3.heap.size rfl 35 (u8s X) (0, 0) _ R9.out Tryd.underlying35 rfl HXi.out ?_)
    | (refine wpList_load_row rfl 35 (.tmp 3) rfl w.heap.size rfl 35 (u8s h) (0, 0) _ new2.out Tryd.underlying35 rfl HH.out ?_)
    | (refine wpList_load_row rfl 35 (.tmp 3) rfl w.heap.size rfl 35 (u8s h) (0, 0) _ new0.out Tryd.underlying35 rfl HH.out ?_)
    | (go_at_call 17; refine (H1.out _ low0.out).mono ?_; rintro e w1 ⟨rfl, low1⟩; have Low1 := Lib.hid (low0.out.trans (low1.mono low0.out.size)); have new1 := Lib.hid ((low1.block _ (Array.getElem?_eq_some_iff.1 new0.out).1).trans new0.out); clear low1)
    | (refine wpList_store_row rfl 35 (.tmp 7) (.tmp 20) rfl w1.heap.size (u8s X) rfl rfl 35 _ (Go.heap_alloc_new _ _) HXi.out (by rw [u8s_size, HX.out]; rfl) (u8s_one _) ?_; rw [World.setRow_alloc_new]; have Low2 := Lib.hid (Low1.out.alloc Low1.out.size (.cells (u8s X) 35)); have new2 := Lib.hid ((Go.heap_alloc_old w1 (.cells (u8s X) 35) (Array.getElem?_eq_some_iff.1 new1.out).1).trans new1.out); have row2 := Lib.hid (Go.heap_alloc_new w1 (.cells (u8s X) 35)))
    | (go_at_call 18; refine (H2.out _ Low2.out).mono ?_; rintro e w3 ⟨rfl, low3⟩; have Low3 := Lib.hid (Low2.out.trans (low3.mono Low2.out.size)); have row3 := Lib.hid ((low3.block _ (Array.getElem?_eq_some_iff.1 row2.out).1).trans row2.out); clear low3)
    | (refine wpList_store_row rfl 35 (.tmp 9) (.tmp 27) rfl w3.heap.size (u8s X) rfl rfl 35 _ (Go.heap_alloc_new _ _) HXi.out (by rw [u8s_size, HX.out]; rfl) (u8s_one _) ?_; rw [World.setRow_alloc_new]; have Low4 := Lib.hid (Low3.out.alloc Low3.out.size (.cells (u8s X) 35)); have R7 := Lib.hid ((Go.heap_alloc_old w3 (.cells (u8s X) 35) (Array.getElem?_eq_some_iff.1 row3.out).1).trans row3.out); have R9 := Lib.hid (Go.heap_alloc_new w3 (.cells (u8s X) 35)))
    | (go_at_call 14; refine (awake_any _ (HL.out.below Low4.out hsz)).mono ?_; rintro e w5 ⟨rfl, low5⟩; have Low5 := Lib.hid (Low4.out.trans (low5.mono Low4.out.size)); clear low5))
  go_ret
  exact ⟨rfl, Low5.out⟩
end Go.Proofs.YtblgblhoolpmiaaDoor.lawGoesOn
