/- DERIVED. The statements' own helpers of layer 2: works, cut. -/
import Derived.Test.YtblgblhoolpmiaaDoorHmacSum
import Derived.KernelRfl
import Derived.Lib.SlBytesConst
namespace Go.Proofs.YtblgblhoolpmiaaDoor
open Go.RowKit
def jefe : List Int := [74, 101, 102, 101]
def what : List Int := [119, 104, 97, 116, 32, 100, 111, 32, 121, 97, 32, 119, 97, 110, 116, 32, 102, 111, 114, 32, 110, 111, 116, 104, 105, 110, 103, 63]
def jefeTag : List Int := [91, 220, 193, 70, 191, 96, 117, 78, 106, 4, 36, 38, 8, 149, 117, 199, 90, 0, 63, 8, 157, 39, 57, 131, 157, 236, 88, 185, 100, 236, 56, 67]
theorem jefe_tag : hmacL jefe what = jefeTag := by kernel_rfl
theorem inB_of {l : List Int} (h : (l.all fun x => decide (0 ≤ x) && decide (x < 256)) = true) : InB l := by
  intro j
  by_cases hj : j < l.length
  · have := List.all_eq_true.1 h l[j] (List.getElem_mem hj)
    simp at this
    simpa [List.getD_eq_getElem?_getD, hj] using this
  · rw [getD_out _ _ (by omega)]; omega
theorem byt_rowF {w : World} {g : Nat} {t : TypeId} {l : List Int} {fr : Nat × Nat} (h : w.heap[g]? = some (.cells (u8s l) t fr)) {n : Nat} (hn : l.length = n) : Byt w (some ⟨g, 0, none⟩) n l :=
  ⟨by omega, (fun h => by cases h), fun _ => ⟨g, 0, rfl, (Array.getElem?_eq_some_iff.1 h).1, fun j hj => by rw [Nat.zero_add, cell_row h, u8s_get _ _ hj]⟩⟩
theorem two_rows (w : World) (L M : List Int) (f g : Nat × Nat) : Byt ((w.alloc (.cells (u8s L) 5 f)).alloc (.cells (u8s M) 5 g)) (some ⟨w.heap.size, 0, none⟩) L.length L ∧ Byt ((w.alloc (.cells (u8s L) 5 f)).alloc (.cells (u8s M) 5 g)) (some ⟨w.heap.size + 1, 0, none⟩) M.length M :=
  ⟨byt_rowF (two_new w _ _).1 rfl, byt_rowF (two_new w _ _).2 rfl⟩
/-- bytes of a constant: the row, marked. -/
theorem conv_const (w : World) (C : Array Value) (n : Nat) : (convert 26 26 (.slice (some ⟨w.heap.size, 0, none⟩) n n)).run Tryd.prog (w.alloc (.cells C 5)) = .ok (.slice (some ⟨w.heap.size, 0, none⟩) n n) (w.alloc (.cells C 5 (C.size, C.size + 1))) :=
  Lib.run_convert_bytes_const (P := Tryd.prog) w 26 5 C n n Tryd.underlying26 Tryd.underlying5
theorem conv_const2 (w : World) (o : Obj) (C : Array Value) (n : Nat) : (convert 26 26 (.slice (some ⟨w.heap.size + 1, 0, none⟩) n n)).run Tryd.prog ((w.alloc o).alloc (.cells C 5)) = .ok (.slice (some ⟨w.heap.size + 1, 0, none⟩) n n) ((w.alloc o).alloc (.cells C 5 (C.size, C.size + 1))) := by
  have h := conv_const (w.alloc o) C n
  rwa [show (w.alloc o).heap.size = w.heap.size + 1 by simp] at h
theorem below_two (w : World) (A B : Obj) : Below w.heap.size w ((w.alloc A).alloc B) := ((Below.refl _ _).alloc (Nat.le_refl _) _).alloc (by simp) _
/-- the tag of the second example, by the program. -/
theorem jefe_call (w : World) (hL : Laid w) :
    Calls Tryd.prog 20 #[.slice (some ⟨w.heap.size, 0, none⟩) 4 4, .slice (some ⟨w.heap.size + 1, 0, none⟩) 28 28] ((w.alloc (.cells #[.int .u8 74, .int .u8 101, .int .u8 102, .int .u8 101] 5 (4, 5))).alloc (.cells #[.int .u8 119, .int .u8 104, .int .u8 97, .int .u8 116, .int .u8 32, .int .u8 100, .int .u8 111, .int .u8 32, .int .u8 121, .int .u8 97, .int .u8 32, .int .u8 119, .int .u8 97, .int .u8 110, .int .u8 116, .int .u8 32, .int .u8 102, .int .u8 111, .int .u8 114, .int .u8 32, .int .u8 110, .int .u8 111, .int .u8 116, .int .u8 104, .int .u8 105, .int .u8 110, .int .u8 103, .int .u8 63] 5 (28, 29))) fun e w' => e = .returned (.agg (u8s jefeTag)) ∧ Below w.heap.size w w' := by
  have h := hmac_any jefe what (some ⟨w.heap.size, 0, none⟩) (some ⟨w.heap.size + 1, 0, none⟩) 4 4 28 28 ((w.alloc (.cells (u8s jefe) 5 (4, 5))).alloc (.cells (u8s what) 5 (28, 29))) rfl rfl (inB_of (by decide)) (inB_of (by decide)) (two_rows w jefe what _ _).1 (two_rows w jefe what _ _).2 (hL.below (below_two w _ _) hL.sz) (by omega) (by omega)
  rw [jefe_tag] at h
  exact h.mono fun e w' ⟨he, hb⟩ => ⟨he, (below_two w _ _).trans (hb.mono (by simp; omega))⟩
theorem a_same (w : World) : Calls Tryd.prog 22 #[.slice (some ⟨w.heap.size, 0, none⟩) 1 1, .slice (some ⟨w.heap.size + 1, 0, none⟩) 1 1] ((w.alloc (.cells #[.int .u8 97] 5 (1, 2))).alloc (.cells #[.int .u8 97] 5 (1, 2))) fun e w' => e = .returned (.bool true) ∧ Below w.heap.size w w' := by
  have h := equal_yes [97] (some ⟨w.heap.size, 0, none⟩) (some ⟨w.heap.size + 1, 0, none⟩) 1 1 1 ((w.alloc (.cells (u8s [97]) 5 (1, 2))).alloc (.cells (u8s [97]) 5 (1, 2))) rfl (inB_of (by decide)) (two_rows w [97] [97] _ _).1 (two_rows w [97] [97] _ _).2 (by omega)
  refine h.mono ?_
  rintro e w' ⟨he, q, rfl⟩
  have hb := below_two w (.cells (u8s [97]) 5 (1, 2)) (.cells (u8s [97]) 5 (1, 2))
  exact ⟨he, ⟨hb.os, hb.tape, hb.output, hb.size, hb.block⟩⟩
set_option maxRecDepth 100000 in
set_option maxHeartbeats 1000000 in
theorem works_any (w : World) (hL : Laid w) :
    Calls Tryd.prog 23 #[] w fun e w' => e = .returned (.bool true) ∧ Below w.heap.size w w' := by
  have HC := Lib.hid (jefe_call w hL)
  have H35 : Hid ((Tryd.prog.info? 35).map (·.size) = some (u8s jefeTag).size) := by show _ = _; rw [u8s_size]; exact info35
  have k1 : (convert 26 26 (.slice (some ⟨w.heap.size, 0, none⟩) 4 4)).run Tryd.prog (w.alloc (.cells #[.int .u8 74, .int .u8 101, .int .u8 102, .int .u8 101] 5)) = .ok (.slice (some ⟨w.heap.size, 0, none⟩) 4 4) (w.alloc (.cells #[.int .u8 74, .int .u8 101, .int .u8 102, .int .u8 101] 5 (4, 5))) := conv_const w _ 4
  have k2 : (convert 26 26 (.slice (some ⟨w.heap.size + 1, 0, none⟩) 28 28)).run Tryd.prog ((w.alloc (.cells #[.int .u8 74, .int .u8 101, .int .u8 102, .int .u8 101] 5 (4, 5))).alloc (.cells #[.int .u8 119, .int .u8 104, .int .u8 97, .int .u8 116, .int .u8 32, .int .u8 100, .int .u8 111, .int .u8 32, .int .u8 121, .int .u8 97, .int .u8 32, .int .u8 119, .int .u8 97, .int .u8 110, .int .u8 116, .int .u8 32, .int .u8 102, .int .u8 111, .int .u8 114, .int .u8 32, .int .u8 110, .int .u8 111, .int .u8 116, .int .u8 104, .int .u8 105, .int .u8 110, .int .u8 103, .int .u8 63] 5)) = .ok (.slice (some ⟨w.heap.size + 1, 0, none⟩) 28 28) ((w.alloc (.cells #[.int .u8 74, .int .u8 101, .int .u8 102, .int .u8 101] 5 (4, 5))).alloc (.cells #[.int .u8 119, .int .u8 104, .int .u8 97, .int .u8 116, .int .u8 32, .int .u8 100, .int .u8 111, .int .u8 32, .int .u8 121, .int .u8 97, .int .u8 32, .int .u8 119, .int .u8 97, .int .u8 110, .int .u8 116, .int .u8 32, .int .u8 102, .int .u8 111, .int .u8 114, .int .u8 32, .int .u8 110, .int .u8 111, .int .u8 116, .int .u8 104, .int .u8 105, .int .u8 110, .int .u8 103, .int .u8 63] 5 (28, 29))) := conv_const2 w _ _ 28
  clear hL
  go_enter Tryd.func23, Tryd.ntmps23
  go_upto_region 2 with (first
    | (go_at_call 20; refine HC.out.mono ?_; rintro e w1 ⟨rfl, low1⟩; have Low1 := Lib.hid low1; clear low1)
    | (refine wpList_store_row rfl 35 (.tmp 1) (.tmp 6) rfl w1.heap.size (u8s jefeTag) (by rfl) (by rfl) 35 _ (Go.heap_alloc_new w1 _) H35.out rfl (u8s_one _) ?_; rw [World.setRow_alloc_new]))
  clear k1 k2
  have d := fun j => cell_row (Go.heap_alloc_new w1 (.cells (u8s jefeTag) 35)) j
  have d0 := d 0
  have d1 := d 1
  have d31 := d 31
  have e0 : (u8s jefeTag)[0]? = some (.int .u8 91) := rfl
  have e1 : (u8s jefeTag)[1]? = some (.int .u8 220) := rfl
  have e31 : (u8s jefeTag)[31]? = some (.int .u8 67) := rfl
  rw [e0] at d0
  rw [e1] at d1
  rw [e31] at d31
  have low2 := Low1.out.alloc Low1.out.size (.cells (u8s jefeTag) 35)
  obtain ⟨w2, hw2⟩ : ∃ w2, w2 = w1.alloc (.cells (u8s jefeTag) 35) := ⟨_, rfl⟩
  rw [← hw2] at d0 d1 d31 low2 ⊢
  have Low2 := Lib.hid low2
  have HE := Lib.hid (a_same w2)
  have k1 : (convert 26 26 (.slice (some ⟨w2.heap.size, 0, none⟩) 1 1)).run Tryd.prog (w2.alloc (.cells #[.int .u8 97] 5)) = .ok (.slice (some ⟨w2.heap.size, 0, none⟩) 1 1) (w2.alloc (.cells #[.int .u8 97] 5 (1, 2))) := conv_const w2 _ 1
  have k2 : (convert 26 26 (.slice (some ⟨w2.heap.size + 1, 0, none⟩) 1 1)).run Tryd.prog ((w2.alloc (.cells #[.int .u8 97] 5 (1, 2))).alloc (.cells #[.int .u8 97] 5)) = .ok (.slice (some ⟨w2.heap.size + 1, 0, none⟩) 1 1) ((w2.alloc (.cells #[.int .u8 97] 5 (1, 2))).alloc (.cells #[.int .u8 97] 5 (1, 2))) := conv_const2 w2 _ _ 1
  clear d e0 e1 e31 hw2 low2
  go_wp2_with (go_at_call 22; refine HE.out.mono ?_; rintro e w3 ⟨rfl, low3⟩)
  go_ret
  exact ⟨rfl, Low2.out.trans (low3.mono Low2.out.size)⟩
/-- the statements' own cut: 600 bytes at most. -/
theorem cut_any (A : Option Addr) (c n : Nat) (w : World) (hc : n ≤ c) :
    Calls Tryd.prog 19 #[.slice A n c] w fun e w' => e = .returned (.slice A (min n 600) c) ∧ w = w' := by
  by_cases h : n ≤ 600
  · have e : min n 600 = n := Nat.min_eq_left h
    rw [e]
    have h1 : (n : Int) ≤ 600 := by omega
    have h2 : (n : Int) ≤ c := by omega
    clear e
    go_enter Tryd.func19, Tryd.ntmps19
    go_wp2
    go_ret
    exact ⟨rfl, rfl⟩
  · have e : min n 600 = 600 := Nat.min_eq_right (by omega)
    rw [e]
    have h1 : ¬ (n : Int) ≤ 600 := by omega
    have h2 : (600 : Int) ≤ c := by omega
    clear e
    go_enter Tryd.func19, Tryd.ntmps19
    go_wp2
    go_ret
    exact ⟨rfl, rfl⟩
end Go.Proofs.YtblgblhoolpmiaaDoor
