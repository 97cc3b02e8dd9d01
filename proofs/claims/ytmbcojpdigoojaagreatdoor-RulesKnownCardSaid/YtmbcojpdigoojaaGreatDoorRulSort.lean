/- DERIVED. slices.SortFunc of rules, by their prefixes: the shelf's contract. -/
import Derived.Test.YtmbcojpdigoojaaGreatDoorShelf
import Derived.Test.YtmbcojpdigoojaaGreatDoorRulWithout
namespace Go.Proofs.YtmbcojpdigoojaaGreatDoor.Rul
open Go.RowKit Lab Pth Go.Shelf Go.Sort
def encR (x : Rl) : List Value := (rlc x).toList
theorem ordR_neg (x y : Rl) : ordR y x = - ordR x y := Pth.ord_neg (bl x.p) (bl y.p)
theorem ordR_trans {x y z : Rl} (h1 : ordR x y < 0) (h2 : ordR y z < 0) : ordR x z < 0 := by
  have h3 := Pth.ord_trans (bl x.p) (bl y.p) (bl z.p) (by unfold ordR at h1; omega) (by unfold ordR at h2; omega)
  by_cases e : ordR x z = 0
  · have e2 := (Pth.ord_eq _ _).1 e
    have h4 : ordR y x < 0 := by unfold ordR at h2 ⊢; rw [e2]; exact h2
    have h5 := ordR_neg x y
    omega
  · unfold ordR at e ⊢; omega
theorem ltOf_iff (x y : Rl) : ltOf ordR x y = true ↔ ordR x y < 0 := by simp [ltOf]
instance : Inhabited Rl := ⟨⟨⟨#[]⟩, 0, 0⟩⟩
theorem ltOf_no (x y : Rl) : ltOf ordR x y = false ↔ 0 ≤ ordR x y := by simp [ltOf]
theorem swoR : SWO (ltOf ordR) := by
  refine ⟨fun x => ?_, fun x y z h k => ?_, fun x y z h k => ?_⟩
  · rw [ltOf_no]
    have h := ordR_neg x x
    omega
  · rw [ltOf_iff] at h k ⊢
    exact ordR_trans h k
  · rw [ltOf_no] at h k ⊢
    have h1 := ordR_neg x y
    have h2 := ordR_neg y z
    have h3 := ordR_neg x z
    have h4 := Pth.ord_trans (bl z.p) (bl y.p) (bl x.p) (by unfold ordR at h2 k; omega) (by unfold ordR at h1 h; omega)
    have h5 : ordR z x ≤ 0 := h4
    omega
theorem lit_world (x y : Rl) (w : World) :
    Calls Tryz.prog 38 #[.agg (rlc x), .agg (rlc y)] w fun e w' => e = .returned (.int .i64 (ordR x y)) ∧ (w.alloc (.cells (rlc x) 48)).alloc (.cells (rlc y) 48) = w' := by
  have h2 := two_new w (.cells (rlc x) 48) (.cells (rlc y) 48)
  have c1 := (rule_row h2.1).1
  have c2 := (rule_row h2.2).1
  have HO := Lib.hid (fun W => order_same x.p y.p W)
  obtain ⟨W2, hW2⟩ : ∃ W2, W2 = (w.alloc (.cells (rlc x) 48)).alloc (.cells (rlc y) 48) := ⟨_, rfl⟩
  rw [← hW2] at c1 c2 ⊢
  have HW2 : Hid ((w.alloc (.cells (rlc x) 48)).alloc (.cells (rlc y) 48) = W2) := hW2.symm
  clear hW2 h2
  go_enter Tryz.func38, Tryz.ntmps38
  go_upto_region 1 with fail
  rw [HW2.out]
  go_wp2_with (go_at_call 22; refine (HO.out W2).mono ?_; rintro e w' ⟨rfl, rfl⟩)
  go_ret
  exact ⟨rfl, rfl⟩
theorem cmpLaysR (blk off size : Nat) (w : World) : CmpLays Tryz.prog 38 #[] encR 3 ordR blk off size w := by
  intro m os dk _ x y
  refine (lit_world x y _).mono ?_
  rintro e w' ⟨he, hw⟩
  exact ⟨he, 0, #[.cells (rlc x) 48, .cells (rlc y) 48], by rw [← hw, alloc_eq_grow, alloc_eq_grow, grow_grow]; rfl⟩
theorem aggRul : ∀ w, (isAgg 48).run Tryz.prog w = .ok true w := Tryz.isAgg48
theorem sizeRul : ∀ w, (Go.sizeOf 48).run Tryz.prog w = .ok 3 w := Tryz.sizeOf48
theorem sort_rules (g cap : Nat) (d : Array Rl) (w : World) (hH : HoldsK encR 3 w g 0 d) (hg : g < w.heap.size) (hsz : d.size < 4611686018427387904) :
    Calls Tryz.prog 37 #[.slice (some ⟨g, 0, none⟩) d.size cap, .func (.func 38) #[] #[]] w fun e w' => e = .returned (.tuple #[]) ∧ ∃ d' n os, PermIn 0 d.size d d' ∧ SortedIn (ltOf ordR) 0 d.size d' ∧ w' = sortWorldK encR 3 w g 0 n d' os := by
  have eg : ∀ args w, (callFunc 38 args).run Tryz.prog w = .ok (.enter 38 args) w := enters_of Tryz.func38 (by kernel_rfl) rfl
  exact AnyQ.slices_SortFunc Tryz.sortRul 3 aggRul sizeRul encR (fun _ => rfl) (fun x => rlc_ones x) ordR swoR 38 #[] g 0 cap d w eg (cmpLaysR g 0 d.size w) hH hg hsz
end Go.Proofs.YtmbcojpdigoojaaGreatDoor.Rul
