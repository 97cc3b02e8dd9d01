/- DERIVED. The law by an invariant over what has come up, inside a fence. -/
import Derived.Test.YtdkfofnkacmliaaDoorRegionInv
import Derived.OrdersIn
import Derived.OwnWalkIn
namespace Go.Proofs.YtdkfofnkacmliaaDoor
section
variable {F : Fence} {n : Nat} {P : Program} {ops : Array Oper} {Q : Exit → Act → World → Prop} {md : Region.Mode}
theorem wpAnyIn_inv (I : Array Bool → Act → World → Prop) (hs : ∀ l a w, I l a w → l.size = ops.size) (hb : backB md ops = true)
    (hfin : ∀ l a w, I l a w → (∀ i, i < ops.size → l.getD i false = true) → Q .normal a w)
    (hstep : ∀ l a w i, I l a w → i < ops.size → l.getD i false = false → (∀ j, waitsB md ops i j = true → l.getD j false = true) → wpOpIn F n P ops Q i (I (l.setIfInBounds i true)) a w) :
    ∀ (fuel : Nat) (l : Array Bool) (a : Act) (w : World), unlisted ops.size l ≤ fuel → I l a w → wpAnyIn F n P md ops Q fuel l a w := by
  intro fuel
  induction fuel with
  | zero =>
    intro l a w hu h
    have hr : Region.ready md ops l = [] := by
      cases he : Region.ready md ops l with
      | nil => rfl
      | cons i rest =>
        have hm : i ∈ Region.ready md ops l := by rw [he]; exact List.mem_cons_self ..
        have hlt := ready_lt hm
        have h0 := (mem_ready.1 hm).1
        have : i ∈ (List.range ops.size).filter fun i => !l.getD i true := List.mem_filter.2 ⟨List.mem_range.2 hlt, by simp only [h0]; rfl⟩
        have := List.length_pos_of_mem this
        unfold unlisted at hu
        omega
    exact ⟨hr, hfin l a w h (all_listed (hs l a w h) hb hr)⟩
  | succ fuel ih =>
    intro l a w hu h
    refine ⟨fun hr => hfin l a w h (all_listed (hs l a w h) hb hr), fun i hi => ?_⟩
    have hlt := ready_lt hi
    have h0 := (mem_ready.1 hi).1
    refine wpOpIn_mono (fun a' w' h' => ih _ _ _ ?_ h') (hstep l a w i h hlt (getD_un h0) (ready_pred hi))
    have hl := hs l a w h
    have : unlisted ops.size (l.setIfInBounds i true) < unlisted ops.size l := by
      unfold unlisted
      refine filter_less _ _ _ (fun j hj => ?_) i (List.mem_range.2 hlt) (by simp only [h0]; rfl) ?_
      · by_cases e : i = j
        · subst e
          simp [hl, hlt] at hj
        · rw [getD_set_ne true e] at hj; exact hj
      · simp [hl, hlt]
    omega
theorem wpOpIn_plain {i : Nat} {o : Oper} {K : Act → World → Prop} {a : Act} {w : World} (ho : ops[i]? = some o) (hg : o.guard = none) (h : o.wpIn F n P a w K Q) : wpOpIn F n P ops Q i K a w := by
  unfold wpOpIn
  rw [ho]
  show if Region.wanted o (yielded ops a.tmps) = true then _ else _
  rw [if_pos (by simp [Region.wanted, hg])]
  exact h
end
end Go.Proofs.YtdkfofnkacmliaaDoor
