/- DERIVED. A region that draws its order, by an invariant over what has come up already. -/
import Derived.RegionTactic
namespace Go.Proofs.Ytnpbogioehpeoaa
theorem filter_more (xs : List Nat) (p q : Nat → Bool) (h : ∀ j, q j = true → p j = true) : (xs.filter q).length ≤ (xs.filter p).length := by
  induction xs with
  | nil => simp
  | cons x xs ih =>
    cases hq : q x
    · cases hp : p x <;> simp [hq, hp] <;> omega
    · have hp := h x hq
      simp [hq, hp]; exact ih
theorem filter_less (xs : List Nat) (p q : Nat → Bool) (h : ∀ j, q j = true → p j = true) (i : Nat) (hi : i ∈ xs) (hp : p i = true) (hq : q i = false) : (xs.filter q).length < (xs.filter p).length := by
  induction xs with
  | nil => cases hi
  | cons x xs ih =>
    by_cases e : x = i
    · subst e
      have := filter_more xs p q h
      simp [hq, hp]; omega
    · have := ih (by simpa [Ne.symm e] using hi)
      cases hq' : q x
      · cases hp' : p x <;> simp [hq', hp'] <;> omega
      · have hp' := h x hq'
        simp [hq', hp']; exact this
section
variable {P : Program} {ops : Array Oper} {Q : Exit → Act → World → Prop} {md : Region.Mode}
/-- every operation waits for earlier ones alone (of the edges that bind). -/
def backB (md : Region.Mode) (ops : Array Oper) : Bool := (List.range ops.size).all fun i => ((ops[i]?).map fun o => o.after.all fun e => !Region.binds md e || decide (e.on < i)).getD true
/-- operation i waits for j. -/
def waitsB (md : Region.Mode) (ops : Array Oper) (i j : Nat) : Bool := ((ops[i]?).map fun o => o.after.any fun e => Region.binds md e && e.on == j).getD false
def unlisted (n : Nat) (l : Array Bool) : Nat := ((List.range n).filter fun i => !l.getD i true).length
theorem ready_lt {l : Array Bool} {i : Nat} (h : i ∈ Region.ready md ops l) : i < ops.size := by
  obtain ⟨_, o, ho, _⟩ := mem_ready.1 h
  exact (Array.getElem?_eq_some_iff.1 ho).1
theorem ready_pred {l : Array Bool} {i : Nat} (h : i ∈ Region.ready md ops l) (j : Nat) (hw : waitsB md ops i j = true) : l.getD j false = true := by
  obtain ⟨_, o, ho, hall⟩ := mem_ready.1 h
  simp only [waitsB, ho, Option.map_some, Option.getD_some, Array.any_eq_true', Bool.and_eq_true, beq_iff_eq] at hw
  obtain ⟨e, he, hb, rfl⟩ := hw
  exact hall e he hb
theorem all_listed {l : Array Bool} (hs : l.size = ops.size) (hb : backB md ops = true) (h : Region.ready md ops l = []) : ∀ i, i < ops.size → l.getD i false = true := by
  intro i
  induction i using Nat.strongRecOn with
  | ind i ih =>
    intro hi
    cases hl : l.getD i false with
    | true => rfl
    | false =>
      have hb' := List.all_eq_true.1 hb i (List.mem_range.2 hi)
      have ho : ops[i]? = some ops[i] := Array.getElem?_eq_getElem hi
      rw [ho, Option.map_some, Option.getD_some] at hb'
      have hm : i ∈ Region.ready md ops l := by
        refine mem_ready.2 ⟨?_, _, ho, fun e he hbd => ?_⟩
        · rw [← hl]
          simp only [Array.getD_eq_getD_getElem?]
          rw [Array.getElem?_eq_getElem (by omega)]
          rfl
        · have := Array.all_eq_true_iff_forall_mem.1 hb' e he
          have hlt : e.on < i := by
            have h2 : Region.binds md e = false ∨ e.on < i := by simpa using this
            exact h2.resolve_left (by rw [hbd]; decide)
          exact ih _ hlt (by omega)
      rw [h] at hm
      cases hm
theorem getD_un {l : Array Bool} {i : Nat} (h : l.getD i true = false) : l.getD i false = false := by
  rw [Array.getD_eq_getD_getElem?] at h ⊢
  cases e : l[i]? with
  | none => rfl
  | some b => rw [e] at h; exact h
theorem wpAny_inv (I : Array Bool → Act → World → Prop) (hs : ∀ l a w, I l a w → l.size = ops.size) (hb : backB md ops = true)
    (hfin : ∀ l a w, I l a w → (∀ i, i < ops.size → l.getD i false = true) → Q .normal a w)
    (hstep : ∀ l a w i, I l a w → i < ops.size → l.getD i false = false → (∀ j, waitsB md ops i j = true → l.getD j false = true) → wpOp P ops Q i (I (l.setIfInBounds i true)) a w) :
    ∀ (fuel : Nat) (l : Array Bool) (a : Act) (w : World), unlisted ops.size l ≤ fuel → I l a w → wpAny P md ops Q fuel l a w := by
  intro fuel
  induction fuel with
  | zero =>
    intro l a w hu h
    have hr : Region.ready md ops l = [] := by
      cases he : Region.ready md ops l with
      | nil => rfl
      | cons i rest =>
        have hm : i ∈ Region.ready md ops l := by rw [he]; exact List.mem_cons_self ..
        have hlt := ready_lt hm
        have h0 := (mem_ready.1 hm).1
        have : i ∈ (List.range ops.size).filter fun i => !l.getD i true := List.mem_filter.2 ⟨List.mem_range.2 hlt, by simp only [h0]; rfl⟩
        have := List.length_pos_of_mem this
        unfold unlisted at hu
        omega
    exact ⟨hr, hfin l a w h (all_listed (hs l a w h) hb hr)⟩
  | succ fuel ih =>
    intro l a w hu h
    refine ⟨fun hr => hfin l a w h (all_listed (hs l a w h) hb hr), fun i hi => ?_⟩
    have hlt := ready_lt hi
    have h0 := (mem_ready.1 hi).1
    refine wpOp_mono (fun a' w' h' => ih _ _ _ ?_ h') (hstep l a w i h hlt (getD_un h0) (ready_pred hi))
    have hl := hs l a w h
    have : unlisted ops.size (l.setIfInBounds i true) < unlisted ops.size l := by
      unfold unlisted
      refine filter_less _ _ _ (fun j hj => ?_) i (List.mem_range.2 hlt) (by simp only [h0]; rfl) ?_
      · by_cases e : i = j
        · subst e
          simp [hl, hlt] at hj
        · rw [getD_set_ne true e] at hj; exact hj
      · simp [hl, hlt]
    omega
theorem unlisted_none (n : Nat) : unlisted n (Array.replicate n false) ≤ n := by
  unfold unlisted
  have := List.length_filter_le (fun i => !(Array.replicate n false).getD i true) (List.range n)
  simpa using this
/-- what an entry tells behind one more. -/
theorem getD_listed {l : Array Bool} {i j : Nat} (h : (l.setIfInBounds i true).getD j false = true) : j = i ∨ l.getD j false = true := by
  by_cases e : i = j
  · exact .inl e.symm
  · rw [getD_set_ne false e] at h; exact .inr h
end
section
variable {P : Program} {ops : Array Oper} {Q : Exit → Act → World → Prop}
theorem wpOp_plain {i : Nat} {o : Oper} {K : Act → World → Prop} {a : Act} {w : World} (ho : ops[i]? = some o) (hg : o.guard = none) (h : Oper.wp P o a w K Q) : wpOp P ops Q i K a w :=
  wpOp_step ho (fun K' hK' => by rw [if_pos (by simp [Region.wanted, hg])]; exact Oper.wp_mono hK' h)
end
end Go.Proofs.Ytnpbogioehpeoaa
