/- DERIVED. PLAIN MATHEMATICS: a rule put at its place among rules in order, step by step; it is what a sort gives. No program but the two Checks. -/
import Derived.Test.YtmbcojpdigoojaaGreatDoorRulRefCheck
import Derived.Test.YtmbcojpdigoojaaGreatDoorRulWithMath
namespace Go.Proofs.YtmbcojpdigoojaaGreatDoor.Rul
open Pth Lab
/-- the first half of a round: the new rule, if its place has come. -/
def stepA (r : Rl) (st : List Rl × Bool) (x : Rl) : List Rl × Bool := if st.2 = false ∧ ¬ ordR x r < 0 then (st.1 ++ [r], true) else st
/-- the second half: the old rule, if its prefix is another. -/
def stepB (r : Rl) (st : List Rl × Bool) (x : Rl) : List Rl × Bool := if bl x.p = bl r.p then st else (st.1 ++ [x], st.2)
def stepW (r : Rl) (st : List Rl × Bool) (x : Rl) : List Rl × Bool := stepB r (stepA r st x) x
theorem stepA_put (r : Rl) (out : List Rl) (x : Rl) : stepA r (out, true) x = (out, true) := by unfold stepA; rw [if_neg (fun h => by cases h.1)]
theorem stepA_no {r x : Rl} (out : List Rl) (b : Bool) (h : ordR x r < 0) : stepA r (out, b) x = (out, b) := by unfold stepA; rw [if_neg (fun k => k.2 h)]
theorem stepA_yes {r x : Rl} (out : List Rl) (h : ¬ ordR x r < 0) : stepA r (out, false) x = (out ++ [r], true) := by unfold stepA; rw [if_pos ⟨rfl, h⟩]
theorem stepB_eq {r x : Rl} (st : List Rl × Bool) (h : bl x.p = bl r.p) : stepB r st x = st := by unfold stepB; rw [if_pos h]
theorem stepB_ne {r x : Rl} (st : List Rl × Bool) (h : ¬ bl x.p = bl r.p) : stepB r st x = (st.1 ++ [x], st.2) := by unfold stepB; rw [if_neg h]
def foldW (r : Rl) (rs : List Rl) : List Rl × Bool := rs.foldl (stepW r) ([], false)
theorem foldW_snoc (r : Rl) (rs : List Rl) (x : Rl) : foldW r (rs ++ [x]) = stepW r (foldW r rs) x := by simp [foldW]
def endW (r : Rl) (st : List Rl × Bool) : List Rl := if st.2 = false then st.1 ++ [r] else st.1
def insW (r : Rl) : List Rl → List Rl
  | [] => [r]
  | x :: t => if ordR x r < 0 then x :: insW r t else r :: othersL r.p (x :: t)
theorem othersL_cons (p : ByteArray) (x : Rl) (t : List Rl) : othersL p (x :: t) = if bl x.p = bl p then othersL p t else x :: othersL p t := by
  unfold othersL
  by_cases h : bl x.p = bl p <;> simp [h]
theorem fold_put (r : Rl) : ∀ (rs out : List Rl), rs.foldl (stepW r) (out, true) = (out ++ othersL r.p rs, true) := by
  intro rs
  induction rs with
  | nil => intro out; simp [othersL]
  | cons x t ih =>
    intro out
    rw [List.foldl_cons, othersL_cons]
    unfold stepW
    rw [stepA_put]
    by_cases h : bl x.p = bl r.p
    · rw [stepB_eq _ h, if_pos h]; exact ih out
    · rw [stepB_ne _ h, if_neg h]
      have := ih (out ++ [x])
      rw [List.append_assoc] at this
      exact this
theorem ord_ne {x r : Rl} (h : ordR x r < 0) : bl x.p ≠ bl r.p := fun e => by
  have := (Pth.ord_eq _ _).2 e
  unfold ordR at h
  omega
theorem fold_ins (r : Rl) : ∀ (rs out : List Rl), endW r (rs.foldl (stepW r) (out, false)) = out ++ insW r rs := by
  intro rs
  induction rs with
  | nil => intro out; simp [endW, insW]
  | cons x t ih =>
    intro out
    rw [List.foldl_cons]
    by_cases h : ordR x r < 0
    · have e1 : stepW r (out, false) x = (out ++ [x], false) := by
        unfold stepW
        rw [stepA_no out false h, stepB_ne _ (ord_ne h)]
      rw [e1, ih, insW, if_pos h, List.append_assoc]
      rfl
    · unfold stepW
      rw [stepA_yes out h, insW, if_neg h, othersL_cons]
      by_cases e : bl x.p = bl r.p
      · rw [stepB_eq _ e, if_pos e, show ∀ a, List.foldl (fun st x => stepB r (stepA r st x) x) a t = List.foldl (stepW r) a t from fun _ => rfl, fold_put]
        simp [endW]
      · rw [stepB_ne _ e, if_neg e, show ∀ a, List.foldl (fun st x => stepB r (stepA r st x) x) a t = List.foldl (stepW r) a t from fun _ => rfl, fold_put]
        simp [endW]
theorem end_ins (r : Rl) (rs : List Rl) : endW r (foldW r rs) = insW r rs := by
  have := fold_ins r rs []
  rw [List.nil_append] at this
  exact this
theorem ins_perm (r : Rl) : ∀ rs : List Rl, (insW r rs).Perm (othersL r.p rs ++ [r]) := by
  intro rs
  induction rs with
  | nil => exact List.Perm.refl _
  | cons x t ih =>
    unfold insW
    by_cases h : ordR x r < 0
    · rw [if_pos h, othersL_cons, if_neg (ord_ne h)]
      exact List.Perm.cons x ih
    · rw [if_neg h]
      exact (List.perm_append_comm (l₁ := othersL r.p (x :: t)) (l₂ := [r])).symm
theorem ord_tr {x y z : Rl} (h1 : ordR x y < 0) (h2 : ordR y z < 0) : ordR x z < 0 := by
  have h3 := Pth.ord_trans (bl x.p) (bl y.p) (bl z.p) (by unfold ordR at h1; omega) (by unfold ordR at h2; omega)
  by_cases e : ordR x z = 0
  · have e2 := (Pth.ord_eq _ _).1 e
    have h4 : ordR y x < 0 := by unfold ordR at h2 ⊢; rw [e2]; exact h2
    have h5 : ordR y x = - ordR x y := Pth.ord_neg (bl x.p) (bl y.p)
    omega
  · unfold ordR at e ⊢; omega
theorem ord_flip {x r : Rl} (h : ¬ ordR x r < 0) (hne : x.p ≠ r.p) : ordR r x < 0 := by
  have h5 : ordR r x = - ordR x r := Pth.ord_neg (bl x.p) (bl r.p)
  have h6 : ordR x r ≠ 0 := fun e => hne (bl_inj ((Pth.ord_eq _ _).1 e))
  omega
theorem ins_strict (r : Rl) : ∀ rs : List Rl, StrictR rs → StrictR (insW r rs) := by
  intro rs
  induction rs with
  | nil => intro _; exact List.pairwise_singleton _ _
  | cons x t ih =>
    intro hs
    unfold StrictR at hs
    rw [List.pairwise_cons] at hs
    unfold insW
    by_cases h : ordR x r < 0
    · rw [if_pos h]
      unfold StrictR
      rw [List.pairwise_cons]
      refine ⟨fun y hy => ?_, ih hs.2⟩
      have := (ins_perm r t).mem_iff.1 hy
      rcases List.mem_append.1 this with hy | hy
      · exact hs.1 y (mem_others.1 hy).1
      · obtain rfl := List.mem_singleton.1 hy
        exact h
    · rw [if_neg h]
      unfold StrictR
      rw [List.pairwise_cons]
      refine ⟨fun y hy => ?_, ?_⟩
      · obtain ⟨hy, hne⟩ := mem_others.1 hy
        rcases List.mem_cons.1 hy with rfl | hy
        · exact ord_flip h hne
        · have hxy := hs.1 y hy
          by_cases e : x.p = r.p
          · have : ordR r y = ordR x y := by unfold ordR; rw [e]
            omega
          · exact ord_tr (ord_flip h e) hxy
      · unfold othersL
        exact List.Pairwise.filter _ (List.pairwise_cons.2 hs)
theorem strictR_one {L M : List Rl} (hL : StrictR L) (hM : StrictR M) (hp : L.Perm M) : L = M :=
  List.Perm.eq_of_pairwise (le := fun x y => ordR x y < 0) (fun a b _ _ h1 h2 => by
    have h5 : ordR b a = - ordR a b := Pth.ord_neg (bl a.p) (bl b.p)
    omega) hL hM hp
/-- what With answers, as a number. -/
noncomputable def withZ (v : Int) (rs : List Rl) (r : Rl) : Int := by
  classical
  exact if Pth.pre r.p ≠ 0 then 15 else if Lab.chk r.a ≠ 0 ∨ ¬ Okay v rs then 2 else if (othersL r.p rs).length = 32 then 7 else 0
theorem withZ_pre {v : Int} {rs : List Rl} {r : Rl} (h : Pth.pre r.p ≠ 0) : withZ v rs r = 15 := by unfold withZ; rw [if_pos h]
theorem withZ_arg {v : Int} {rs : List Rl} {r : Rl} (h : Pth.pre r.p = 0) (k : Lab.chk r.a ≠ 0 ∨ ¬ Okay v rs) : withZ v rs r = 2 := by unfold withZ; rw [if_neg (fun e => e h), if_pos k]
theorem withZ_full {v : Int} {rs : List Rl} {r : Rl} (h : Pth.pre r.p = 0) (k : Lab.chk r.a = 0) (o : Okay v rs) (f : (othersL r.p rs).length = 32) : withZ v rs r = 7 := by unfold withZ; rw [if_neg (fun e => e h), if_neg (fun e => e.elim (fun e => e k) (fun e => e o)), if_pos f]
theorem withZ_ok {v : Int} {rs : List Rl} {r : Rl} (h : Pth.pre r.p = 0) (k : Lab.chk r.a = 0) (o : Okay v rs) (f : (othersL r.p rs).length ≠ 32) : withZ v rs r = 0 := by unfold withZ; rw [if_neg (fun e => e h), if_neg (fun e => e.elim (fun e => e k) (fun e => e o)), if_neg f]
end Go.Proofs.YtmbcojpdigoojaaGreatDoor.Rul
