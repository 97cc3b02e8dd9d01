/- DERIVED. Longest common parts of two lists, the script that is meant, what a script makes: plain functions of lists; no program. -/
import Derived.Lib.Strings
namespace Go.Proofs.Ytnpbogioehpeoaa.Myr
theorem sub_cases {α : Type} {z x : α} {s a : List α} (h : (z :: s).Sublist (x :: a)) : (z :: s).Sublist a ∨ z = x ∧ s.Sublist a := by
  cases h with
  | cons _ h => exact .inl h
  | cons_cons _ h => exact .inr ⟨rfl, h⟩
theorem sub_tail {α : Type} {z x : α} {s a : List α} (h : (z :: s).Sublist (x :: a)) : s.Sublist a := by
  rcases sub_cases h with h | ⟨_, h⟩
  · exact (List.sublist_cons_self z s).trans h
  · exact h
section
variable {α : Type} [DecidableEq α]
def lcsGo (x : α) (f : List α → Nat) : List α → Nat
  | [] => 0
  | y :: b => if x = y then f b + 1 else max (f (y :: b)) (lcsGo x f b)
def lcs : List α → List α → Nat
  | [], _ => 0
  | x :: a, b => lcsGo x (lcs a) b
theorem lcs_nil (a : List α) : lcs a [] = 0 := by cases a <;> rfl
theorem lcs_cons (x y : α) (a b : List α) : lcs (x :: a) (y :: b) = if x = y then lcs a b + 1 else max (lcs a (y :: b)) (lcs (x :: a) b) := rfl
theorem lcs_ub : ∀ (a b s : List α), s.Sublist a → s.Sublist b → s.length ≤ lcs a b
  | [], b, s, h, _ => by rw [List.sublist_nil.1 h]; exact Nat.zero_le _
  | x :: a, [], s, _, h => by rw [List.sublist_nil.1 h]; exact Nat.zero_le _
  | x :: a, y :: b, [], h1, h2 => Nat.zero_le _
  | x :: a, y :: b, z :: s, h1, h2 => by
    rw [lcs_cons]
    by_cases e : x = y
    · rw [if_pos e]
      exact Nat.succ_le_succ (lcs_ub a b s (sub_tail h1) (sub_tail h2))
    · rw [if_neg e]
      rcases sub_cases h1 with k | ⟨rfl, _⟩
      · exact Nat.le_trans (lcs_ub a (y :: b) _ k h2) (Nat.le_max_left _ _)
      · rcases sub_cases h2 with k | ⟨rfl, _⟩
        · exact Nat.le_trans (lcs_ub (z :: a) b _ h1 k) (Nat.le_max_right _ _)
        · exact absurd rfl e
termination_by a b => a.length + b.length
theorem lcs_ex : ∀ (a b : List α), ∃ s : List α, s.Sublist a ∧ s.Sublist b ∧ s.length = lcs a b
  | [], b => ⟨[], List.nil_sublist _, List.nil_sublist _, rfl⟩
  | x :: a, [] => ⟨[], List.nil_sublist _, List.nil_sublist _, (lcs_nil _).symm⟩
  | x :: a, y :: b => by
    rw [lcs_cons]
    by_cases e : x = y
    · subst e
      rw [if_pos rfl]
      obtain ⟨s, h1, h2, h3⟩ := lcs_ex a b
      exact ⟨x :: s, h1.cons_cons x, h2.cons_cons x, by rw [List.length_cons, h3]⟩
    · rw [if_neg e]
      rcases Nat.le_total (lcs (x :: a) b) (lcs a (y :: b)) with h | h
      · rw [Nat.max_eq_left h]
        obtain ⟨s, h1, h2, h3⟩ := lcs_ex a (y :: b)
        exact ⟨s, h1.cons x, h2, h3⟩
      · rw [Nat.max_eq_right h]
        obtain ⟨s, h1, h2, h3⟩ := lcs_ex (x :: a) b
        exact ⟨s, h1, h2.cons y, h3⟩
termination_by a b => a.length + b.length
theorem lcs_le {a b c d : List α} (h : ∀ s : List α, s.Sublist a → s.Sublist b → ∃ t : List α, t.Sublist c ∧ t.Sublist d ∧ s.length ≤ t.length) : lcs a b ≤ lcs c d := by
  obtain ⟨s, h1, h2, h3⟩ := lcs_ex a b
  obtain ⟨t, k1, k2, k3⟩ := h s h1 h2
  have := lcs_ub c d t k1 k2
  omega
theorem lcs_comm (a b : List α) : lcs a b = lcs b a :=
  Nat.le_antisymm (lcs_le fun s h1 h2 => ⟨s, h2, h1, Nat.le_refl _⟩) (lcs_le fun s h1 h2 => ⟨s, h2, h1, Nat.le_refl _⟩)
theorem lcs_rev_le (a b : List α) : lcs a b ≤ lcs a.reverse b.reverse :=
  lcs_le fun s h1 h2 => ⟨s.reverse, h1.reverse, h2.reverse, by rw [List.length_reverse]; exact Nat.le_refl _⟩
theorem lcs_rev (a b : List α) : lcs a.reverse b.reverse = lcs a b := by
  refine Nat.le_antisymm ?_ (lcs_rev_le a b)
  have := lcs_rev_le a.reverse b.reverse
  rwa [List.reverse_reverse, List.reverse_reverse] at this
theorem lcs_left (a b : List α) : lcs a b ≤ a.length := by
  obtain ⟨s, h1, _, h3⟩ := lcs_ex a b
  rw [← h3]; exact h1.length_le
theorem lcs_right (a b : List α) : lcs a b ≤ b.length := by rw [lcs_comm]; exact lcs_left b a
theorem lcs_self (a : List α) : lcs a a = a.length :=
  Nat.le_antisymm (lcs_left a a) (lcs_ub a a a (List.Sublist.refl a) (List.Sublist.refl a))
theorem lcs_more (x : α) (a b : List α) : lcs a b ≤ lcs (x :: a) b := lcs_le fun s h1 h2 => ⟨s, h1.cons x, h2, Nat.le_refl _⟩
theorem lcs_skip (x : α) (a b : List α) : lcs (x :: a) b ≤ lcs a b + 1 := by
  obtain ⟨s, h1, h2, h3⟩ := lcs_ex (x :: a) b
  rw [← h3]
  cases s with
  | nil => exact Nat.zero_le _
  | cons z s => exact Nat.succ_le_succ (lcs_ub a b s (sub_tail h1) ((List.sublist_cons_self z s).trans h2))
theorem lcs_three (x y : α) (a b : List α) : lcs (x :: a) (y :: b) = max (max (lcs a (y :: b)) (lcs (x :: a) b)) (if x = y then lcs a b + 1 else 0) := by
  rw [lcs_cons]
  by_cases e : x = y
  · rw [if_pos e, if_pos e]
    have h1 : lcs a (y :: b) ≤ lcs a b + 1 := by rw [lcs_comm a, lcs_comm a]; exact lcs_skip y b a
    have h2 := lcs_skip x a b
    omega
  · rw [if_neg e, if_neg e, Nat.max_zero]
theorem lcs_snoc (x y : α) (a b : List α) : lcs (a ++ [x]) (b ++ [y]) = max (max (lcs a (b ++ [y])) (lcs (a ++ [x]) b)) (if x = y then lcs a b + 1 else 0) := by
  rw [← lcs_rev (a ++ [x]) (b ++ [y]), ← lcs_rev a (b ++ [y]), ← lcs_rev (a ++ [x]) b, ← lcs_rev a b]
  simp only [List.reverse_append, List.reverse_cons, List.reverse_nil, List.nil_append, List.cons_append]
  exact lcs_three x y _ _
theorem lcs_map {β : Type} [DecidableEq β] (f : α → β) : ∀ (a b : List α), (∀ x ∈ a, ∀ y ∈ b, f x = f y → x = y) → lcs (a.map f) (b.map f) = lcs a b
  | [], b, _ => rfl
  | x :: a, [], _ => by rw [List.map_nil, lcs_nil, lcs_nil]
  | x :: a, y :: b, h => by
    have h1 := lcs_map f a b (fun u hu v hv => h u (List.mem_cons_of_mem _ hu) v (List.mem_cons_of_mem _ hv))
    have h2 := lcs_map f a (y :: b) (fun u hu v hv => h u (List.mem_cons_of_mem _ hu) v hv)
    have h3 := lcs_map f (x :: a) b (fun u hu v hv => h u hu v (List.mem_cons_of_mem _ hv))
    simp only [List.map_cons] at h2 h3 ⊢
    rw [lcs_cons, lcs_cons, h1, h2, h3]
    by_cases e : x = y
    · rw [if_pos e, if_pos (congrArg f e)]
    · rw [if_neg e, if_neg (fun k => e (h x List.mem_cons_self y List.mem_cons_self k))]
termination_by a b => a.length + b.length
abbrev St := Nat × Nat × Nat
/-- the script that is meant. -/
def selF : Nat → List α → List α → Nat → Nat → List St
  | 0, _, _, _, _ => []
  | _ + 1, [], [], _, _ => []
  | f + 1, [], _ :: b, i, j => (2, 0, j) :: selF f [] b i (j + 1)
  | f + 1, _ :: a, [], i, j => (1, i, 0) :: selF f a [] (i + 1) j
  | f + 1, x :: a, y :: b, i, j => if x = y then (0, i, j) :: selF f a b (i + 1) (j + 1)
    else if lcs (x :: a) b ≤ lcs a (y :: b) then (1, i, 0) :: selF f a (y :: b) (i + 1) j else (2, 0, j) :: selF f (x :: a) b i (j + 1)
def sel (a b : List α) : List St := selF (a.length + b.length) a b 0 0
theorem selF_nil (f i j : Nat) : selF f ([] : List α) [] i j = [] := by cases f <;> rfl
theorem selF_more : ∀ (f : Nat) (a b : List α) (i j : Nat), a.length + b.length ≤ f → selF (f + 1) a b i j = selF f a b i j
  | 0, a, b, i, j, h => by
    obtain rfl : a = [] := List.eq_nil_of_length_eq_zero (by omega)
    obtain rfl : b = [] := List.eq_nil_of_length_eq_zero (by omega)
    rfl
  | f + 1, [], [], i, j, _ => rfl
  | f + 1, [], y :: b, i, j, h => by rw [selF, selF, selF_more f [] b i (j + 1) (by simp at h ⊢; omega)]
  | f + 1, x :: a, [], i, j, h => by rw [selF, selF, selF_more f a [] (i + 1) j (by simp at h ⊢; omega)]
  | f + 1, x :: a, y :: b, i, j, h => by
    rw [selF, selF, selF_more f a b (i + 1) (j + 1) (by simp at h ⊢; omega), selF_more f a (y :: b) (i + 1) j (by simp at h ⊢; omega), selF_more f (x :: a) b i (j + 1) (by simp at h ⊢; omega)]
theorem selF_map {β : Type} [DecidableEq β] (g : α → β) : ∀ (f : Nat) (a b : List α) (i j : Nat), (∀ x ∈ a, ∀ y ∈ b, g x = g y → x = y) → selF f (a.map g) (b.map g) i j = selF f a b i j
  | 0, _, _, _, _, _ => rfl
  | f + 1, [], [], _, _, _ => rfl
  | f + 1, [], y :: b, i, j, h => by
    rw [List.map_nil, List.map_cons, selF, selF]
    have := selF_map g f [] b i (j + 1) (fun x hx => by cases hx)
    rw [List.map_nil] at this
    rw [this]
  | f + 1, x :: a, [], i, j, h => by
    rw [List.map_nil, List.map_cons, selF, selF]
    have := selF_map g f a [] (i + 1) j (fun _ _ _ hy => by cases hy)
    rw [List.map_nil] at this
    rw [this]
  | f + 1, x :: a, y :: b, i, j, h => by
    have g1 : ∀ u ∈ a, ∀ v ∈ b, g u = g v → u = v := fun u hu v hv => h u (List.mem_cons_of_mem _ hu) v (List.mem_cons_of_mem _ hv)
    have g2 : ∀ u ∈ a, ∀ v ∈ y :: b, g u = g v → u = v := fun u hu v hv => h u (List.mem_cons_of_mem _ hu) v hv
    have g3 : ∀ u ∈ x :: a, ∀ v ∈ b, g u = g v → u = v := fun u hu v hv => h u hu v (List.mem_cons_of_mem _ hv)
    have h1 := selF_map g f a b (i + 1) (j + 1) g1
    have h2 := selF_map g f a (y :: b) (i + 1) j g2
    have h3 := selF_map g f (x :: a) b i (j + 1) g3
    have k2 := lcs_map g a (y :: b) g2
    have k3 := lcs_map g (x :: a) b g3
    simp only [List.map_cons] at h2 h3 k2 k3 ⊢
    rw [selF, selF, h1, h2, h3, k2, k3]
    by_cases e : x = y
    · rw [if_pos e, if_pos (congrArg g e)]
    · rw [if_neg e, if_neg (fun k => e (h x List.mem_cons_self y List.mem_cons_self k))]
theorem sel_map {β : Type} [DecidableEq β] (g : α → β) (a b : List α) (h : ∀ x ∈ a, ∀ y ∈ b, g x = g y → x = y) : sel (a.map g) (b.map g) = sel a b := by
  unfold sel; rw [List.length_map, List.length_map, selF_map g _ _ _ _ _ h]
def keptN (l : List St) : Nat := (l.filter (·.1 = 0)).length
theorem sel_counts : ∀ (f : Nat) (a b : List α) (i j : Nat), a.length + b.length ≤ f → keptN (selF f a b i j) = lcs a b ∧ (selF f a b i j).length + lcs a b = a.length + b.length
  | 0, a, b, i, j, h => by
    obtain rfl : a = [] := List.eq_nil_of_length_eq_zero (by omega)
    obtain rfl : b = [] := List.eq_nil_of_length_eq_zero (by omega)
    exact ⟨rfl, rfl⟩
  | f + 1, [], [], i, j, _ => ⟨rfl, rfl⟩
  | f + 1, [], y :: b, i, j, h => by
    obtain ⟨h1, h2⟩ := sel_counts f [] b i (j + 1) (by simp at h ⊢; omega)
    rw [selF]
    refine ⟨?_, ?_⟩
    · rw [← show lcs [] b = lcs [] (y :: b) from rfl, ← h1]; rfl
    · simp only [List.length_cons, lcs, List.length_nil] at h2 ⊢; omega
  | f + 1, x :: a, [], i, j, h => by
    obtain ⟨h1, h2⟩ := sel_counts f a [] (i + 1) j (by simp at h ⊢; omega)
    rw [selF, lcs_nil]
    rw [lcs_nil] at h1 h2
    refine ⟨?_, ?_⟩
    · rw [← h1]; rfl
    · simp only [List.length_cons, List.length_nil] at h2 ⊢; omega
  | f + 1, x :: a, y :: b, i, j, h => by
    rw [selF, lcs_cons]
    by_cases e : x = y
    · obtain ⟨h1, h2⟩ := sel_counts f a b (i + 1) (j + 1) (by simp at h ⊢; omega)
      rw [if_pos e, if_pos e, ← h1]
      refine ⟨rfl, ?_⟩
      rw [h1]
      simp only [List.length_cons]; omega
    · rw [if_neg e, if_neg e]
      by_cases k : lcs (x :: a) b ≤ lcs a (y :: b)
      · obtain ⟨h1, h2⟩ := sel_counts f a (y :: b) (i + 1) j (by simp at h ⊢; omega)
        rw [if_pos k, Nat.max_eq_left k, ← h1]
        refine ⟨rfl, ?_⟩
        rw [h1]
        simp only [List.length_cons] at h2 ⊢; omega
      · obtain ⟨h1, h2⟩ := sel_counts f (x :: a) b i (j + 1) (by simp at h ⊢; omega)
        rw [if_neg k, Nat.max_eq_right (by omega), ← h1]
        refine ⟨rfl, ?_⟩
        rw [h1]
        simp only [List.length_cons] at h2 ⊢; omega
theorem sel_kept (a b : List α) : keptN (sel a b) = lcs a b := (sel_counts _ a b 0 0 (Nat.le_refl _)).1
theorem sel_len (a b : List α) : (sel a b).length + lcs a b = a.length + b.length := (sel_counts _ a b 0 0 (Nat.le_refl _)).2
def leftA (l : List St) : List Nat := (l.filter (·.1 ≠ 2)).map (·.2.1)
def leftB (l : List St) : List Nat := (l.filter (·.1 ≠ 1)).map (·.2.2)
theorem sel_left : ∀ (f : Nat) (a b : List α) (i j : Nat), a.length + b.length ≤ f → leftA (selF f a b i j) = List.range' i a.length ∧ leftB (selF f a b i j) = List.range' j b.length
  | 0, a, b, i, j, h => by
    obtain rfl : a = [] := List.eq_nil_of_length_eq_zero (by omega)
    obtain rfl : b = [] := List.eq_nil_of_length_eq_zero (by omega)
    exact ⟨rfl, rfl⟩
  | f + 1, [], [], i, j, _ => ⟨rfl, rfl⟩
  | f + 1, [], y :: b, i, j, h => by
    obtain ⟨h1, h2⟩ := sel_left f [] b i (j + 1) (by simp at h ⊢; omega)
    rw [selF, List.length_cons, List.range'_succ, ← h2]
    exact ⟨h1, rfl⟩
  | f + 1, x :: a, [], i, j, h => by
    obtain ⟨h1, h2⟩ := sel_left f a [] (i + 1) j (by simp at h ⊢; omega)
    rw [selF, List.length_cons, List.range'_succ, ← h1]
    exact ⟨rfl, h2⟩
  | f + 1, x :: a, y :: b, i, j, h => by
    rw [selF]
    by_cases e : x = y
    · obtain ⟨h1, h2⟩ := sel_left f a b (i + 1) (j + 1) (by simp at h ⊢; omega)
      rw [if_pos e, List.length_cons, List.length_cons, List.range'_succ, List.range'_succ, ← h1, ← h2]
      exact ⟨rfl, rfl⟩
    · rw [if_neg e]
      by_cases k : lcs (x :: a) b ≤ lcs a (y :: b)
      · obtain ⟨h1, h2⟩ := sel_left f a (y :: b) (i + 1) j (by simp at h ⊢; omega)
        rw [if_pos k, List.length_cons (as := a), List.range'_succ, ← h1]
        exact ⟨rfl, h2⟩
      · obtain ⟨h1, h2⟩ := sel_left f (x :: a) b i (j + 1) (by simp at h ⊢; omega)
        rw [if_neg k, List.length_cons (as := b), List.range'_succ, ← h2]
        exact ⟨h1, rfl⟩
end
end Go.Proofs.Ytnpbogioehpeoaa.Myr
