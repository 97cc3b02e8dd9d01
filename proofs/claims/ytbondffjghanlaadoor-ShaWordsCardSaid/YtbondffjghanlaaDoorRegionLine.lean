/- DERIVED. A region that draws its order, whose first operations can come in the text's order alone: they are walked as a list. -/
import Derived.Test.YtbondffjghanlaaDoorRegionInv
import Derived.Tactics
namespace Go.Proofs.YtbondffjghanlaaDoor
section
variable {P : Program} {ops : Array Oper} {Q : Exit → Act → World → Prop}
/-- the first m of n are listed. -/
def firstB (m n : Nat) : Array Bool := ((List.range n).map fun i => decide (i < m)).toArray
/-- of the first m operations each can come up alone. -/
def lineB (ops : Array Oper) (m : Nat) : Bool := decide (m ≤ ops.size) && (List.range m).all fun k => Region.ready .any ops (firstB k ops.size) == [k]
/-- behind the first m: whatever may come up. -/
def thenAny (P : Program) (ops : Array Oper) (Q : Exit → Act → World → Prop) (m : Nat) : Exit → Act → World → Prop
  | .normal, a, w => wpAny P .any ops Q (ops.size - m) (firstB m ops.size) a w
  | e, a, w => Q e a w
theorem firstB_zero (n : Nat) : firstB 0 n = Array.replicate n false := by
  unfold firstB
  apply Array.ext_getElem?
  intro i
  by_cases h : i < n <;> simp [h]
theorem firstB_next (m n : Nat) (h : m < n) : (firstB m n).setIfInBounds m true = firstB (m + 1) n := by
  unfold firstB
  apply Array.ext_getElem?
  intro i
  rw [Array.getElem?_setIfInBounds]
  by_cases e : m = i
  · subst e; simp [h]
  · rw [if_neg e]
    by_cases hi : i < n
    · simp [hi]; omega
    · simp [hi]
theorem upon_both {o : Oper} {a : Act} {w : World} {K K' : Act → World → Prop} {Q' : Exit → Act → World → Prop} (h : ∀ a w, K a w → K' a w) (hQ : ∀ e a w, e ≠ .normal → Q' e a w → Q e a w)
    (hh : o.wp P a w K Q') : o.wp P a w K' Q := by
  unfold Oper.wp at *
  generalize (execOp a.eval o).run P w = r at *
  cases r with
  | ok n w' =>
    cases n <;> simp only [Oper.upon] at hh ⊢ <;>
      first
        | exact h _ _ hh
        | exact Calls.mono hh (fun e w'' he => by cases e <;> first | exact h _ _ he | exact hQ _ _ _ (by intro h; cases h) he | exact (let ⟨a', w', h'⟩ := (show LetsOut Q' from he); ⟨a', w', hQ _ _ _ (by intro h; cases h) h'⟩))
        | exact Rows.mono hh (fun _ _ he => h _ _ he)
  | halt x w' => cases x <;> simp only [Oper.upon] at hh ⊢ <;> first | exact hh | exact hQ _ _ _ (by intro h; cases h) hh
theorem wpAny_prefix (m : Nat) (hc : lineB ops m = true) : ∀ (j k : Nat) (a : Act) (w : World), k + j = m → wpList P ops (thenAny P ops Q m) ((ops.toList.drop k).take j) a w → wpAny P .any ops Q (ops.size - k) (firstB k ops.size) a w := by
  simp only [lineB, Bool.and_eq_true, decide_eq_true_eq] at hc
  obtain ⟨hm, hc⟩ := hc
  intro j
  induction j with
  | zero =>
    intro k a w hk h
    obtain rfl : k = m := by omega
    simpa [wpList, thenAny] using h
  | succ j ih =>
    intro k a w hk h
    have hlt : k < ops.size := by omega
    have hr : Region.ready .any ops (firstB k ops.size) = [k] := by simpa using List.all_eq_true.1 hc k (List.mem_range.2 (by omega))
    have ho : ops[k]? = some ops[k] := Array.getElem?_eq_getElem hlt
    have hd : (ops.toList.drop k).take (j + 1) = ops[k] :: (ops.toList.drop (k + 1)).take j := by
      rw [List.drop_eq_getElem_cons (by simpa using hlt), List.take_succ_cons]
      simp
    rw [hd] at h
    rw [show ops.size - k = (ops.size - (k + 1)) + 1 by omega]
    refine wpAny_all hr (by simp) fun i hi => ?_
    obtain rfl : i = k := by simpa using hi
    rw [firstB_next _ _ hlt]
    unfold wpOp
    rw [ho]
    unfold wpList at h
    show if Region.wanted ops[i] (yielded ops a.tmps) = true then _ else _
    split
    · rename_i hw
      rw [if_pos hw] at h
      rcases h with h | ⟨h1, h2⟩
      · refine .inl (upon_both (fun a w => ih (i + 1) a w (by omega)) (fun e a w hne he => ?_) h)
        cases e <;> first | exact absurd rfl hne | exact he
      · obtain ⟨a', w', h'⟩ := h2
        exact .inr ⟨h1, a', w', h'⟩
    · rename_i hw
      rw [if_neg hw] at h
      exact ih (i + 1) _ _ (by omega) h
/-- from k on each operation can come up alone. -/
def restB (ops : Array Oper) (k : Nat) : Bool := decide (k ≤ ops.size) && ((List.range (ops.size - k)).all fun d => Region.ready .any ops (firstB (k + d) ops.size) == [k + d]) && Region.ready .any ops (firstB ops.size ops.size) == []
theorem wpAny_rest_of (k0 : Nat) (hc : restB ops k0 = true) : ∀ (j k : Nat) (a : Act) (w : World), k + j = ops.size → k0 ≤ k → wpList P ops Q (ops.toList.drop k) a w → wpAny P .any ops Q (ops.size - k) (firstB k ops.size) a w := by
  simp only [restB, Bool.and_eq_true, decide_eq_true_eq] at hc
  obtain ⟨⟨hm, hc⟩, he⟩ := hc
  intro j
  induction j with
  | zero =>
    intro k a w hk _ h
    obtain rfl : k = ops.size := by omega
    rw [List.drop_eq_nil_of_le (by simp)] at h
    rw [Nat.sub_self]
    exact ⟨by simpa using he, h⟩
  | succ j ih =>
    intro k a w hk h0 h
    have hlt : k < ops.size := by omega
    have hr : Region.ready .any ops (firstB k ops.size) = [k] := by
      have := List.all_eq_true.1 hc (k - k0) (List.mem_range.2 (by omega))
      rw [show k0 + (k - k0) = k by omega] at this
      simpa using this
    have ho : ops[k]? = some ops[k] := Array.getElem?_eq_getElem hlt
    have hd : ops.toList.drop k = ops[k] :: ops.toList.drop (k + 1) := by
      rw [List.drop_eq_getElem_cons (by simpa using hlt)]
      simp
    rw [hd] at h
    rw [show ops.size - k = (ops.size - (k + 1)) + 1 by omega]
    refine wpAny_all hr (by simp) fun i hi => ?_
    obtain rfl : i = k := by simpa using hi
    rw [firstB_next _ _ hlt]
    unfold wpOp
    rw [ho]
    unfold wpList at h
    show if Region.wanted ops[i] (yielded ops a.tmps) = true then _ else _
    split
    · rename_i hw
      rw [if_pos hw] at h
      exact h.imp (Oper.wp_mono fun a w => ih (i + 1) a w (by omega) (by omega)) id
    · rename_i hw
      rw [if_neg hw] at h
      exact ih (i + 1) _ _ (by omega) (by omega) h
/-- what is left comes up in the text's order. -/
theorem wpAny_rest (k : Nat) {fuel : Nat} {listed : Array Bool} {a : Act} {w : World} (hc : restB ops k = true) (hl : listed = firstB k ops.size) (hf : fuel = ops.size - k) (h : wpList P ops Q (ops.toList.drop k) a w) : wpAny P .any ops Q fuel listed a w := by
  subst hl hf
  have hk : k ≤ ops.size := by
    simp only [restB, Bool.and_eq_true, decide_eq_true_eq] at hc
    exact hc.1.1
  exact wpAny_rest_of k hc (ops.size - k) k a w (by omega) (Nat.le_refl _) h
/-- a region all of whose operations come up in the text's order. -/
theorem wp_region_line {id : Nat} {a : Act} {w : World} (hm : P.follows .mixedOrders = true) (hc : restB ops 0 = true) (h : wpList P ops Q ops.toList a w.drew) : (Code.region id ops true).wp P Q a w := by
  refine wp_region_any hm ?_
  change wpAny _ _ _ _ _ _ _ (World.drew w)
  exact wpAny_rest 0 hc (firstB_zero _).symm (by omega) h
/-- from k0 up to m each operation can come up alone. -/
def midB (ops : Array Oper) (k0 m : Nat) : Bool := decide (k0 ≤ m) && decide (m ≤ ops.size) && (List.range (m - k0)).all fun d => Region.ready .any ops (firstB (k0 + d) ops.size) == [k0 + d]
theorem wpAny_mid_of (k0 m : Nat) (hc : midB ops k0 m = true) : ∀ (j k : Nat) (a : Act) (w : World), k + j = m → k0 ≤ k → wpList P ops (thenAny P ops Q m) ((ops.toList.drop k).take j) a w → wpAny P .any ops Q (ops.size - k) (firstB k ops.size) a w := by
  simp only [midB, Bool.and_eq_true, decide_eq_true_eq] at hc
  obtain ⟨⟨_, hm⟩, hc⟩ := hc
  intro j
  induction j with
  | zero =>
    intro k a w hk _ h
    obtain rfl : k = m := by omega
    simpa [wpList, thenAny] using h
  | succ j ih =>
    intro k a w hk h0 h
    have hlt : k < ops.size := by omega
    have hr : Region.ready .any ops (firstB k ops.size) = [k] := by
      have := List.all_eq_true.1 hc (k - k0) (List.mem_range.2 (by omega))
      rw [show k0 + (k - k0) = k by omega] at this
      simpa using this
    have ho : ops[k]? = some ops[k] := Array.getElem?_eq_getElem hlt
    have hd : (ops.toList.drop k).take (j + 1) = ops[k] :: (ops.toList.drop (k + 1)).take j := by
      rw [List.drop_eq_getElem_cons (by simpa using hlt), List.take_succ_cons]
      simp
    rw [hd] at h
    rw [show ops.size - k = (ops.size - (k + 1)) + 1 by omega]
    refine wpAny_all hr (by simp) fun i hi => ?_
    obtain rfl : i = k := by simpa using hi
    rw [firstB_next _ _ hlt]
    unfold wpOp
    rw [ho]
    unfold wpList at h
    show if Region.wanted ops[i] (yielded ops a.tmps) = true then _ else _
    split
    · rename_i hw
      rw [if_pos hw] at h
      rcases h with h | ⟨h1, h2⟩
      · refine .inl (upon_both (fun a w => ih (i + 1) a w (by omega) (by omega)) (fun e a w hne he => ?_) h)
        cases e <;> first | exact absurd rfl hne | exact he
      · obtain ⟨a', w', h'⟩ := h2
        exact .inr ⟨h1, a', w', h'⟩
    · rename_i hw
      rw [if_neg hw] at h
      exact ih (i + 1) _ _ (by omega) (by omega) h
/-- the operations from k0 up to m, as a list; behind them whatever may come up. -/
theorem wpAny_mid (k0 m : Nat) {fuel : Nat} {listed : Array Bool} {a : Act} {w : World} (hc : midB ops k0 m = true) (hl : listed = firstB k0 ops.size) (hf : fuel = ops.size - k0) (h : wpList P ops (thenAny P ops Q m) ((ops.toList.drop k0).take (m - k0)) a w) : wpAny P .any ops Q fuel listed a w := by
  subst hl hf
  have hk : k0 ≤ m := by
    simp only [midB, Bool.and_eq_true, decide_eq_true_eq] at hc
    exact hc.1.1
  exact wpAny_mid_of k0 m hc (m - k0) k0 a w (by omega) (Nat.le_refl _) h
/-- the first m operations, as a list. -/
theorem wp_region_prefix {id : Nat} {a : Act} {w : World} (m : Nat) (hm : P.follows .mixedOrders = true) (hc : lineB ops m = true) (h : wpList P ops (thenAny P ops Q m) (ops.toList.take m) a w.drew) : (Code.region id ops true).wp P Q a w := by
  refine wp_region_any hm ?_
  change wpAny _ _ _ _ _ _ _ (World.drew w)
  have := wpAny_prefix (P := P) (Q := Q) m hc m 0 a w.drew (by omega) (by simpa using h)
  rw [firstB_zero] at this
  exact this
end
end Go.Proofs.YtbondffjghanlaaDoor
