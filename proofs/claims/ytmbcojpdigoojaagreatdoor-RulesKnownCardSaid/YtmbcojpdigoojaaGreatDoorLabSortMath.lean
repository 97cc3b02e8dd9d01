/- DERIVED. Labels in order, on lists: what is sorted and told once is what is put in one by one. -/
import Derived.Test.YtmbcojpdigoojaaGreatDoorLabDist
namespace Go.Proofs.YtmbcojpdigoojaaGreatDoor.Lab
def ltP (x y : Int × Nat) : Bool := decide (x.1 < y.1 ∨ (x.1 = y.1 ∧ x.2 < y.2))
theorem ltP_iff (x y : Int × Nat) : ltP x y = true ↔ x.1 < y.1 ∨ (x.1 = y.1 ∧ x.2 < y.2) := by simp [ltP]
theorem ltP_no (x y : Int × Nat) : ltP x y = false ↔ ¬ (x.1 < y.1 ∨ (x.1 = y.1 ∧ x.2 < y.2)) := by simp [ltP]
theorem ltP_irrefl (x : Int × Nat) : ltP x x = false := by rw [ltP_no]; omega
theorem ltP_trans {x y z : Int × Nat} (h : ltP x y = true) (k : ltP y z = true) : ltP x z = true := by rw [ltP_iff] at *; omega
theorem ltP_asymm {x y : Int × Nat} (h : ltP x y = true) : ltP y x = false := by rw [ltP_iff] at h; rw [ltP_no]; omega
theorem ltP_total {x y : Int × Nat} (h : ltP x y = false) (k : ltP y x = false) : x = y := by
  rw [ltP_no] at *
  exact Prod.ext (by omega) (by omega)
theorem ltP_ntrans {x y z : Int × Nat} (h : ltP y x = false) (k : ltP z y = false) : ltP z x = false := by rw [ltP_no] at *; omega
def Strict (L : List (Int × Nat)) : Prop := L.Pairwise fun x y => ltP x y = true
theorem strict_unique : ∀ {L M : List (Int × Nat)}, Strict L → Strict M → (∀ x, x ∈ L ↔ x ∈ M) → L = M
  | [], [], _, _, _ => rfl
  | [], y :: M, _, _, h => by have := (h y).2 (List.mem_cons_self ..); cases this
  | x :: L, [], _, _, h => by have := (h x).1 (List.mem_cons_self ..); cases this
  | x :: L, y :: M, hL, hM, h => by
    obtain ⟨l1, l2⟩ := List.pairwise_cons.1 hL
    obtain ⟨m1, m2⟩ := List.pairwise_cons.1 hM
    have e : x = y := by
      rcases List.mem_cons.1 ((h x).1 (List.mem_cons_self ..)) with e | hx
      · exact e
      · rcases List.mem_cons.1 ((h y).2 (List.mem_cons_self ..)) with e | hy
        · exact e.symm
        · have a := m1 x hx
          have b := ltP_asymm (l1 y hy)
          rw [a] at b; cases b
    subst e
    rw [strict_unique l2 m2 fun z => ?_]
    constructor
    · intro hz
      rcases List.mem_cons.1 ((h z).1 (List.mem_cons_of_mem _ hz)) with e | k
      · subst e; have := l1 z hz; rw [ltP_irrefl] at this; cases this
      · exact k
    · intro hz
      rcases List.mem_cons.1 ((h z).2 (List.mem_cons_of_mem _ hz)) with e | k
      · subst e; have := m1 z hz; rw [ltP_irrefl] at this; cases this
      · exact k
/-- put in where it belongs, once. -/
def insD (x : Int × Nat) : List (Int × Nat) → List (Int × Nat)
  | [] => [x]
  | y :: r => if ltP y x = true then y :: insD x r else if y = x then y :: r else x :: y :: r
theorem mem_insD (x z : Int × Nat) : ∀ L, z ∈ insD x L ↔ z = x ∨ z ∈ L
  | [] => by simp [insD]
  | y :: r => by
    unfold insD
    split
    · rw [List.mem_cons, mem_insD x z r, List.mem_cons]
      constructor <;> (intro h; rcases h with h | h | h <;> simp [h])
    · split
      · rename_i h
        subst h
        simp
      · simp
theorem strict_insD (x : Int × Nat) : ∀ L, Strict L → Strict (insD x L)
  | [], _ => by simp [insD, Strict]
  | y :: r, h => by
    obtain ⟨h1, h2⟩ := List.pairwise_cons.1 h
    unfold insD
    split
    · rename_i hy
      refine List.pairwise_cons.2 ⟨fun z hz => ?_, strict_insD x r h2⟩
      rcases (mem_insD x z r).1 hz with e | k
      · rw [e]; exact hy
      · exact h1 z k
    · split
      · exact h
      · rename_i hy he
        have hxy : ltP x y = true := by
          cases e : ltP x y with
          | true => rfl
          | false => exact absurd (ltP_total (by simpa using hy) e) he
        refine List.pairwise_cons.2 ⟨fun z hz => ?_, h⟩
        rcases List.mem_cons.1 hz with e | k
        · rw [e]; exact hxy
        · exact ltP_trans hxy (h1 z k)
def refL (xs : List (Int × Nat)) : List (Int × Nat) := xs.foldl (fun o x => insD x o) []
theorem refL_snoc (xs : List (Int × Nat)) (x : Int × Nat) : refL (xs ++ [x]) = insD x (refL xs) := by simp [refL]
theorem refL_both : ∀ (xs o : List (Int × Nat)), Strict o → Strict (xs.foldl (fun o x => insD x o) o) ∧ ∀ z, z ∈ xs.foldl (fun o x => insD x o) o ↔ z ∈ xs ∨ z ∈ o
  | [], o, h => ⟨h, fun z => by simp⟩
  | x :: xs, o, h => by
    have ih := refL_both xs (insD x o) (strict_insD x o h)
    refine ⟨ih.1, fun z => ?_⟩
    rw [List.foldl_cons, ih.2, mem_insD, List.mem_cons]
    rw [or_assoc]
    exact or_left_comm
theorem distG_both : ∀ (r : List (Int × Nat)) (p : Int × Nat), (∀ y ∈ r, ltP y p = false) → (r.Pairwise fun x y => ltP y x = false) → Strict (p :: distG p r) ∧ ∀ z, z ∈ p :: distG p r ↔ z ∈ p :: r
  | [], p, _, _ => ⟨by simp [distG, Strict], fun z => by simp [distG]⟩
  | x :: r, p, h, hp => by
    obtain ⟨h1, h2⟩ := List.pairwise_cons.1 hp
    unfold distG
    split
    · rename_i e
      subst e
      obtain ⟨a, b⟩ := distG_both r x (fun y hy => h1 y hy) h2
      refine ⟨a, fun z => ?_⟩
      rw [b z]
      simp
    · rename_i e
      obtain ⟨a, b⟩ := distG_both r x (fun y hy => h1 y hy) h2
      have hpx : ltP p x = true := by
        cases k : ltP p x with
        | true => rfl
        | false => exact absurd (ltP_total (h x (List.mem_cons_self ..)) k) e
      refine ⟨List.pairwise_cons.2 ⟨fun z hz => ?_, a⟩, fun z => ?_⟩
      · rcases List.mem_cons.1 hz with e | k
        · rw [e]; exact hpx
        · exact ltP_trans hpx ((List.pairwise_cons.1 a).1 z k)
      · rw [List.mem_cons, b z]
        simp
def sortL (xs : List (Int × Nat)) : List (Int × Nat) := xs.mergeSort fun x y => !ltP y x
theorem sortL_pair (xs : List (Int × Nat)) : (sortL xs).Pairwise fun x y => ltP y x = false := by
  have h := List.pairwise_mergeSort (le := fun x y : Int × Nat => !ltP y x) (fun a b c h k => by
    simp only [Bool.not_eq_true'] at *
    exact ltP_ntrans h k) (fun a b => by
    cases e : ltP b a with
    | false => rfl
    | true => simp [ltP_asymm e]) xs
  exact h.imp fun {a b} k => by simpa using k
theorem dist_sort (xs : List (Int × Nat)) : distL (sortL xs) = refL xs := by
  have hp := sortL_pair xs
  have hm : ∀ z, z ∈ sortL xs ↔ z ∈ xs := fun z => List.mem_mergeSort
  obtain ⟨r1, r2⟩ := refL_both xs [] List.Pairwise.nil
  refine strict_unique ?_ r1 fun z => ?_
  · cases e : sortL xs with
    | nil => exact List.Pairwise.nil
    | cons x r =>
      rw [e] at hp
      obtain ⟨h1, h2⟩ := List.pairwise_cons.1 hp
      exact (distG_both r x h1 h2).1
  · have hz : z ∈ distL (sortL xs) ↔ z ∈ sortL xs := by
      cases e : sortL xs with
      | nil => rfl
      | cons x r =>
        rw [e] at hp
        obtain ⟨h1, h2⟩ := List.pairwise_cons.1 hp
        exact (distG_both r x h1 h2).2 z
    rw [hz, hm]
    show _ ↔ z ∈ List.foldl _ _ _
    rw [r2]
    simp
/-- the place where it belongs. -/
theorem insD_at : ∀ (L : List (Int × Nat)) (x : Int × Nat) (k : Nat), k ≤ L.length → (∀ j y, j < k → L[j]? = some y → ltP y x = true) → (∀ y, L[k]? = some y → ltP y x = false) →
    insD x L = if L[k]? = some x then L else L.take k ++ [x] ++ L.drop k
  | [], x, k, _, _, _ => by simp [insD]
  | y :: r, x, 0, _, _, h0 => by
    have hy := h0 y rfl
    unfold insD
    rw [if_neg (by rw [hy]; decide)]
    by_cases e : y = x
    · simp [e]
    · simp [e]
  | y :: r, x, k + 1, hk, h1, h0 => by
    have hy := h1 0 y (by omega) rfl
    have ih := insD_at r x k (by simpa using hk) (fun j z hj hz => h1 (j + 1) z (by omega) (by simpa using hz)) (fun z hz => h0 z (by simpa using hz))
    unfold insD
    rw [if_pos hy, ih]
    simp only [List.getElem?_cons_succ]
    split <;> simp
end Go.Proofs.YtmbcojpdigoojaaGreatDoor.Lab
