/- DERIVED. PLAIN MATHEMATICS: rules as a list: which prefix covers what, the label of a path, what a prefix touches. No program. -/
import Derived.Test.YtmbcojpdigoojaaGreatDoorPthSpec
import Derived.Test.YtmbcojpdigoojaaGreatDoorLabSortMath
namespace Go.Proofs.YtmbcojpdigoojaaGreatDoor.Rul
open Pth Lab
/-- a rule. -/
structure Rl where
  p : ByteArray
  a : Int
  c : Nat
def bl (s : ByteArray) : List UInt8 := s.data.toList
theorem bl_size (s : ByteArray) : (bl s).length = s.size := by rw [bl, Array.length_toList]; rfl
theorem bl_inj {s t : ByteArray} (h : bl s = bl t) : s = t := by
  cases s; cases t
  simp only [bl] at h
  rw [Array.toList_inj.1 h]
def cov (p s : ByteArray) : Bool := decide (bl p = bl s) || und (bl p) (bl s)
theorem cov_iff (p s : ByteArray) : cov p s = true ↔ p = s ∨ und (bl p) (bl s) = true := by
  unfold cov
  rw [Bool.or_eq_true, decide_eq_true_eq]
  constructor
  · rintro (h | h)
    · exact .inl (bl_inj h)
    · exact .inr h
  · rintro (h | h)
    · exact .inl (by rw [h])
    · exact .inr h
theorem cov_refl (s : ByteArray) : cov s s = true := (cov_iff s s).2 (.inl rfl)
theorem cov_trans {a b c : ByteArray} (h : cov a b = true) (k : cov b c = true) : cov a c = true := by
  rcases (cov_iff a b).1 h with rfl | h
  · exact k
  · rcases (cov_iff b c).1 k with rfl | k
    · exact (cov_iff _ _).2 (.inr h)
    · exact (cov_iff _ _).2 (.inr (und_trans h k))
theorem und_nil_of {b c : List UInt8} (k : und b c = true) : b = [] ∨ und [] b = true := by
  rcases und_prefix k with h | h
  · exact .inl h
  · exact .inr ((und_iff _ _).2 ⟨h, .inl rfl⟩)
theorem cov_two {a b c : ByteArray} (h : cov a c = true) (k : cov b c = true) : cov a b = true ∨ cov b a = true := by
  rcases (cov_iff a c).1 h with rfl | h
  · exact .inr k
  · rcases (cov_iff b c).1 k with rfl | k
    · exact .inl ((cov_iff _ _).2 (.inr h))
    · by_cases ha : bl a = []
      · rcases und_nil_of k with hb | hb
        · exact .inl ((cov_iff _ _).2 (.inl (bl_inj (by rw [ha, hb]))))
        · exact .inl ((cov_iff _ _).2 (.inr (by rw [ha]; exact hb)))
      · by_cases hb : bl b = []
        · rcases und_nil_of h with h2 | h2
          · exact absurd h2 ha
          · exact .inr ((cov_iff _ _).2 (.inr (by rw [hb]; exact h2)))
        · rcases und_two h k ha hb with e | e
          · exact .inl ((cov_iff _ _).2 (.inr e))
          · exact .inr ((cov_iff _ _).2 (.inr e))
theorem cov_le {a b : ByteArray} (h : cov a b = true) : a.size ≤ b.size ∧ (a.size = b.size → a = b) := by
  rcases (cov_iff a b).1 h with rfl | h
  · exact ⟨Nat.le_refl _, fun _ => rfl⟩
  · obtain ⟨_, h⟩ := (und_iff _ _).1 h
    rw [← bl_size, ← bl_size]
    rcases h with h | h | ⟨r, h⟩
    · rw [h]
      refine ⟨Nat.zero_le _, fun e => bl_inj ?_⟩
      rw [h]
      exact (List.eq_nil_of_length_eq_zero e.symm).symm
    · exact ⟨by rw [h]; exact Nat.le_refl _, fun _ => bl_inj h⟩
    · rw [h, List.length_append, List.length_cons]
      exact ⟨by omega, fun e => by omega⟩
theorem cov_same {a b c : ByteArray} (h : cov a c = true) (k : cov b c = true) (e : a.size = b.size) : a = b := by
  rcases cov_two h k with h | h
  · exact (cov_le h).2 e
  · exact ((cov_le h).2 e.symm).symm
/-- one rule's turn when a path's label is looked for. -/
def findStep (s : ByteArray) (st : Int × Int × Nat) (r : Rl) : Int × Int × Nat := if st.1 < r.p.size ∧ cov r.p s = true then ((r.p.size : Int), r.a, r.c) else st
def findF (s : ByteArray) (rs : List Rl) : Int × Int × Nat := rs.foldl (findStep s) (-1, 0, 0)
def find (s : ByteArray) (rs : List Rl) : Int × Nat := (findF s rs).2
theorem findF_snoc (s : ByteArray) (rs : List Rl) (r : Rl) : findF s (rs ++ [r]) = findStep s (findF s rs) r := by simp [findF]
/-- what is found: nothing, or the first of the longest that cover. -/
def Best (s : ByteArray) (rs : List Rl) (st : Int × Int × Nat) : Prop :=
  (st = (-1, 0, 0) ∧ ∀ (i : Nat) (r : Rl), rs[i]? = some r → cov r.p s = false) ∨
  (∃ (i : Nat) (r : Rl), rs[i]? = some r ∧ cov r.p s = true ∧ st = ((r.p.size : Int), r.a, r.c) ∧ ∀ (j : Nat) (x : Rl), rs[j]? = some x → cov x.p s = true → x.p.size ≤ r.p.size ∧ (x.p.size = r.p.size → i ≤ j))
theorem snoc_get {α : Type} {rs : List α} {r x : α} {j : Nat} (h : (rs ++ [r])[j]? = some x) : (j < rs.length ∧ rs[j]? = some x) ∨ (j = rs.length ∧ x = r) := by
  by_cases hj : j < rs.length
  · rw [List.getElem?_append_left hj] at h
    exact .inl ⟨hj, h⟩
  · have hl := (List.getElem?_eq_some_iff.1 h).1
    simp only [List.length_append, List.length_singleton] at hl
    obtain rfl : j = rs.length := by omega
    rw [List.getElem?_append_right (Nat.le_refl _), Nat.sub_self] at h
    exact .inr ⟨rfl, (Option.some.inj h).symm⟩
theorem best_snoc {s : ByteArray} {rs : List Rl} {st : Int × Int × Nat} (h : Best s rs st) (r : Rl) : Best s (rs ++ [r]) (findStep s st r) := by
  unfold findStep
  rcases h with ⟨rfl, h⟩ | ⟨i, q, hq, hc, rfl, hm⟩
  · by_cases hr : cov r.p s = true
    · rw [if_pos ⟨by simp; omega, hr⟩]
      refine .inr ⟨rs.length, r, by simp, hr, rfl, fun j x hx hcx => ?_⟩
      rcases snoc_get hx with ⟨hj, hx⟩ | ⟨rfl, rfl⟩
      · rw [h j x hx] at hcx; cases hcx
      · exact ⟨Nat.le_refl _, fun _ => Nat.le_refl _⟩
    · rw [if_neg (fun e => hr e.2)]
      refine .inl ⟨rfl, fun i x hx => ?_⟩
      rcases snoc_get hx with ⟨_, hx⟩ | ⟨_, rfl⟩
      · exact h i x hx
      · simpa using hr
  · have hi := (List.getElem?_eq_some_iff.1 hq).1
    by_cases hr : q.p.size < r.p.size ∧ cov r.p s = true
    · rw [if_pos ⟨by simp; omega, hr.2⟩]
      refine .inr ⟨rs.length, r, by simp, hr.2, rfl, fun j x hx hcx => ?_⟩
      rcases snoc_get hx with ⟨hj, hx⟩ | ⟨rfl, rfl⟩
      · have := (hm j x hx hcx).1
        exact ⟨by omega, fun e => by omega⟩
      · exact ⟨Nat.le_refl _, fun _ => Nat.le_refl _⟩
    · rw [if_neg (fun e => hr ⟨by have := e.1; simp at this; omega, e.2⟩)]
      refine .inr ⟨i, q, by rw [List.getElem?_append_left hi]; exact hq, hc, rfl, fun j x hx hcx => ?_⟩
      rcases snoc_get hx with ⟨hj, hx⟩ | ⟨rfl, rfl⟩
      · exact hm j x hx hcx
      · refine ⟨?_, fun _ => Nat.le_of_lt hi⟩
        by_cases hlt : q.p.size < x.p.size
        · exact absurd ⟨hlt, hcx⟩ hr
        · omega
theorem best_nil (s : ByteArray) : Best s [] (-1, 0, 0) := .inl ⟨rfl, fun i r h => by simp at h⟩
theorem best_all (s : ByteArray) : ∀ rs : List Rl, Best s rs (findF s rs) := by
  intro rs
  have : ∀ (xs ys : List Rl) (st : Int × Int × Nat), Best s ys st → Best s (ys ++ xs) (xs.foldl (findStep s) st) := by
    intro xs
    induction xs with
    | nil => intro ys st h; rw [List.append_nil]; exact h
    | cons x xs ih =>
      intro ys st h
      have := ih (ys ++ [x]) _ (best_snoc h x)
      rw [List.append_assoc] at this
      exact this
  have := this rs [] _ (best_nil s)
  rw [List.nil_append] at this
  exact this
/-- what a prefix touches, in the order in which it comes up. -/
def touchF (s : ByteArray) (rs : List Rl) : List (Int × Nat) := find s rs :: (rs.filter fun r => cov s r.p).map fun r => (r.a, r.c)
theorem find_touched {q s : ByteArray} (h : cov q s = true) (rs : List Rl) : find s rs ∈ touchF q rs := by
  unfold touchF find
  rcases best_all s rs with ⟨e, hn⟩ | ⟨i, r, hi, hc, e, hm⟩
  · rw [e]
    rcases best_all q rs with ⟨e2, _⟩ | ⟨j, x, hj, hcx, _, _⟩
    · rw [e2]; exact List.mem_cons_self ..
    · have := hn j x hj
      rw [cov_trans hcx h] at this
      cases this
  · rw [e]
    rcases cov_two hc h with hrq | hqr
    · rcases best_all q rs with ⟨_, hn2⟩ | ⟨j, x, hj, hcx, e2, hm2⟩
      · rw [hn2 i r hi] at hrq; cases hrq
      · have h1 := hm j x hj (cov_trans hcx h)
        have h2 := hm2 i r hi hrq
        have e3 : x.p.size = r.p.size := by omega
        have e4 : i = j := by have := h1.2 e3; have := h2.2 e3.symm; omega
        subst e4
        rw [hi] at hj
        obtain rfl := Option.some.inj hj
        rw [e2]
        exact List.mem_cons_self ..
    · refine List.mem_cons_of_mem _ (List.mem_map.2 ⟨r, List.mem_filter.2 ⟨List.mem_of_getElem? hi, hqr⟩, rfl⟩)
theorem mem_refL (xs : List (Int × Nat)) (z : Int × Nat) : z ∈ refL xs ↔ z ∈ xs := by
  have h := (refL_both xs [] List.Pairwise.nil).2 z
  rw [show refL xs = xs.foldl (fun o x => insD x o) [] from rfl, h]
  simp
end Go.Proofs.YtmbcojpdigoojaaGreatDoor.Rul
