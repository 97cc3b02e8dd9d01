/- DERIVED. Texts of ours, merged: XLabSortMath XRulSpec XRulRows XRulFind XRefDig. -/
import Derived.Test.YtpkolmmahoopcaaGreatDoorMrf4
import Derived.Test.YtpkolmmahoopcaaGreatDoorMrf1
import Derived.Test.YtpkolmmahoopcaaGreatDoorMrf2
import Derived.Test.YtpkolmmahoopcaaGreatDoorMrf3
import Derived.Deep.MidRow
import Derived.StillTailTactics
import Derived.Test.YtpkolmmahoopcaaGreatDoorProg
import Derived.Deep.CutBlock
import Derived.Lib.Hide
import Derived.KernelRfl
import Derived.BigQuiet
import Derived.Deep.QuietTactic
import Derived.Deep.RegionWith
/- DERIVED. Labels in order, on lists: what is sorted and told once is what is put in one by one. -/
namespace Go.Proofs.YtpkolmmahoopcaaGreatDoor.Lab
def ltP (x y : Int × Nat) : Bool := decide (x.1 < y.1 ∨ (x.1 = y.1 ∧ x.2 < y.2))
theorem ltP_iff (x y : Int × Nat) : ltP x y = true ↔ x.1 < y.1 ∨ (x.1 = y.1 ∧ x.2 < y.2) := by simp [ltP]
theorem ltP_no (x y : Int × Nat) : ltP x y = false ↔ ¬ (x.1 < y.1 ∨ (x.1 = y.1 ∧ x.2 < y.2)) := by simp [ltP]
theorem ltP_irrefl (x : Int × Nat) : ltP x x = false := by rw [ltP_no]; omega
theorem ltP_trans {x y z : Int × Nat} (h : ltP x y = true) (k : ltP y z = true) : ltP x z = true := by rw [ltP_iff] at *; omega
theorem ltP_asymm {x y : Int × Nat} (h : ltP x y = true) : ltP y x = false := by rw [ltP_iff] at h; rw [ltP_no]; omega
theorem ltP_total {x y : Int × Nat} (h : ltP x y = false) (k : ltP y x = false) : x = y := by
  rw [ltP_no] at *
  exact Prod.ext (by omega) (by omega)
theorem ltP_ntrans {x y z : Int × Nat} (h : ltP y x = false) (k : ltP z y = false) : ltP z x = false := by rw [ltP_no] at *; omega
def Strict (L : List (Int × Nat)) : Prop := L.Pairwise fun x y => ltP x y = true
theorem strict_unique : ∀ {L M : List (Int × Nat)}, Strict L → Strict M → (∀ x, x ∈ L ↔ x ∈ M) → L = M
  | [], [], _, _, _ => rfl
  | [], y :: M, _, _, h => by have := (h y).2 (List.mem_cons_self ..); cases this
  | x :: L, [], _, _, h => by have := (h x).1 (List.mem_cons_self ..); cases this
  | x :: L, y :: M, hL, hM, h => by
    obtain ⟨l1, l2⟩ := List.pairwise_cons.1 hL
    obtain ⟨m1, m2⟩ := List.pairwise_cons.1 hM
    have e : x = y := by
      rcases List.mem_cons.1 ((h x).1 (List.mem_cons_self ..)) with e | hx
      · exact e
      · rcases List.mem_cons.1 ((h y).2 (List.mem_cons_self ..)) with e | hy
        · exact e.symm
        · have a := m1 x hx
          have b := ltP_asymm (l1 y hy)
          rw [a] at b; cases b
    subst e
    rw [strict_unique l2 m2 fun z => ?_]
    constructor
    · intro hz
      rcases List.mem_cons.1 ((h z).1 (List.mem_cons_of_mem _ hz)) with e | k
      · subst e; have := l1 z hz; rw [ltP_irrefl] at this; cases this
      · exact k
    · intro hz
      rcases List.mem_cons.1 ((h z).2 (List.mem_cons_of_mem _ hz)) with e | k
      · subst e; have := m1 z hz; rw [ltP_irrefl] at this; cases this
      · exact k
/-- put in where it belongs, once. -/
def insD (x : Int × Nat) : List (Int × Nat) → List (Int × Nat)
  | [] => [x]
  | y :: r => if ltP y x = true then y :: insD x r else if y = x then y :: r else x :: y :: r
theorem mem_insD (x z : Int × Nat) : ∀ L, z ∈ insD x L ↔ z = x ∨ z ∈ L
  | [] => by simp [insD]
  | y :: r => by
    unfold insD
    split
    · rw [List.mem_cons, mem_insD x z r, List.mem_cons]
      constructor <;> (intro h; rcases h with h | h | h <;> simp [h])
    · split
      · rename_i h
        subst h
        simp
      · simp
theorem strict_insD (x : Int × Nat) : ∀ L, Strict L → Strict (insD x L)
  | [], _ => by simp [insD, Strict]
  | y :: r, h => by
    obtain ⟨h1, h2⟩ := List.pairwise_cons.1 h
    unfold insD
    split
    · rename_i hy
      refine List.pairwise_cons.2 ⟨fun z hz => ?_, strict_insD x r h2⟩
      rcases (mem_insD x z r).1 hz with e | k
      · rw [e]; exact hy
      · exact h1 z k
    · split
      · exact h
      · rename_i hy he
        have hxy : ltP x y = true := by
          cases e : ltP x y with
          | true => rfl
          | false => exact absurd (ltP_total (by simpa using hy) e) he
        refine List.pairwise_cons.2 ⟨fun z hz => ?_, h⟩
        rcases List.mem_cons.1 hz with e | k
        · rw [e]; exact hxy
        · exact ltP_trans hxy (h1 z k)
def refL (xs : List (Int × Nat)) : List (Int × Nat) := xs.foldl (fun o x => insD x o) []
theorem refL_snoc (xs : List (Int × Nat)) (x : Int × Nat) : refL (xs ++ [x]) = insD x (refL xs) := by simp [refL]
theorem refL_both : ∀ (xs o : List (Int × Nat)), Strict o → Strict (xs.foldl (fun o x => insD x o) o) ∧ ∀ z, z ∈ xs.foldl (fun o x => insD x o) o ↔ z ∈ xs ∨ z ∈ o
  | [], o, h => ⟨h, fun z => by simp⟩
  | x :: xs, o, h => by
    have ih := refL_both xs (insD x o) (strict_insD x o h)
    refine ⟨ih.1, fun z => ?_⟩
    rw [List.foldl_cons, ih.2, mem_insD, List.mem_cons]
    rw [or_assoc]
    exact or_left_comm
theorem distG_both : ∀ (r : List (Int × Nat)) (p : Int × Nat), (∀ y ∈ r, ltP y p = false) → (r.Pairwise fun x y => ltP y x = false) → Strict (p :: distG p r) ∧ ∀ z, z ∈ p :: distG p r ↔ z ∈ p :: r
  | [], p, _, _ => ⟨by simp [distG, Strict], fun z => by simp [distG]⟩
  | x :: r, p, h, hp => by
    obtain ⟨h1, h2⟩ := List.pairwise_cons.1 hp
    unfold distG
    split
    · rename_i e
      subst e
      obtain ⟨a, b⟩ := distG_both r x (fun y hy => h1 y hy) h2
      refine ⟨a, fun z => ?_⟩
      rw [b z]
      simp
    · rename_i e
      obtain ⟨a, b⟩ := distG_both r x (fun y hy => h1 y hy) h2
      have hpx : ltP p x = true := by
        cases k : ltP p x with
        | true => rfl
        | false => exact absurd (ltP_total (h x (List.mem_cons_self ..)) k) e
      refine ⟨List.pairwise_cons.2 ⟨fun z hz => ?_, a⟩, fun z => ?_⟩
      · rcases List.mem_cons.1 hz with e | k
        · rw [e]; exact hpx
        · exact ltP_trans hpx ((List.pairwise_cons.1 a).1 z k)
      · rw [List.mem_cons, b z]
        simp
def sortL (xs : List (Int × Nat)) : List (Int × Nat) := xs.mergeSort fun x y => !ltP y x
theorem sortL_pair (xs : List (Int × Nat)) : (sortL xs).Pairwise fun x y => ltP y x = false := by
  have h := List.pairwise_mergeSort (le := fun x y : Int × Nat => !ltP y x) (fun a b c h k => by
    simp only [Bool.not_eq_true'] at *
    exact ltP_ntrans h k) (fun a b => by
    cases e : ltP b a with
    | false => rfl
    | true => simp [ltP_asymm e]) xs
  exact h.imp fun {a b} k => by simpa using k
theorem dist_sort (xs : List (Int × Nat)) : distL (sortL xs) = refL xs := by
  have hp := sortL_pair xs
  have hm : ∀ z, z ∈ sortL xs ↔ z ∈ xs := fun z => List.mem_mergeSort
  obtain ⟨r1, r2⟩ := refL_both xs [] List.Pairwise.nil
  refine strict_unique ?_ r1 fun z => ?_
  · cases e : sortL xs with
    | nil => exact List.Pairwise.nil
    | cons x r =>
      rw [e] at hp
      obtain ⟨h1, h2⟩ := List.pairwise_cons.1 hp
      exact (distG_both r x h1 h2).1
  · have hz : z ∈ distL (sortL xs) ↔ z ∈ sortL xs := by
      cases e : sortL xs with
      | nil => rfl
      | cons x r =>
        rw [e] at hp
        obtain ⟨h1, h2⟩ := List.pairwise_cons.1 hp
        exact (distG_both r x h1 h2).2 z
    rw [hz, hm]
    show _ ↔ z ∈ List.foldl _ _ _
    rw [r2]
    simp
/-- the place where it belongs. -/
theorem insD_at : ∀ (L : List (Int × Nat)) (x : Int × Nat) (k : Nat), k ≤ L.length → (∀ j y, j < k → L[j]? = some y → ltP y x = true) → (∀ y, L[k]? = some y → ltP y x = false) →
    insD x L = if L[k]? = some x then L else L.take k ++ [x] ++ L.drop k
  | [], x, k, _, _, _ => by simp [insD]
  | y :: r, x, 0, _, _, h0 => by
    have hy := h0 y rfl
    unfold insD
    rw [if_neg (by rw [hy]; decide)]
    by_cases e : y = x
    · simp [e]
    · simp [e]
  | y :: r, x, k + 1, hk, h1, h0 => by
    have hy := h1 0 y (by omega) rfl
    have ih := insD_at r x k (by simpa using hk) (fun j z hj hz => h1 (j + 1) z (by omega) (by simpa using hz)) (fun z hz => h0 z (by simpa using hz))
    unfold insD
    rw [if_pos hy, ih]
    simp only [List.getElem?_cons_succ]
    split <;> simp
end Go.Proofs.YtpkolmmahoopcaaGreatDoor.Lab
/- DERIVED. PLAIN MATHEMATICS: rules as a list: which prefix covers what, the label of a path, what a prefix touches. No program. -/
namespace Go.Proofs.YtpkolmmahoopcaaGreatDoor.Rul
open Pth Lab
/-- a rule. -/
structure Rl where
  p : ByteArray
  a : Int
  c : Nat
def bl (s : ByteArray) : List UInt8 := s.data.toList
theorem bl_size (s : ByteArray) : (bl s).length = s.size := by rw [bl, Array.length_toList]; rfl
theorem bl_inj {s t : ByteArray} (h : bl s = bl t) : s = t := by
  cases s; cases t
  simp only [bl] at h
  rw [Array.toList_inj.1 h]
def cov (p s : ByteArray) : Bool := decide (bl p = bl s) || und (bl p) (bl s)
theorem cov_iff (p s : ByteArray) : cov p s = true ↔ p = s ∨ und (bl p) (bl s) = true := by
  unfold cov
  rw [Bool.or_eq_true, decide_eq_true_eq]
  constructor
  · rintro (h | h)
    · exact .inl (bl_inj h)
    · exact .inr h
  · rintro (h | h)
    · exact .inl (by rw [h])
    · exact .inr h
theorem cov_refl (s : ByteArray) : cov s s = true := (cov_iff s s).2 (.inl rfl)
theorem cov_trans {a b c : ByteArray} (h : cov a b = true) (k : cov b c = true) : cov a c = true := by
  rcases (cov_iff a b).1 h with rfl | h
  · exact k
  · rcases (cov_iff b c).1 k with rfl | k
    · exact (cov_iff _ _).2 (.inr h)
    · exact (cov_iff _ _).2 (.inr (und_trans h k))
theorem und_nil_of {b c : List UInt8} (k : und b c = true) : b = [] ∨ und [] b = true := by
  rcases und_prefix k with h | h
  · exact .inl h
  · exact .inr ((und_iff _ _).2 ⟨h, .inl rfl⟩)
theorem cov_two {a b c : ByteArray} (h : cov a c = true) (k : cov b c = true) : cov a b = true ∨ cov b a = true := by
  rcases (cov_iff a c).1 h with rfl | h
  · exact .inr k
  · rcases (cov_iff b c).1 k with rfl | k
    · exact .inl ((cov_iff _ _).2 (.inr h))
    · by_cases ha : bl a = []
      · rcases und_nil_of k with hb | hb
        · exact .inl ((cov_iff _ _).2 (.inl (bl_inj (by rw [ha, hb]))))
        · exact .inl ((cov_iff _ _).2 (.inr (by rw [ha]; exact hb)))
      · by_cases hb : bl b = []
        · rcases und_nil_of h with h2 | h2
          · exact absurd h2 ha
          · exact .inr ((cov_iff _ _).2 (.inr (by rw [hb]; exact h2)))
        · rcases und_two h k ha hb with e | e
          · exact .inl ((cov_iff _ _).2 (.inr e))
          · exact .inr ((cov_iff _ _).2 (.inr e))
theorem cov_le {a b : ByteArray} (h : cov a b = true) : a.size ≤ b.size ∧ (a.size = b.size → a = b) := by
  rcases (cov_iff a b).1 h with rfl | h
  · exact ⟨Nat.le_refl _, fun _ => rfl⟩
  · obtain ⟨_, h⟩ := (und_iff _ _).1 h
    rw [← bl_size, ← bl_size]
    rcases h with h | h | ⟨r, h⟩
    · rw [h]
      refine ⟨Nat.zero_le _, fun e => bl_inj ?_⟩
      rw [h]
      exact (List.eq_nil_of_length_eq_zero e.symm).symm
    · exact ⟨by rw [h]; exact Nat.le_refl _, fun _ => bl_inj h⟩
    · rw [h, List.length_append, List.length_cons]
      exact ⟨by omega, fun e => by omega⟩
theorem cov_same {a b c : ByteArray} (h : cov a c = true) (k : cov b c = true) (e : a.size = b.size) : a = b := by
  rcases cov_two h k with h | h
  · exact (cov_le h).2 e
  · exact ((cov_le h).2 e.symm).symm
/-- one rule's turn when a path's label is looked for. -/
def findStep (s : ByteArray) (st : Int × Int × Nat) (r : Rl) : Int × Int × Nat := if st.1 < r.p.size ∧ cov r.p s = true then ((r.p.size : Int), r.a, r.c) else st
def findF (s : ByteArray) (rs : List Rl) : Int × Int × Nat := rs.foldl (findStep s) (-1, 0, 0)
def find (s : ByteArray) (rs : List Rl) : Int × Nat := (findF s rs).2
theorem findF_snoc (s : ByteArray) (rs : List Rl) (r : Rl) : findF s (rs ++ [r]) = findStep s (findF s rs) r := by simp [findF]
/-- what is found: nothing, or the first of the longest that cover. -/
def Best (s : ByteArray) (rs : List Rl) (st : Int × Int × Nat) : Prop :=
  (st = (-1, 0, 0) ∧ ∀ (i : Nat) (r : Rl), rs[i]? = some r → cov r.p s = false) ∨
  (∃ (i : Nat) (r : Rl), rs[i]? = some r ∧ cov r.p s = true ∧ st = ((r.p.size : Int), r.a, r.c) ∧ ∀ (j : Nat) (x : Rl), rs[j]? = some x → cov x.p s = true → x.p.size ≤ r.p.size ∧ (x.p.size = r.p.size → i ≤ j))
theorem snoc_get {α : Type} {rs : List α} {r x : α} {j : Nat} (h : (rs ++ [r])[j]? = some x) : (j < rs.length ∧ rs[j]? = some x) ∨ (j = rs.length ∧ x = r) := by
  by_cases hj : j < rs.length
  · rw [List.getElem?_append_left hj] at h
    exact .inl ⟨hj, h⟩
  · have hl := (List.getElem?_eq_some_iff.1 h).1
    simp only [List.length_append, List.length_singleton] at hl
    obtain rfl : j = rs.length := by omega
    rw [List.getElem?_append_right (Nat.le_refl _), Nat.sub_self] at h
    exact .inr ⟨rfl, (Option.some.inj h).symm⟩
theorem best_snoc {s : ByteArray} {rs : List Rl} {st : Int × Int × Nat} (h : Best s rs st) (r : Rl) : Best s (rs ++ [r]) (findStep s st r) := by
  unfold findStep
  rcases h with ⟨rfl, h⟩ | ⟨i, q, hq, hc, rfl, hm⟩
  · by_cases hr : cov r.p s = true
    · rw [if_pos ⟨by simp; omega, hr⟩]
      refine .inr ⟨rs.length, r, by simp, hr, rfl, fun j x hx hcx => ?_⟩
      rcases snoc_get hx with ⟨hj, hx⟩ | ⟨rfl, rfl⟩
      · rw [h j x hx] at hcx; cases hcx
      · exact ⟨Nat.le_refl _, fun _ => Nat.le_refl _⟩
    · rw [if_neg (fun e => hr e.2)]
      refine .inl ⟨rfl, fun i x hx => ?_⟩
      rcases snoc_get hx with ⟨_, hx⟩ | ⟨_, rfl⟩
      · exact h i x hx
      · simpa using hr
  · have hi := (List.getElem?_eq_some_iff.1 hq).1
    by_cases hr : q.p.size < r.p.size ∧ cov r.p s = true
    · rw [if_pos ⟨by simp; omega, hr.2⟩]
      refine .inr ⟨rs.length, r, by simp, hr.2, rfl, fun j x hx hcx => ?_⟩
      rcases snoc_get hx with ⟨hj, hx⟩ | ⟨rfl, rfl⟩
      · have := (hm j x hx hcx).1
        exact ⟨by omega, fun e => by omega⟩
      · exact ⟨Nat.le_refl _, fun _ => Nat.le_refl _⟩
    · rw [if_neg (fun e => hr ⟨by have := e.1; simp at this; omega, e.2⟩)]
      refine .inr ⟨i, q, by rw [List.getElem?_append_left hi]; exact hq, hc, rfl, fun j x hx hcx => ?_⟩
      rcases snoc_get hx with ⟨hj, hx⟩ | ⟨rfl, rfl⟩
      · exact hm j x hx hcx
      · refine ⟨?_, fun _ => Nat.le_of_lt hi⟩
        by_cases hlt : q.p.size < x.p.size
        · exact absurd ⟨hlt, hcx⟩ hr
        · omega
theorem best_nil (s : ByteArray) : Best s [] (-1, 0, 0) := .inl ⟨rfl, fun i r h => by simp at h⟩
theorem best_all (s : ByteArray) : ∀ rs : List Rl, Best s rs (findF s rs) := by
  intro rs
  have : ∀ (xs ys : List Rl) (st : Int × Int × Nat), Best s ys st → Best s (ys ++ xs) (xs.foldl (findStep s) st) := by
    intro xs
    induction xs with
    | nil => intro ys st h; rw [List.append_nil]; exact h
    | cons x xs ih =>
      intro ys st h
      have := ih (ys ++ [x]) _ (best_snoc h x)
      rw [List.append_assoc] at this
      exact this
  have := this rs [] _ (best_nil s)
  rw [List.nil_append] at this
  exact this
/-- what a prefix touches, in the order in which it comes up. -/
def touchF (s : ByteArray) (rs : List Rl) : List (Int × Nat) := find s rs :: (rs.filter fun r => cov s r.p).map fun r => (r.a, r.c)
theorem find_touched {q s : ByteArray} (h : cov q s = true) (rs : List Rl) : find s rs ∈ touchF q rs := by
  unfold touchF find
  rcases best_all s rs with ⟨e, hn⟩ | ⟨i, r, hi, hc, e, hm⟩
  · rw [e]
    rcases best_all q rs with ⟨e2, _⟩ | ⟨j, x, hj, hcx, _, _⟩
    · rw [e2]; exact List.mem_cons_self ..
    · have := hn j x hj
      rw [cov_trans hcx h] at this
      cases this
  · rw [e]
    rcases cov_two hc h with hrq | hqr
    · rcases best_all q rs with ⟨_, hn2⟩ | ⟨j, x, hj, hcx, e2, hm2⟩
      · rw [hn2 i r hi] at hrq; cases hrq
      · have h1 := hm j x hj (cov_trans hcx h)
        have h2 := hm2 i r hi hrq
        have e3 : x.p.size = r.p.size := by omega
        have e4 : i = j := by have := h1.2 e3; have := h2.2 e3.symm; omega
        subst e4
        rw [hi] at hj
        obtain rfl := Option.some.inj hj
        rw [e2]
        exact List.mem_cons_self ..
    · refine List.mem_cons_of_mem _ (List.mem_map.2 ⟨r, List.mem_filter.2 ⟨List.mem_of_getElem? hi, hqr⟩, rfl⟩)
theorem mem_refL (xs : List (Int × Nat)) (z : Int × Nat) : z ∈ refL xs ↔ z ∈ xs := by
  have h := (refL_both xs [] List.Pairwise.nil).2 z
  rw [show refL xs = xs.foldl (fun o x => insD x o) [] from rfl, h]
  simp
end Go.Proofs.YtpkolmmahoopcaaGreatDoor.Rul
/- DERIVED. Slices of rules: what they read as; a prefix that covers a text. -/
namespace Go.Proofs.YtpkolmmahoopcaaGreatDoor.Rul
open Go.RowKit Lab
abbrev rlc (r : Rl) : Array Value := #[.string r.p, .int .i64 r.a, .int .u64 (r.c : Nat)]
theorem rlc_one (r : Rl) : (rlc r).all (·.oneCell') = true := by
  rw [Array.all_eq_true_iff_forall_mem]
  intro v hv
  simp only [List.mem_toArray, List.mem_cons, List.mem_nil_iff, or_false] at hv
  rcases hv with rfl | rfl | rfl <;> rfl
theorem infoR : (Tryz.prog.info? 44).map (·.size) = some 3 := by kernel_rfl
theorem infoR2 : ∀ {r : Rl}, (Tryz.prog.info? 44).map (·.size) = some (rlc r).toList.length := fun {_} => infoR
/-- the slice (A, rs.length, c) reads as the rules rs. -/
def Ruls (w : World) (A : Option Addr) (c : Nat) (rs : List Rl) : Prop :=
  rs.length ≤ c ∧ (A = none → c = 0) ∧ (0 < rs.length → ∃ b off, A = some ⟨b, off, none⟩ ∧ b < w.heap.size ∧ ∀ i x, rs[i]? = some x → w.rangeAt b (off + i * 3) (rlc x).toList)
theorem Ruls.below {w w' : World} {B c : Nat} {A : Option Addr} {rs : List Rl} (h : Ruls w A c rs) (hb : Below B w w') (hB : w.heap.size ≤ B) : Ruls w' A c rs :=
  ⟨h.1, h.2.1, fun hl => by
    obtain ⟨b, off, hA, hg, hc⟩ := h.2.2 hl
    exact ⟨b, off, hA, Nat.lt_of_lt_of_le hg hb.size, fun i x hx j v hv => (hb.cell (p := ⟨b, off + i * 3 + j, none⟩) (Nat.lt_of_lt_of_le hg hB)).trans (hc i x hx j v hv)⟩⟩
theorem Ruls.at {w : World} {A : Option Addr} {c k : Nat} {rs : List Rl} {r : Rl} (h : Ruls w A c rs) (hk : rs[k]? = some r) : ∃ b off, A = some ⟨b, off, none⟩ ∧ b < w.heap.size ∧ w.rangeAt b (off + k * 3) (rlc r).toList := by
  have hi := (List.getElem?_eq_some_iff.1 hk).1
  obtain ⟨b, off, hA, hg, hc⟩ := h.2.2 (by omega)
  exact ⟨b, off, hA, hg, hc k r hk⟩
/-- a table. -/
abbrev tabV (v : Int) (A : Option Addr) (n c : Nat) : Array Value := #[.int .i64 v, .slice A n c]
theorem infoT : (Tryz.prog.info? 24).map (·.size) = some 2 := by kernel_rfl
theorem tab_one (v : Int) (A : Option Addr) (n c : Nat) : (tabV v A n c).all (·.oneCell') = true := by
  rw [Array.all_eq_true_iff_forall_mem]
  intro x hx
  simp only [List.mem_toArray, List.mem_cons, List.mem_nil_iff, or_false] at hx
  rcases hx with rfl | rfl <;> rfl
set_option maxHeartbeats 1000000 in
theorem covers_any (p s : ByteArray) (w : World) (hL : Pth.Laid w) (hp : p.size ≤ 1000) (hs : s.size ≤ 1000) :
    Calls Tryz.prog 23 #[.string p, .string s] w fun e w' => e = .returned (.bool (cov p s)) ∧ Below w.heap.size w w' := by
  by_cases he : p = s
  · subst he
    have hr : cov p p = true := cov_refl p
    rw [hr]
    clear hr
    go_enter Tryz.func23, Tryz.ntmps23
    go_wp2
    go_ret
    exact ⟨rfl, Below.refl _ _⟩
  · have hne := Pth.ne_lists (a := p) (b := s) (fun h => he (bl_inj h))
    have hr : cov p s = Pth.und (bl p) (bl s) := by unfold cov; rw [decide_eq_false (fun h => he (bl_inj h)), Bool.false_or]
    rw [hr]
    have HU := Lib.hid (Pth.under_any p s w hL hp hs)
    have HR : Hid (Pth.und (bl p) (bl s) = Pth.und p.data.toList s.data.toList) := rfl
    clear hr he hL
    go_enter Tryz.func23, Tryz.ntmps23
    go_wp2_with (go_at_call 36; refine HU.out.mono ?_; rintro e w' ⟨rfl, hb⟩)
    go_ret
    exact ⟨rfl, hb⟩
end Go.Proofs.YtpkolmmahoopcaaGreatDoor.Rul
/- DERIVED. The contract of rules.Find: the label of a path. -/
namespace Go.Proofs.YtpkolmmahoopcaaGreatDoor.Rul
open Go.RowKit Lab
/-- a label in the middle of a row, loaded as a whole. -/
noncomputable def loadLb (v : Value) : Sem Value := Instr.loadAt 34 v
theorem loadAtLb (v : Value) : Instr.loadAt 34 v = loadLb v := rfl
theorem loadLb_eq {w : World} {b o : Nat} {a : Int} {c : Nat} (h : w.rangeAt b o (lab a c).toList) : (loadLb (.pointer (some ⟨b, o, none⟩))).run Tryz.prog w = .ok (.agg (lab a c)) w := by
  unfold loadLb
  simp only [Instr.loadAt, Instr.sureAddr, Sem.run_bind, Sem.run_pure, Result.andThen_ok, run_loadVar_mid w b o 34 (lab a c).toList _ h Tryz.underlying34 rfl infoL]
attribute [irreducible] loadLb
attribute [local go_sem ↓ high] loadAtLb
/-- a rule's row: its text, its label. -/
theorem rule_row {w : World} {g : Nat} {r : Rl} (h : w.heap[g]? = some (.cells (rlc r) 44 (0, 0))) : w.cell? ⟨g, 0, none⟩ = some (.string r.p) ∧ w.rangeAt g 1 (lab r.a r.c).toList := by
  refine ⟨cell_row h 0, fun j v hv => ?_⟩
  rw [cell_row h]
  have hj : j < 2 := by have := (List.getElem?_eq_some_iff.1 hv).1; simpa using this
  have : j = 0 ∨ j = 1 := by omega
  rcases this with rfl | rfl <;> exact hv
/-- what the loop keeps. -/
structure FiI (st : Int × Nat) (N : Nat) (w wr : World) : Prop where
  res : wr.heap[N + 1]? = some (.cells (lab 0 0) 34 (0, 0))
  fnd : wr.heap[N + 1 + 1]? = some (.cells (lab st.1 st.2) 34 (0, 0))
  low : Below N w wr
theorem FiI.later {st : Int × Nat} {N : Nat} {w wr wx : World} (h : FiI st N w wr) (hb : Below wr.heap.size wr wx) : FiI st N w wx := by
  have h1 := (Array.getElem?_eq_some_iff.1 h.res).1
  have h2 := (Array.getElem?_eq_some_iff.1 h.fnd).1
  exact ⟨(hb.block _ h1).trans h.res, (hb.block _ h2).trans h.fnd, h.low.trans (hb.mono (by omega))⟩
theorem FiI.set {st : Int × Nat} {N : Nat} {w wr : World} (h : FiI st N w wr) (a : Int) (c : Nat) : FiI (a, c) N w (wr.setRow (N + 1 + 1) (lab a c)) :=
  ⟨by rw [setRow_ne (by omega)]; exact h.res, setRow_at h.fnd, Lab.below_setRow h.low (by omega) _⟩
set_option maxRecDepth 100000 in
set_option maxHeartbeats 2000000 in
theorem find_any (v : Int) (A : Option Addr) (n c : Nat) (rs : List Rl) (s : ByteArray) (wb w : World) (hn : rs.length = n) (hR : Ruls wb A c rs) (hwb : Below wb.heap.size wb w) (hL : Pth.Laid w) (hz : ∀ r ∈ rs, r.p.size ≤ 1000) (hs : s.size ≤ 1000) (hn9 : n ≤ 9223372036854775807) :
    Calls Tryz.prog 9 #[.agg (tabV v A n c), .string s] w fun e w' => e = .returned (.agg (lab (find s rs).1 (find s rs).2)) ∧ Below w.heap.size w w' := by
  obtain ⟨q, hq⟩ : ∃ q, q = find s rs := ⟨_, rfl⟩
  rw [← hq]
  have Hq := Lib.hid hq
  clear hq
  have Hn := Lib.hid hn
  have HR := Lib.hid hR
  have Hwb := Lib.hid hwb
  have HL := Lib.hid hL
  have Hz := Lib.hid hz
  have h3 := three_new w (.cells (tabV v A n c) 24) (.cells (lab 0 0) 34) (.cells (lab 0 0) 34)
  have k3 := below3 w (.cells (tabV v A n c) 24) (.cells (lab 0 0) 34) (.cells (lab 0 0) 34)
  obtain ⟨W3, hW3⟩ : ∃ W3, W3 = ((w.alloc (.cells (tabV v A n c) 24)).alloc (.cells (lab 0 0) 34)).alloc (.cells (lab 0 0) 34) := ⟨_, rfl⟩
  rw [← hW3] at h3 k3
  have c1 := cell_row h3.1 1
  have HW3 : Hid (((w.alloc (.cells (tabV v A n c) 24)).alloc (.cells #[.int .i64 0, .int .u64 0] 34)).alloc (.cells #[.int .i64 0, .int .u64 0] 34) = W3) := by show _ = _; rw [hW3]; rfl
  have Hst : Hid (FiI (findF s (rs.take 0)).2 w.heap.size w W3) := ⟨h3.2.1, by rw [List.take_zero]; exact h3.2.2, k3⟩
  clear hn hR hwb hL hz h3 k3 hW3
  go_enter Tryz.func9, Tryz.ntmps9
  go_upto_region 2 with fail
  rw [HW3.out]
  go_wp2
  go_loopw [6, 12] (fun lo i wr => ∃ k : Nat, k ≤ n ∧ i = .int .i64 k ∧ lo = .int .i64 (findF s (rs.take k)).1 ∧ Hid (FiI (findF s (rs.take k)).2 w.heap.size w wr)) (fun _ i _ => n - (intOf i).toNat)
  case atStart => exact ⟨0, by omega, rfl, by rw [List.take_zero]; rfl, Hst.out⟩
  case round =>
    obtain ⟨k, hk, rfl, rfl, hI⟩ := hrel
    clear c1 Hst
    by_cases hlt : k < n
    · have hltI : (k : Int) < n := by omega
      obtain ⟨r, hr⟩ : ∃ r, rs[k]? = some r := ⟨_, List.getElem?_eq_getElem (by have := Hn.out; omega)⟩
      have hrp := Hz.out r (List.mem_of_getElem? hr)
      have hstep : findF s (rs.take (k + 1)) = findStep s (findF s (rs.take k)) r := by rw [List.take_add_one, hr]; exact findF_snoc s _ r
      obtain ⟨b, off, hA, hb, hrange⟩ := HR.out.at hr
      have hlow := hI.out.low
      have Hr : Hid (wr.rangeAt b (off + k * 3) (rlc r).toList) := fun j u hu => (hlow.cell (p := ⟨b, off + k * 3 + j, none⟩) (Nat.lt_of_lt_of_le hb Hwb.out.size)).trans ((Hwb.out.cell (p := ⟨b, off + k * 3 + j, none⟩) hb).trans (hrange j u hu))
      have hcap1 : n ≤ c := by have := HR.out.1; have := Hn.out; omega
      obtain ⟨st, hst⟩ : ∃ st, st = findF s (rs.take k) := ⟨_, rfl⟩
      have hI2 := hI.out
      rw [← hst] at hstep hI2 ⊢
      obtain ⟨lo, fa, fc⟩ := st
      simp only at hI2
      have Hstep := Lib.hid hstep
      have HI := Lib.hid hI2
      have hlo : (r.p.size : Int) ≤ 1000 := by omega
      subst hA
      clear hr hstep hrange hlow hst hI hI2 hb
      go_upto_region 6 with (first
        | (with_reducible refine wpList_load_mid rfl 44 (.tmp 14) rfl b (off + k * 3) rfl (rlc r).toList _ Hr.out Tryz.underlying44 rfl infoR2 ?_)
        | (refine wpList_store_row rfl 44 (.tmp 8) (.tmp 15) rfl wr.heap.size (rlc r) rfl rfl 44 _ (Go.heap_alloc_new wr _) infoR rfl (rlc_one _) ?_; rw [World.setRow_alloc_new]))
      obtain ⟨w4, hw4⟩ : ∃ w4, w4 = wr.alloc (.cells (rlc r) 44) := ⟨_, rfl⟩
      have h4 : w4.heap[wr.heap.size]? = some (.cells (rlc r) 44 (0, 0)) := by rw [hw4]; exact Go.heap_alloc_new wr _
      have l4 : Below wr.heap.size wr w4 := by rw [hw4]; exact (Below.refl _ _).alloc (Nat.le_refl _) _
      rw [← hw4]
      clear hw4
      obtain ⟨bx, hbx⟩ : ∃ bx, bx = wr.heap.size := ⟨_, rfl⟩
      rw [← hbx] at h4 ⊢
      have hI4 := HI.out.later l4
      have cS := (rule_row h4).1
      have hlaid4 := HL.out.below (hI4.low) (Nat.le_refl _)
      have HI4 := Lib.hid hI4
      have H4 := Lib.hid h4
      have HL4 := Lib.hid hlaid4
      clear h4 l4 hI4 hbx hlaid4 HI Hr
      by_cases hgt : lo < (r.p.size : Int)
      · have HC := Lib.hid (covers_any r.p s w4 HL4.out (by omega) hs)
        cases hcv : cov r.p s with
        | true =>
          have hc := HC.out
          rw [hcv] at hc
          have HC2 := Lib.hid hc
          have hs2 : findF s (rs.take (k + 1)) = ((r.p.size : Int), r.a, r.c) := by rw [Hstep.out]; unfold findStep; rw [if_pos ⟨hgt, hcv⟩]
          have Hs2 := Lib.hid hs2
          clear hc hs2 HC hcv Hstep
          go_upto_region 7 with (go_at_call 23; refine HC2.out.mono ?_; rintro e w5 ⟨rfl, low5⟩; have HI5 := Lib.hid (HI4.out.later low5); have H5 := Lib.hid ((low5.block _ (Array.getElem?_eq_some_iff.1 H4.out).1).trans H4.out); clear low5)
          have d5 : Below w5.heap.size w5 w5.drew := (Below.refl _ _).drew
          have hI6 := HI5.out.later d5
          have h6 : w5.drew.heap[bx]? = some (.cells (rlc r) 44 (0, 0)) := H5.out
          have cS6 := (rule_row h6).1
          have cL6 := loadLb_eq (rule_row h6).2
          have HI6 := Lib.hid hI6
          clear d5 hI6 h6 cS
          refine wp_region_still_tail 6 (by kernel_rfl) (by kernel_rfl) ?_
          simp only [List.take_succ_cons, List.take_zero, List.drop_succ_cons, List.drop_zero]
          change wpStill _ _ w5.drew _ _ _
          repeat (refine wpStill_step (fun K hK => ?_); go_simp; refine hK _ ?_; clear hK K)
          refine wpStill_nil ?_
          change wpList _ _ _ _ _ w5.drew
          go_wp2_with (refine wpList_store_row rfl 34 (.tmp 5) (.tmp 31) rfl (w.heap.size + 1 + 1) (lab r.a r.c) rfl rfl 34 _ HI6.out.fnd infoL rfl (lab_one _ _) ?_)
          go_roundw
          case rel => exact ⟨k + 1, by omega, by go_num, by rw [Hs2.out], by rw [Hs2.out]; exact HI6.out.set _ _⟩
          case measure => simp [intOf]; omega
        | false =>
          have hc := HC.out
          rw [hcv] at hc
          have HC2 := Lib.hid hc
          have hs2 : findF s (rs.take (k + 1)) = (lo, fa, fc) := by rw [Hstep.out]; unfold findStep; rw [if_neg (fun e => by rw [hcv] at e; cases e.2)]
          have Hs2 := Lib.hid hs2
          clear hc hs2 HC hcv Hstep
          go_wp2_with (go_at_call 23; refine HC2.out.mono ?_; rintro e w5 ⟨rfl, low5⟩; have HI5 := Lib.hid (HI4.out.later low5); clear low5)
          go_roundw
          case rel => exact ⟨k + 1, by omega, by go_num, by rw [Hs2.out], by rw [Hs2.out]; exact HI5.out⟩
          case measure => simp [intOf]; omega
      · have hs2 : findF s (rs.take (k + 1)) = (lo, fa, fc) := by rw [Hstep.out]; unfold findStep; rw [if_neg (fun e => hgt e.1)]
        have Hs2 := Lib.hid hs2
        clear hs2 Hstep
        go_wp2
        go_roundw
        case rel => exact ⟨k + 1, by omega, by go_num, by rw [Hs2.out], by rw [Hs2.out]; exact HI4.out⟩
        case measure => simp [intOf]; omega
    · have hge : ¬ (k : Int) < n := by omega
      have ek : k = n := by omega
      have hI2 := hI.out
      rw [ek, List.take_of_length_le (Nat.le_of_eq Hn.out)] at hI2
      have hI3 : FiI q w.heap.size w wr := by rw [Hq.out]; exact hI2
      have HI3 := Lib.hid hI3
      clear hI hI2 hI3 ek hk hlt
      generalize findF s (List.take k rs) = fz
      go_wp2_with (first | (refine wpList_load_row rfl 34 (.tmp 5) rfl (w.heap.size + 1 + 1) rfl 34 (lab q.1 q.2) (0, 0) _ HI3.out.fnd Tryz.underlying34 rfl infoL ?_) | (refine wpList_store_row rfl 34 (.tmp 4) (.tmp 33) rfl (w.heap.size + 1) (lab q.1 q.2) rfl rfl 34 _ HI3.out.res infoL rfl (lab_one _ _) ?_))
      exact bodyPost_ret (v := .agg (lab q.1 q.2)) (results_cell_row rfl _ _ (w.heap.size + 1) 34 _ (0, 0) _ rfl (setRow_at HI3.out.res) Tryz.underlying34 rfl infoL) rfl ⟨rfl, Lab.below_setRow HI3.out.low (by omega) _⟩
end Go.Proofs.YtpkolmmahoopcaaGreatDoor.Rul
/- DERIVED. The reference's digits of layer 5 and number of layer 7. -/
namespace Go.Proofs.YtpkolmmahoopcaaGreatDoor.Dig
open Go.RowKit Str
/-- the byte of a digit. -/
def digC (m : Nat) : Int := if m < 10 then (48 + m : Nat) else (87 + m : Nat)
def digL (b : Nat) : Nat → Nat → List Int
  | 0, n => [digC (n % b)]
  | k + 1, n => if n < b then [digC (n % b)] else digL b k (n / b) ++ [digC (n % b)]
theorem str_len (l : List Int) : (strOfNums l).size = l.length := by
  show (strOfNums l).data.size = _
  simp [strOfNums]
theorem str_app (a b : List Int) : strOfNums a ++ strOfNums b = strOfNums (a ++ b) := by
  apply ByteArray.ext
  simp [strOfNums]
theorem dig_fin : ∀ d : Fin 16, (⟨#[48, 49, 50, 51, 52, 53, 54, 55, 56, 57, 97, 98, 99, 100, 101, 102]⟩ : ByteArray).extract d.val (d.val + 1) = strOfNums [digC d.val] := by decide
theorem dig_cut (d : Nat) (h : d < 16) : (⟨#[48, 49, 50, 51, 52, 53, 54, 55, 56, 57, 97, 98, 99, 100, 101, 102]⟩ : ByteArray).extract d (d + 1) = strOfNums [digC d] := dig_fin ⟨d, h⟩
set_option maxRecDepth 100000 in
set_option maxHeartbeats 1000000 in
theorem digits_step (b n : Nat) (hb2 : 2 ≤ b) (hb : b ≤ 16) (hn : n < 18446744073709551616) (X Y : List Int) (hY : Y.length ≤ 100) (h1 : n < b → X = [digC (n % b)])
    (h2 : b ≤ n → X = Y ++ [digC (n % b)] ∧ ∀ w : World, Calls Tryz.prog 46 #[.int .u64 (n / b : Nat), .int .u64 (b : Nat)] w fun e w' => e = .returned (.string (strOfNums Y)) ∧ ∃ m, w' = w.drewN m) (w : World) :
    Calls Tryz.prog 46 #[.int .u64 (n : Nat), .int .u64 (b : Nat)] w fun e w' => e = .returned (.string (strOfNums X)) ∧ ∃ m, w' = w.drewN m := by
  have H1 := Lib.hid h1
  have H2 := Lib.hid h2
  have Hn := Lib.hid hn
  have hb0 : ¬ (b : Int) = 0 := by omega
  obtain ⟨d, hd⟩ : ∃ d, d = n % b := ⟨_, rfl⟩
  have hdb : d < 16 := by have := Nat.mod_lt n (show 0 < b by omega); omega
  have hm : (n : Int) % (b : Int) = (d : Int) := by rw [hd]; omega
  have hd1 : (d : Int) + 1 ≤ 16 := by omega
  have hd2 : ((d : Int) + 1).toNat = d + 1 := by omega
  have hd3 : (d : Int) ≤ (d : Int) + 1 := by omega
  have hw : IntKind.u64.wrap ((d : Int) + 1) = (d : Int) + 1 := IntWalk.u64_in _ (by omega)
  have Hd := Lib.hid hd
  clear h1 h2 hn hd
  have hq : (n : Int) / (b : Int) = ((n / b : Nat) : Int) := by omega
  obtain ⟨q, hqq⟩ : ∃ q, q = n / b := ⟨_, rfl⟩
  rw [← hqq] at hq
  have Hqq := Lib.hid hqq
  have Hdg := Lib.hid (dig_cut d hdb)
  clear hqq
  by_cases hlt : n < b
  · have hI : (n : Int) < (b : Int) := by omega
    have hX := Lib.hid (H1.out hlt)
    go_enter Tryz.func46, Tryz.ntmps46
    go_upto_region 2 with (fail)
    go_region
    rw [Hdg.out]
    go_wp2
    go_ret
    rw [hX.out, ← Hd.out]
    exact ⟨rfl, 1, rfl⟩
  · have hI : ¬ (n : Int) < (b : Int) := by omega
    obtain ⟨hX, hc⟩ := H2.out (by omega)
    have Hc := Lib.hid (hc w.drew)
    have HX := Lib.hid hX
    rw [← Hqq.out] at Hc
    rw [← Hd.out] at HX
    clear hX hc
    have hwq : IntKind.u64.wrap (q : Int) = (q : Int) := IntWalk.u64_in _ (by have := Nat.div_le_self n b; have := Hqq.out; have := Hn.out; omega)
    obtain ⟨sd, hsd⟩ : ∃ sd, sd = strOfNums [digC d] := ⟨_, rfl⟩
    obtain ⟨sy, hsy⟩ : ∃ sy, sy = strOfNums Y := ⟨_, rfl⟩
    have hs1 : ¬ 9223372036854775807 < sy.size + sd.size := by rw [hsd, hsy, str_len, str_len]; simp; omega
    have Happ : Hid (sy ++ sd = strOfNums X) := by show _ = _; rw [HX.out, hsd, hsy, str_app]
    rw [← hsd] at Hdg
    rw [← hsy] at Hc
    clear hsd hsy hY HX
    go_enter Tryz.func46, Tryz.ntmps46
    go_upto_region 2 with (fail)
    go_region
    rw [Hdg.out]
    go_wp2_with (go_at_call 46; refine Hc.out.mono ?_; rintro e w' ⟨rfl, m, rfl⟩)
    go_ret
    rw [Happ.out]
    exact ⟨rfl, 1 + m, by simp⟩
theorem digL_le (b k n : Nat) : (digL b k n).length ≤ k + 1 := by
  induction k generalizing n with
  | zero => simp [digL]
  | succ k ih => unfold digL; split <;> simp; exact ih _
theorem digits_any (b : Nat) (hb2 : 2 ≤ b) (hb : b ≤ 16) (k : Nat) (hk : k ≤ 90) (n : Nat) (hn : n < b ^ (k + 1)) (hn9 : n < 18446744073709551616) (w : World) :
    Calls Tryz.prog 46 #[.int .u64 (n : Nat), .int .u64 (b : Nat)] w fun e w' => e = .returned (.string (strOfNums (digL b k n))) ∧ ∃ m, w' = w.drewN m := by
  induction k generalizing n w with
  | zero => exact digits_step b n hb2 hb hn9 _ [] (by simp) (fun _ => rfl) (fun h => absurd hn (by simp; omega)) w
  | succ k ih =>
    refine digits_step b n hb2 hb hn9 _ (digL b k (n / b)) (Nat.le_trans (digL_le _ _ _) (by omega)) (fun h => by rw [digL, if_pos h]) (fun h => ⟨by rw [digL, if_neg (by omega)], fun w => ?_⟩) w
    refine ih (by omega) (n / b) ?_ (Nat.lt_of_le_of_lt (Nat.div_le_self n b) hn9) w
    rw [Nat.pow_succ] at hn
    exact Nat.div_lt_of_lt_mul (by rw [Nat.mul_comm]; exact hn)
end Go.Proofs.YtpkolmmahoopcaaGreatDoor.Dig
