/- DERIVED. Texts of ours, merged: XRndSpec XRndSol XRndLn XRndApp XRndIt. -/
import Derived.Test.YtnjeppmpnaemlaaDoorMrk20
import Derived.Test.YtnjeppmpnaemlaaDoorMrk19
import Derived.Test.YtnjeppmpnaemlaaDoorMrk12
import Derived.Test.YtnjeppmpnaemlaaDoorMrk8
/- DERIVED. PLAIN: the items of a row of lines, and the texts told of items, on lists. -/
set_option maxRecDepth 100000
namespace Go.Proofs.YtnjeppmpnaemlaaDoor.Grf
open Go.RowKit Str Go.Maps
/-- an item: its lines, whether it is a block, its middles. -/
structure It where
  lines : List Ln
  block : Bool
  mids : List Int
/-- one line more: those in order with all so far, and those that answer for all (the last ones first). -/
def solStep (o : Nat → Nat → Bool) (s : List Nat × List Nat) (i : Nat) : List Nat × List Nat :=
  match s.2.dropWhile (fun k => o k i) with
  | [] => (i :: s.1.dropWhile (fun k => !o k i), [i])
  | x :: t => (s.1.dropWhile (fun k => !o k i), i :: x :: t)
def solState (o : Nat → Nat → Bool) (n : Nat) : List Nat × List Nat := (List.range n).foldl (solStep o) ([], [])
def solL (o : Nat → Nat → Bool) (n : Nat) : List Nat := (solState o n).1.reverse
theorem solState_succ (o : Nat → Nat → Bool) (n : Nat) : solState o (n + 1) = solStep o (solState o n) n := by
  unfold solState
  rw [List.range_succ, List.foldl_append]
  rfl
/-- the middles of a block of lines. -/
def midN (o : Nat → Nat → Bool) : Nat → List Int
  | 0 => []
  | n + 1 => if 0 < n ∧ o (n - 1) n = false then midN o n ++ [(n : Int)] else midN o n
def ordL (r : Vx → Vx → Bool) (l : List Ln) (a b : Nat) : Bool :=
  match l[a]?, l[b]? with
  | some x, some y => r x.1 y.1
  | _, _ => false
def blockL (r : Vx → Vx → Bool) (l : List Ln) : It := ⟨l, true, midN (ordL r l) l.length⟩
def itStep (r : Vx → Vx → Bool) (l : List Ln) (s : List It × Nat) (i : Nat) : List It × Nat :=
  ((if s.2 < i then s.1 ++ [blockL r ((l.take i).drop s.2)] else s.1) ++ [⟨(l.take (i + 1)).drop i, false, []⟩], i + 1)
def itState (r : Vx → Vx → Bool) (l : List Ln) (S : List Nat) : List It × Nat := S.foldl (itStep r l) ([], 0)
def itemsL (r : Vx → Vx → Bool) (l : List Ln) : List It :=
  if (itState r l (solL (ordL r l) l.length)).2 < l.length then (itState r l (solL (ordL r l) l.length)).1 ++ [blockL r (l.drop (itState r l (solL (ordL r l) l.length)).2)] else (itState r l (solL (ordL r l) l.length)).1
def aliveL (l : List Ln) : List Ln := l.filter fun x => x.2.2
def tBegin : ByteArray := ⟨#[62, 62, 62, 62, 62, 62, 62]⟩
def tMiddle : ByteArray := ⟨#[61, 61, 61, 61, 61, 61, 61]⟩
def tClose : ByteArray := ⟨#[60, 60, 60, 60, 60, 60, 60]⟩
/-- is the marker ahead of line k? -/
def It.mark (x : It) (k : Nat) : Bool := x.block && x.mids.contains (k : Int)
/-- the texts of an item's first k lines. -/
def It.upto (x : It) : Nat → List ByteArray
  | 0 => []
  | k + 1 => match x.lines[k]? with
    | some y => (if x.mark k then It.upto x k ++ [tMiddle] else It.upto x k) ++ [y.2.1]
    | none => It.upto x k
def It.text (x : It) : List ByteArray := (if x.block then [tBegin] else []) ++ x.upto x.lines.length ++ (if x.block then [tClose] else [])
def textI (l : List It) : List ByteArray := l.flatMap It.text
end Go.Proofs.YtnjeppmpnaemlaaDoor.Grf
/- DERIVED. PLAIN: the solid ones of a row of lines, and its items line by line. -/
set_option maxRecDepth 100000
namespace Go.Proofs.YtnjeppmpnaemlaaDoor.Grf
open Go.RowKit Str Go.Maps
/-- is i in order with all others below n? -/
def solB (o : Nat → Nat → Bool) (n i : Nat) : Bool := (List.range n).all fun j => j == i || if j < i then o j i else o i j
theorem solB_iff {o : Nat → Nat → Bool} {n i : Nat} : solB o n i = true ↔ ∀ j, j < n → j ≠ i → (j < i → o j i = true) ∧ (i < j → o i j = true) := by
  unfold solB
  rw [List.all_eq_true]
  constructor
  · intro h j hj hne
    have := h j (List.mem_range.2 hj)
    simp only [Bool.or_eq_true, beq_iff_eq, hne, false_or] at this
    constructor
    · intro hlt; rwa [if_pos hlt] at this
    · intro hlt; rwa [if_neg (by omega)] at this
  · intro h j hj
    by_cases e : j = i
    · simp [e]
    · have := h j (List.mem_range.1 hj) e
      simp only [Bool.or_eq_true, beq_iff_eq, e, false_or]
      by_cases hlt : j < i
      · rw [if_pos hlt]; exact this.1 hlt
      · rw [if_neg hlt]; exact this.2 (by omega)
theorem drop_filter {p : Nat → Bool} : ∀ (l : List Nat), l.Pairwise (fun a b => p a = true → p b = true) → l.dropWhile (fun k => !p k) = l.filter p
  | [], _ => rfl
  | a :: t, h => by
    rw [List.pairwise_cons] at h
    cases ha : p a with
    | false => rw [List.dropWhile_cons_of_pos (by simp [ha]), List.filter_cons_of_neg (by simp [ha]), drop_filter t h.2]
    | true =>
      rw [List.dropWhile_cons_of_neg (by simp [ha]), List.filter_cons_of_pos ha]
      congr 1
      exact (List.filter_eq_self.2 fun b hb => h.1 b hb ha).symm
theorem drop_nil {p : Nat → Bool} {l : List Nat} (h : l.dropWhile p = []) : ∀ x ∈ l, p x = true := by
  induction l with
  | nil => simp
  | cons a t ih =>
    cases ha : p a with
    | false => rw [List.dropWhile_cons_of_neg (by simp [ha])] at h; cases h
    | true =>
      rw [List.dropWhile_cons_of_pos ha] at h
      intro x hx
      rcases List.mem_cons.1 hx with rfl | hx
      · exact ha
      · exact ih h x hx
theorem drop_cons {p : Nat → Bool} {l : List Nat} {x : Nat} {t : List Nat} (h : l.dropWhile p = x :: t) : p x = false ∧ (∀ y ∈ l, y ∈ x :: t ∨ p y = true) ∧ ∀ y ∈ x :: t, y ∈ l := by
  induction l with
  | nil => cases h
  | cons a l ih =>
    cases ha : p a with
    | false =>
      rw [List.dropWhile_cons_of_neg (by simp [ha])] at h
      injection h with h1 h2
      subst h1 h2
      exact ⟨ha, fun y hy => .inl hy, fun y hy => hy⟩
    | true =>
      rw [List.dropWhile_cons_of_pos ha] at h
      obtain ⟨h1, h2, h3⟩ := ih h
      refine ⟨h1, fun y hy => ?_, fun y hy => List.mem_cons_of_mem _ (h3 y hy)⟩
      rcases List.mem_cons.1 hy with rfl | hy
      · exact .inr ha
      · exact h2 y hy
theorem solState_eq {o : Nat → Nat → Bool} (ht : ∀ a b c, a < b → b < c → o a b = true → o b c = true → o a c = true) : ∀ n : Nat,
    (solState o n).1 = ((List.range n).filter (solB o n)).reverse ∧ (∀ x ∈ (solState o n).2, x < n) ∧ ∀ k, k < n → k ∈ (solState o n).2 ∨ ∃ m ∈ (solState o n).2, k < m ∧ o k m = true := by
  intro n
  induction n with
  | zero => exact ⟨rfl, fun x hx => by simp [solState] at hx, fun k hk => by omega⟩
  | succ n ih =>
    obtain ⟨h1, h2, h3⟩ := ih
    rw [solState_succ]
    -- the old ones that stay
    have hold : (solState o n).1.dropWhile (fun k => !o k n) = ((List.range n).filter (solB o (n + 1))).reverse := by
      rw [h1, drop_filter (p := fun k => o k n) _ (by
        rw [List.pairwise_reverse]
        refine List.Pairwise.imp_of_mem ?_ ((List.pairwise_lt_range (n := n)).filter _)
        intro a b ha hb hab hob
        have hbn := List.mem_range.1 (List.mem_filter.1 hb).1
        have := solB_iff.1 (List.mem_filter.1 ha).2 b hbn (by omega)
        exact ht a b n hab hbn (this.2 hab) hob), ← List.filter_reverse, List.filter_filter, ← List.filter_reverse]
      refine List.filter_congr ?_
      intro x hx
      have hxn : x < n := by simpa using hx
      rw [Bool.eq_iff_iff, Bool.and_eq_true, solB_iff, solB_iff]
      constructor
      · rintro ⟨ha, hb⟩ j hj hne
        by_cases e : j = n
        · subst e; exact ⟨fun h => by omega, fun _ => ha⟩
        · exact hb j (by omega) hne
      · intro h
        exact ⟨(h n (by omega) (by omega)).2 hxn, fun j hj hne => h j (by omega) hne⟩
    have hr : (List.range (n + 1)).filter (solB o (n + 1)) = (List.range n).filter (solB o (n + 1)) ++ (if solB o (n + 1) n = true then [n] else []) := by
      rw [List.range_succ, List.filter_append]
      congr 1
      by_cases h : solB o (n + 1) n = true
      · rw [if_pos h, List.filter_cons_of_pos h]; rfl
      · rw [if_neg h, List.filter_cons_of_neg h]; rfl
    unfold solStep
    split
    · next e =>
      have hall := drop_nil e
      have hs : solB o (n + 1) n = true := solB_iff.2 fun j hj hne => ⟨fun hlt => by
        rcases h3 j hlt with hm | ⟨m, hm, hjm, hom⟩
        · exact hall j hm
        · exact ht j m n hjm (h2 m hm) hom (hall m hm), fun h => by omega⟩
      refine ⟨?_, fun x hx => by simp at hx; omega, fun k hk => ?_⟩
      · rw [hr, if_pos hs, List.reverse_append, hold]; rfl
      · by_cases e2 : k = n
        · left; simp [e2]
        · right
          refine ⟨n, by simp, by omega, ?_⟩
          rcases h3 k (by omega) with hm | ⟨m, hm, hkm, hom⟩
          · exact hall k hm
          · exact ht k m n hkm (h2 m hm) hom (hall m hm)
    · next x t e =>
      obtain ⟨e1, e2, e3⟩ := drop_cons e
      have hxn := h2 x (e3 x (by simp))
      have hs : ¬ solB o (n + 1) n = true := fun h => by
        have := (solB_iff.1 h x (by omega) (by omega)).1 hxn
        rw [this] at e1
        cases e1
      refine ⟨?_, fun y hy => ?_, fun k hk => ?_⟩
      · rw [hr, if_neg hs, List.append_nil]; exact hold
      · rcases List.mem_cons.1 hy with rfl | hy
        · omega
        · have := h2 y (e3 y hy); omega
      · by_cases e4 : k = n
        · left; simp [e4]
        · rcases h3 k (by omega) with hm | ⟨m, hm, hkm, hom⟩
          · rcases e2 k hm with h | h
            · left; exact List.mem_cons_of_mem _ h
            · right; exact ⟨n, by simp, by omega, h⟩
          · rcases e2 m hm with h | h
            · right; exact ⟨m, List.mem_cons_of_mem _ h, hkm, hom⟩
            · right; exact ⟨n, by simp, by omega, ht k m n hkm (h2 m hm) hom h⟩
theorem midN_congr {o o' : Nat → Nat → Bool} : ∀ {n : Nat}, (∀ k, 0 < k → k < n → o (k - 1) k = o' (k - 1) k) → midN o n = midN o' n
  | 0, _ => rfl
  | n + 1, h => by
    have ih := midN_congr (n := n) fun k h0 hk => h k h0 (by omega)
    unfold midN
    rw [ih]
    by_cases h0 : 0 < n
    · rw [h n h0 (by omega)]
    · rw [if_neg (fun e => h0 e.1), if_neg (fun e => h0 e.1)]
theorem ordL_app (r : Vx → Vx → Bool) (l t : List Ln) {a b : Nat} (ha : a < l.length) (hb : b < l.length) : ordL r (l ++ t) a b = ordL r l a b := by
  unfold ordL
  rw [List.getElem?_append_left ha, List.getElem?_append_left hb]
theorem seg_more {l : List Ln} {s i : Nat} {x : Ln} (hs : s ≤ i) (hx : l[i]? = some x) : (l.take (i + 1)).drop s = (l.take i).drop s ++ [x] := by
  have hi := (List.getElem?_eq_some_iff.1 hx).1
  rw [List.take_add_one, hx, List.drop_append_of_le_length (by rw [List.length_take]; omega)]
  rfl
theorem seg_len {l : List Ln} {s i : Nat} (hi : i ≤ l.length) : ((l.take i).drop s).length = i - s := by
  rw [List.length_drop, List.length_take]; omega
/-- the items of the first i lines. -/
def itUpto (r : Vx → Vx → Bool) (l : List Ln) (sol : Nat → Bool) (i : Nat) : List It :=
  if (itState r l ((List.range i).filter sol)).2 < i then (itState r l ((List.range i).filter sol)).1 ++ [blockL r ((l.take i).drop (itState r l ((List.range i).filter sol)).2)] else (itState r l ((List.range i).filter sol)).1
/-- one line more. -/
def itMore (r : Vx → Vx → Bool) (l : List Ln) (sol : Nat → Bool) (out : List It) (i : Nat) (x : Ln) : List It :=
  if sol i = true then out ++ [⟨[x], false, []⟩]
  else match out.getLast? with
    | some b => if b.block = true then out.dropLast ++ [⟨b.lines ++ [x], true, if ordL r l (i - 1) i = false then b.mids ++ [(b.lines.length : Int)] else b.mids⟩] else out ++ [⟨[x], true, []⟩]
    | none => out ++ [⟨[x], true, []⟩]
theorem range_filter (sol : Nat → Bool) (i : Nat) : (List.range (i + 1)).filter sol = (List.range i).filter sol ++ if sol i = true then [i] else [] := by
  rw [List.range_succ, List.filter_append]
  congr 1
  by_cases h : sol i = true
  · rw [if_pos h, List.filter_cons_of_pos h]; rfl
  · rw [if_neg h, List.filter_cons_of_neg h]; rfl
theorem itState_le (r : Vx → Vx → Bool) (l : List Ln) (sol : Nat → Bool) : ∀ i : Nat, (itState r l ((List.range i).filter sol)).2 ≤ i ∧
    ((itState r l ((List.range i).filter sol)).2 = 0 → (itState r l ((List.range i).filter sol)).1 = []) ∧ ∀ b, (itState r l ((List.range i).filter sol)).1.getLast? = some b → b.block = false := by
  intro i
  induction i with
  | zero => exact ⟨Nat.le_refl _, fun _ => rfl, fun b hb => by cases hb⟩
  | succ i ih =>
    rw [range_filter]
    by_cases h : sol i = true
    · rw [if_pos h]
      unfold itState at ih ⊢
      rw [List.foldl_append]
      simp only [List.foldl_cons, List.foldl_nil]
      refine ⟨Nat.le_refl _, fun e => ?_, fun b hb => ?_⟩
      · unfold itStep at e; simp at e
      · unfold itStep at hb
        simp only [List.getLast?_append, List.getLast?_singleton, Option.some_or, Option.some.injEq] at hb
        rw [← hb]
    · rw [if_neg h, List.append_nil]
      exact ⟨by omega, ih.2⟩
theorem itUpto_succ (r : Vx → Vx → Bool) (l : List Ln) (sol : Nat → Bool) {i : Nat} {x : Ln} (hx : l[i]? = some x) : itUpto r l sol (i + 1) = itMore r l sol (itUpto r l sol i) i x := by
  have hi := (List.getElem?_eq_some_iff.1 hx).1
  obtain ⟨h1, h2, h3⟩ := itState_le r l sol i
  by_cases h : sol i = true
  · have e1 : itState r l ((List.range (i + 1)).filter sol) = itStep r l (itState r l ((List.range i).filter sol)) i := by
      rw [range_filter, if_pos h]
      unfold itState
      rw [List.foldl_append]; rfl
    have e2 : itUpto r l sol (i + 1) = (itStep r l (itState r l ((List.range i).filter sol)) i).1 := by
      unfold itUpto
      rw [e1, if_neg (by show ¬ i + 1 < i + 1; omega)]
    rw [e2]
    unfold itMore itStep itUpto
    rw [if_pos h]
    simp only
    rw [seg_more (Nat.le_refl i) hx, show (l.take i).drop i = [] from List.drop_eq_nil_of_le (by rw [List.length_take]; omega)]
    rfl
  · have e1 : itState r l ((List.range (i + 1)).filter sol) = itState r l ((List.range i).filter sol) := by rw [range_filter, if_neg h, List.append_nil]
    have e2 : itUpto r l sol (i + 1) = (itState r l ((List.range i).filter sol)).1 ++ [blockL r ((l.take (i + 1)).drop (itState r l ((List.range i).filter sol)).2)] := by
      unfold itUpto
      rw [e1, if_pos (by omega)]
    rw [e2]
    unfold itMore itUpto
    rw [if_neg h]
    generalize hS : itState r l ((List.range i).filter sol) = S at h1 h2 h3 ⊢
    by_cases hlt : S.2 < i
    · rw [if_pos hlt, List.getLast?_append, List.getLast?_singleton, Option.some_or]
      simp only
      rw [if_pos (show (blockL r ((l.take i).drop S.2)).block = true from rfl), List.dropLast_concat]
      congr 2
      rw [seg_more h1 hx]
      have hl := seg_len (s := S.2) (Nat.le_of_lt hi)
      unfold blockL
      simp only [List.length_append, List.length_cons, List.length_nil, Nat.zero_add]
      congr 1
      rw [midN, hl]
      have c1 : midN (ordL r ((l.take i).drop S.2 ++ [x])) (i - S.2) = midN (ordL r ((l.take i).drop S.2)) (i - S.2) :=
        midN_congr fun k h0 hk => ordL_app r _ _ (by omega) (by omega)
      have c2 : ordL r ((l.take i).drop S.2 ++ [x]) (i - S.2 - 1) (i - S.2) = ordL r l (i - 1) i := by
        rw [← seg_more h1 hx]
        unfold ordL
        rw [List.getElem?_drop, List.getElem?_drop, show S.2 + (i - S.2 - 1) = i - 1 by omega, show S.2 + (i - S.2) = i by omega, List.getElem?_take, List.getElem?_take, if_pos (by omega), if_pos (by omega)]
      rw [c1, c2]
      by_cases ho : ordL r l (i - 1) i = false
      · rw [if_pos ⟨by omega, ho⟩, if_pos ho]
      · rw [if_neg (fun e => ho e.2), if_neg ho]
    · have e : S.2 = i := by omega
      rw [if_neg hlt, e, seg_more (Nat.le_refl i) hx, show (l.take i).drop i = [] from List.drop_eq_nil_of_le (by rw [List.length_take]; omega)]
      have hb : blockL r ([] ++ [x]) = ⟨[x], true, []⟩ := by
        unfold blockL
        simp [midN]
      rw [hb]
      cases hg : S.1.getLast? with
      | none => rfl
      | some b => simp only; rw [if_neg (by rw [h3 b hg]; decide)]
end Go.Proofs.YtnjeppmpnaemlaaDoor.Grf
/- DERIVED. Lines as render handles them: ordered, last, the closure that looks for what is not alive. -/
set_option maxRecDepth 100000
namespace Go.Proofs.YtnjeppmpnaemlaaDoor.Grf
open Go.RowKit Str Go.Maps
attribute [local go_sem ↓ high] loadAtVx
/-- a line in the middle of a row, loaded as a whole. -/
noncomputable def loadLn (v : Value) : Sem Value := Instr.loadAt 55 v
theorem loadAtLn (v : Value) : Instr.loadAt 55 v = loadLn v := rfl
theorem loadLn_eq {w : World} {b o : Nat} {x : Ln} (h : w.rangeAt b o (lnC x).toList) : (loadLn (.pointer (some ⟨b, o, none⟩))).run Tryd.prog w = .ok (.agg (lnC x)) w := by
  unfold loadLn
  simp only [Instr.loadAt, Instr.sureAddr, Sem.run_bind, Sem.run_pure, Result.andThen_ok, run_loadVar_mid w b o 55 (lnC x).toList _ h Tryd.underlying55 rfl (by rw [Array.length_toList]; exact infoLn x)]
attribute [irreducible] loadLn
attribute [local go_sem ↓ high] loadAtLn
theorem lnC_list (x : Ln) : (lnC x).toList = x.1.c.toList ++ [Value.string x.2.1, .bool x.2.2] := by simp [lnC]
theorem ln_vx {w : World} {b T : Nat} {x : Ln} {fr : Nat × Nat} (h : w.heap[b]? = some (.cells (lnC x) T fr)) : w.rangeAt b 0 x.1.c.toList := row_range h [] _ [Value.string x.2.1, .bool x.2.2] (by rw [lnC_list]; rfl) 0 rfl
theorem ln_alive {w : World} {b T : Nat} {x : Ln} {fr : Nat × Nat} (h : w.heap[b]? = some (.cells (lnC x) T fr)) : w.cell? ⟨b, 34, none⟩ = some (.bool x.2.2) := by
  rw [cell_row h, ← Array.getElem?_toList]
  exact (lnC_text x).2
set_option maxHeartbeats 4000000 in
theorem ordered_any (S : GS) (n : Nat) (a b : Ln) (w : World) (h : GX w S n) :
    Calls Tryd.prog 90 #[ptr S.g, .agg (lnC a), .agg (lnC b)] w fun e w' => e = .returned (.bool (BefB S a.1 b.1)) ∧ Below w.heap.size w w' := by
  have h2 := two_new w (.cells (lnC a) 55) (.cells (lnC b) 55)
  have k2 : Below w.heap.size w ((w.alloc (.cells (lnC a) 55)).alloc (.cells (lnC b) 55)) := ((Below.refl _ _).alloc (Nat.le_refl _) _).alloc (by rw [World.size_alloc]; omega) _
  obtain ⟨W, hW⟩ : ∃ W, W = (w.alloc (.cells (lnC a) 55)).alloc (.cells (lnC b) 55) := ⟨_, rfl⟩
  rw [← hW] at h2 k2
  have HW := Lib.hid hW.symm
  have K2 := Lib.hid k2
  obtain ⟨q4, hq4⟩ : ∃ q4, q4 = w.heap.size := ⟨_, rfl⟩
  rw [← hq4] at h2
  have Hq4 := Lib.hid hq4
  have ea := loadVx_eq (ln_vx h2.1)
  have eb := loadVx_eq (ln_vx h2.2)
  have hB := before_gx S n a.1 b.1 W (h.below k2)
  clear h2 k2 hW h hq4
  go_enter Tryd.func90, Tryd.ntmps90
  go_upto_region 1 with (fail)
  rw [HW.out, ← Hq4.out]
  go_wp2_with (go_at_call 18; refine hB.mono ?_; rintro e w1 ⟨rfl, low⟩)
  go_ret
  exact ⟨rfl, K2.out.trans (low.mono K2.out.size)⟩
set_option maxHeartbeats 4000000 in
theorem notAlive_any (x : Ln) (w : World) : Calls Tryd.prog 55 #[.agg (lnC x)] w fun e w' => e = .returned (.bool (!x.2.2)) ∧ Below w.heap.size w w' := by
  have h1 := Go.heap_alloc_new w (.cells (lnC x) 55)
  have k1 : Below w.heap.size w (w.alloc (.cells (lnC x) 55)) := (Below.refl _ _).alloc (Nat.le_refl _) _
  obtain ⟨W, hW⟩ : ∃ W, W = w.alloc (.cells (lnC x) 55) := ⟨_, rfl⟩
  rw [← hW] at h1 k1
  have HW := Lib.hid hW.symm
  have K1 := Lib.hid k1
  obtain ⟨q1, hq1⟩ : ∃ q1, q1 = w.heap.size := ⟨_, rfl⟩
  rw [← hq1] at h1
  have Hq1 := Lib.hid hq1
  have c34 := ln_alive h1
  clear h1 k1 hW hq1
  go_enter Tryd.func55, Tryd.ntmps55
  go_upto_region 1 with (fail)
  rw [HW.out, ← Hq1.out]
  go_wp2
  go_ret
  exact ⟨rfl, K1.out⟩
/-- a slice of the call's own or not that reads as numbers. -/
def RdN (w : World) (v : Value) (l : List Nat) : Prop := ∃ A c, v = .slice A l.length c ∧ l.length ≤ c ∧ (0 < l.length → ∃ g off, A = some ⟨g, off, none⟩ ∧ g < w.heap.size ∧ ∀ (j : Nat) (x : Nat), l[j]? = some x → w.cell? ⟨g, off + j, none⟩ = some (.int .i64 x))
set_option maxHeartbeats 4000000 in
theorem last_any (v : Value) (l : List Nat) (x : Nat) (w : World) (h : RdN w v (l ++ [x])) (hl : l.length ≤ 1000000) : Calls Tryd.prog 91 #[v] w fun e w' => e = .returned (.int .i64 x) ∧ w' = w := by
  obtain ⟨A, c, rfl, hc, hr⟩ := h
  obtain ⟨g, off, rfl, hg, hcell⟩ := hr (by simp)
  have hc0 := hcell l.length x (by simp)
  rw [List.length_append, List.length_singleton] at hc ⊢
  obtain ⟨n, hn⟩ : ∃ n, n = l.length := ⟨_, rfl⟩
  rw [← hn] at hc hl hc0 ⊢
  have hw1 : wrap64 (((n + 1 : Nat) : Int) - 1) = (n : Int) := by unfold wrap64; omega
  have hn0 : 0 ≤ (n : Int) := by omega
  have hn1 : (n : Int) < ((n + 1 : Nat) : Int) := by omega
  clear hr hcell hg hn
  go_enter Tryd.func91, Tryd.ntmps91
  go_wp2
  trace_state
  go_ret
  exact ⟨rfl, rfl⟩
end Go.Proofs.YtnjeppmpnaemlaaDoor.Grf
/- DERIVED. Rows of the call's own, of elements of any size: one element more, some less; rows of numbers. -/
set_option maxRecDepth 100000
namespace Go.Proofs.YtnjeppmpnaemlaaDoor.Grf
open Go.RowKit Str Go.Maps
/-- an element type of so many cells. -/
def ElT (e : TypeId) (sz : Nat) : Prop := ∃ i z, Tryd.prog.info? e = some i ∧ i.zero = some z ∧ i.size = sz ∧ z.cells.size = sz ∧ i.bytes ≤ 200 ∧ 0 < sz
theorem el_of {e : TypeId} {sz : Nat} (h : (Tryd.prog.info? e).map (fun i => (i.zero.map (·.cells.size), i.size, decide (i.bytes ≤ 200))) = some (some sz, sz, true)) (h0 : 0 < sz) : ElT e sz := by
  obtain ⟨i, hi, hh⟩ := Option.map_eq_some_iff.1 h
  simp only [Prod.mk.injEq, decide_eq_true_eq] at hh
  obtain ⟨z, hz, hzs⟩ := Option.map_eq_some_iff.1 hh.1
  exact ⟨i, z, hi, hz, hh.2.1, hzs, hh.2.2, h0⟩
theorem el_int : ElT 3 1 := el_of (by kernel_rfl) (by decide)
theorem el_str : ElT 9 1 := el_of (by kernel_rfl) (by decide)
theorem el_item : ElT 74 3 := el_of (by kernel_rfl) (by decide)
theorem wpList_app1 {w : World} {ops : Array Oper} {rest : List Oper} {o : Oper} {a : Act} {Q : Exit → Act → World → Prop} (hgd : o.guard = none) {e : TypeId} {sz : Nat} (he : ElT e sz) (T : TypeId) (hT : Tryd.prog.underlying T = some (.slice e)) (s y : Operand)
    (ho : o.op = .call { callee := .builtin .append, args := #[s, y], argTypes := #[T, T] }) (base : Nat) (v : Value) (n : Nat) (L news : List Value) (hl : news.length = sz) (h1 : ∀ u ∈ news, u.oneCell' = true) (hs : a.eval s = v) (hown : w.ownsRow base e sz v n L)
    (g : Nat) (hy : a.eval y = .slice (some ⟨g, 0, none⟩) 1 1) (hg : ∃ C, w.heap[g]? = some (.cells C e (0, 0)) ∧ C.toList = news) (h63 : n ≤ 1000000000) (hbase : base ≤ w.heap.size)
    (h : ∀ v' w', w'.ownsRow base e sz v' (n + 1) (L ++ news) → w.grownBy w' v.ownBlock → (v'.ownBlock = v.ownBlock ∨ v'.ownBlock = some w.heap.size) → wpList Tryd.prog ops Q rest (a.put o.dst v') w') : wpList Tryd.prog ops Q (o :: rest) a w := by
  refine wpList_plain hgd fun _ hK => ?_
  obtain ⟨i, z, hi, hz, hsz, hzs, hby, hpos⟩ := he
  obtain ⟨C, hC, hCl⟩ := hg
  obtain ⟨v', w', hr, h2, h3, _, h5⟩ := run_append_own_at (P := Tryd.prog) w base T o.type e i z sz i.bytes hT hi hz hsz rfl hzs hpos v n L hown ⟨g, 0, none⟩ 1 1 news (by rw [hl, Nat.one_mul])
    (fun j u hu => by rw [Addr.add_mid, Nat.zero_add, cell_row hC, ← Array.getElem?_toList, hCl]; exact hu) h1 (by unfold maxLen; omega) (by
      have : (n + 1) * i.bytes ≤ 1000000001 * 200 := Nat.mul_le_mul (by omega) hby
      omega) hbase
  unfold Oper.wp execOp
  simp only [ho, resolve, invoke, builtin, Sem.run_bind, Sem.run_pure, Result.andThen_ok, List.map_toArray, List.map_cons, List.map_nil, hs, hy, hr]
  exact hK _ _ (h v' w' h2 h3 h5)
theorem own_cut {base n m c sz : Nat} {e : TypeId} {A : Option Addr} {L : List Value} {w : World} (h : w.ownsRow base e sz (.slice A n c) n L) (hm : m ≤ n) : w.ownsRow base e sz (.slice A m c) m (L.take (m * sz)) := by
  have hms : m * sz ≤ n * sz := Nat.mul_le_mul_right _ hm
  refine ⟨by rw [List.length_take, h.1]; omega, ?_⟩
  rcases h.2 with ⟨hv, h0⟩ | ⟨g, cap, cur, hv, h1, h2, h3, h4, h5, h6⟩
  · cases hv
    left
    obtain rfl : m = 0 := by omega
    exact ⟨rfl, rfl⟩
  · cases hv
    exact .inr ⟨g, c, cur, rfl, h1, h2, by omega, h4, h5, by rw [← h6, List.take_take, Nat.min_eq_left hms]⟩
theorem own_other {base n sz : Nat} {e : TypeId} {v : Value} {L : List Value} {w w' : World} {row : Option Nat} (h : w.ownsRow base e sz v n L) (hg : w.grownBy w' row) (hne : ∀ q, v.ownBlock = some q → row ≠ some q) : w'.ownsRow base e sz v n L :=
  own_keep h fun k hk => hg.block k (by
    rcases h.2 with ⟨rfl, _⟩ | ⟨g, cap, cur, rfl, _, h2, _⟩
    · cases hk
    · cases hk; exact (Array.getElem?_eq_some_iff.1 h2).1) (fun e => hne k hk e.symm)
theorem own_low {base : Nat} {w w' u : World} {v : Value} {n sz : Nat} {e : TypeId} {L : List Value} (hg : w.grownBy w' v.ownBlock) (h : w.ownsRow base e sz v n L) (hb : Below base u w) (hs : base ≤ w.heap.size) : Below base u w' :=
  hb.grown hg hs fun q hq => by
    rcases h.2 with ⟨rfl, _⟩ | ⟨g, cap, cur, rfl, h1, _⟩
    · cases hq
    · cases hq; exact h1
/-- numbers of the call's own. -/
def valsN (l : List Nat) : List Value := l.map fun x : Nat => Value.int .i64 x
def OwnN (base : Nat) (l : List Nat) (v : Value) (w : World) : Prop := w.ownsRow base 3 1 v l.length (valsN l)
theorem OwnN.nil (base : Nat) (w : World) : OwnN base [] (.slice none 0 0) w := World.ownsRow_nil _ _ _ _
theorem OwnN.rd {base : Nat} {l : List Nat} {v : Value} {w : World} (h : OwnN base l v w) : RdN w v l := by
  rcases h.2 with ⟨rfl, h0⟩ | ⟨g, cap, cur, rfl, hb, hh, hc, _, _, ht⟩
  · exact ⟨none, 0, by rw [h0], by omega, fun h => absurd h (by omega)⟩
  · refine ⟨_, cap, rfl, hc, fun _ => ⟨g, 0, rfl, (Array.getElem?_eq_some_iff.1 hh).1, fun j x hx => ?_⟩⟩
    have hj := (List.getElem?_eq_some_iff.1 hx).1
    have e : (cur.toList.take (l.length * 1))[j]? = some (.int .i64 x) := by rw [ht]; unfold valsN; rw [List.getElem?_map, hx]; rfl
    rw [List.getElem?_take, if_pos (by omega)] at e
    rw [Nat.zero_add, cell_row hh]
    simpa using e
theorem OwnN.pop {base n c : Nat} {l : List Nat} {x : Nat} {A : Option Addr} {w : World} (h : OwnN base (l ++ [x]) (.slice A n c) w) (hn : n = l.length + 1) : OwnN base l (.slice A l.length c) w := by
  subst hn
  unfold OwnN at h ⊢
  rw [List.length_append, List.length_singleton] at h
  have := own_cut h (m := l.length) (by omega)
  have e : (valsN (l ++ [x])).take (l.length * 1) = valsN l := by
    unfold valsN
    rw [List.map_append, List.take_left' (by simp)]
  rw [e] at this
  exact this
theorem OwnN.shape {base : Nat} {l : List Nat} {v : Value} {w : World} (h : OwnN base l v w) : ∃ A c, v = .slice A l.length c ∧ l.length ≤ c ∧ (0 < l.length → ∃ g, A = some ⟨g, 0, none⟩) := by
  rcases h.2 with ⟨rfl, h0⟩ | ⟨g, cap, cur, rfl, hb, hh, hc, _⟩
  · exact ⟨none, 0, by rw [h0], by omega, fun h => absurd h (by omega)⟩
  · exact ⟨_, cap, rfl, hc, fun _ => ⟨g, rfl⟩⟩
end Go.Proofs.YtnjeppmpnaemlaaDoor.Grf
/- DERIVED. Items in memory; lines cloned; numbers that are read. -/
set_option maxRecDepth 100000
namespace Go.Proofs.YtnjeppmpnaemlaaDoor.Grf
open Go.RowKit Str Go.Maps Go.Lib
attribute [local go_sem ↓ high] loadAtVx loadAtLn
theorem flatLn_cell (l : List Ln) : ∀ (j : Nat) (u : Value), (flatLn l)[j]? = some u → ∃ i r x, l[i]? = some x ∧ j = i * 35 + r ∧ (lnC x).toList[r]? = some u := by
  induction l with
  | nil => intro j u h; simp [flatLn] at h
  | cons y t ih =>
    intro j u h
    have h' : ((lnC y).toList ++ flatLn t)[j]? = some u := h
    have hy : (lnC y).toList.length = 35 := by rw [Array.length_toList, lnC_size]
    by_cases hj : j < 35
    · rw [List.getElem?_append_left (by omega)] at h'
      exact ⟨0, j, y, rfl, by omega, h'⟩
    · rw [List.getElem?_append_right (by omega), hy] at h'
      obtain ⟨i, r, x, h1, h2, h3⟩ := ih _ _ h'
      exact ⟨i + 1, r, x, h1, by omega, h3⟩
theorem flatLn_one (l : List Ln) : ∀ v ∈ flatLn l, v.oneCell' = true := fun v hv => by
  obtain ⟨x, _, hx⟩ := List.mem_flatMap.1 hv
  exact Array.all_eq_true_iff_forall_mem.1 (lnC_one x) v (Array.mem_toList_iff.1 hx)
def zLn : Array Value := (List.replicate 32 (Value.int .u8 0) ++ [Value.int .i64 0, .string ⟨#[]⟩, .bool false]).toArray
theorem infoLnz : (Tryd.prog.info? 55).map (fun i => (i.zero, i.size, i.bytes)) = some (some (.agg zLn), 35, 64) := by kernel_rfl
/-- lines cloned. -/
theorem clone_lns (lv : Value) (l : List Ln) (w : World) (h : RdLn w lv l) (hn : l.length ≤ 100000) (h0 : 0 < l.length) :
    Calls Tryd.prog 58 #[lv] w fun e w' => ∃ v', e = .returned v' ∧ OwnLn w.heap.size l v' w' ∧ Below w.heap.size w w' := by
  obtain ⟨A, c, rfl, hc, hr⟩ := h
  obtain ⟨i0, hi0, hz00, hz10, hz20⟩ := partsK infoLnz
  obtain ⟨g, off, rfl, hg, hcell⟩ := hr h0
  refine (AnyE.slices_Clone Tryd.cloneLn i0 (.agg zLn) 35 64 hi0 hz00 hz10 hz20 rfl (by decide) Tryd.sizeOf55 g off l.length c (flatLn l) w (flatLn_len l) (by unfold maxLen; omega) (by omega) (fun j u hu => ?_) (flatLn_one l)).mono ?_
  · obtain ⟨i, r, x, h1, rfl, h3⟩ := flatLn_cell l j u hu
    rw [← Nat.add_assoc]
    exact hcell i x h1 r u h3
  · rintro e w' ⟨v', rfl, h1, _, h2⟩
    exact ⟨v', rfl, h1, h2⟩
/-- a slice that reads as numbers, whatever they are. -/
def RdZ (w : World) (v : Value) (l : List Int) : Prop := ∃ A c, v = .slice A l.length c ∧ l.length ≤ c ∧ (0 < l.length → ∃ g off, A = some ⟨g, off, none⟩ ∧ g < w.heap.size ∧ ∀ (j : Nat) (x : Int), l[j]? = some x → w.cell? ⟨g, off + j, none⟩ = some (.int .i64 x))
theorem RdZ.below {w w' : World} {v : Value} {l : List Int} (h : RdZ w v l) (hb : Below w.heap.size w w') : RdZ w' v l := by
  obtain ⟨A, c, e, h1, h2⟩ := h
  refine ⟨A, c, e, h1, fun h0 => ?_⟩
  obtain ⟨g, off, eA, hg, hc⟩ := h2 h0
  exact ⟨g, off, eA, Nat.lt_of_lt_of_le hg hb.size, fun j x hx => (hb.cell (p := ⟨g, off + j, none⟩) hg).trans (hc j x hx)⟩
def OwnZ (base : Nat) (l : List Int) (v : Value) (w : World) : Prop := w.ownsRow base 3 1 v l.length (valsK .i64 l)
theorem OwnZ.nil (base : Nat) (w : World) : OwnZ base [] (.slice none 0 0) w := World.ownsRow_nil _ _ _ _
theorem OwnZ.rd {base : Nat} {l : List Int} {v : Value} {w : World} (h : OwnZ base l v w) : RdZ w v l := by
  rcases h.2 with ⟨rfl, h0⟩ | ⟨g, cap, cur, rfl, hb, hh, hc, _, _, ht⟩
  · exact ⟨none, 0, by rw [h0], by omega, fun h => absurd h (by omega)⟩
  · refine ⟨_, cap, rfl, hc, fun _ => ⟨g, 0, rfl, (Array.getElem?_eq_some_iff.1 hh).1, fun j x hx => ?_⟩⟩
    have hj := (List.getElem?_eq_some_iff.1 hx).1
    have e : (cur.toList.take (l.length * 1))[j]? = some (.int .i64 x) := by rw [ht]; unfold valsK; rw [List.getElem?_map, hx]; rfl
    rw [List.getElem?_take, if_pos (by omega)] at e
    rw [Nat.zero_add, cell_row hh]
    simpa using e
theorem OwnZ.more {b n : Nat} {l : List Int} {x : Int} {v : Value} {w : World} (h : w.ownsRow b 3 1 v (n + 1) (valsK .i64 l ++ [.int .i64 x])) (hn : l.length = n) : OwnZ b (l ++ [x]) v w := by
  unfold OwnZ
  rw [List.length_append, hn, List.length_singleton]
  have e : valsK .i64 (l ++ [x]) = valsK .i64 l ++ [.int .i64 x] := by simp [valsK]
  rw [e]
  exact h
/-- rows of unlike types lie apart. -/
theorem own_apart {b b' n n' s s' : Nat} {e e' : TypeId} {v v' : Value} {L L' : List Value} {w : World} (h : w.ownsRow b e s v n L) (h' : w.ownsRow b' e' s' v' n' L') (hne : e ≠ e') : ∀ q, v.ownBlock = some q → v'.ownBlock ≠ some q := fun q hq hq' => by
  rcases h.2 with ⟨rfl, _⟩ | ⟨g, cap, cur, rfl, _, h2, _⟩
  · cases hq
  · cases hq
    rcases h'.2 with ⟨rfl, _⟩ | ⟨g', cap', cur', rfl, _, h2', _⟩
    · cases hq'
    · have hq' : g' = g := by injection hq'
      subst hq'
      rw [h2] at h2'
      injection h2' with h2'
      injection h2' with _ h2'
      exact hne h2'
/-- .. and apart from a block of another type. -/
theorem own_apart1 {b n s q : Nat} {e e' : TypeId} {v : Value} {L : List Value} {C : Array Value} {fr : Nat × Nat} {w : World} (h : w.ownsRow b e s v n L) (h' : w.heap[q]? = some (.cells C e' fr)) (hne : e ≠ e') : v.ownBlock ≠ some q := fun hq => by
  rcases h.2 with ⟨rfl, _⟩ | ⟨g, cap, cur, rfl, _, h2, _⟩
  · cases hq
  · cases hq
    rw [h2] at h'
    injection h' with h'
    injection h' with _ h'
    exact hne h'
/-- an item's cells. -/
def itC (lv : Value) (b : Bool) (mv : Value) : Array Value := #[lv, .bool b, mv]
/-- an item, loaded as a whole. -/
noncomputable def loadIt (v : Value) : Sem Value := Instr.loadAt 74 v
theorem loadAtIt (v : Value) : Instr.loadAt 74 v = loadIt v := rfl
theorem infoIt (lv : Value) (b : Bool) (mv : Value) : (Tryd.prog.info? 74).map (·.size) = some (itC lv b mv).size := by
  show _ = some 3
  kernel_rfl
theorem loadIt_eq {w : World} {b o : Nat} {lv mv : Value} {bl : Bool} (h : w.rangeAt b o (itC lv bl mv).toList) : (loadIt (.pointer (some ⟨b, o, none⟩))).run Tryd.prog w = .ok (.agg (itC lv bl mv)) w := by
  unfold loadIt
  simp only [Instr.loadAt, Instr.sureAddr, Sem.run_bind, Sem.run_pure, Result.andThen_ok, run_loadVar_mid w b o 74 (itC lv bl mv).toList _ h Tryd.underlying74 rfl (by rw [Array.length_toList]; exact infoIt lv bl mv)]
attribute [irreducible] loadIt
theorem built_it (lv : Value) (b : Bool) (A : Option Addr) (n c : Nat) (h : lv = .slice A n c) : Tryd.prog.built 74 [(0, lv), (1, .bool b)] = some (itC lv b nils) := by subst h; kernel_rfl
theorem built_it1 (lv : Value) (A : Option Addr) (n c : Nat) (h : lv = .slice A n c) : Tryd.prog.built 74 [(0, lv)] = some (itC lv false nils) := by subst h; kernel_rfl
/-- an item that is read: its lines, its middles. -/
structure RdItem (w : World) (x : It) (lv mv : Value) : Prop where
  ln : RdLn w lv x.lines
  md : RdZ w mv x.mids
theorem RdItem.below {w w' : World} {x : It} {lv mv : Value} (h : RdItem w x lv mv) (hb : Below w.heap.size w w') : RdItem w' x lv mv := ⟨h.ln.below hb, h.md.below hb⟩
end Go.Proofs.YtnjeppmpnaemlaaDoor.Grf
