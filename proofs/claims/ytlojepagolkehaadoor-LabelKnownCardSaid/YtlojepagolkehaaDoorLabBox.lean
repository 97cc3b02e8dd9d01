/- DERIVED. Boxed labels: what loads, stores and calls leave of them; what the walks of layer 5's laws want. -/
import Derived.Test.YtlojepagolkehaaDoorLabText
import Derived.Laws.Tables
namespace Go.Proofs.YtlojepagolkehaaDoor.Lab
open Go.RowKit Str
section
variable {P : Program} {ops : Array Oper} {rest : List Oper} {o : Oper} {a : Act} {w : World} {Q : Exit → Act → World → Prop}
theorem wpList_want (hw : Region.wanted o (yielded ops a.tmps) = true) (h : ∀ K : Act → World → Prop, (∀ a w, wpList P ops Q rest a w → K a w) → o.wp P a w K Q) : wpList P ops Q (o :: rest) a w :=
  wpList_step fun K hK => by rw [if_pos hw]; exact h K hK
/-- a whole row's load, under a guard that holds or none. -/
theorem wpList_want_row (hw : Region.wanted o (yielded ops a.tmps) = true) (ty : TypeId) (x : Operand) (ho : o.op = .load ty x)
    (g : Nat) (hx : a.eval x = .pointer (some ⟨g, 0, none⟩)) (t : TypeId) (cs : Array Value) (fr : Nat × Nat) (d : TypeDesc) (hg : w.heap[g]? = some (.cells cs t fr))
    (hu : P.underlying ty = some d) (hd : (match d with | .struct _ | .array _ _ => true | _ => false) = true) (hi : (P.info? ty).map (·.size) = some cs.size)
    (h : wpList P ops Q rest (a.put o.dst (.agg cs)) w) : wpList P ops Q (o :: rest) a w :=
  wpList_want hw fun _ hK => wp_load_row ty x ho g hx t cs fr d hg hu hd hi (hK _ _ h)
end
/-- a number of 64 bits. -/
def OkC (c : Nat) : Prop := c < 18446744073709551616
theorem OkC.or {c d : Nat} (hc : OkC c) (hd : OkC d) : OkC (c ||| d) := Nat.or_lt_two_pow (n := 64) hc hd
theorem OkC.and {c d : Nat} (hd : OkC d) : OkC (c &&& d) := Nat.and_lt_two_pow (n := 64) c hd
theorem below_l (a b : Int) (c d : Nat) (hc : OkC c) (hd : OkC d) (w : World) :
    Calls Tryd.prog 8 #[.agg #[.int .i64 a, .int .u64 (c : Nat)], .agg #[.int .i64 b, .int .u64 (d : Nat)]] w fun e w' => e = .returned (.bool (bel a c b d)) ∧ Below w.heap.size w w' := below_any a b c d hc hd w
/-- the cells of a label. -/
abbrev lab (a : Int) (c : Nat) : Array Value := #[.int .i64 a, .int .u64 (c : Nat)]
theorem lab_one (a : Int) (c : Nat) : (lab a c).all (·.oneCell') = true := by
  rw [Array.all_eq_true_iff_forall_mem]
  intro v hv
  simp only [lab, List.mem_toArray, List.mem_cons, List.mem_nil_iff, or_false] at hv
  rcases hv with rfl | rfl <;> rfl
theorem infoL : (Tryd.prog.info? 24).map (·.size) = some 2 := by kernel_rfl
theorem infoLab (a : Int) (c : Nat) : (Tryd.prog.info? 24).map (·.size) = some (lab a c).size := infoL
theorem want_lab {ops : Array Oper} {rest : List Oper} {o : Oper} {a : Act} {w : World} {Q : Exit → Act → World → Prop} (x : Operand) (ho : o.op = .load 24 x)
    (g : Nat) (hx : a.eval x = .pointer (some ⟨g, 0, none⟩)) (lv : Int) (cp : Nat) (hg : w.heap[g]? = some (.cells (lab lv cp) 24 (0, 0)))
    (hw : Region.wanted o (yielded ops a.tmps) = true) (h : wpList Tryd.prog ops Q rest (a.put o.dst (.agg (lab lv cp))) w) : wpList Tryd.prog ops Q (o :: rest) a w :=
  wpList_want_row hw _ x ho g hx _ _ _ _ hg Tryd.underlying24 rfl infoL h
theorem setRow_at {w : World} {g : Nat} {old cs : Array Value} {T : TypeId} (h : w.heap[g]? = some (.cells old T (0, 0))) : (w.setRow g cs).heap[g]? = some (.cells cs T (0, 0)) := by
  simp [World.setRow, Array.getElem?_modify, h]
theorem setRow_ne {w : World} {g k : Nat} {cs : Array Value} (h : g ≠ k) : (w.setRow g cs).heap[k]? = w.heap[k]? := by
  simp [World.setRow, Array.getElem?_modify, h]
theorem setRow_size (w : World) (g : Nat) (cs : Array Value) : (w.setRow g cs).heap.size = w.heap.size := by simp [World.setRow]
theorem below_setRow {B : Nat} {a w : World} (h : Below B a w) {g : Nat} (hg : B ≤ g) (cs : Array Value) : Below B a (w.setRow g cs) :=
  ⟨h.os, h.tape, h.output, by rw [setRow_size]; exact h.size, fun k hk => by rw [setRow_ne (by omega)]; exact h.block k hk⟩
/-- a new box of a label, whatever it holds. -/
def BoxP (B : Nat) (v : Value) (w : World) : Prop := ∃ (n : Nat) (old : Array Value), v = .pointer (some ⟨n, 0, none⟩) ∧ B ≤ n ∧ w.heap[n]? = some (.cells old 24 (0, 0)) ∧ old.size = 2
theorem BoxP.later {B : Nat} {v : Value} {w w' : World} (h : BoxP B v w) (hb : Below w.heap.size w w') : BoxP B v w' := by
  obtain ⟨n, old, h1, h2, h3, h4⟩ := h
  exact ⟨n, old, h1, h2, (hb.block n (Array.getElem?_eq_some_iff.1 h3).1).trans h3, h4⟩
theorem BoxP.row {B : Nat} {v : Value} {w : World} (h : BoxP B v w) (g : Nat) {cs : Array Value} (hc : cs.size = 2) : BoxP B v (w.setRow g cs) := by
  obtain ⟨n, old, h1, h2, h3, h4⟩ := h
  by_cases e : g = n
  · subst e; exact ⟨g, cs, h1, h2, setRow_at h3, hc⟩
  · exact ⟨n, old, h1, h2, by rw [setRow_ne e]; exact h3, h4⟩
theorem BoxP.ne {B : Nat} {v : Value} {w : World} (h : BoxP B v w) : (.pointer (some ⟨w.heap.size, 0, none⟩) : Value) ≠ v := by
  obtain ⟨n, old, h1, h2, h3, h4⟩ := h
  rw [h1]
  intro e
  injection e with e
  injection e with e
  injection e with e
  have := (Array.getElem?_eq_some_iff.1 h3).1
  omega
theorem boxP_new {B : Nat} {w : World} (hB : B ≤ w.heap.size) (a : Int) (c : Int) : BoxP B (.pointer (some ⟨w.heap.size, 0, none⟩)) (w.alloc (.cells #[.int .i64 a, .int .u64 c] 24)) :=
  ⟨_, _, rfl, hB, Go.heap_alloc_new _ _, rfl⟩
/-- a box of this label. -/
def RowP (B : Nat) (cs : Array Value) (v : Value) (w : World) : Prop := ∃ n : Nat, v = .pointer (some ⟨n, 0, none⟩) ∧ B ≤ n ∧ w.heap[n]? = some (.cells cs 24 (0, 0))
theorem RowP.later {B : Nat} {cs : Array Value} {v : Value} {w w' : World} (h : RowP B cs v w) (hb : Below w.heap.size w w') : RowP B cs v w' := by
  obtain ⟨n, h1, h2, h3⟩ := h
  exact ⟨n, h1, h2, (hb.block n (Array.getElem?_eq_some_iff.1 h3).1).trans h3⟩
theorem RowP.off {B g : Nat} {cs cs2 : Array Value} {v : Value} {w : World} (h : RowP B cs v w) (hne : v ≠ .pointer (some ⟨g, 0, none⟩)) : RowP B cs v (w.setRow g cs2) := by
  obtain ⟨n, h1, h2, h3⟩ := h
  exact ⟨n, h1, h2, by rw [setRow_ne (fun e => hne (by rw [h1, e]))]; exact h3⟩
/-- two operations' values are unlike. -/
def Pair (l : Array Bool) (i j : Nat) (a b : Value) : Prop := l.getD i false = true → l.getD j false = true → a ≠ b
theorem Pair.keep {l : Array Bool} {i j k : Nat} {a b : Value} (h : Pair l i j a b) (hi : i ≠ k) (hj : j ≠ k) : Pair (l.setIfInBounds k true) i j a b := fun h1 h2 => h (lst h1 hi) (lst h2 hj)
theorem Pair.left {l : Array Bool} {i j : Nat} {a b : Value} (hne : j ≠ i) (h : l.getD j false = true → a ≠ b) : Pair (l.setIfInBounds i true) i j a b := fun _ h2 => h (lst h2 hne)
theorem Pair.right {l : Array Bool} {i j : Nat} {a b : Value} (hne : i ≠ j) (h : l.getD i false = true → a ≠ b) : Pair (l.setIfInBounds j true) i j a b := fun h1 _ => h (lst h1 hne)
theorem Pair.start {n i j : Nat} {a b : Value} (h : (Array.replicate n false).getD i false = false) : Pair (Array.replicate n false) i j a b := fun hl => by rw [h] at hl; cases hl
/-- the five boxes of LabelLattice. -/
structure Five (w : World) (g g4 g5 n7 n8 : Nat) (A B C J M : Array Value) (wx : World) : Prop where
  h3 : wx.heap[g]? = some (.cells A 24 (0, 0))
  h4 : wx.heap[g4]? = some (.cells B 24 (0, 0))
  h5 : wx.heap[g5]? = some (.cells C 24 (0, 0))
  h7 : wx.heap[n7]? = some (.cells J 24 (0, 0))
  h8 : wx.heap[n8]? = some (.cells M 24 (0, 0))
  low : Below w.heap.size w wx
  ld : Laid wx
theorem kept {w w' : World} (hb : Below w.heap.size w w') {g : Nat} {o : Obj} (h : w.heap[g]? = some o) : w'.heap[g]? = some o := (hb.block g (Array.getElem?_eq_some_iff.1 h).1).trans h
theorem Five.later {w wx wy : World} {g g4 g5 n7 n8 : Nat} {A B C J M : Array Value} (h : Five w g g4 g5 n7 n8 A B C J M wx) (hb : Below wx.heap.size wx wy) : Five w g g4 g5 n7 n8 A B C J M wy :=
  ⟨kept hb h.h3, kept hb h.h4, kept hb h.h5, kept hb h.h7, kept hb h.h8, h.low.trans (hb.mono h.low.size), h.ld.below hb⟩
-- the lattice, on numbers
theorem bel_refl (a : Int) (c : Nat) : bel a c a c = true := decide_eq_true ⟨Int.le_refl a, Nat.and_self c⟩
theorem bel_iff {a b : Int} {c d : Nat} : bel a c b d = true ↔ a ≤ b ∧ c &&& d = c := decide_eq_true_iff
theorem bel_trans {a b e : Int} {c d f : Nat} (h : bel a c b d = true) (k : bel b d e f = true) : bel a c e f = true := by
  rw [bel_iff] at h k ⊢
  exact ⟨Int.le_trans h.1 k.1, by rw [← h.2, Nat.and_assoc, k.2]⟩
theorem bel_anti {a b : Int} {c d : Nat} (h : bel a c b d = true) (k : bel b d a c = true) : a = b ∧ c = d := by
  rw [bel_iff] at h k
  exact ⟨Int.le_antisymm h.1 k.1, by rw [← h.2, Nat.and_comm]; exact k.2⟩
theorem and_or (c d : Nat) : c &&& (c ||| d) = c := by
  apply Nat.eq_of_testBit_eq
  intro i
  simp only [Nat.testBit_and, Nat.testBit_or]
  cases c.testBit i <;> simp
theorem or_and (c d : Nat) : c ||| (c &&& d) = c := by
  apply Nat.eq_of_testBit_eq
  intro i
  simp only [Nat.testBit_and, Nat.testBit_or]
  cases c.testBit i <;> simp
theorem or_sub {c d f : Nat} : (c ||| d) &&& f = c ||| d ↔ c &&& f = c ∧ d &&& f = d := by
  constructor
  · intro h
    constructor
    · rw [← and_or c d, Nat.and_assoc, h]
    · rw [← and_or d c, Nat.or_comm d c, Nat.and_assoc, h]
  · rintro ⟨h, k⟩
    rw [Nat.and_or_distrib_right, h, k]
theorem sub_and {c d f : Nat} : f &&& (c &&& d) = f ↔ f &&& c = f ∧ f &&& d = f := by
  constructor
  · intro h
    constructor
    · rw [← h]
      rw [Nat.and_assoc, Nat.and_comm (c &&& d) c, ← Nat.and_assoc c c d, Nat.and_self]
    · rw [← h, Nat.and_assoc, Nat.and_assoc c d d, Nat.and_self]
  · rintro ⟨h, k⟩
    rw [← Nat.and_assoc, h, k]
theorem bel_join_l (a b : Int) (c d : Nat) : bel a c (max a b) (c ||| d) = true := bel_iff.2 ⟨Int.le_max_left a b, and_or c d⟩
theorem bel_join_r (a b : Int) (c d : Nat) : bel b d (max a b) (c ||| d) = true := bel_iff.2 ⟨Int.le_max_right a b, by rw [Nat.or_comm]; exact and_or d c⟩
theorem bel_meet_l (a b : Int) (c d : Nat) : bel (min a b) (c &&& d) a c = true := bel_iff.2 ⟨Int.min_le_left a b, by rw [Nat.and_comm, ← Nat.and_assoc, Nat.and_self]⟩
theorem bel_meet_r (a b : Int) (c d : Nat) : bel (min a b) (c &&& d) b d = true := bel_iff.2 ⟨Int.min_le_right a b, by rw [Nat.and_assoc, Nat.and_self]⟩
theorem bel_join {a b e : Int} {c d f : Nat} : bel (max a b) (c ||| d) e f = (bel a c e f && bel b d e f) := by
  rw [Bool.eq_iff_iff, Bool.and_eq_true, bel_iff, bel_iff, bel_iff, or_sub, Int.max_le]
  exact ⟨fun h => ⟨⟨h.1.1, h.2.1⟩, h.1.2, h.2.2⟩, fun h => ⟨⟨h.1.1, h.2.1⟩, h.1.2, h.2.2⟩⟩
theorem bel_meet {a b e : Int} {c d f : Nat} : bel e f (min a b) (c &&& d) = (bel e f a c && bel e f b d) := by
  rw [Bool.eq_iff_iff, Bool.and_eq_true, bel_iff, bel_iff, bel_iff, sub_and, Int.le_min]
  exact ⟨fun h => ⟨⟨h.1.1, h.2.1⟩, h.1.2, h.2.2⟩, fun h => ⟨⟨h.1.1, h.2.1⟩, h.1.2, h.2.2⟩⟩
theorem below_is {a b : Int} {c d : Nat} {r : Bool} (hc : OkC c) (hd : OkC d) (h : bel a c b d = r) (w : World) :
    Calls Tryd.prog 8 #[.agg (lab a c), .agg (lab b d)] w fun e w' => e = .returned (.bool r) ∧ Below w.heap.size w w' := by
  have k := below_l a b c d hc hd w
  rw [h] at k
  exact k
theorem below_zero {a : Int} {c : Nat} (hc : OkC c) (h : 0 ≤ a) (w : World) :
    Calls Tryd.prog 8 #[.agg #[.int .i64 0, .int .u64 0], .agg (lab a c)] w fun e w' => e = .returned (.bool true) ∧ Below w.heap.size w w' :=
  below_is (a := 0) (c := 0) (show 0 < 18446744073709551616 by omega) hc (bel_iff.2 ⟨h, Nat.zero_and c⟩) w
theorem below_top {a : Int} {c : Nat} (hc : OkC c) (h : a ≤ 15) (w : World) :
    Calls Tryd.prog 8 #[.agg (lab a c), .agg #[.int .i64 15, .int .u64 18446744073709551615]] w fun e w' => e = .returned (.bool true) ∧ Below w.heap.size w w' :=
  below_is (b := 15) (d := 18446744073709551615) hc (show 18446744073709551615 < 18446744073709551616 by omega) (bel_iff.2 ⟨h, by
    have k := Nat.and_two_pow_sub_one_of_lt_two_pow (n := 64) hc
    exact k⟩) w
theorem join_is {a b x : Int} {c d y : Nat} (hc : OkC c) (hd : OkC d) (h1 : max a b = x) (h2 : c ||| d = y) (w : World) :
    Calls Tryd.prog 20 #[.agg (lab a c), .agg (lab b d)] w fun e w' => e = .returned (.agg (lab x y)) ∧ Below w.heap.size w w' := by
  have k := join_any a b c d hc hd w
  rw [h1, h2] at k
  exact k
theorem meet_is {a b x : Int} {c d y : Nat} (hc : OkC c) (hd : OkC d) (h1 : min a b = x) (h2 : c &&& d = y) (w : World) :
    Calls Tryd.prog 9 #[.agg (lab a c), .agg (lab b d)] w fun e w' => e = .returned (.agg (lab x y)) ∧ Below w.heap.size w w' := by
  have k := meet_any a b c d hc hd w
  rw [h1, h2] at k
  exact k
theorem join_eq {a b : Int} {c d : Nat} : bel a c b d = true ↔ max a b = b ∧ c ||| d = d := by
  rw [bel_iff]
  constructor
  · rintro ⟨h, k⟩
    exact ⟨Int.max_eq_right h, by rw [Nat.or_comm, ← k, Nat.and_comm]; exact or_and d c⟩
  · rintro ⟨h, k⟩
    exact ⟨by omega, by rw [← k]; exact and_or c d⟩
theorem join_beq (a b : Int) (c d : Nat) : (max a b == b && (c ||| d) == d) = bel a c b d := by
  rw [Bool.eq_iff_iff, Bool.and_eq_true, beq_iff_eq, beq_iff_eq, join_eq]
theorem eq_run {x b : Int} {y d : Nat} {r : Bool} (h : (x == b && y == d) = r) (W : World) :
    (if x = b then if (y : Int) = (d : Int) then Result.ok (Next.value (Value.bool true)) W else Result.ok (Next.value (Value.bool false)) W else Result.ok (Next.value (Value.bool false)) W) = Result.ok (Next.value (Value.bool r)) W := by
  rw [← h]
  by_cases hx : x = b
  · by_cases hy : y = d
    · simp [hx, hy]
    · have : ¬ (y : Int) = (d : Int) := by omega
      simp [hx, hy, this]
  · simp [hx]
end Go.Proofs.YtlojepagolkehaaDoor.Lab
