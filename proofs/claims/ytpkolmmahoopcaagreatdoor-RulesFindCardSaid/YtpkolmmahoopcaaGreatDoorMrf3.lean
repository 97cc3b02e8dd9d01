/- DERIVED. Texts of ours, merged: XRegionInv XRegionFix XRegionCall XSl XSlUntil XLabBoth XLabText. -/
import Derived.RegionTactic
import Derived.Test.YtpkolmmahoopcaaGreatDoorMrf1
import Derived.Test.YtpkolmmahoopcaaGreatDoorProg
import Derived.Test.YtpkolmmahoopcaaGreatDoorMrf2
import Derived.Laws.BitsAllLaws
import Derived.Laws.Tables
import Derived.Laws.Rows
import Derived.Deep.CutBlock
import Derived.Deep.DeepCutAuto
import Derived.Lib.Hide
import Derived.KernelRfl
import Derived.IntWalk
/- DERIVED. A region that draws its order, by an invariant over what has come up already. -/
namespace Go.Proofs.YtpkolmmahoopcaaGreatDoor
theorem filter_more (xs : List Nat) (p q : Nat → Bool) (h : ∀ j, q j = true → p j = true) : (xs.filter q).length ≤ (xs.filter p).length := by
  induction xs with
  | nil => simp
  | cons x xs ih =>
    cases hq : q x
    · cases hp : p x <;> simp [hq, hp] <;> omega
    · have hp := h x hq
      simp [hq, hp]; exact ih
theorem filter_less (xs : List Nat) (p q : Nat → Bool) (h : ∀ j, q j = true → p j = true) (i : Nat) (hi : i ∈ xs) (hp : p i = true) (hq : q i = false) : (xs.filter q).length < (xs.filter p).length := by
  induction xs with
  | nil => cases hi
  | cons x xs ih =>
    by_cases e : x = i
    · subst e
      have := filter_more xs p q h
      simp [hq, hp]; omega
    · have := ih (by simpa [Ne.symm e] using hi)
      cases hq' : q x
      · cases hp' : p x <;> simp [hq', hp'] <;> omega
      · have hp' := h x hq'
        simp [hq', hp']; exact this
section
variable {P : Program} {ops : Array Oper} {Q : Exit → Act → World → Prop} {md : Region.Mode}
/-- every operation waits for earlier ones alone (of the edges that bind). -/
def backB (md : Region.Mode) (ops : Array Oper) : Bool := (List.range ops.size).all fun i => ((ops[i]?).map fun o => o.after.all fun e => !Region.binds md e || decide (e.on < i)).getD true
/-- operation i waits for j. -/
def waitsB (md : Region.Mode) (ops : Array Oper) (i j : Nat) : Bool := ((ops[i]?).map fun o => o.after.any fun e => Region.binds md e && e.on == j).getD false
def unlisted (n : Nat) (l : Array Bool) : Nat := ((List.range n).filter fun i => !l.getD i true).length
theorem ready_lt {l : Array Bool} {i : Nat} (h : i ∈ Region.ready md ops l) : i < ops.size := by
  obtain ⟨_, o, ho, _⟩ := mem_ready.1 h
  exact (Array.getElem?_eq_some_iff.1 ho).1
theorem ready_pred {l : Array Bool} {i : Nat} (h : i ∈ Region.ready md ops l) (j : Nat) (hw : waitsB md ops i j = true) : l.getD j false = true := by
  obtain ⟨_, o, ho, hall⟩ := mem_ready.1 h
  simp only [waitsB, ho, Option.map_some, Option.getD_some, Array.any_eq_true', Bool.and_eq_true, beq_iff_eq] at hw
  obtain ⟨e, he, hb, rfl⟩ := hw
  exact hall e he hb
theorem all_listed {l : Array Bool} (hs : l.size = ops.size) (hb : backB md ops = true) (h : Region.ready md ops l = []) : ∀ i, i < ops.size → l.getD i false = true := by
  intro i
  induction i using Nat.strongRecOn with
  | ind i ih =>
    intro hi
    cases hl : l.getD i false with
    | true => rfl
    | false =>
      have hb' := List.all_eq_true.1 hb i (List.mem_range.2 hi)
      have ho : ops[i]? = some ops[i] := Array.getElem?_eq_getElem hi
      rw [ho, Option.map_some, Option.getD_some] at hb'
      have hm : i ∈ Region.ready md ops l := by
        refine mem_ready.2 ⟨?_, _, ho, fun e he hbd => ?_⟩
        · rw [← hl]
          simp only [Array.getD_eq_getD_getElem?]
          rw [Array.getElem?_eq_getElem (by omega)]
          rfl
        · have := Array.all_eq_true_iff_forall_mem.1 hb' e he
          have hlt : e.on < i := by
            have h2 : Region.binds md e = false ∨ e.on < i := by simpa using this
            exact h2.resolve_left (by rw [hbd]; decide)
          exact ih _ hlt (by omega)
      rw [h] at hm
      cases hm
theorem getD_un {l : Array Bool} {i : Nat} (h : l.getD i true = false) : l.getD i false = false := by
  rw [Array.getD_eq_getD_getElem?] at h ⊢
  cases e : l[i]? with
  | none => rfl
  | some b => rw [e] at h; exact h
theorem wpAny_inv (I : Array Bool → Act → World → Prop) (hs : ∀ l a w, I l a w → l.size = ops.size) (hb : backB md ops = true)
    (hfin : ∀ l a w, I l a w → (∀ i, i < ops.size → l.getD i false = true) → Q .normal a w)
    (hstep : ∀ l a w i, I l a w → i < ops.size → l.getD i false = false → (∀ j, waitsB md ops i j = true → l.getD j false = true) → wpOp P ops Q i (I (l.setIfInBounds i true)) a w) :
    ∀ (fuel : Nat) (l : Array Bool) (a : Act) (w : World), unlisted ops.size l ≤ fuel → I l a w → wpAny P md ops Q fuel l a w := by
  intro fuel
  induction fuel with
  | zero =>
    intro l a w hu h
    have hr : Region.ready md ops l = [] := by
      cases he : Region.ready md ops l with
      | nil => rfl
      | cons i rest =>
        have hm : i ∈ Region.ready md ops l := by rw [he]; exact List.mem_cons_self ..
        have hlt := ready_lt hm
        have h0 := (mem_ready.1 hm).1
        have : i ∈ (List.range ops.size).filter fun i => !l.getD i true := List.mem_filter.2 ⟨List.mem_range.2 hlt, by simp only [h0]; rfl⟩
        have := List.length_pos_of_mem this
        unfold unlisted at hu
        omega
    exact ⟨hr, hfin l a w h (all_listed (hs l a w h) hb hr)⟩
  | succ fuel ih =>
    intro l a w hu h
    refine ⟨fun hr => hfin l a w h (all_listed (hs l a w h) hb hr), fun i hi => ?_⟩
    have hlt := ready_lt hi
    have h0 := (mem_ready.1 hi).1
    refine wpOp_mono (fun a' w' h' => ih _ _ _ ?_ h') (hstep l a w i h hlt (getD_un h0) (ready_pred hi))
    have hl := hs l a w h
    have : unlisted ops.size (l.setIfInBounds i true) < unlisted ops.size l := by
      unfold unlisted
      refine filter_less _ _ _ (fun j hj => ?_) i (List.mem_range.2 hlt) (by simp only [h0]; rfl) ?_
      · by_cases e : i = j
        · subst e
          simp [hl, hlt] at hj
        · rw [getD_set_ne true e] at hj; exact hj
      · simp [hl, hlt]
    omega
theorem unlisted_none (n : Nat) : unlisted n (Array.replicate n false) ≤ n := by
  unfold unlisted
  have := List.length_filter_le (fun i => !(Array.replicate n false).getD i true) (List.range n)
  simpa using this
/-- what an entry tells behind one more. -/
theorem getD_listed {l : Array Bool} {i j : Nat} (h : (l.setIfInBounds i true).getD j false = true) : j = i ∨ l.getD j false = true := by
  by_cases e : i = j
  · exact .inl e.symm
  · rw [getD_set_ne false e] at h; exact .inr h
end
section
variable {P : Program} {ops : Array Oper} {Q : Exit → Act → World → Prop}
theorem wpOp_plain {i : Nat} {o : Oper} {K : Act → World → Prop} {a : Act} {w : World} (ho : ops[i]? = some o) (hg : o.guard = none) (h : Oper.wp P o a w K Q) : wpOp P ops Q i K a w :=
  wpOp_step ho (fun K' hK' => by rw [if_pos (by simp [Region.wanted, hg])]; exact Oper.wp_mono hK' h)
end
end Go.Proofs.YtpkolmmahoopcaaGreatDoor
/- DERIVED. A region that draws its order and whose operations each yield one value, whenever they come up: what its slots hold, by what has come up. -/
namespace Go.Proofs.YtpkolmmahoopcaaGreatDoor
/-- a frame's slots, one of them written. -/
def upd (s : Nat → Value) (d : Nat) (v : Value) : Nat → Value := fun x => if x = d then v else s x
/-- what has come up has yielded its value; an operation with no value of its own: none. -/
def Holding (dsts : List Nat) (vl : List (Option Value)) (l : Array Bool) (s : Nat → Value) : Prop := ∀ j v, l.getD j false = true → vl.getD j none = some v → s (dsts.getD j 0) = v
/-- no two operations write one slot. -/
def apartB (dsts : List Nat) : Bool := (List.range dsts.length).all fun i => (List.range dsts.length).all fun j => i == j || dsts.getD i 0 != dsts.getD j 0
theorem apart_of {dsts : List Nat} (h : apartB dsts = true) {i j : Nat} (hi : i < dsts.length) (hj : j < dsts.length) (e : dsts.getD j 0 = dsts.getD i 0) : j = i := by
  have := List.all_eq_true.1 (List.all_eq_true.1 h j (List.mem_range.2 hj)) i (List.mem_range.2 hi)
  simp only [Bool.or_eq_true, beq_iff_eq, bne_iff_ne, ne_eq] at this
  exact this.resolve_right (fun hn => hn e)
theorem Holding.start {dsts : List Nat} {vl : List (Option Value)} {n : Nat} {s : Nat → Value} : Holding dsts vl (Array.replicate n false) s := fun j v h => by
  by_cases hj : j < n
  · simp [Array.getD_eq_getD_getElem?, hj] at h
  · simp [Array.getD_eq_getD_getElem?, hj] at h
theorem Holding.next {dsts : List Nat} {vl : List (Option Value)} {l : Array Bool} {s : Nat → Value} (h : Holding dsts vl l s) (hd : apartB dsts = true) (hs : l.size = dsts.length) (i : Nat) (hi : i < dsts.length) (v : Value) (hv : ∀ v', vl.getD i none = some v' → v = v') :
    Holding dsts vl (l.setIfInBounds i true) (upd s (dsts.getD i 0) v) := fun j v' hl hj => by
  by_cases e : j = i
  · subst e
    unfold upd
    rw [if_pos rfl]
    exact hv v' hj
  · have hl' := (getD_listed hl).resolve_left e
    have hjn : j < dsts.length := by
      by_cases hj' : j < dsts.length
      · exact hj'
      · rw [Array.getD_eq_getD_getElem?, Array.getElem?_eq_none (by omega)] at hl'
        cases hl'
    unfold upd
    rw [if_neg]
    · exact h j v' hl' hj
    · intro he
      exact e (apart_of hd hi hjn he)
theorem Holding.pass {dsts : List Nat} {vl : List (Option Value)} {l : Array Bool} {s : Nat → Value} (h : Holding dsts vl l s) (i : Nat) (hv : vl.getD i none = none) : Holding dsts vl (l.setIfInBounds i true) s := fun j v' hl hj => by
  by_cases e : j = i
  · subst e; rw [hv] at hj; cases hj
  · exact h j v' ((getD_listed hl).resolve_left e) hj
end Go.Proofs.YtpkolmmahoopcaaGreatDoor
/- DERIVED. A region that draws its order and holds one call, what comes ahead of it and behind it being pure. -/
namespace Go.Proofs.YtpkolmmahoopcaaGreatDoor
section
variable {P : Program} {ops : Array Oper} {Q : Exit → Act → World → Prop} {md : Region.Mode}
/-- what has come up has come behind all that it waits for. -/
def Closed (md : Region.Mode) (ops : Array Oper) (l : Array Bool) : Prop := ∀ i j, l.getD i false = true → waitsB md ops i j = true → l.getD j false = true
theorem Closed.next {l : Array Bool} (h : Closed md ops l) (i : Nat) (hw : ∀ j, waitsB md ops i j = true → l.getD j false = true) : Closed md ops (l.setIfInBounds i true) := fun k j hk hj => by
  rcases getD_listed hk with rfl | hk
  · exact getD_set_true (hw j hj)
  · exact getD_set_true (h k j hk hj)
theorem Closed.none (n : Nat) : Closed md ops (Array.replicate n false) := fun i j h _ => by
  by_cases hi : i < n <;> simp [Array.getD_eq_getD_getElem?, hi] at h
theorem wpAny_inv2 (I : Array Bool → Act → World → Prop) (hs : ∀ l a w, I l a w → l.size = ops.size) (hb : backB md ops = true)
    (hfin : ∀ l a w, I l a w → (∀ i, i < ops.size → l.getD i false = true) → Q .normal a w)
    (hstep : ∀ l a w i, I l a w → Closed md ops l → i < ops.size → l.getD i false = false → (∀ j, waitsB md ops i j = true → l.getD j false = true) → wpOp P ops Q i (I (l.setIfInBounds i true)) a w)
    (n : Nat) (hn : n = ops.size) (a : Act) (w : World) (h0 : I (Array.replicate n false) a w) : wpAny P md ops Q n (Array.replicate n false) a w := by
  subst hn
  refine wpAny_inv (fun l a w => I l a w ∧ Closed md ops l) (fun l a w h => hs l a w h.1) hb (fun l a w h => hfin l a w h.1) ?_ _ _ _ _ (unlisted_none _) ⟨h0, Closed.none _⟩
  intro l a w i h hi hu hw
  exact wpOp_mono (fun a' w' h' => ⟨h', h.2.next i hw⟩) (hstep l a w i h.1 h.2 hi hu hw)
end
theorem Holding.swap {dsts : List Nat} {vl vl' : List (Option Value)} {l : Array Bool} {s : Nat → Value} (h : Holding dsts vl l s) (he : ∀ j, l.getD j false = true → vl'.getD j none = vl.getD j none) : Holding dsts vl' l s := fun j v hl hj => h j v hl (by rw [← he j hl]; exact hj)
/-- the world, by whether the call (operation q of n) has come. -/
structure CI (n q : Nat) (W0 : World) (P : World → Prop) (L : Array Bool) (wx : World) : Prop where
  sz : L.size = n
  bef : L.getD q false = false → wx = W0
  aft : L.getD q false = true → P wx
theorem CI.read {n q : Nat} {W0 : World} {P : World → Prop} {L : Array Bool} {wx : World} (h : CI n q W0 P L wx) (i : Nat) (hi : i ≠ q) : CI n q W0 P (L.setIfInBounds i true) wx :=
  ⟨by simp [h.sz], by rw [getD_set_ne false hi]; exact h.bef, by rw [getD_set_ne false hi]; exact h.aft⟩
theorem CI.call {n q : Nat} {W0 : World} {P P' : World → Prop} {L : Array Bool} {wx wy : World} (h : CI n q W0 P L wx) (hq : q < n) (hp : P' wy) : CI n q W0 P' (L.setIfInBounds q true) wy :=
  ⟨by simp [h.sz], fun hl => by simp [h.sz, hq] at hl, fun _ => hp⟩
theorem not_listed {a b : Bool} (h : a = true → b = true) (hb : b = false) : a = false := by
  cases a with
  | false => rfl
  | true => rw [h rfl] at hb; cases hb
end Go.Proofs.YtpkolmmahoopcaaGreatDoor
/- DERIVED. A slice that reads as bytes, as one word; what regions by invariants want. -/
namespace Go.Proofs.YtpkolmmahoopcaaGreatDoor
open Go.RowKit
def SlB (L : List Int) (v : Value) (w : World) : Prop := ∃ A c, v = .slice A L.length c ∧ Byt w A c L
theorem SlB.later {L : List Int} {v : Value} {w w' : World} (h : SlB L v w) (hb : Below w.heap.size w w') : SlB L v w' := by
  obtain ⟨A, c, e, b⟩ := h
  exact ⟨A, c, e, b.below hb (Nat.le_refl _)⟩
theorem SlB.at {L : List Int} {v : Value} {B : Nat} {w w' : World} (h : SlB L v w) (hb : Below B w w') (hB : w.heap.size ≤ B) : SlB L v w' := h.later (hb.mono hB)
/-- what holds of a value and the world as soon as an operation has come. -/
def Whn (l : Array Bool) (i : Nat) (p : Value → World → Prop) (v : Value) (w : World) : Prop := l.getD i false = true → p v w
theorem Whn.get {l : Array Bool} {i : Nat} {p : Value → World → Prop} {v : Value} {w : World} (h : Whn l i p v w) (hl : l.getD i false = true) : p v w := h hl
theorem Whn.keep {l : Array Bool} {i k : Nat} {p : Value → World → Prop} {v : Value} {w : World} (h : Whn l i p v w) (hne : i ≠ k) : Whn (l.setIfInBounds k true) i p v w := fun hl => h ((getD_listed hl).resolve_left hne)
theorem Whn.map {l : Array Bool} {i : Nat} {p : Value → World → Prop} {v : Value} {w w' : World} (h : Whn l i p v w) (f : p v w → p v w') : Whn l i p v w' := fun hl => f (h hl)
theorem Whn.done {l : Array Bool} {i : Nat} {p : Value → World → Prop} {v : Value} {w : World} (h : p v w) : Whn l i p v w := fun _ => h
theorem Whn.none {n i : Nat} {p : Value → World → Prop} {v : Value} {w : World} (h : (Array.replicate n false).getD i false = false) : Whn (Array.replicate n false) i p v w := fun hl => by rw [h] at hl; cases hl
theorem lst {l : Array Bool} {i j : Nat} (h : (l.setIfInBounds i true).getD j false = true) (hne : j ≠ i) : l.getD j false = true := (getD_listed h).resolve_left hne
theorem wpOp_want {P : Program} {ops : Array Oper} {Q : Exit → Act → World → Prop} {i : Nat} {o : Oper} {K : Act → World → Prop} {a : Act} {w : World} (ho : ops[i]? = some o) (hg : Region.wanted o (yielded ops a.tmps) = true) (h : Oper.wp P o a w K Q) : wpOp P ops Q i K a w :=
  wpOp_step ho (fun K' hK' => by rw [if_pos hg]; exact Oper.wp_mono hK' h)
theorem wpOp_skip {P : Program} {ops : Array Oper} {Q : Exit → Act → World → Prop} {i : Nat} {o : Oper} {K : Act → World → Prop} {a : Act} {w : World} (ho : ops[i]? = some o) (hg : Region.wanted o (yielded ops a.tmps) = false) (h : K (a.put o.dst undef) w) : wpOp P ops Q i K a w :=
  wpOp_step ho (fun K' hK' => by rw [if_neg (by rw [hg]; decide)]; exact hK' _ _ h)
end Go.Proofs.YtpkolmmahoopcaaGreatDoor
/- DERIVED. What holds from one operation on until another one comes. -/
namespace Go.Proofs.YtpkolmmahoopcaaGreatDoor
open Go.RowKit
/-- the same as Whn, until another operation comes. -/
def Whu (l : Array Bool) (i q : Nat) (p : Value → World → Prop) (v : Value) (w : World) : Prop := l.getD i false = true → l.getD q false = false → p v w
theorem Whu.get {l : Array Bool} {i q : Nat} {p : Value → World → Prop} {v : Value} {w : World} (h : Whu l i q p v w) (hl : l.getD i false = true) (hq : l.getD q false = false) : p v w := h hl hq
theorem Whu.keep {l : Array Bool} {i q k : Nat} {p : Value → World → Prop} {v : Value} {w : World} (h : Whu l i q p v w) (hne : i ≠ k) : Whu (l.setIfInBounds k true) i q p v w := fun hl hq => h ((getD_listed hl).resolve_left hne) (by
  cases e : l.getD q false with
  | false => rfl
  | true => rw [getD_set_true e] at hq; cases hq)
theorem Whu.map {l : Array Bool} {i q : Nat} {p : Value → World → Prop} {v : Value} {w w' : World} (h : Whu l i q p v w) (f : p v w → p v w') : Whu l i q p v w' := fun hl hq => f (h hl hq)
theorem Whu.done {l : Array Bool} {i q : Nat} {p : Value → World → Prop} {v : Value} {w : World} (h : p v w) : Whu l i q p v w := fun _ _ => h
theorem Whu.none {n i q : Nat} {p : Value → World → Prop} {v : Value} {w : World} (h : (Array.replicate n false).getD i false = false) : Whu (Array.replicate n false) i q p v w := fun hl => by rw [h] at hl; cases hl
theorem Whu.past {l : Array Bool} {i q : Nat} {p : Value → World → Prop} {v : Value} {w : World} (hq : q < l.size) : Whu (l.setIfInBounds q true) i q p v w := fun _ h => by
  simp [hq] at h
theorem Whu.gone {l : Array Bool} {i q k : Nat} {p : Value → World → Prop} {v : Value} {w : World} (h : l.getD q false = true) : Whu (l.setIfInBounds k true) i q p v w := fun _ hq => by rw [getD_set_true h] at hq; cases hq
theorem Whn.never {l : Array Bool} {i k : Nat} {p : Value → World → Prop} {v : Value} {w : World} (hne : i ≠ k) (h : l.getD i false = true → l.getD k false = true) (hu : l.getD k false = false) : Whn (l.setIfInBounds k true) i p v w := fun hl => by
  have := h ((getD_listed hl).resolve_left hne)
  rw [this] at hu
  cases hu
end Go.Proofs.YtpkolmmahoopcaaGreatDoor
/- DERIVED. Labels in a seat of rules: what label's texts want of XLabBoth there. Written by mklite.py; refOrder_any beside. -/
namespace Go.Proofs.YtpkolmmahoopcaaGreatDoor.Lab
open Go.RowKit Str
def chk (lv : Int) : Int := if 0 ≤ lv ∧ lv ≤ 15 then 0 else 2
theorem check_any (lv : Int) (cp : Nat) (w : World) :
    Calls Tryz.prog 19 #[.agg #[.int .i64 lv, .int .u64 (cp : Nat)]] w fun e w' => e = .returned (.int .i64 (chk lv)) ∧ Below w.heap.size w w' := by
  have low : Below w.heap.size w (w.alloc (.cells #[.int .i64 lv, .int .u64 (cp : Nat)] 34)) := (Below.refl _ _).alloc (Nat.le_refl _) _
  have Low := Lib.hid low
  clear low
  by_cases h0 : lv < 0
  · have Hc : Hid (chk lv = 2) := by show _ = _; unfold chk; rw [if_neg (by omega)]
    go_enter Tryz.func19, Tryz.ntmps19
    go_wp2
    go_ret
    exact ⟨by rw [Hc.out]; rfl, Low.out⟩
  · by_cases h1 : 15 < lv
    · have Hc : Hid (chk lv = 2) := by show _ = _; unfold chk; rw [if_neg (by omega)]
      go_enter Tryz.func19, Tryz.ntmps19
      go_wp2
      go_ret
      exact ⟨by rw [Hc.out]; rfl, Low.out⟩
    · have Hc : Hid (chk lv = 0) := by show _ = _; unfold chk; rw [if_pos (by omega)]
      go_enter Tryz.func19, Tryz.ntmps19
      go_wp2
      go_ret
      exact ⟨by rw [Hc.out]; rfl, Low.out⟩
def OkC (c : Nat) : Prop := c < 18446744073709551616
abbrev lab (a : Int) (c : Nat) : Array Value := #[.int .i64 a, .int .u64 (c : Nat)]
theorem lab_one (a : Int) (c : Nat) : (lab a c).all (·.oneCell') = true := by
  rw [Array.all_eq_true_iff_forall_mem]
  intro v hv
  simp only [lab, List.mem_toArray, List.mem_cons, List.mem_nil_iff, or_false] at hv
  rcases hv with rfl | rfl <;> rfl
theorem infoL : (Tryz.prog.info? 34).map (·.size) = some 2 := by kernel_rfl
theorem infoLab (a : Int) (c : Nat) : (Tryz.prog.info? 34).map (·.size) = some (lab a c).size := infoL
theorem setRow_at {w : World} {g : Nat} {old cs : Array Value} {T : TypeId} (h : w.heap[g]? = some (.cells old T (0, 0))) : (w.setRow g cs).heap[g]? = some (.cells cs T (0, 0)) := by
  simp [World.setRow, Array.getElem?_modify, h]
theorem setRow_ne {w : World} {g k : Nat} {cs : Array Value} (h : g ≠ k) : (w.setRow g cs).heap[k]? = w.heap[k]? := by
  simp [World.setRow, Array.getElem?_modify, h]
theorem setRow_size (w : World) (g : Nat) (cs : Array Value) : (w.setRow g cs).heap.size = w.heap.size := by simp [World.setRow]
theorem below_setRow {B : Nat} {a w : World} (h : Below B a w) {g : Nat} (hg : B ≤ g) (cs : Array Value) : Below B a (w.setRow g cs) :=
  ⟨h.os, h.tape, h.output, by rw [setRow_size]; exact h.size, fun k hk => by rw [setRow_ne (by omega)]; exact h.block k hk⟩
theorem eq_run {x b : Int} {y d : Nat} {r : Bool} (h : (x == b && y == d) = r) (W : World) :
    (if x = b then if (y : Int) = (d : Int) then Result.ok (Next.value (Value.bool true)) W else Result.ok (Next.value (Value.bool false)) W else Result.ok (Next.value (Value.bool false)) W) = Result.ok (Next.value (Value.bool r)) W := by
  rw [← h]
  by_cases hx : x = b
  · by_cases hy : y = d
    · simp [hx, hy]
    · have : ¬ (y : Int) = (d : Int) := by omega
      simp [hx, hy, this]
  · simp [hx]
def ordL (a : Int) (c : Nat) (b : Int) (d : Nat) : Int := if a < b then -1 else if b < a then 1 else if c < d then -1 else if d < c then 1 else 0
set_option maxHeartbeats 4000000 in
theorem refOrder_any (a b : Int) (c d : Nat) (w : World) :
    Calls Tryz.prog 42 #[.agg (lab a c), .agg (lab b d)] w fun e w' => e = .returned (.int .i64 (ordL a c b d)) ∧ Below w.heap.size w w' := by
  have low : Below w.heap.size w ((w.alloc (.cells (lab a c) 34)).alloc (.cells (lab b d) 34)) := ((Below.refl _ _).alloc (Nat.le_refl _) _).alloc (by simp) _
  have Low := Lib.hid low
  clear low
  by_cases h1 : a < b
  · have h1n : ¬ a = b := by omega
    have Hc : Hid (ordL a c b d = -1) := by show ordL a c b d = -1; unfold ordL; repeat (first | rw [if_pos (by omega)] | rw [if_neg (by omega)])
    go_enter Tryz.func42, Tryz.ntmps42
    go_wp2
    go_ret
    exact ⟨by rw [Hc.out]; rfl, Low.out⟩
  · by_cases h2 : b < a
    · have h2n : ¬ a = b := by omega
      have Hc : Hid (ordL a c b d = 1) := by show ordL a c b d = 1; unfold ordL; repeat (first | rw [if_pos (by omega)] | rw [if_neg (by omega)])
      go_enter Tryz.func42, Tryz.ntmps42
      go_wp2
      go_ret
      exact ⟨by rw [Hc.out]; rfl, Low.out⟩
    · obtain rfl : a = b := by omega
      by_cases h3 : c < d
      · have h3' : (c : Int) < d := by omega
        have Hc : Hid (ordL a c a d = -1) := by show ordL a c a d = -1; unfold ordL; repeat (first | rw [if_pos (by omega)] | rw [if_neg (by omega)])
        go_enter Tryz.func42, Tryz.ntmps42
        go_wp2
        go_ret
        exact ⟨by rw [Hc.out]; rfl, Low.out⟩
      · have h3' : ¬ (c : Int) < d := by omega
        by_cases h4 : d < c
        · have h4' : (d : Int) < c := by omega
          have Hc : Hid (ordL a c a d = 1) := by show ordL a c a d = 1; unfold ordL; repeat (first | rw [if_pos (by omega)] | rw [if_neg (by omega)])
          go_enter Tryz.func42, Tryz.ntmps42
          go_wp2
          go_ret
          exact ⟨by rw [Hc.out]; rfl, Low.out⟩
        · have h4' : ¬ (d : Int) < c := by omega
          have Hc : Hid (ordL a c a d = 0) := by show ordL a c a d = 0; unfold ordL; repeat (first | rw [if_pos (by omega)] | rw [if_neg (by omega)])
          go_enter Tryz.func42, Tryz.ntmps42
          go_wp2
          go_ret
          exact ⟨by rw [Hc.out]; rfl, Low.out⟩
end Go.Proofs.YtpkolmmahoopcaaGreatDoor.Lab
/- DERIVED. label.Text of a valid label; the laws' awake. Written by mktext.py. -/
namespace Go.Proofs.YtpkolmmahoopcaaGreatDoor.Lab
open Go.RowKit Str
/-- a level's digits. -/
def decL (i : Nat) : List Int := if i < 10 then [((48 + i : Nat) : Int)] else [49, ((38 + i : Nat) : Int)]
set_option maxRecDepth 100000 in
theorem itoa_0 (w : World) : Calls Tryz.prog 28 #[.int .i64 0] w fun e w' => e = .returned (.string ⟨#[48]⟩) ∧ w = w' := by
  go_enter Tryz.func28, Tryz.ntmps28
  go_wp2
  go_ret
  exact ⟨rfl, rfl⟩
set_option maxRecDepth 100000 in
theorem itoa_1 (w : World) : Calls Tryz.prog 28 #[.int .i64 1] w fun e w' => e = .returned (.string ⟨#[49]⟩) ∧ w = w' := by
  go_enter Tryz.func28, Tryz.ntmps28
  go_wp2
  go_ret
  exact ⟨rfl, rfl⟩
set_option maxRecDepth 100000 in
theorem itoa_2 (w : World) : Calls Tryz.prog 28 #[.int .i64 2] w fun e w' => e = .returned (.string ⟨#[50]⟩) ∧ w = w' := by
  go_enter Tryz.func28, Tryz.ntmps28
  go_wp2
  go_ret
  exact ⟨rfl, rfl⟩
set_option maxRecDepth 100000 in
theorem itoa_3 (w : World) : Calls Tryz.prog 28 #[.int .i64 3] w fun e w' => e = .returned (.string ⟨#[51]⟩) ∧ w = w' := by
  go_enter Tryz.func28, Tryz.ntmps28
  go_wp2
  go_ret
  exact ⟨rfl, rfl⟩
set_option maxRecDepth 100000 in
theorem itoa_4 (w : World) : Calls Tryz.prog 28 #[.int .i64 4] w fun e w' => e = .returned (.string ⟨#[52]⟩) ∧ w = w' := by
  go_enter Tryz.func28, Tryz.ntmps28
  go_wp2
  go_ret
  exact ⟨rfl, rfl⟩
set_option maxRecDepth 100000 in
theorem itoa_5 (w : World) : Calls Tryz.prog 28 #[.int .i64 5] w fun e w' => e = .returned (.string ⟨#[53]⟩) ∧ w = w' := by
  go_enter Tryz.func28, Tryz.ntmps28
  go_wp2
  go_ret
  exact ⟨rfl, rfl⟩
set_option maxRecDepth 100000 in
theorem itoa_6 (w : World) : Calls Tryz.prog 28 #[.int .i64 6] w fun e w' => e = .returned (.string ⟨#[54]⟩) ∧ w = w' := by
  go_enter Tryz.func28, Tryz.ntmps28
  go_wp2
  go_ret
  exact ⟨rfl, rfl⟩
set_option maxRecDepth 100000 in
theorem itoa_7 (w : World) : Calls Tryz.prog 28 #[.int .i64 7] w fun e w' => e = .returned (.string ⟨#[55]⟩) ∧ w = w' := by
  go_enter Tryz.func28, Tryz.ntmps28
  go_wp2
  go_ret
  exact ⟨rfl, rfl⟩
set_option maxRecDepth 100000 in
theorem itoa_8 (w : World) : Calls Tryz.prog 28 #[.int .i64 8] w fun e w' => e = .returned (.string ⟨#[56]⟩) ∧ w = w' := by
  go_enter Tryz.func28, Tryz.ntmps28
  go_wp2
  go_ret
  exact ⟨rfl, rfl⟩
set_option maxRecDepth 100000 in
theorem itoa_9 (w : World) : Calls Tryz.prog 28 #[.int .i64 9] w fun e w' => e = .returned (.string ⟨#[57]⟩) ∧ w = w' := by
  go_enter Tryz.func28, Tryz.ntmps28
  go_wp2
  go_ret
  exact ⟨rfl, rfl⟩
set_option maxRecDepth 100000 in
theorem itoa_10 (w : World) : Calls Tryz.prog 28 #[.int .i64 10] w fun e w' => e = .returned (.string ⟨#[49, 48]⟩) ∧ w = w' := by
  go_enter Tryz.func28, Tryz.ntmps28
  go_wp2
  go_ret
  exact ⟨rfl, rfl⟩
set_option maxRecDepth 100000 in
theorem itoa_11 (w : World) : Calls Tryz.prog 28 #[.int .i64 11] w fun e w' => e = .returned (.string ⟨#[49, 49]⟩) ∧ w = w' := by
  go_enter Tryz.func28, Tryz.ntmps28
  go_wp2
  go_ret
  exact ⟨rfl, rfl⟩
set_option maxRecDepth 100000 in
theorem itoa_12 (w : World) : Calls Tryz.prog 28 #[.int .i64 12] w fun e w' => e = .returned (.string ⟨#[49, 50]⟩) ∧ w = w' := by
  go_enter Tryz.func28, Tryz.ntmps28
  go_wp2
  go_ret
  exact ⟨rfl, rfl⟩
set_option maxRecDepth 100000 in
theorem itoa_13 (w : World) : Calls Tryz.prog 28 #[.int .i64 13] w fun e w' => e = .returned (.string ⟨#[49, 51]⟩) ∧ w = w' := by
  go_enter Tryz.func28, Tryz.ntmps28
  go_wp2
  go_ret
  exact ⟨rfl, rfl⟩
set_option maxRecDepth 100000 in
theorem itoa_14 (w : World) : Calls Tryz.prog 28 #[.int .i64 14] w fun e w' => e = .returned (.string ⟨#[49, 52]⟩) ∧ w = w' := by
  go_enter Tryz.func28, Tryz.ntmps28
  go_wp2
  go_ret
  exact ⟨rfl, rfl⟩
set_option maxRecDepth 100000 in
theorem itoa_15 (w : World) : Calls Tryz.prog 28 #[.int .i64 15] w fun e w' => e = .returned (.string ⟨#[49, 53]⟩) ∧ w = w' := by
  go_enter Tryz.func28, Tryz.ntmps28
  go_wp2
  go_ret
  exact ⟨rfl, rfl⟩
theorem itoa_any : ∀ (i : Nat) (_ : i < 16) (w : World), Calls Tryz.prog 28 #[.int .i64 (i : Nat)] w fun e w' => e = .returned (.string (strOfNums (decL i))) ∧ w = w'
  | 0, _, w => itoa_0 w
  | 1, _, w => itoa_1 w
  | 2, _, w => itoa_2 w
  | 3, _, w => itoa_3 w
  | 4, _, w => itoa_4 w
  | 5, _, w => itoa_5 w
  | 6, _, w => itoa_6 w
  | 7, _, w => itoa_7 w
  | 8, _, w => itoa_8 w
  | 9, _, w => itoa_9 w
  | 10, _, w => itoa_10 w
  | 11, _, w => itoa_11 w
  | 12, _, w => itoa_12 w
  | 13, _, w => itoa_13 w
  | 14, _, w => itoa_14 w
  | 15, _, w => itoa_15 w
  | n + 16, h, _ => absurd h (by omega)
theorem str_size (l : List Int) : (strOfNums l).size = l.length := by
  show (strOfNums l).data.size = _
  simp [strOfNums]
theorem text_small (lv cp : Nat) : (strOfNums (decL lv)).size ≤ 2 ∧ (strOfNums (hexL cp)).size ≤ 16 := by
  rw [str_size, str_size]
  refine ⟨?_, hexF_le 15 cp⟩
  unfold decL
  split <;> simp
/-- a valid label's text. -/
def textB (lv cp : Nat) : ByteArray := strOfNums (decL lv) ++ (⟨#[58]⟩ : ByteArray) ++ strOfNums (hexL cp)
set_option maxHeartbeats 1000000 in
theorem text_any (lv cp : Nat) (hlv : lv < 16) (hcp : cp < 18446744073709551616) (w : World) (hL : Laid w) :
    Calls Tryz.prog 29 #[.agg #[.int .i64 (lv : Nat), .int .u64 (cp : Nat)]] w fun e w' => e = .returned (.string (textB lv cp)) ∧ Below w.heap.size w w' := by
  obtain ⟨w1, hw1⟩ : ∃ w1, w1 = w.alloc (.cells #[.int .i64 (lv : Nat), .int .u64 (cp : Nat)] 34) := ⟨_, rfl⟩
  have h1 : w1.heap[w.heap.size]? = some (.cells #[.int .i64 (lv : Nat), .int .u64 (cp : Nat)] 34 (0, 0)) := by rw [hw1]; exact Go.heap_alloc_new w _
  have low1 : Below w.heap.size w w1 := by rw [hw1]; exact (Below.refl _ _).alloc (Nat.le_refl _) _
  have Hw1 := Lib.hid hw1
  have H1 := Lib.hid h1
  have Hlow1 := Lib.hid low1
  have HLd1 : Hid (Laid w1) := hL.below low1
  have Hc : Hid (chk (lv : Nat) = 0) := by show _ = _; unfold chk; rw [if_pos (by omega)]
  have ss := text_small lv cp
  have hs1 : ¬ 9223372036854775807 < (strOfNums (decL lv)).size + 1 := by omega
  have hs2 : ¬ 9223372036854775807 < (strOfNums (decL lv)).size + 1 + (strOfNums (hexL cp)).size := by omega
  clear hw1 h1 low1 hL ss
  go_enter Tryz.func29, Tryz.ntmps29
  go_upto_region 1 with (fail)
  rw [← Hw1.out]
  clear Hw1
  have c0 : w1.cell? ⟨w.heap.size, 0, none⟩ = some (.int .i64 (lv : Nat)) := cell_row H1.out 0
  have c1 : w1.cell? ⟨w.heap.size, 1, none⟩ = some (.int .u64 (cp : Nat)) := cell_row H1.out 1
  go_upto_region 3 with (go_at_call 19; refine (check_any _ _ _).mono ?_; rintro e w2 ⟨rfl, low2⟩; have Low2 := Lib.hid low2; clear low2; rw [Hc.out])
  have C0 : Hid (World.cell? _ ⟨w.heap.size, 0, none⟩ = some (.int .i64 (lv : Nat))) := (Low2.out.cell (p := ⟨w.heap.size, 0, none⟩) (Array.getElem?_eq_some_iff.1 H1.out).1).trans c0
  have C1 : Hid (World.cell? _ ⟨w.heap.size, 1, none⟩ = some (.int .u64 (cp : Nat))) := (Low2.out.cell (p := ⟨w.heap.size, 1, none⟩) (Array.getElem?_eq_some_iff.1 H1.out).1).trans c1
  have HLd := Lib.hid (HLd1.out.below Low2.out)
  have Hlow := Lib.hid (Hlow1.out.trans (Low2.out.mono Hlow1.out.size))
  clear c0 c1 H1 HLd1 Hlow1 Low2 Hc
  obtain ⟨g, hg⟩ : ∃ g, g = w.heap.size := ⟨_, rfl⟩
  rw [← hg] at C0 C1 ⊢
  have Hg := Lib.hid hg
  clear hg
  have apx : apartB [6, 7, 8, 9, 10, 11, 12, 13, 2] = true := by decide
  refine wp_region_any (by kernel_rfl) ?_
  change wpAny _ _ _ _ _ _ _ (World.drew _)
  refine wpAny_inv (fun ll aa wx => Hid (ll.size = 9 ∧ Below w2.heap.size w2 wx) ∧ ∃ (z : Nat → Value), Hid (aa = ⟨#[.agg #[.int .i64 (lv : Nat), .int .u64 (cp : Nat)], .pointer (some ⟨g, 0, none⟩), z 2, .agg #[.int .i64 (lv : Nat), .int .u64 (cp : Nat)], .int .i64 0, .bool false, z 6, z 7, z 8, z 9, z 10, z 11, z 12, z 13], []⟩) ∧ Holding [6, 7, 8, 9, 10, 11, 12, 13, 2] [some (.pointer (some ⟨g, 0, none⟩)), some (.int .i64 (lv : Nat)), some (.string (strOfNums (decL lv))), some (.string (strOfNums (decL lv) ++ (⟨#[58]⟩ : ByteArray))), some (.pointer (some ⟨g, 1, none⟩)), some (.int .u64 (cp : Nat)), some (.string (strOfNums (hexL cp))), some (.string (strOfNums (decL lv) ++ (⟨#[58]⟩ : ByteArray) ++ strOfNums (hexL cp))), some (.string (textB lv cp))] ll z) ?_ (by kernel_rfl) ?_ ?_ _ _ _ _ (unlisted_none _) ?_
  · rintro ll aa wx ⟨hI, _⟩
    exact hI.out.1
  · rintro ll aa wx ⟨hI, z, ha, hz⟩ hall
    have hx := Lib.hid hI.out.2
    have e0 : z 6 = .pointer (some ⟨g, 0, none⟩) := hz 0 _ (hall 0 (by decide)) rfl
    have e1 : z 7 = .int .i64 (lv : Nat) := hz 1 _ (hall 1 (by decide)) rfl
    have e2 : z 8 = .string (strOfNums (decL lv)) := hz 2 _ (hall 2 (by decide)) rfl
    have e3 : z 9 = .string (strOfNums (decL lv) ++ (⟨#[58]⟩ : ByteArray)) := hz 3 _ (hall 3 (by decide)) rfl
    have e4 : z 10 = .pointer (some ⟨g, 1, none⟩) := hz 4 _ (hall 4 (by decide)) rfl
    have e5 : z 11 = .int .u64 (cp : Nat) := hz 5 _ (hall 5 (by decide)) rfl
    have e6 : z 12 = .string (strOfNums (hexL cp)) := hz 6 _ (hall 6 (by decide)) rfl
    have e7 : z 13 = .string (strOfNums (decL lv) ++ (⟨#[58]⟩ : ByteArray) ++ strOfNums (hexL cp)) := hz 7 _ (hall 7 (by decide)) rfl
    have e8 : z 2 = .string (textB lv cp) := hz 8 _ (hall 8 (by decide)) rfl
    clear hall hz hI 
    obtain rfl := ha.out
    clear ha
    clear apx
    have E := Lib.hid e8
    clear e0 e1 e2 e3 e4 e5 e6 e7 e8
    go_wp2
    go_ret
    exact ⟨by rw [E.out]; rfl, Hlow.out.trans (hx.out.mono Hlow.out.size)⟩
  · rintro ll aa wx i ⟨hI, z, ha, hz⟩ hi hu hw
    obtain rfl := ha.out
    have hsz := Lib.hid hI.out.1
    have hx := Lib.hid hI.out.2
    clear ha hI
    have hin : i < 9 := hi
    obtain rfl | rfl | rfl | rfl | rfl | rfl | rfl | rfl | rfl : i = 0 ∨ i = 1 ∨ i = 2 ∨ i = 3 ∨ i = 4 ∨ i = 5 ∨ i = 6 ∨ i = 7 ∨ i = 8 := by omega
    · refine wpOp_plain rfl rfl ?_
      go_simp
      exact ⟨⟨by simp [hsz.out], hx.out⟩, upd z 6 (.pointer (some ⟨g, 0, none⟩)), (by unfold Hid; simp [upd]), hz.next apx hsz.out 0 (by decide) _ (fun _ h => Option.some.inj h)⟩
    · have e0 : z 6 = .pointer (some ⟨g, 0, none⟩) := hz 0 _ (hw 0 (by kernel_rfl)) rfl
      have cl : wx.cell? ⟨g, 0, none⟩ = some (.int .i64 (lv : Nat)) := (hx.out.cell (p := ⟨g, 0, none⟩) (World.block_lt_of_cell? _ _ C0.out)).trans C0.out
      refine wpOp_plain rfl rfl ?_
      go_simp
      exact ⟨⟨by simp [hsz.out], hx.out⟩, upd z 7 (.int .i64 (lv : Nat)), (by unfold Hid; simp [upd, e0]), hz.next apx hsz.out 1 (by decide) _ (fun _ h => Option.some.inj h)⟩
    · have e1 : z 7 = .int .i64 (lv : Nat) := hz 1 _ (hw 1 (by kernel_rfl)) rfl
      refine wpOp_plain rfl rfl ?_
      go_simp
      go_at_call 28
      refine (itoa_any lv hlv _).mono ?_
      rintro e w' ⟨rfl, rfl⟩
      exact ⟨⟨by simp [hsz.out], hx.out⟩, upd z 8 (.string (strOfNums (decL lv))), (by unfold Hid; simp [upd, e1]), hz.next apx hsz.out 2 (by decide) _ (fun _ h => Option.some.inj h)⟩
    · have e2 : z 8 = .string (strOfNums (decL lv)) := hz 2 _ (hw 2 (by kernel_rfl)) rfl
      refine wpOp_plain rfl rfl ?_
      go_simp
      exact ⟨⟨by simp [hsz.out], hx.out⟩, upd z 9 (.string (strOfNums (decL lv) ++ (⟨#[58]⟩ : ByteArray))), (by unfold Hid; simp [upd, e2]), hz.next apx hsz.out 3 (by decide) _ (fun _ h => Option.some.inj h)⟩
    · refine wpOp_plain rfl rfl ?_
      go_simp
      exact ⟨⟨by simp [hsz.out], hx.out⟩, upd z 10 (.pointer (some ⟨g, 1, none⟩)), (by unfold Hid; simp [upd]), hz.next apx hsz.out 4 (by decide) _ (fun _ h => Option.some.inj h)⟩
    · have e4 : z 10 = .pointer (some ⟨g, 1, none⟩) := hz 4 _ (hw 4 (by kernel_rfl)) rfl
      have cl : wx.cell? ⟨g, 1, none⟩ = some (.int .u64 (cp : Nat)) := (hx.out.cell (p := ⟨g, 1, none⟩) (World.block_lt_of_cell? _ _ C1.out)).trans C1.out
      refine wpOp_plain rfl rfl ?_
      go_simp
      exact ⟨⟨by simp [hsz.out], hx.out⟩, upd z 11 (.int .u64 (cp : Nat)), (by unfold Hid; simp [upd, e4]), hz.next apx hsz.out 5 (by decide) _ (fun _ h => Option.some.inj h)⟩
    · have e5 : z 11 = .int .u64 (cp : Nat) := hz 5 _ (hw 5 (by kernel_rfl)) rfl
      refine wpOp_plain rfl rfl ?_
      go_simp
      go_at_call 45
      refine (formatU_any cp hcp wx (HLd.out.below hx.out)).mono ?_
      rintro e w' ⟨rfl, low⟩
      exact ⟨⟨by simp [hsz.out], hx.out.trans (low.mono hx.out.size)⟩, upd z 12 (.string (strOfNums (hexL cp))), (by unfold Hid; simp [upd, e5]), hz.next apx hsz.out 6 (by decide) _ (fun _ h => Option.some.inj h)⟩
    · have e3 : z 9 = .string (strOfNums (decL lv) ++ (⟨#[58]⟩ : ByteArray)) := hz 3 _ (hw 3 (by kernel_rfl)) rfl
      have e6 : z 12 = .string (strOfNums (hexL cp)) := hz 6 _ (hw 6 (by kernel_rfl)) rfl
      refine wpOp_plain rfl rfl ?_
      go_simp
      exact ⟨⟨by simp [hsz.out], hx.out⟩, upd z 13 (.string (strOfNums (decL lv) ++ (⟨#[58]⟩ : ByteArray) ++ strOfNums (hexL cp))), (by unfold Hid; simp [upd, e3, e6]), hz.next apx hsz.out 7 (by decide) _ (fun _ h => Option.some.inj h)⟩
    · have e7 : z 13 = .string (strOfNums (decL lv) ++ (⟨#[58]⟩ : ByteArray) ++ strOfNums (hexL cp)) := hz 7 _ (hw 7 (by kernel_rfl)) rfl
      refine wpOp_plain rfl rfl ?_
      go_simp
      exact ⟨⟨by simp [hsz.out], hx.out⟩, upd z 2 (.string (textB lv cp)), (by unfold Hid; simp [upd, e7, textB]), hz.next apx hsz.out 8 (by decide) _ (fun _ h => Option.some.inj h)⟩
  · exact ⟨⟨rfl, (Below.refl _ _).drew⟩, fun xx => (#[.agg #[.int .i64 (lv : Nat), .int .u64 (cp : Nat)], .pointer (some ⟨g, 0, none⟩), .string ⟨#[]⟩, .agg #[.int .i64 (lv : Nat), .int .u64 (cp : Nat)], .int .i64 0, .bool false, undef, undef, undef, undef, undef, undef, undef, undef] : Array Value).getD xx undef, rfl, Holding.start⟩
end Go.Proofs.YtpkolmmahoopcaaGreatDoor.Lab
