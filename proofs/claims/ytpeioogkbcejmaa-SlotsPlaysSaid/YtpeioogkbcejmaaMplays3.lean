/- DERIVED. Texts of ours, merged: XRegionInv XRegionFix XRegionCall XSl XDskClone XDskMut. -/
import Derived.RegionTactic
import Derived.Test.YtpeioogkbcejmaaMplays1
import Derived.Test.YtpeioogkbcejmaaMplays2
import Derived.WalkSpells
import Derived.Deep.CutBlock
import Derived.Great.BuildSlice
/- DERIVED. A region that draws its order, by an invariant over what has come up already. -/
namespace Go.Proofs.Ytpeioogkbcejmaa
theorem filter_more (xs : List Nat) (p q : Nat → Bool) (h : ∀ j, q j = true → p j = true) : (xs.filter q).length ≤ (xs.filter p).length := by
  induction xs with
  | nil => simp
  | cons x xs ih =>
    cases hq : q x
    · cases hp : p x <;> simp [hq, hp] <;> omega
    · have hp := h x hq
      simp [hq, hp]; exact ih
theorem filter_less (xs : List Nat) (p q : Nat → Bool) (h : ∀ j, q j = true → p j = true) (i : Nat) (hi : i ∈ xs) (hp : p i = true) (hq : q i = false) : (xs.filter q).length < (xs.filter p).length := by
  induction xs with
  | nil => cases hi
  | cons x xs ih =>
    by_cases e : x = i
    · subst e
      have := filter_more xs p q h
      simp [hq, hp]; omega
    · have := ih (by simpa [Ne.symm e] using hi)
      cases hq' : q x
      · cases hp' : p x <;> simp [hq', hp'] <;> omega
      · have hp' := h x hq'
        simp [hq', hp']; exact this
section
variable {P : Program} {ops : Array Oper} {Q : Exit → Act → World → Prop} {md : Region.Mode}
/-- every operation waits for earlier ones alone (of the edges that bind). -/
def backB (md : Region.Mode) (ops : Array Oper) : Bool := (List.range ops.size).all fun i => ((ops[i]?).map fun o => o.after.all fun e => !Region.binds md e || decide (e.on < i)).getD true
/-- operation i waits for j. -/
def waitsB (md : Region.Mode) (ops : Array Oper) (i j : Nat) : Bool := ((ops[i]?).map fun o => o.after.any fun e => Region.binds md e && e.on == j).getD false
def unlisted (n : Nat) (l : Array Bool) : Nat := ((List.range n).filter fun i => !l.getD i true).length
theorem ready_lt {l : Array Bool} {i : Nat} (h : i ∈ Region.ready md ops l) : i < ops.size := by
  obtain ⟨_, o, ho, _⟩ := mem_ready.1 h
  exact (Array.getElem?_eq_some_iff.1 ho).1
theorem ready_pred {l : Array Bool} {i : Nat} (h : i ∈ Region.ready md ops l) (j : Nat) (hw : waitsB md ops i j = true) : l.getD j false = true := by
  obtain ⟨_, o, ho, hall⟩ := mem_ready.1 h
  simp only [waitsB, ho, Option.map_some, Option.getD_some, Array.any_eq_true', Bool.and_eq_true, beq_iff_eq] at hw
  obtain ⟨e, he, hb, rfl⟩ := hw
  exact hall e he hb
theorem all_listed {l : Array Bool} (hs : l.size = ops.size) (hb : backB md ops = true) (h : Region.ready md ops l = []) : ∀ i, i < ops.size → l.getD i false = true := by
  intro i
  induction i using Nat.strongRecOn with
  | ind i ih =>
    intro hi
    cases hl : l.getD i false with
    | true => rfl
    | false =>
      have hb' := List.all_eq_true.1 hb i (List.mem_range.2 hi)
      have ho : ops[i]? = some ops[i] := Array.getElem?_eq_getElem hi
      rw [ho, Option.map_some, Option.getD_some] at hb'
      have hm : i ∈ Region.ready md ops l := by
        refine mem_ready.2 ⟨?_, _, ho, fun e he hbd => ?_⟩
        · rw [← hl]
          simp only [Array.getD_eq_getD_getElem?]
          rw [Array.getElem?_eq_getElem (by omega)]
          rfl
        · have := Array.all_eq_true_iff_forall_mem.1 hb' e he
          have hlt : e.on < i := by
            have h2 : Region.binds md e = false ∨ e.on < i := by simpa using this
            exact h2.resolve_left (by rw [hbd]; decide)
          exact ih _ hlt (by omega)
      rw [h] at hm
      cases hm
theorem getD_un {l : Array Bool} {i : Nat} (h : l.getD i true = false) : l.getD i false = false := by
  rw [Array.getD_eq_getD_getElem?] at h ⊢
  cases e : l[i]? with
  | none => rfl
  | some b => rw [e] at h; exact h
theorem wpAny_inv (I : Array Bool → Act → World → Prop) (hs : ∀ l a w, I l a w → l.size = ops.size) (hb : backB md ops = true)
    (hfin : ∀ l a w, I l a w → (∀ i, i < ops.size → l.getD i false = true) → Q .normal a w)
    (hstep : ∀ l a w i, I l a w → i < ops.size → l.getD i false = false → (∀ j, waitsB md ops i j = true → l.getD j false = true) → wpOp P ops Q i (I (l.setIfInBounds i true)) a w) :
    ∀ (fuel : Nat) (l : Array Bool) (a : Act) (w : World), unlisted ops.size l ≤ fuel → I l a w → wpAny P md ops Q fuel l a w := by
  intro fuel
  induction fuel with
  | zero =>
    intro l a w hu h
    have hr : Region.ready md ops l = [] := by
      cases he : Region.ready md ops l with
      | nil => rfl
      | cons i rest =>
        have hm : i ∈ Region.ready md ops l := by rw [he]; exact List.mem_cons_self ..
        have hlt := ready_lt hm
        have h0 := (mem_ready.1 hm).1
        have : i ∈ (List.range ops.size).filter fun i => !l.getD i true := List.mem_filter.2 ⟨List.mem_range.2 hlt, by simp only [h0]; rfl⟩
        have := List.length_pos_of_mem this
        unfold unlisted at hu
        omega
    exact ⟨hr, hfin l a w h (all_listed (hs l a w h) hb hr)⟩
  | succ fuel ih =>
    intro l a w hu h
    refine ⟨fun hr => hfin l a w h (all_listed (hs l a w h) hb hr), fun i hi => ?_⟩
    have hlt := ready_lt hi
    have h0 := (mem_ready.1 hi).1
    refine wpOp_mono (fun a' w' h' => ih _ _ _ ?_ h') (hstep l a w i h hlt (getD_un h0) (ready_pred hi))
    have hl := hs l a w h
    have : unlisted ops.size (l.setIfInBounds i true) < unlisted ops.size l := by
      unfold unlisted
      refine filter_less _ _ _ (fun j hj => ?_) i (List.mem_range.2 hlt) (by simp only [h0]; rfl) ?_
      · by_cases e : i = j
        · subst e
          simp [hl, hlt] at hj
        · rw [getD_set_ne true e] at hj; exact hj
      · simp [hl, hlt]
    omega
theorem unlisted_none (n : Nat) : unlisted n (Array.replicate n false) ≤ n := by
  unfold unlisted
  have := List.length_filter_le (fun i => !(Array.replicate n false).getD i true) (List.range n)
  simpa using this
/-- what an entry tells behind one more. -/
theorem getD_listed {l : Array Bool} {i j : Nat} (h : (l.setIfInBounds i true).getD j false = true) : j = i ∨ l.getD j false = true := by
  by_cases e : i = j
  · exact .inl e.symm
  · rw [getD_set_ne false e] at h; exact .inr h
end
section
variable {P : Program} {ops : Array Oper} {Q : Exit → Act → World → Prop}
theorem wpOp_plain {i : Nat} {o : Oper} {K : Act → World → Prop} {a : Act} {w : World} (ho : ops[i]? = some o) (hg : o.guard = none) (h : Oper.wp P o a w K Q) : wpOp P ops Q i K a w :=
  wpOp_step ho (fun K' hK' => by rw [if_pos (by simp [Region.wanted, hg])]; exact Oper.wp_mono hK' h)
end
end Go.Proofs.Ytpeioogkbcejmaa
/- DERIVED. A region that draws its order and whose operations each yield one value, whenever they come up: what its slots hold, by what has come up. -/
namespace Go.Proofs.Ytpeioogkbcejmaa
/-- a frame's slots, one of them written. -/
def upd (s : Nat → Value) (d : Nat) (v : Value) : Nat → Value := fun x => if x = d then v else s x
/-- what has come up has yielded its value; an operation with no value of its own: none. -/
def Holding (dsts : List Nat) (vl : List (Option Value)) (l : Array Bool) (s : Nat → Value) : Prop := ∀ j v, l.getD j false = true → vl.getD j none = some v → s (dsts.getD j 0) = v
/-- no two operations write one slot. -/
def apartB (dsts : List Nat) : Bool := (List.range dsts.length).all fun i => (List.range dsts.length).all fun j => i == j || dsts.getD i 0 != dsts.getD j 0
theorem apart_of {dsts : List Nat} (h : apartB dsts = true) {i j : Nat} (hi : i < dsts.length) (hj : j < dsts.length) (e : dsts.getD j 0 = dsts.getD i 0) : j = i := by
  have := List.all_eq_true.1 (List.all_eq_true.1 h j (List.mem_range.2 hj)) i (List.mem_range.2 hi)
  simp only [Bool.or_eq_true, beq_iff_eq, bne_iff_ne, ne_eq] at this
  exact this.resolve_right (fun hn => hn e)
theorem Holding.start {dsts : List Nat} {vl : List (Option Value)} {n : Nat} {s : Nat → Value} : Holding dsts vl (Array.replicate n false) s := fun j v h => by
  by_cases hj : j < n
  · simp [Array.getD_eq_getD_getElem?, hj] at h
  · simp [Array.getD_eq_getD_getElem?, hj] at h
theorem Holding.next {dsts : List Nat} {vl : List (Option Value)} {l : Array Bool} {s : Nat → Value} (h : Holding dsts vl l s) (hd : apartB dsts = true) (hs : l.size = dsts.length) (i : Nat) (hi : i < dsts.length) (v : Value) (hv : ∀ v', vl.getD i none = some v' → v = v') :
    Holding dsts vl (l.setIfInBounds i true) (upd s (dsts.getD i 0) v) := fun j v' hl hj => by
  by_cases e : j = i
  · subst e
    unfold upd
    rw [if_pos rfl]
    exact hv v' hj
  · have hl' := (getD_listed hl).resolve_left e
    have hjn : j < dsts.length := by
      by_cases hj' : j < dsts.length
      · exact hj'
      · rw [Array.getD_eq_getD_getElem?, Array.getElem?_eq_none (by omega)] at hl'
        cases hl'
    unfold upd
    rw [if_neg]
    · exact h j v' hl' hj
    · intro he
      exact e (apart_of hd hi hjn he)
theorem Holding.pass {dsts : List Nat} {vl : List (Option Value)} {l : Array Bool} {s : Nat → Value} (h : Holding dsts vl l s) (i : Nat) (hv : vl.getD i none = none) : Holding dsts vl (l.setIfInBounds i true) s := fun j v' hl hj => by
  by_cases e : j = i
  · subst e; rw [hv] at hj; cases hj
  · exact h j v' ((getD_listed hl).resolve_left e) hj
end Go.Proofs.Ytpeioogkbcejmaa
/- DERIVED. A region that draws its order and holds one call, what comes ahead of it and behind it being pure. -/
namespace Go.Proofs.Ytpeioogkbcejmaa
section
variable {P : Program} {ops : Array Oper} {Q : Exit → Act → World → Prop} {md : Region.Mode}
/-- what has come up has come behind all that it waits for. -/
def Closed (md : Region.Mode) (ops : Array Oper) (l : Array Bool) : Prop := ∀ i j, l.getD i false = true → waitsB md ops i j = true → l.getD j false = true
theorem Closed.next {l : Array Bool} (h : Closed md ops l) (i : Nat) (hw : ∀ j, waitsB md ops i j = true → l.getD j false = true) : Closed md ops (l.setIfInBounds i true) := fun k j hk hj => by
  rcases getD_listed hk with rfl | hk
  · exact getD_set_true (hw j hj)
  · exact getD_set_true (h k j hk hj)
theorem Closed.none (n : Nat) : Closed md ops (Array.replicate n false) := fun i j h _ => by
  by_cases hi : i < n <;> simp [Array.getD_eq_getD_getElem?, hi] at h
theorem wpAny_inv2 (I : Array Bool → Act → World → Prop) (hs : ∀ l a w, I l a w → l.size = ops.size) (hb : backB md ops = true)
    (hfin : ∀ l a w, I l a w → (∀ i, i < ops.size → l.getD i false = true) → Q .normal a w)
    (hstep : ∀ l a w i, I l a w → Closed md ops l → i < ops.size → l.getD i false = false → (∀ j, waitsB md ops i j = true → l.getD j false = true) → wpOp P ops Q i (I (l.setIfInBounds i true)) a w)
    (n : Nat) (hn : n = ops.size) (a : Act) (w : World) (h0 : I (Array.replicate n false) a w) : wpAny P md ops Q n (Array.replicate n false) a w := by
  subst hn
  refine wpAny_inv (fun l a w => I l a w ∧ Closed md ops l) (fun l a w h => hs l a w h.1) hb (fun l a w h => hfin l a w h.1) ?_ _ _ _ _ (unlisted_none _) ⟨h0, Closed.none _⟩
  intro l a w i h hi hu hw
  exact wpOp_mono (fun a' w' h' => ⟨h', h.2.next i hw⟩) (hstep l a w i h.1 h.2 hi hu hw)
end
theorem Holding.swap {dsts : List Nat} {vl vl' : List (Option Value)} {l : Array Bool} {s : Nat → Value} (h : Holding dsts vl l s) (he : ∀ j, l.getD j false = true → vl'.getD j none = vl.getD j none) : Holding dsts vl' l s := fun j v hl hj => h j v hl (by rw [← he j hl]; exact hj)
/-- the world, by whether the call (operation q of n) has come. -/
structure CI (n q : Nat) (W0 : World) (P : World → Prop) (L : Array Bool) (wx : World) : Prop where
  sz : L.size = n
  bef : L.getD q false = false → wx = W0
  aft : L.getD q false = true → P wx
theorem CI.read {n q : Nat} {W0 : World} {P : World → Prop} {L : Array Bool} {wx : World} (h : CI n q W0 P L wx) (i : Nat) (hi : i ≠ q) : CI n q W0 P (L.setIfInBounds i true) wx :=
  ⟨by simp [h.sz], by rw [getD_set_ne false hi]; exact h.bef, by rw [getD_set_ne false hi]; exact h.aft⟩
theorem CI.call {n q : Nat} {W0 : World} {P P' : World → Prop} {L : Array Bool} {wx wy : World} (h : CI n q W0 P L wx) (hq : q < n) (hp : P' wy) : CI n q W0 P' (L.setIfInBounds q true) wy :=
  ⟨by simp [h.sz], fun hl => by simp [h.sz, hq] at hl, fun _ => hp⟩
theorem not_listed {a b : Bool} (h : a = true → b = true) (hb : b = false) : a = false := by
  cases a with
  | false => rfl
  | true => rw [h rfl] at hb; cases hb
end Go.Proofs.Ytpeioogkbcejmaa
/- DERIVED. A slice that reads as bytes, as one word; what regions by invariants want. -/
namespace Go.Proofs.Ytpeioogkbcejmaa
open Go.RowKit
def SlB (L : List Int) (v : Value) (w : World) : Prop := ∃ A c, v = .slice A L.length c ∧ Byt w A c L
theorem SlB.later {L : List Int} {v : Value} {w w' : World} (h : SlB L v w) (hb : Below w.heap.size w w') : SlB L v w' := by
  obtain ⟨A, c, e, b⟩ := h
  exact ⟨A, c, e, b.below hb (Nat.le_refl _)⟩
theorem SlB.at {L : List Int} {v : Value} {B : Nat} {w w' : World} (h : SlB L v w) (hb : Below B w w') (hB : w.heap.size ≤ B) : SlB L v w' := h.later (hb.mono hB)
/-- what holds of a value and the world as soon as an operation has come. -/
def Whn (l : Array Bool) (i : Nat) (p : Value → World → Prop) (v : Value) (w : World) : Prop := l.getD i false = true → p v w
theorem Whn.get {l : Array Bool} {i : Nat} {p : Value → World → Prop} {v : Value} {w : World} (h : Whn l i p v w) (hl : l.getD i false = true) : p v w := h hl
theorem Whn.keep {l : Array Bool} {i k : Nat} {p : Value → World → Prop} {v : Value} {w : World} (h : Whn l i p v w) (hne : i ≠ k) : Whn (l.setIfInBounds k true) i p v w := fun hl => h ((getD_listed hl).resolve_left hne)
theorem Whn.map {l : Array Bool} {i : Nat} {p : Value → World → Prop} {v : Value} {w w' : World} (h : Whn l i p v w) (f : p v w → p v w') : Whn l i p v w' := fun hl => f (h hl)
theorem Whn.done {l : Array Bool} {i : Nat} {p : Value → World → Prop} {v : Value} {w : World} (h : p v w) : Whn l i p v w := fun _ => h
theorem Whn.none {n i : Nat} {p : Value → World → Prop} {v : Value} {w : World} (h : (Array.replicate n false).getD i false = false) : Whn (Array.replicate n false) i p v w := fun hl => by rw [h] at hl; cases hl
theorem lst {l : Array Bool} {i j : Nat} (h : (l.setIfInBounds i true).getD j false = true) (hne : j ≠ i) : l.getD j false = true := (getD_listed h).resolve_left hne
theorem wpOp_want {P : Program} {ops : Array Oper} {Q : Exit → Act → World → Prop} {i : Nat} {o : Oper} {K : Act → World → Prop} {a : Act} {w : World} (ho : ops[i]? = some o) (hg : Region.wanted o (yielded ops a.tmps) = true) (h : Oper.wp P o a w K Q) : wpOp P ops Q i K a w :=
  wpOp_step ho (fun K' hK' => by rw [if_pos hg]; exact Oper.wp_mono hK' h)
theorem wpOp_skip {P : Program} {ops : Array Oper} {Q : Exit → Act → World → Prop} {i : Nat} {o : Oper} {K : Act → World → Prop} {a : Act} {w : World} (ho : ops[i]? = some o) (hg : Region.wanted o (yielded ops a.tmps) = false) (h : K (a.put o.dst undef) w) : wpOp P ops Q i K a w :=
  wpOp_step ho (fun K' hK' => by rw [if_neg (by rw [hg]; decide)]; exact hK' _ _ h)
end Go.Proofs.Ytpeioogkbcejmaa
/- DERIVED. The contracts of bytes.Clone, Bytes, Read, Cut, Restart, Put. -/
namespace Go.Proofs.Ytpeioogkbcejmaa.Dsk
open Go.RowKit
set_option maxHeartbeats 1000000 in
theorem clone_own {L : List Int} {g off c n : Nat} {w : World} (hB : Byt w (some ⟨g, off, none⟩) c L) (hn : L.length = n) (hle : n ≤ 4294967296) :
    Calls Try.prog 28 #[.slice (some ⟨g, off, none⟩) n c] w fun e w' => ∃ v', e = .returned v' ∧ w'.ownsRow w.heap.size 5 1 v' n (vals L) ∧ Below w.heap.size w w' := by
  have HB := Lib.hid hB
  have Hn := Lib.hid hn
  have Hle := Lib.hid hle
  have hmade := World.ownsRow_made w (base := w.heap.size) (e := 5) (size := 1) #[] 0 (Nat.le_refl _) (Nat.zero_le _) rfl
  have Hmade := Lib.hid hmade
  have hne := fun (w : World) => Lib.run_eql_slice_nil w 33 5 (some ⟨g, off, none⟩) n c 0 0 Try.underlying33
  clear hB hn hmade hle
  go_enter Try.func28, Try.ntmps28
  go_wp2_with (at_builtin; refine wpList_append_any rfl (.tmp 5) (.tmp 6) rfl w.heap.size _ 0 [] rfl Hmade.out (some ⟨g, off, none⟩) n c L rfl Hn.out (HB.out.alloc _) (by have := Hle.out; omega) (by rw [World.size_alloc]; omega) ?_; intro v1 w1 hown1 hlow1; have Hown1 := Lib.hid hown1; have Hlow1 := Lib.hid hlow1; clear hown1 hlow1)
  go_ret
  have ho := Hown1.out
  rw [List.nil_append, Nat.zero_add] at ho
  exact ⟨_, rfl, ho, Hlow1.out _ _ ((Below.refl _ _).alloc (Nat.le_refl _) _) (Nat.le_refl _)⟩
theorem own_sl {w : World} {base n : Nat} {v : Value} {L : List Int} (h : w.ownsRow base 5 1 v n (vals L)) (hl : L.length = n) : SlB L v w := by
  obtain ⟨A, c, hv, hb⟩ := own_bytK h hl
  exact ⟨A, c, by rw [hl]; exact hv, hb⟩
theorem Dsk.byt {w : World} {K : DK} {D : DS} (h : Dsk w K D) : Byt w (some ⟨K.h, 0, none⟩) (D.data.length + K.sp.length) D.data :=
  ⟨by omega, (fun h => by cases h), fun _ => ⟨K.h, 0, rfl, h.hlt, fun j hj => by rw [Nat.zero_add]; exact body_cell h.body j hj⟩⟩
theorem DS.Ok.len {D : DS} (h : D.Ok) : D.data.length ≤ 2097152 := by have := h.whole128; have := h.most; omega
set_option maxHeartbeats 1000000 in
theorem bytes_any {w : World} {K : DK} {D : DS} (h : Dsk w K D) : Calls Try.prog 11 #[K.ptr] w fun e w' => ∃ v', e = .returned v' ∧ w'.ownsRow w.heap.size 5 1 v' D.data.length (vals D.data) ∧ Below w.heap.size w w' := by
  have Hm := Lib.hid (made_any h)
  obtain ⟨_, c1, _⟩ := row0 h.row
  have Hc := Lib.hid (clone_own h.byt rfl (Nat.le_trans h.ok.len (by decide)))
  unfold DK.ptr at *
  clear h
  go_enter Try.func11, Try.ntmps11
  go_wp2_with (first
    | (go_at_call 27; refine Hm.out.mono ?_; rintro e w' ⟨rfl, rfl⟩)
    | (go_at_call 28; refine Hc.out.mono ?_; rintro e w1 ⟨v1, rfl, ho, hb⟩; have Ho := Lib.hid ho; have Hb := Lib.hid hb; clear ho hb))
  go_ret
  exact ⟨_, rfl, Ho.out, Hb.out⟩
theorem within_yes {k n : Int} {s : Nat} (h : withinI k n s = true) : ∃ a b : Nat, k = a ∧ n = b ∧ a + b ≤ s := by
  simp [withinI] at h
  exact ⟨k.toNat, n.toNat, by omega, by omega, by omega⟩
theorem within_of {a b s : Nat} (h : a + b ≤ s) : withinI a b s = true := by
  simp [withinI]; omega
set_option maxHeartbeats 1000000 in
theorem read_own {w : World} {K : DK} {D : DS} (h : Dsk w K D) (a b : Nat) (hab : a + b ≤ D.secs) (ho : D.off = false) : Calls Try.prog 37 #[K.ptr, .int .i64 a, .int .i64 b] w fun e w' => ∃ v', e = .returned (.tuple #[v', .int .i64 0]) ∧ Below w.heap.size w w' ∧ w'.ownsRow w.heap.size 5 1 v' (b * 128) (vals ((D.data.drop (a * 128)).take (b * 128))) := by
  have hm := h.ok.most
  have Hs := Lib.hid (sectors_count h)
  have Hw := Lib.hid (within_any a b D.secs w (by omega) (by omega) (by omega))
  have Hr := Lib.hid (refuses_any h (withinI a b D.secs))
  rw [within_of hab] at Hw Hr
  rw [show refE D true = 0 by simp [refE, ho]] at Hr
  have Hx := Lib.hid (sectors_any h a b hab)
  have hcap : a * 128 + b * 128 ≤ D.data.length := by have := h.ok.whole128; omega
  have hle := h.ok.len
  have Hc : Hid (Calls Try.prog 28 #[secV K a b (D.data.length + K.sp.length)] w fun e w' => ∃ v', e = .returned v' ∧ w'.ownsRow w.heap.size 5 1 v' (b * 128) (vals ((D.data.drop (a * 128)).take (b * 128))) ∧ Below w.heap.size w w') := by
    unfold secV
    by_cases e : D.data.length + K.sp.length = a * 128
    · rw [if_pos e]
      refine clone_own ⟨by simp; omega, (fun h => by cases h), fun hl => ?_⟩ (by simp; omega) (by omega)
      simp at hl; omega
    · rw [if_neg e]
      refine clone_own ⟨by simp; omega, (fun h => by cases h), fun hl => ⟨K.h, a * 128, rfl, h.hlt, fun j hj => ?_⟩⟩ (by simp; omega) (by omega)
      rw [List.length_take, List.length_drop] at hj
      rw [body_cell h.body _ (by omega)]
      simp [List.getD_eq_getElem?_getD, show j < b * 128 by omega]
  have hl : ((D.data.drop (a * 128)).take (b * 128)).length = b * 128 := by simp; omega
  obtain ⟨V, hV⟩ : ∃ V, V = secV K a b (D.data.length + K.sp.length) := ⟨_, rfl⟩
  rw [← hV] at Hx Hc
  obtain ⟨R, hR⟩ : ∃ R, R = (D.data.drop (a * 128)).take (b * 128) := ⟨_, rfl⟩
  rw [← hR] at Hc hl ⊢
  have Hl := Lib.hid hl
  obtain ⟨s, hs⟩ : ∃ s, s = D.secs := ⟨_, rfl⟩
  rw [← hs] at Hs Hw hm hab
  unfold DK.ptr at *
  clear h hs ho hV hR hl hcap hle
  go_enter Try.func37, Try.ntmps37
  go_wp2_with (first
    | (go_at_call 36; refine Hs.out.mono ?_; rintro e w' ⟨rfl, rfl⟩)
    | (go_at_call 35; refine Hw.out.mono ?_; rintro e w' ⟨rfl, rfl⟩)
    | (go_at_call 39; refine Hr.out.mono ?_; rintro e w' ⟨rfl, rfl⟩)
    | (go_at_call 45; refine Hx.out.mono ?_; rintro e w' ⟨rfl, rfl⟩)
    | (go_at_call 28; refine Hc.out.mono ?_; rintro e w1 ⟨v1, rfl, ho, hb⟩; have Ho := Lib.hid ho; have Hb := Lib.hid hb; clear ho hb))
  go_ret2
  exact ⟨_, rfl, Hb.out, Ho.out⟩
theorem read_ok {w : World} {K : DK} {D : DS} (h : Dsk w K D) (a b : Nat) (hab : a + b ≤ D.secs) (ho : D.off = false) : Calls Try.prog 37 #[K.ptr, .int .i64 a, .int .i64 b] w fun e w' => ∃ v', e = .returned (.tuple #[v', .int .i64 0]) ∧ Below w.heap.size w w' ∧ SlB ((D.data.drop (a * 128)).take (b * 128)) v' w' := by
  refine (read_own h a b hab ho).mono ?_
  rintro e w' ⟨v, rfl, hb, hown⟩
  exact ⟨v, rfl, hb, own_sl hown (by have := h.ok.whole128; simp; omega)⟩
set_option maxHeartbeats 1000000 in
theorem read_no {w : World} {K : DK} {D : DS} (h : Dsk w K D) (k n : Int) (hk : k ≤ 9223372036854775807) (e0 : refE D (withinI k n D.secs) ≠ 0) : Calls Try.prog 37 #[K.ptr, .int .i64 k, .int .i64 n] w fun e w' => e = .returned (.tuple #[.slice none 0 0, .int .i64 (refE D (withinI k n D.secs))]) ∧ w = w' := by
  have Hs := Lib.hid (sectors_count h)
  have Hw := Lib.hid (within_any k n D.secs w hk (by omega) (by have := h.ok.most; omega))
  have Hr := Lib.hid (refuses_any h (withinI k n D.secs))
  obtain ⟨s, hs⟩ : ∃ s, s = D.secs := ⟨_, rfl⟩
  rw [← hs] at Hs Hw Hr e0 ⊢
  obtain ⟨W, hW⟩ : ∃ W, W = withinI k n s := ⟨_, rfl⟩
  rw [← hW] at Hw Hr e0 ⊢
  obtain ⟨E, hE⟩ : ∃ E, E = refE D W := ⟨_, rfl⟩
  rw [← hE] at Hr e0 ⊢
  unfold DK.ptr at *
  clear h hs hW hE hk
  go_enter Try.func37, Try.ntmps37
  go_wp2_with (first
    | (go_at_call 36; refine Hs.out.mono ?_; rintro e w' ⟨rfl, rfl⟩)
    | (go_at_call 35; refine Hw.out.mono ?_; rintro e w' ⟨rfl, rfl⟩)
    | (go_at_call 39; refine Hr.out.mono ?_; rintro e w' ⟨rfl, rfl⟩))
  go_ret2
  exact ⟨rfl, rfl⟩
end Go.Proofs.Ytpeioogkbcejmaa.Dsk
/- DERIVED. The contracts of disk's Cut, Restart (step.py writes this text out of mut.txt). -/
namespace Go.Proofs.Ytpeioogkbcejmaa.Dsk
open Go.RowKit
theorem info46 : (Try.prog.info? 64).map (·.size) = some 18 := by kernel_rfl
theorem info16 : (Try.prog.info? 34).map (·.size) = some 16 := by kernel_rfl
theorem built_cut (m : List Int) (k : Int) (hm : m.length = 16) : Try.prog.built 64 [(0, .bool true), (1, .int .i64 k), (2, .agg (u8s m))] = some (cutC true k m).toArray := by
  obtain ⟨f, hf⟩ : ∃ f : Nat → Int, m = (List.range 16).map f := ⟨fun j => m.getD j 0, by
    apply List.ext_getElem
    · simp [hm]
    · intro i h1 h2
      simp [h1]⟩
  subst hf
  kernel_rfl
theorem built_zero : Try.prog.built 64 [] = some (cutC false 0 z16).toArray := by kernel_rfl
theorem cutC_one (l : Bool) (k : Int) (m : List Int) : (cutC l k m).toArray.all (·.oneCell') = true := by
  apply all_oneCell_toArray
  intro v hv
  simp only [cutC, List.mem_cons] at hv
  rcases hv with rfl | rfl | hv
  · rfl
  · rfl
  · exact vals_one _ v hv
theorem cutC_len (l : Bool) (k : Int) (m : List Int) (hm : m.length = 16) : (cutC l k m).length = 18 := by simp [cutC, vals, hm]
theorem inb16 : InB z16 := by
  intro j
  simp only [z16, List.getD_eq_getElem?_getD, List.getElem?_replicate]
  split <;> simp
/-- Cut: an error, or the cut laid. -/
def cutD (D : DS) (k : Int) (m : List Int) : DS := if refE D (decide (0 ≤ k)) = 0 then { D with laid := true, whole := k, mask := m } else D
theorem cutD_no {D : DS} {k : Int} {m : List Int} (h : ¬ refE D (decide (0 ≤ k)) = 0) : cutD D k m = D := if_neg h
theorem cutD_yes {D : DS} {k : Int} {m : List Int} (h : refE D (decide (0 ≤ k)) = 0) : cutD D k m = { D with laid := true, whole := k, mask := m } := if_pos h
set_option maxRecDepth 100000 in
set_option maxHeartbeats 1000000 in
theorem cut_any {w : World} {K : DK} {D : DS} (h : Dsk w K D) (k : Int) (m : List Int) (hk : k ≤ 9223372036854775807) (hm : m.length = 16) (hb : InB m) : Calls Try.prog 19 #[K.ptr, .int .i64 k, .agg (u8s m)] w fun e w' => e = .returned (.int .i64 (refE D (decide (0 ≤ k)))) ∧ Dsk w' K (cutD D k m) ∧ Chg K.bl w w' := by
  have h' := h.later ((Below.refl w.heap.size w).alloc (Nat.le_refl _) (.cells (u8s m) 34))
  have Hr := Lib.hid (refuses_any h' (decide (0 ≤ k)))
  have Hm : Hid ((Try.prog.info? 34).map (·.size) = some (u8s m).size) := by show _ = _; rw [u8s_size, hm]; exact info16
  have H := Lib.hid h'
  have Hlen := Lib.hid hm
  have Hb := Lib.hid hb
  by_cases e0 : refE D (decide (0 ≤ k)) = 0
  · rw [e0] at Hr ⊢
    rw [cutD_yes e0]
    have hk0 : 0 ≤ k := by
      by_cases h0 : 0 ≤ k
      · exact h0
      · rw [decide_eq_false h0] at e0; simp [refE] at e0
    obtain ⟨b, hbb⟩ : ∃ b, b = decide (0 ≤ k) := ⟨_, rfl⟩
    have hbt : b = true := by rw [hbb]; exact decide_eq_true hk0
    rw [← hbb, hbt] at Hr
    unfold DK.ptr at *
    clear h h' e0 hm hb hbb hbt
    go_enter Try.func19, Try.ntmps19
    go_upto_region 4 with (go_at_call 39; refine Hr.out.mono ?_; rintro e w' ⟨rfl, rfl⟩)
    refine wp_region_lit ?_
    refine wpList_plain rfl (fun K hK => ?_)
    go_simp
    refine hK _ _ ?_
    clear hK
    clear K
    refine wpList_plain rfl (fun K hK => ?_)
    go_simp
    refine hK _ _ ?_
    clear hK
    clear K
    refine wpList_load_row rfl 34 (.tmp 5) rfl w.heap.size (by rfl) 34 (u8s m) (0, 0) _ (Go.heap_alloc_new w _) Try.underlying34 rfl Hm.out ?_
    refine wpList_buildTo rfl 64 #[(0, .const (.bool true)), (1, .tmp 16), (2, .tmp 17)] rfl (some 18) rfl (cutC true k m).toArray (by simp only [List.map_toArray, List.map_cons, List.map_nil]; exact built_cut m k Hlen.out) ?_
    refine wpList_plain rfl (fun K hK => ?_)
    go_simp
    refine hK _ _ ?_
    clear hK
    clear K
    refine wpList_plain rfl (fun K hK => ?_)
    go_simp
    refine hK _ _ ?_
    clear hK
    clear K
    refine wpList_store_mid rfl 64 (.tmp 20) (.tmp 18) rfl K.g 4 (cutC true k m).toArray rfl rfl (by rw [List.size_toArray, cutC_len _ _ _ Hlen.out]; exact H.out.there) (by rw [List.size_toArray, cutC_len _ _ _ Hlen.out]; exact info46) (cutC_one _ _ _) ?_
    refine wpList_nil ?_
    go_simp
    go_wp2
    go_ret
    refine ⟨rfl, H.out.setCut true k m Hlen.out Hb.out hk0 hk, ?_⟩
    exact ((Chg.refl _ _).alloc _).setCells (by simp [DK.bl]) _ _
  · rw [cutD_no e0]
    obtain ⟨E, hE⟩ : ∃ E, E = refE D (decide (0 ≤ k)) := ⟨_, rfl⟩
    rw [← hE] at Hr e0 ⊢
    obtain ⟨b, hbb⟩ : ∃ b, b = decide (0 ≤ k) := ⟨_, rfl⟩
    rw [← hbb] at Hr
    have hbb' : (0 ≤ k) = (b = true) := by rw [hbb]; simp
    unfold DK.ptr at *
    clear h h' hE hm hb
    cases b
    · have hk1 : ¬ 0 ≤ k := by rw [hbb']; decide
      clear hbb hbb'
      go_enter Try.func19, Try.ntmps19
      go_wp2_with (go_at_call 39; refine Hr.out.mono ?_; rintro e w' ⟨rfl, rfl⟩)
      go_ret
      exact ⟨rfl, H.out, (Chg.refl _ _).alloc _⟩
    · have hk1 : 0 ≤ k := by rw [hbb']
      clear hbb hbb'
      go_enter Try.func19, Try.ntmps19
      go_wp2_with (go_at_call 39; refine Hr.out.mono ?_; rintro e w' ⟨rfl, rfl⟩)
      go_ret
      exact ⟨rfl, H.out, (Chg.refl _ _).alloc _⟩
def restD (D : DS) : DS := { D with off := false, laid := false, whole := 0, mask := z16 }
set_option maxRecDepth 100000 in
set_option maxHeartbeats 1000000 in
theorem restart_any {w : World} {K : DK} {D : DS} (h : Dsk w K D) : Calls Try.prog 20 #[K.ptr] w fun e w' => e = .returned (.int .i64 0) ∧ Dsk w' K (restD D) ∧ Chg K.bl w w' := by
  have Hr := Lib.hid (made_any h)
  have H := Lib.hid h
  obtain ⟨_, _, _, c3, _⟩ := row0 h.row
  have f3 := free_row h.row 3
  unfold DK.ptr at *
  clear h
  go_enter Try.func20, Try.ntmps20
  go_upto_region 3 with (go_at_call 27; refine Hr.out.mono ?_; rintro e w' ⟨rfl, rfl⟩)
  refine wp_region_lit ?_
  refine wpList_plain rfl (fun K hK => ?_)
  go_simp
  refine hK _ _ ?_
  clear hK
  clear K
  refine wpList_plain rfl (fun K hK => ?_)
  go_simp
  refine hK _ _ ?_
  clear hK
  clear K
  refine wpList_buildTo rfl 64 #[] rfl (some 8) rfl (cutC false 0 z16).toArray (by simp only [List.map_toArray, List.map_nil]; exact built_zero) ?_
  refine wpList_plain rfl (fun K hK => ?_)
  go_simp
  refine hK _ _ ?_
  clear hK
  clear K
  refine wpList_plain rfl (fun K hK => ?_)
  go_simp
  refine hK _ _ ?_
  clear hK
  clear K
  refine wpList_plain rfl (fun K hK => ?_)
  go_simp
  refine hK _ _ ?_
  clear hK
  clear K
  refine wpList_plain rfl (fun K hK => ?_)
  go_simp
  refine hK _ _ ?_
  clear hK
  clear K
  refine wpList_plain rfl (fun K hK => ?_)
  go_simp
  refine hK _ _ ?_
  clear hK
  clear K
  have h2 := H.out.setOff false
  refine wpList_store_mid rfl 64 (.tmp 12) (.tmp 8) rfl K.g 4 (cutC false 0 z16).toArray rfl rfl (by rw [List.size_toArray, cutC_len _ _ _ rfl]; exact h2.there) (by rw [List.size_toArray, cutC_len _ _ _ rfl]; exact info46) (cutC_one _ _ _) ?_
  refine wpList_nil ?_
  go_simp
  go_wp2
  go_ret
  exact ⟨rfl, h2.setCut false 0 z16 rfl inb16 (by decide) (by decide), ((Chg.refl _ _).setCell (p := ⟨K.g, 3, none⟩) (by simp [DK.bl]) _).setCells (by simp [DK.bl]) _ _⟩
end Go.Proofs.Ytpeioogkbcejmaa.Dsk
