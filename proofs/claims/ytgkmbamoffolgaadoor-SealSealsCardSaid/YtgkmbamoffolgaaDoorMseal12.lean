/- DERIVED. Texts of ours, merged: XChg XRegionCall XCopyChg XAppend XSealPad XSl XSlUntil. -/
import Derived.Test.YtgkmbamoffolgaaDoorMseal5
import Derived.Laws.CopyOwn
import Derived.Laws.IdiomCopy
import Derived.Test.YtgkmbamoffolgaaDoorMseal6
import Derived.Test.YtgkmbamoffolgaaDoorProg
import Derived.Maps.AppendAt
import Derived.Laws.AppendOwnNone
import Derived.OwnWalk
import Derived.Test.YtgkmbamoffolgaaDoorMseal11
/- DERIVED. Blocks that were there are as they were, but for some. No program. -/
namespace Go.Proofs.YtgkmbamoffolgaaDoor
open Go.RowKit
structure Chg (S : List Nat) (w w' : World) : Prop where
  os : w'.os = w.os
  tape : w'.tape = w.tape
  output : w'.output = w.output
  size : w.heap.size ≤ w'.heap.size
  block : ∀ k, k < w.heap.size → k ∉ S → w'.heap[k]? = w.heap[k]?
theorem Chg.refl (S : List Nat) (w : World) : Chg S w w := ⟨rfl, rfl, rfl, Nat.le_refl _, fun _ _ _ => rfl⟩
theorem Chg.trans {S : List Nat} {a b c : World} (h : Chg S a b) (k : Chg S b c) : Chg S a c :=
  ⟨k.os.trans h.os, k.tape.trans h.tape, k.output.trans h.output, Nat.le_trans h.size k.size, fun i hi hS => (k.block i (Nat.lt_of_lt_of_le hi h.size) hS).trans (h.block i hi hS)⟩
theorem Chg.mono {S T : List Nat} {a b : World} (h : Chg S a b) (hs : ∀ k ∈ S, k ∈ T ∨ a.heap.size ≤ k) : Chg T a b :=
  ⟨h.os, h.tape, h.output, h.size, fun i hi hS => h.block i hi (fun hm => by rcases hs i hm with h | h; exact hS h; omega)⟩
theorem Chg.of_below {S : List Nat} {a b : World} (h : Below a.heap.size a b) : Chg S a b := ⟨h.os, h.tape, h.output, h.size, fun k hk _ => h.block k hk⟩
theorem Chg.below {S : List Nat} {B : Nat} {u a b : World} (h : Chg S a b) (hb : Below B u a) (hB : B ≤ a.heap.size) (hS : ∀ k ∈ S, B ≤ k) : Below B u b :=
  hb.trans ⟨h.os, h.tape, h.output, h.size, fun k hk => h.block k (by omega) (fun hm => by have := hS k hm; omega)⟩
theorem Chg.setCell {S : List Nat} {a b : World} (h : Chg S a b) {p : Addr} (hp : p.block ∈ S) (u : Value) : Chg S a (b.setCell p u) :=
  h.trans ⟨rfl, rfl, rfl, by simp [World.setCell], fun k _ hS => Below.heap_setCell _ _ _ _ (fun e => hS (by rw [e]; exact hp))⟩
theorem Chg.alloc {S : List Nat} {a b : World} (h : Chg S a b) (o : Obj) : Chg S a (b.alloc o) := h.trans (Chg.of_below ((Below.refl _ _).alloc (Nat.le_refl _) _))
theorem Chg.at {S : List Nat} {a b : World} (h : Chg S a b) {g : Nat} {o : Obj} (hg : a.heap[g]? = some o) (hS : g ∉ S) : b.heap[g]? = some o :=
  (h.block g (Array.getElem?_eq_some_iff.1 hg).1 hS).trans hg
theorem Chg.setCells {S : List Nat} {a b : World} (h : Chg S a b) {g : Nat} (hp : g ∈ S) : ∀ (vs : List Value) (o : Nat), Chg S a (b.setCells g o vs) := by
  intro vs
  induction vs generalizing b with
  | nil => exact fun _ => h
  | cons v r ih => exact fun o => ih (h.setCell (p := ⟨g, o, none⟩) hp v) (o + 1)
/-- bytes in a block that stays. -/
theorem Byt.chg {S : List Nat} {L : List Int} {A : Option Addr} {c : Nat} {w w' : World} (h : Byt w A c L) (hc : Chg S w w') (hS : ∀ a, A = some a → a.block ∉ S) : Byt w' A c L := by
  obtain ⟨h1, h2, h3⟩ := h
  refine ⟨h1, h2, fun hl => ?_⟩
  obtain ⟨g, off, hA, hg, hb⟩ := h3 hl
  exact ⟨g, off, hA, Nat.lt_of_lt_of_le hg hc.size, fun j hj => (World.cell?_of_block (hc.block g hg (hS _ hA))).trans (hb j hj)⟩
theorem splice_set {α : Type} (L : List α) (o : Nat) (v : α) (r : List α) (h : o < L.length) : splice (L.set o v) (o + 1) r = splice L o (v :: r) := by
  have e1 : (L.set o v).take (o + 1) = L.take o ++ [v] := by
    rw [List.take_succ_eq_append_getElem (by simpa using h), List.take_set_of_le (Nat.le_refl _)]; simp
  have e2 : (L.set o v).drop (o + 1 + r.length) = L.drop (o + 1 + r.length) := List.drop_set_of_lt (by omega)
  unfold splice
  rw [e1, e2, List.length_cons, List.append_assoc, show o + 1 + r.length = o + (r.length + 1) by omega]
  rfl
/-- the cells of a row, many written at once. -/
theorem heap_setCells {T : Nat} {g : Nat} : ∀ (vs : List Value) (o : Nat) (w : World) (C : Array Value), w.heap[g]? = some (.cells C T (0, 0)) → o + vs.length ≤ C.size →
    (w.setCells g o vs).heap[g]? = some (.cells (splice C.toList o vs).toArray T (0, 0)) := by
  intro vs
  induction vs with
  | nil => intro o w C h _; simpa [World.setCells, splice] using h
  | cons v r ih =>
    intro o w C h hs
    simp only [List.length_cons] at hs
    rw [World.setCells]
    have h1 : (w.setCell ⟨g, o, none⟩ v).heap[g]? = some (.cells (C.setIfInBounds o v) T (0, 0)) := heap_setCell_same _ _ _ _ _ _ h
    rw [ih (o + 1) _ _ h1 (by rw [Array.size_setIfInBounds]; omega)]
    rw [Array.toList_setIfInBounds, splice_set C.toList o v r (by rw [Array.length_toList]; omega)]
end Go.Proofs.YtgkmbamoffolgaaDoor
/- DERIVED. A region that draws its order and holds one call, what comes ahead of it and behind it being pure. -/
namespace Go.Proofs.YtgkmbamoffolgaaDoor
section
variable {P : Program} {ops : Array Oper} {Q : Exit → Act → World → Prop} {md : Region.Mode}
/-- what has come up has come behind all that it waits for. -/
def Closed (md : Region.Mode) (ops : Array Oper) (l : Array Bool) : Prop := ∀ i j, l.getD i false = true → waitsB md ops i j = true → l.getD j false = true
theorem Closed.next {l : Array Bool} (h : Closed md ops l) (i : Nat) (hw : ∀ j, waitsB md ops i j = true → l.getD j false = true) : Closed md ops (l.setIfInBounds i true) := fun k j hk hj => by
  rcases getD_listed hk with rfl | hk
  · exact getD_set_true (hw j hj)
  · exact getD_set_true (h k j hk hj)
theorem Closed.none (n : Nat) : Closed md ops (Array.replicate n false) := fun i j h _ => by
  by_cases hi : i < n <;> simp [Array.getD_eq_getD_getElem?, hi] at h
theorem wpAny_inv2 (I : Array Bool → Act → World → Prop) (hs : ∀ l a w, I l a w → l.size = ops.size) (hb : backB md ops = true)
    (hfin : ∀ l a w, I l a w → (∀ i, i < ops.size → l.getD i false = true) → Q .normal a w)
    (hstep : ∀ l a w i, I l a w → Closed md ops l → i < ops.size → l.getD i false = false → (∀ j, waitsB md ops i j = true → l.getD j false = true) → wpOp P ops Q i (I (l.setIfInBounds i true)) a w)
    (n : Nat) (hn : n = ops.size) (a : Act) (w : World) (h0 : I (Array.replicate n false) a w) : wpAny P md ops Q n (Array.replicate n false) a w := by
  subst hn
  refine wpAny_inv (fun l a w => I l a w ∧ Closed md ops l) (fun l a w h => hs l a w h.1) hb (fun l a w h => hfin l a w h.1) ?_ _ _ _ _ (unlisted_none _) ⟨h0, Closed.none _⟩
  intro l a w i h hi hu hw
  exact wpOp_mono (fun a' w' h' => ⟨h', h.2.next i hw⟩) (hstep l a w i h.1 h.2 hi hu hw)
end
theorem Holding.swap {dsts : List Nat} {vl vl' : List (Option Value)} {l : Array Bool} {s : Nat → Value} (h : Holding dsts vl l s) (he : ∀ j, l.getD j false = true → vl'.getD j none = vl.getD j none) : Holding dsts vl' l s := fun j v hl hj => h j v hl (by rw [← he j hl]; exact hj)
/-- the world, by whether the call (operation q of n) has come. -/
structure CI (n q : Nat) (W0 : World) (P : World → Prop) (L : Array Bool) (wx : World) : Prop where
  sz : L.size = n
  bef : L.getD q false = false → wx = W0
  aft : L.getD q false = true → P wx
theorem CI.read {n q : Nat} {W0 : World} {P : World → Prop} {L : Array Bool} {wx : World} (h : CI n q W0 P L wx) (i : Nat) (hi : i ≠ q) : CI n q W0 P (L.setIfInBounds i true) wx :=
  ⟨by simp [h.sz], by rw [getD_set_ne false hi]; exact h.bef, by rw [getD_set_ne false hi]; exact h.aft⟩
theorem CI.call {n q : Nat} {W0 : World} {P P' : World → Prop} {L : Array Bool} {wx wy : World} (h : CI n q W0 P L wx) (hq : q < n) (hp : P' wy) : CI n q W0 P' (L.setIfInBounds q true) wy :=
  ⟨by simp [h.sz], fun hl => by simp [h.sz, hq] at hl, fun _ => hp⟩
theorem not_listed {a b : Bool} (h : a = true → b = true) (hb : b = false) : a = false := by
  cases a with
  | false => rfl
  | true => rw [h rfl] at hb; cases hb
end Go.Proofs.YtgkmbamoffolgaaDoor
/- DERIVED. copy of any slice of bytes into a row, as an operation of a plain region or of one that draws; what holds until the last operation that changes memory comes. No number of a type. -/
namespace Go.Proofs.YtgkmbamoffolgaaDoor
open Go.RowKit
theorem chg_row {S : List Nat} {g : Nat} (w : World) (C : Array Value) (hg : g ∈ S) : Chg S w (w.setRow g C) :=
  ⟨rfl, rfl, rfl, by simp [World.setRow], fun k _ hS => setRow_other w g k C (fun e => hS (by rw [e]; exact hg))⟩
theorem infoC1 : (Tryd.prog.info? 5).map (·.size) = some 1 := by kernel_rfl
theorem wp_copy_chg {w : World} {o : Oper} {a : Act} {K : Act → World → Prop} {Q : Exit → Act → World → Prop} (d s : Operand)
    (ho : o.op = .call { callee := .builtin .copy, args := #[d, s], argTypes := #[24, 24] })
    (dp : Option Addr) (dLen dCap : Nat) (A : Option Addr) (m c : Nat) (b : List Int) (hd : a.eval d = .slice dp dLen dCap) (hs : a.eval s = .slice A m c) (hm : b.length = m) (hB : Byt w A c b) (hmd : m ≤ dLen)
    (g off : Nat) (cur : List Value) (T : TypeId) (hg : w.heap[g]? = some (.cells cur.toArray T (0, 0))) (hdp : 0 < m → dp = some ⟨g, off, none⟩) (hfit : off + m ≤ cur.length)
    (h : ∀ w', w'.heap[g]? = some (.cells (splice cur off (vals b)).toArray T (0, 0)) → Chg [g] w w' → K (a.put o.dst (goInt m)) w') :
    Oper.wp Tryd.prog o a w K Q := by
  by_cases h0 : m = 0
  · subst h0
    obtain rfl : b = [] := List.eq_nil_of_length_eq_zero hm
    have hrun := run_copy_none (P := Tryd.prog) w 24 24 o.type 5 dp A dLen dCap 0 c Tryd.underlying24 infoC1 (by simp)
    unfold Oper.wp
    simp [execOp, ho, resolve, invoke, builtin, hd, hs, hrun, Result.andThen]
    exact h w (by simpa [splice, vals] using hg) (Chg.refl _ _)
  · have hdp' := hdp (by omega)
    subst hdp'
    obtain ⟨gb, ob, rfl, hgb, hc⟩ := hB.2.2 (by omega)
    have hv : (vals b).length = m := by rw [vals_length, hm]
    have hrun := run_copy_row (P := Tryd.prog) w 24 24 o.type 5 g off dLen dCap ⟨gb, ob, none⟩ m c cur.toArray T (vals b) Tryd.underlying24 infoC1 hg (by rw [hv]; exact (Nat.min_eq_left hmd).symm)
      (fun j v hj => by obtain ⟨hj', rfl⟩ := vals_get hj; rw [Addr.add_mid]; exact hc j hj') (by rw [hv]; simpa using hfit) (vals_one _)
    unfold Oper.wp
    simp [execOp, ho, resolve, invoke, builtin, hd, hs, hrun, Result.andThen]
    rw [hv]
    refine h _ ?_ (chg_row _ _ (List.mem_singleton.2 rfl))
    rw [setRow_heap w g _ _ T _ hg]
    simp [splice, hv]
theorem wpList_copy_chgT {w : World} {ops : Array Oper} {rest : List Oper} {o : Oper} {a : Act} {Q : Exit → Act → World → Prop} (hgd : o.guard = none) (d s : Operand)
    (ho : o.op = .call { callee := .builtin .copy, args := #[d, s], argTypes := #[24, 24] })
    (dp : Option Addr) (dLen dCap : Nat) (A : Option Addr) (m c : Nat) (b : List Int) (hd : a.eval d = .slice dp dLen dCap) (hs : a.eval s = .slice A m c) (hm : b.length = m) (hB : Byt w A c b) (hmd : m ≤ dLen)
    (g off : Nat) (cur : List Value) (T : TypeId) (hg : w.heap[g]? = some (.cells cur.toArray T (0, 0))) (hdp : 0 < m → dp = some ⟨g, off, none⟩) (hfit : off + m ≤ cur.length)
    (h : ∀ w', w'.heap[g]? = some (.cells (splice cur off (vals b)).toArray T (0, 0)) → Chg [g] w w' → wpList Tryd.prog ops Q rest (a.put o.dst (goInt m)) w') :
    wpList Tryd.prog ops Q (o :: rest) a w := by
  by_cases h0 : m = 0
  · subst h0
    obtain rfl : b = [] := List.eq_nil_of_length_eq_zero hm
    refine wpList_copy_nothing hgd d s 24 24 ho 5 Tryd.underlying24 infoC1 dp A dLen dCap 0 c hd hs (by simp) ?_
    exact h w (by simpa [splice, vals] using hg) (Chg.refl _ _)
  · have hdp' := hdp (by omega)
    subst hdp'
    obtain ⟨gb, ob, rfl, hgb, hc⟩ := hB.2.2 (by omega)
    have hv : (vals b).length = m := by rw [vals_length, hm]
    refine wpList_copy_own hgd d s 24 24 ho 5 Tryd.underlying24 infoC1 g off dLen dCap ⟨gb, ob, none⟩ m c hd hs cur.toArray T hg (vals b) (by rw [hv]; exact (Nat.min_eq_left hmd).symm)
      (fun j v hj => by obtain ⟨hj', rfl⟩ := vals_get hj; rw [Addr.add_mid]; exact hc j hj') (by rw [hv]; simpa using hfit) (vals_one _) ?_
    rw [hv]
    refine h _ ?_ (chg_row _ _ (List.mem_singleton.2 rfl))
    rw [setRow_heap w g _ _ _ _ hg]
    simp [splice, hv]
/-- until operation q comes, nothing that was there changes; then P holds. -/
structure LastR (q : Nat) (W : World) (P : World → Prop) (ll : Array Bool) (wx : World) : Prop where
  bef : ll.getD q false = false → Below W.heap.size W wx
  aft : ll.getD q false = true → P wx
theorem LastR.start {q : Nat} {W : World} {P : World → Prop} {n : Nat} : LastR q W P (Array.replicate n false) W.drew :=
  ⟨fun _ => (Below.refl _ _).drew, fun hl => by
    have : (Array.replicate n false).getD q false = false := by
      by_cases hn : q < n <;> simp [Array.getD_eq_getD_getElem?, hn]
    rw [this] at hl; cases hl⟩
theorem LastR.same {q : Nat} {W wx : World} {P : World → Prop} {ll : Array Bool} {i : Nat} (h : LastR q W P ll wx) (hi : i ≠ q) : LastR q W P (ll.setIfInBounds i true) wx :=
  ⟨by rw [getD_set_ne false hi]; exact h.bef, by rw [getD_set_ne false hi]; exact h.aft⟩
theorem LastR.call {q : Nat} {W wx w' : World} {P : World → Prop} {ll : Array Bool} {i : Nat} (h : LastR q W P ll wx) (hi : i ≠ q) (hnl : ll.getD q false = false) (hb : Below wx.heap.size wx w') : LastR q W P (ll.setIfInBounds i true) w' :=
  ⟨fun _ => (h.bef hnl).trans (hb.mono (h.bef hnl).size), fun hl => by rw [getD_set_ne false hi, hnl] at hl; cases hl⟩
theorem LastR.done {q : Nat} {W w' wx : World} {P : World → Prop} {ll : Array Bool} (_h : LastR q W P ll wx) (hs : q < ll.size) (hp : P w') : LastR q W P (ll.setIfInBounds q true) w' :=
  ⟨fun hl => by simp [hs] at hl, fun _ => hp⟩
theorem notlisted {ll : Array Bool} {i q : Nat} (hu : ll.getD i false = false) (h : ll.getD q false = true → ll.getD i false = true) : ll.getD q false = false := by
  cases e : ll.getD q false
  · rfl
  · rw [h e] at hu; cases hu
end Go.Proofs.YtgkmbamoffolgaaDoor
/- DERIVED. append of any slice of bytes, nil let in, to a row of the call's own. -/
namespace Go.Proofs.YtgkmbamoffolgaaDoor
open Go.RowKit
theorem info8z : (Tryd.prog.info? 5).map (fun i => (i.zero, i.size, i.bytes)) = some (some (.int .u8 0), 1, 1) := by kernel_rfl
theorem vals_app (L M : List Int) : vals L ++ vals M = vals (L ++ M) := by simp [vals]
theorem wpList_append_any {w : World} {ops : Array Oper} {rest : List Oper} {o : Oper} {a : Act} {Q : Exit → Act → World → Prop} (hgd : o.guard = none) (s x : Operand)
    (ho : o.op = .call { callee := .builtin .append, args := #[s, x], argTypes := #[24, 24] }) (base : Nat) (v : Value) (n : Nat) (L : List Int) (hs : a.eval s = v) (hown : w.ownsRow base 5 1 v n (vals L))
    (A : Option Addr) (m c : Nat) (M : List Int) (hx : a.eval x = .slice A m c) (hm : M.length = m) (hB : Byt w A c M) (h63 : n + m ≤ 4294967296) (hbase : base ≤ w.heap.size)
    (h : ∀ v' w', w'.ownsRow base 5 1 v' (n + m) (vals (L ++ M)) → (∀ B u, Below B u w → B ≤ base → Below B u w') → wpList Tryd.prog ops Q rest (a.put o.dst v') w') : wpList Tryd.prog ops Q (o :: rest) a w := by
  obtain ⟨i0, hi0, hz00, hz10, hz20⟩ := info_parts info8z
  cases A with
  | none =>
    have hc := hB.2.1 rfl
    have hm0 : m = 0 := by have := hB.1; omega
    subst hc hm0
    obtain rfl : M = [] := List.eq_nil_of_length_eq_zero hm
    refine wpList_append_own_none hgd s x 24 ho base 5 i0 1 Tryd.underlying24 hi0 v n (vals L) hs hown hx ?_
    exact h v w (by simpa using hown) (fun _ _ h _ => h)
  | some ad =>
    refine wpList_append_own_at _ hgd s x 24 ho base 5 i0 (.int .u8 0) 1 1 Tryd.underlying24 hi0 hz00 hz10 hz20 rfl (by decide) v n (vals L) hs hown ad m c (vals M) hx (by rw [vals_length, hm]; omega)
      (hB.cells (fun _ _ => rfl) ad rfl) (vals_one _) (by unfold maxLen; omega) (by omega) hbase ?_
    intro v' w' hown' hgrow _ _
    rw [vals_app] at hown'
    exact h v' w' hown' (fun B u hu hB' => hu.grown hgrow (by omega) (fun k hk => by have := (hown.lt k hk).1; omega))
end Go.Proofs.YtgkmbamoffolgaaDoor
/- DERIVED. The contracts of seal.padded and seal.joined. -/
namespace Go.Proofs.YtgkmbamoffolgaaDoor.Seal
open Go.RowKit
theorem splice_at {α : Type} (X Y Z : List α) : splice (X ++ Z) X.length Y = X ++ (Y ++ Z.drop Y.length) := by
  unfold splice
  rw [List.take_left, ← List.drop_drop, List.drop_left]
theorem splice_pad (L N : List Int) (hN : N.length = 4) (k : Nat) : splice (splice (vals (zeros k)) 0 (vals N)) 4 (vals L) = vals (N ++ (L ++ zeros (k - 4 - L.length))) := by
  have e1 : splice (vals (zeros k)) 0 (vals N) = vals N ++ vals (zeros (k - 4)) := by
    have := splice_at ([] : List Value) (vals N) (vals (zeros k))
    simp only [List.nil_append, List.length_nil] at this
    rw [this]
    simp [vals, zeros, hN]
  have e2 := splice_at (vals N) (vals L) (vals (zeros (k - 4)))
  rw [vals_length, hN] at e2
  rw [e1, e2]
  simp [vals, zeros]
theorem u8s_vals (L : List Int) : u8s L = (vals L).toArray := rfl
set_option maxRecDepth 100000 in
theorem padded_any (A : Option Addr) (n c B : Nat) (L : List Int) (hn : L.length = n) (hm : n ≤ 131068) (hB : B = bkt n) (w : World) (hb : Byt w A c L) : Calls Tryd.prog 23 #[.slice A n c, .int .i64 (B : Int)] w fun e w' => e = .returned (.slice (some ⟨w.heap.size, 0, none⟩) B B) ∧ w'.heap[w.heap.size]? = some (.cells (u8s (padL L)) 5 (0, 0)) ∧ Below w.heap.size w w' := by
  have hge : n + 4 ≤ B := by rw [hB]; exact bkt_ge hm
  have hle : B ≤ 131072 := by rw [hB]; exact (bkt_le hm).1
  have h64 : 64 ≤ B := by rw [hB]; exact (bkt_le hm).2
  have km := mk_any B (by omega) w
  have Hb := Lib.hid hb
  have Hn := Lib.hid hn
  have HB := Lib.hid hB
  have h4 : (4 : Int) ≤ B := by omega
  have h4' : ¬ B = 4 := by omega
  have h4n : 4 ≤ B := by omega
  clear hb hn hB
  go_enter Tryd.func23, Tryd.ntmps23
  go_upto_region 2 with (fail)
  have r0 := Go.heap_alloc_new w (.cells (u8s (zeros B)) 5)
  have b0 : Below w.heap.size w (w.alloc (.cells (u8s (zeros B)) 5)) := (Below.refl _ _).alloc (Nat.le_refl _) _
  have s0 : w.heap.size < (w.alloc (.cells (u8s (zeros B)) 5)).heap.size := by rw [World.size_alloc]; omega
  clear km
  generalize w.alloc _ = w0 at r0 b0 s0 ⊢
  have R0 := Lib.hid r0
  have B0 := Lib.hid b0
  have S0 := Lib.hid s0
  have HN := Lib.hid (number_any n 4 (by decide) (by omega) w0)
  have hnI : (n : Int) ≤ 131068 := by omega
  clear r0 b0 s0
  go_wp2_with (first
    | (go_at_call 26; refine HN.out.mono ?_; rintro e w1 ⟨rfl, hr1, hb1⟩; have R1 : Hid (w1.heap[w.heap.size]? = some (.cells (vals (zeros B)).toArray 5 (0, 0))) := (hb1.block _ S0.out).trans R0.out; have B1 := Lib.hid (B0.out.trans (hb1.mono (Nat.le_of_lt S0.out))); have N1 := Lib.hid (byt_rowF hr1 (numL_length n 4)); have S1 := Lib.hid (Nat.lt_of_lt_of_le S0.out hb1.size); clear hr1 hb1)
    | (refine wpList_copy_chgT rfl (.tmp 8) (.tmp 12) rfl _ B B _ 4 4 (numL n 4) (by rfl) (by rfl) (numL_length n 4) N1.out h4n w.heap.size 0 _ 5 R1.out (fun _ => rfl) (by rw [vals_length, zeros, List.length_replicate]; omega) ?_; intro w2 hh2 hc2; have Hh2 := Lib.hid hh2; have Hc2 := Lib.hid hc2; have B2 := Lib.hid (hc2.below B1.out (Nat.le_of_lt S1.out) (fun q hq => by simp at hq; omega)); have Hb2 := Lib.hid (Hb.out.below B2.out (Nat.le_refl _)); have S2 := Lib.hid (Nat.lt_of_lt_of_le S1.out hc2.size); clear hh2 hc2)
    | (refine wpList_copy_chgT rfl (.tmp 15) (.tmp 16) rfl _ (B - 4) (B - 4) _ n c L (by rfl) (by rfl) Hn.out Hb2.out (by omega) w.heap.size 4 _ 5 Hh2.out (fun _ => rfl) (by simp [splice, vals, zeros, numL_length]; omega) ?_; intro w3 hh3 hc3; have Hh3 := Lib.hid hh3; have B3 := Lib.hid (hc3.below B2.out (Nat.le_of_lt S2.out) (fun q hq => by simp at hq; omega)); clear hh3 hc3))
  go_ret
  refine ⟨rfl, ?_, B3.out⟩
  rw [Hh3.out, u8s_vals, splice_pad L _ (numL_length n 4) B, padL, Hn.out, ← HB.out]
/-- the parts, one behind the other. -/
def catL (ps : List Part) : List Int := ps.flatMap (·.M)
theorem catL_snoc (ps : List Part) (j : Nat) (h : j < ps.length) : catL (ps.take (j + 1)) = catL (ps.take j) ++ ps[j].M := by
  unfold catL
  rw [List.take_succ_eq_append_getElem h, List.flatMap_append]
  simp
theorem catL_le (ps : List Part) (j : Nat) : (catL (ps.take j)).length ≤ (catL ps).length := by
  have : catL ps = catL (ps.take j) ++ (ps.drop j).flatMap (·.M) := by
    unfold catL
    rw [← List.flatMap_append, List.take_append_drop]
  rw [this, List.length_append]
  omega
set_option maxRecDepth 100000 in
theorem joined_any (Ap : Option Addr) (m c : Nat) (ps : List Part) (hm : ps.length = m) (hx : m ≤ 100) (w : World) (hP : PartsAt w Ap ps) (hT : (catL ps).length ≤ 400000) : Calls Tryd.prog 25 #[.slice Ap m c] w fun e w' => ∃ v, e = .returned v ∧ w'.ownsRow w.heap.size 5 1 v (catL ps).length (vals (catL ps)) ∧ Below w.heap.size w w' := by
  have HP := Lib.hid hP
  have Hm := Lib.hid hm
  have HT := Lib.hid hT
  clear hP hm hT
  go_enter Tryd.func25, Tryd.ntmps25
  go_wp2
  go_loopw [3, 8] (fun v i wr => ∃ j : Nat, j ≤ m ∧ i = .int .i64 j ∧ Hid (wr.ownsRow w.heap.size 5 1 v (catL (ps.take j)).length (vals (catL (ps.take j)))) ∧ Hid (Below w.heap.size w wr)) (fun _ i _ => m - (intOf i).toNat)
  case atStart => exact ⟨0, Nat.zero_le _, rfl, by show World.ownsRow _ _ _ _ _ _ _; simpa [catL, vals] using World.ownsRow_nil w w.heap.size 5 1, Below.refl _ _⟩
  case round =>
    obtain ⟨j, hj, rfl, own, low⟩ := hrel
    by_cases hlt : j < m
    · have hltp : j < ps.length := by have := Hm.out; omega
      obtain ⟨g, off, rfl, hg, hcell⟩ := HP.out.row j hltp
      obtain ⟨hpb, hpi⟩ := HP.out.byt j hltp
      have hsn := catL_snoc ps j hltp
      have hle := catL_le ps (j + 1)
      obtain ⟨p, hp⟩ : ∃ p, p = ps[j] := ⟨_, rfl⟩
      rw [← hp] at hcell hpb hsn
      obtain ⟨pA, pc, pM⟩ := p
      have cc : wr.cell? ⟨g, off + j, none⟩ = some (.slice pA pM.length pc) := (low.out.cell (p := ⟨g, off + j, none⟩) hg).trans hcell
      obtain ⟨C, hC⟩ : ∃ C, C = catL (ps.take j) := ⟨_, rfl⟩
      have own' := own.out
      rw [← hC] at own' hsn
      have hbd : C.length + pM.length ≤ 400000 := by
        have h1 : (catL (ps.take (j + 1))).length = C.length + pM.length := by rw [hsn, List.length_append]
        have := HT.out
        omega
      have Own' := Lib.hid own'
      have Hpb := Lib.hid (hpb.below low.out (Nat.le_refl _))
      have Hsn := Lib.hid hsn
      have hltI : (j : Int) < m := by omega
      have hsz := low.out.size
      clear own own' hcell hpb hpi hp hC hsn hle
      go_wp2_with (at_builtin; refine wpList_append_any rfl (.tmp 12) (.tmp 13) rfl w.heap.size _ C.length C rfl Own'.out pA pM.length pc pM rfl rfl Hpb.out (by omega) hsz ?_; intro v3 w3 own3 hlow3; have Own3 := Lib.hid own3; have Low3 := Lib.hid (hlow3 _ _ low.out (Nat.le_refl _)); clear own3 hlow3)
      go_roundw
      case rel => exact ⟨j + 1, by omega, by go_num, by have h := Own3.out; show World.ownsRow _ _ _ _ _ _ _; rw [Hsn.out, List.length_append]; exact h, Low3⟩
      case measure => simp [intOf]; omega
    · obtain rfl : j = m := by omega
      have own' := own.out
      rw [List.take_of_length_le (by rw [Hm.out]; exact Nat.le_refl _)] at own'
      have Own' := Lib.hid own'
      have hltI : ¬ (j : Int) < (j : Int) := by omega
      clear own own'
      go_wp2
      go_ret
      exact ⟨_, rfl, Own'.out, low.out⟩
end Go.Proofs.YtgkmbamoffolgaaDoor.Seal
/- DERIVED. A slice that reads as bytes, as one word; what regions by invariants want. -/
namespace Go.Proofs.YtgkmbamoffolgaaDoor
open Go.RowKit
def SlB (L : List Int) (v : Value) (w : World) : Prop := ∃ A c, v = .slice A L.length c ∧ Byt w A c L
theorem SlB.later {L : List Int} {v : Value} {w w' : World} (h : SlB L v w) (hb : Below w.heap.size w w') : SlB L v w' := by
  obtain ⟨A, c, e, b⟩ := h
  exact ⟨A, c, e, b.below hb (Nat.le_refl _)⟩
theorem SlB.at {L : List Int} {v : Value} {B : Nat} {w w' : World} (h : SlB L v w) (hb : Below B w w') (hB : w.heap.size ≤ B) : SlB L v w' := h.later (hb.mono hB)
/-- what holds of a value and the world as soon as an operation has come. -/
def Whn (l : Array Bool) (i : Nat) (p : Value → World → Prop) (v : Value) (w : World) : Prop := l.getD i false = true → p v w
theorem Whn.get {l : Array Bool} {i : Nat} {p : Value → World → Prop} {v : Value} {w : World} (h : Whn l i p v w) (hl : l.getD i false = true) : p v w := h hl
theorem Whn.keep {l : Array Bool} {i k : Nat} {p : Value → World → Prop} {v : Value} {w : World} (h : Whn l i p v w) (hne : i ≠ k) : Whn (l.setIfInBounds k true) i p v w := fun hl => h ((getD_listed hl).resolve_left hne)
theorem Whn.map {l : Array Bool} {i : Nat} {p : Value → World → Prop} {v : Value} {w w' : World} (h : Whn l i p v w) (f : p v w → p v w') : Whn l i p v w' := fun hl => f (h hl)
theorem Whn.done {l : Array Bool} {i : Nat} {p : Value → World → Prop} {v : Value} {w : World} (h : p v w) : Whn l i p v w := fun _ => h
theorem Whn.none {n i : Nat} {p : Value → World → Prop} {v : Value} {w : World} (h : (Array.replicate n false).getD i false = false) : Whn (Array.replicate n false) i p v w := fun hl => by rw [h] at hl; cases hl
theorem lst {l : Array Bool} {i j : Nat} (h : (l.setIfInBounds i true).getD j false = true) (hne : j ≠ i) : l.getD j false = true := (getD_listed h).resolve_left hne
theorem wpOp_want {P : Program} {ops : Array Oper} {Q : Exit → Act → World → Prop} {i : Nat} {o : Oper} {K : Act → World → Prop} {a : Act} {w : World} (ho : ops[i]? = some o) (hg : Region.wanted o (yielded ops a.tmps) = true) (h : Oper.wp P o a w K Q) : wpOp P ops Q i K a w :=
  wpOp_step ho (fun K' hK' => by rw [if_pos hg]; exact Oper.wp_mono hK' h)
theorem wpOp_skip {P : Program} {ops : Array Oper} {Q : Exit → Act → World → Prop} {i : Nat} {o : Oper} {K : Act → World → Prop} {a : Act} {w : World} (ho : ops[i]? = some o) (hg : Region.wanted o (yielded ops a.tmps) = false) (h : K (a.put o.dst undef) w) : wpOp P ops Q i K a w :=
  wpOp_step ho (fun K' hK' => by rw [if_neg (by rw [hg]; decide)]; exact hK' _ _ h)
end Go.Proofs.YtgkmbamoffolgaaDoor
/- DERIVED. What holds from one operation on until another one comes. -/
namespace Go.Proofs.YtgkmbamoffolgaaDoor
open Go.RowKit
/-- the same as Whn, until another operation comes. -/
def Whu (l : Array Bool) (i q : Nat) (p : Value → World → Prop) (v : Value) (w : World) : Prop := l.getD i false = true → l.getD q false = false → p v w
theorem Whu.get {l : Array Bool} {i q : Nat} {p : Value → World → Prop} {v : Value} {w : World} (h : Whu l i q p v w) (hl : l.getD i false = true) (hq : l.getD q false = false) : p v w := h hl hq
theorem Whu.keep {l : Array Bool} {i q k : Nat} {p : Value → World → Prop} {v : Value} {w : World} (h : Whu l i q p v w) (hne : i ≠ k) : Whu (l.setIfInBounds k true) i q p v w := fun hl hq => h ((getD_listed hl).resolve_left hne) (by
  cases e : l.getD q false with
  | false => rfl
  | true => rw [getD_set_true e] at hq; cases hq)
theorem Whu.map {l : Array Bool} {i q : Nat} {p : Value → World → Prop} {v : Value} {w w' : World} (h : Whu l i q p v w) (f : p v w → p v w') : Whu l i q p v w' := fun hl hq => f (h hl hq)
theorem Whu.done {l : Array Bool} {i q : Nat} {p : Value → World → Prop} {v : Value} {w : World} (h : p v w) : Whu l i q p v w := fun _ _ => h
theorem Whu.none {n i q : Nat} {p : Value → World → Prop} {v : Value} {w : World} (h : (Array.replicate n false).getD i false = false) : Whu (Array.replicate n false) i q p v w := fun hl => by rw [h] at hl; cases hl
theorem Whu.past {l : Array Bool} {i q : Nat} {p : Value → World → Prop} {v : Value} {w : World} (hq : q < l.size) : Whu (l.setIfInBounds q true) i q p v w := fun _ h => by
  simp [hq] at h
theorem Whu.gone {l : Array Bool} {i q k : Nat} {p : Value → World → Prop} {v : Value} {w : World} (h : l.getD q false = true) : Whu (l.setIfInBounds k true) i q p v w := fun _ hq => by rw [getD_set_true h] at hq; cases hq
theorem Whn.never {l : Array Bool} {i k : Nat} {p : Value → World → Prop} {v : Value} {w : World} (hne : i ≠ k) (h : l.getD i false = true → l.getD k false = true) (hu : l.getD k false = false) : Whn (l.setIfInBounds k true) i p v w := fun hl => by
  have := h ((getD_listed hl).resolve_left hne)
  rw [this] at hu
  cases hu
end Go.Proofs.YtgkmbamoffolgaaDoor
