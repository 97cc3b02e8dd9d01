/- DERIVED. Blocks that were there are as they were, but for some. No program. -/
import Derived.Test.YtnpbogioehpeoaaBase2
import Derived.Laws.CopyOwn
import Derived.Laws.IdiomCopy
namespace Go.Proofs.Ytnpbogioehpeoaa
open Go.RowKit
structure Chg (S : List Nat) (w w' : World) : Prop where
  os : w'.os = w.os
  tape : w'.tape = w.tape
  output : w'.output = w.output
  size : w.heap.size ≤ w'.heap.size
  block : ∀ k, k < w.heap.size → k ∉ S → w'.heap[k]? = w.heap[k]?
theorem Chg.refl (S : List Nat) (w : World) : Chg S w w := ⟨rfl, rfl, rfl, Nat.le_refl _, fun _ _ _ => rfl⟩
theorem Chg.trans {S : List Nat} {a b c : World} (h : Chg S a b) (k : Chg S b c) : Chg S a c :=
  ⟨k.os.trans h.os, k.tape.trans h.tape, k.output.trans h.output, Nat.le_trans h.size k.size, fun i hi hS => (k.block i (Nat.lt_of_lt_of_le hi h.size) hS).trans (h.block i hi hS)⟩
theorem Chg.mono {S T : List Nat} {a b : World} (h : Chg S a b) (hs : ∀ k ∈ S, k ∈ T ∨ a.heap.size ≤ k) : Chg T a b :=
  ⟨h.os, h.tape, h.output, h.size, fun i hi hS => h.block i hi (fun hm => by rcases hs i hm with h | h; exact hS h; omega)⟩
theorem Chg.of_below {S : List Nat} {a b : World} (h : Below a.heap.size a b) : Chg S a b := ⟨h.os, h.tape, h.output, h.size, fun k hk _ => h.block k hk⟩
theorem Chg.below {S : List Nat} {B : Nat} {u a b : World} (h : Chg S a b) (hb : Below B u a) (hB : B ≤ a.heap.size) (hS : ∀ k ∈ S, B ≤ k) : Below B u b :=
  hb.trans ⟨h.os, h.tape, h.output, h.size, fun k hk => h.block k (by omega) (fun hm => by have := hS k hm; omega)⟩
theorem Chg.setCell {S : List Nat} {a b : World} (h : Chg S a b) {p : Addr} (hp : p.block ∈ S) (u : Value) : Chg S a (b.setCell p u) :=
  h.trans ⟨rfl, rfl, rfl, by simp [World.setCell], fun k _ hS => Below.heap_setCell _ _ _ _ (fun e => hS (by rw [e]; exact hp))⟩
theorem Chg.alloc {S : List Nat} {a b : World} (h : Chg S a b) (o : Obj) : Chg S a (b.alloc o) := h.trans (Chg.of_below ((Below.refl _ _).alloc (Nat.le_refl _) _))
theorem Chg.at {S : List Nat} {a b : World} (h : Chg S a b) {g : Nat} {o : Obj} (hg : a.heap[g]? = some o) (hS : g ∉ S) : b.heap[g]? = some o :=
  (h.block g (Array.getElem?_eq_some_iff.1 hg).1 hS).trans hg
theorem Chg.setCells {S : List Nat} {a b : World} (h : Chg S a b) {g : Nat} (hp : g ∈ S) : ∀ (vs : List Value) (o : Nat), Chg S a (b.setCells g o vs) := by
  intro vs
  induction vs generalizing b with
  | nil => exact fun _ => h
  | cons v r ih => exact fun o => ih (h.setCell (p := ⟨g, o, none⟩) hp v) (o + 1)
/-- bytes in a block that stays. -/
theorem Byt.chg {S : List Nat} {L : List Int} {A : Option Addr} {c : Nat} {w w' : World} (h : Byt w A c L) (hc : Chg S w w') (hS : ∀ a, A = some a → a.block ∉ S) : Byt w' A c L := by
  obtain ⟨h1, h2, h3⟩ := h
  refine ⟨h1, h2, fun hl => ?_⟩
  obtain ⟨g, off, hA, hg, hb⟩ := h3 hl
  exact ⟨g, off, hA, Nat.lt_of_lt_of_le hg hc.size, fun j hj => (World.cell?_of_block (hc.block g hg (hS _ hA))).trans (hb j hj)⟩
theorem splice_set {α : Type} (L : List α) (o : Nat) (v : α) (r : List α) (h : o < L.length) : splice (L.set o v) (o + 1) r = splice L o (v :: r) := by
  have e1 : (L.set o v).take (o + 1) = L.take o ++ [v] := by
    rw [List.take_succ_eq_append_getElem (by simpa using h), List.take_set_of_le (Nat.le_refl _)]; simp
  have e2 : (L.set o v).drop (o + 1 + r.length) = L.drop (o + 1 + r.length) := List.drop_set_of_lt (by omega)
  unfold splice
  rw [e1, e2, List.length_cons, List.append_assoc, show o + 1 + r.length = o + (r.length + 1) by omega]
  rfl
/-- the cells of a row, many written at once. -/
theorem heap_setCells {T : Nat} {g : Nat} : ∀ (vs : List Value) (o : Nat) (w : World) (C : Array Value), w.heap[g]? = some (.cells C T (0, 0)) → o + vs.length ≤ C.size →
    (w.setCells g o vs).heap[g]? = some (.cells (splice C.toList o vs).toArray T (0, 0)) := by
  intro vs
  induction vs with
  | nil => intro o w C h _; simpa [World.setCells, splice] using h
  | cons v r ih =>
    intro o w C h hs
    simp only [List.length_cons] at hs
    rw [World.setCells]
    have h1 : (w.setCell ⟨g, o, none⟩ v).heap[g]? = some (.cells (C.setIfInBounds o v) T (0, 0)) := heap_setCell_same _ _ _ _ _ _ h
    rw [ih (o + 1) _ _ h1 (by rw [Array.size_setIfInBounds]; omega)]
    rw [Array.toList_setIfInBounds, splice_set C.toList o v r (by rw [Array.length_toList]; omega)]
end Go.Proofs.Ytnpbogioehpeoaa
