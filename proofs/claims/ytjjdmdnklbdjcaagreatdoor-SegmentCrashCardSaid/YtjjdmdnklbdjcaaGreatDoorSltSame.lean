/- DERIVED. The contract of layer 9's same: are two lists of texts the same? -/
import Derived.Test.YtjjdmdnklbdjcaaGreatDoorMseg18
import Derived.Test.YtjjdmdnklbdjcaaGreatDoorMseg14
namespace Go.Proofs.YtjjdmdnklbdjcaaGreatDoor.Slt
open Go.RowKit Dsk
/-- a slice of slices that read as the texts. -/
structure TxAt (w : World) (A : Option Addr) (L : List (List Int)) : Prop where
  at_ : ∀ i, i < L.length → ∃ g off B c, A = some ⟨g, off, none⟩ ∧ g < w.heap.size ∧ w.cell? ⟨g, off + i, none⟩ = some (.slice B (L.getD i []).length c) ∧ Byt w B c (L.getD i []) ∧ InB (L.getD i [])
theorem TxAt.later {w w' : World} {A : Option Addr} {L : List (List Int)} (h : TxAt w A L) (hb : Below w.heap.size w w') : TxAt w' A L := ⟨fun i hi => by
  obtain ⟨g, off, B, c, e, hg, hc, hB, hin⟩ := h.at_ i hi
  exact ⟨g, off, B, c, e, Nat.lt_of_lt_of_le hg hb.size, (hb.cell (p := ⟨g, off + i, none⟩) hg).trans hc, hB.below hb (Nat.le_refl _), hin⟩⟩
theorem texts_ne {L M : List Int} (hL : InB L) (hM : InB M) (h : L ≠ M) : ((strOfNums L).toList == (strOfNums M).toList) = false := by
  rw [beq_eq_false_iff_ne]
  exact Str.str_ne hL hM h
theorem lists_ne {L M : List (List Int)} {i : Nat} (hn : L.getD i [] ≠ M.getD i []) : L ≠ M := fun e => hn (by rw [e])
theorem lists_eq {L M : List (List Int)} (h : L.length = M.length) (hg : ∀ i, i < L.length → L.getD i [] = M.getD i []) : L = M := by
  apply List.ext_getElem h
  intro j h1 h2
  have := hg j h1
  simpa [List.getD_eq_getElem?_getD, h1, h2] using this
end Go.Proofs.YtjjdmdnklbdjcaaGreatDoor.Slt
