/- DERIVED. The parts of layer 12's laws: few, reopen, same, begins. -/
import Derived.Test.YtkjhoanlkkcfkaaGreatDoorSgmGood
import Derived.Test.YtkjhoanlkkcfkaaGreatDoorSgmTexts
import Derived.Test.YtkjhoanlkkcfkaaGreatDoorMsgt2
namespace Go.Proofs.YtkjhoanlkkcfkaaGreatDoor.Sgm
open Go.RowKit Dsk Slt Epo
/-- texts, told, as a list that may be compared. -/
theorem rows_tx {w : World} {B g : Nat} {L : List (List Int)} (h : Slt.Rows B L L.length L.length g w) (hi : ∀ t ∈ L, InB t) : TxAt w (some ⟨g, 0, none⟩) L := ⟨fun i hl => by
  obtain ⟨⟨C, hC, _, hx⟩, _⟩ := h
  obtain ⟨v, hv, ⟨A, c, rfl, hB⟩, _⟩ := hx i hl
  refine ⟨g, 0, A, c, rfl, (Array.getElem?_eq_some_iff.1 hC).1, by rw [Nat.zero_add, cell_row hC, hv], hB, hi _ ?_⟩
  rw [List.getD_eq_getElem?_getD, List.getElem?_eq_getElem hl, Option.getD_some]
  exact List.getElem_mem _⟩
end Go.Proofs.YtkjhoanlkkcfkaaGreatDoor.Sgm
