/- DERIVED. In a seat of rules: what XPthLaid imports of XPthWorks. Written by mklite.py. -/
import Derived.Test.YtmbcojpdigoojaaGreatDoorPthUnder
namespace Go.Proofs.YtmbcojpdigoojaaGreatDoor.Pth
open Go.RowKit
/-- of what was there at w0 nothing has turned, and the world is laid. -/
def From (w0 w : World) : Prop := Below w0.heap.size w0 w ∧ Laid w
theorem From.refl {w : World} (h : Laid w) : From w w := ⟨Below.refl _ _, h⟩
theorem From.next {w0 w w' : World} (h : From w0 w) (hb : Below w.heap.size w w') : From w0 w' := ⟨h.1.trans (hb.mono h.1.size), h.2.below hb (Nat.le_refl _)⟩
theorem From.alloc {w0 w : World} (h : From w0 w) (o : Obj) : From w0 (w.alloc o) := h.next ((Below.refl _ _).alloc (Nat.le_refl _) _)
theorem check_from {w0 w : World} (s : ByteArray) (h : From w0 w) (hs : s.size ≤ 1000) : Calls Tryz.prog 39 #[.string s] w fun e w' => e = .returned (.int .i64 (chk s)) ∧ From w0 w' :=
  (check_any s w h.2 (by omega)).mono fun _ _ ⟨he, hb⟩ => ⟨he, h.next hb⟩
theorem prefix_from {w0 w : World} (s : ByteArray) (h : From w0 w) (hs : s.size ≤ 1000) : Calls Tryz.prog 20 #[.string s] w fun e w' => e = .returned (.int .i64 (pre s)) ∧ From w0 w' :=
  (prefix_any s w h.2 (by omega)).mono fun _ _ ⟨he, hb⟩ => ⟨he, h.next hb⟩
def undB (p l : ByteArray) : Bool := und p.data.toList l.data.toList
theorem under_from {w0 w : World} (p l : ByteArray) (h : From w0 w) (hp : p.size ≤ 1000) (hl : l.size ≤ 1000) : Calls Tryz.prog 42 #[.string p, .string l] w fun e w' => e = .returned (.bool (undB p l)) ∧ From w0 w' :=
  (under_any p l w h.2 hp hl).mono fun _ _ ⟨he, hb⟩ => ⟨he, h.next hb⟩
def ordB (p l : ByteArray) : Int := ordL p.data.toList l.data.toList
theorem ordB_in (p l : ByteArray) : -1 ≤ ordB p l ∧ ordB p l ≤ 1 := by
  rcases ord_three p.data.toList l.data.toList with h | h | h <;> (unfold ordB; omega)
theorem order_from {w : World} (a b : ByteArray) : Calls Tryz.prog 22 #[.string a, .string b] w fun e w' => e = .returned (.int .i64 (ordB a b)) ∧ w = w' := order_any a b w
theorem bytes_eq {a b : ByteArray} (h : a.data.toList = b.data.toList) : a = b := by
  obtain ⟨⟨a⟩⟩ := a
  obtain ⟨⟨b⟩⟩ := b
  simpa using h
theorem nth_data (s : ByteArray) (k : Nat) : (nth (pcB s) k).data.toList = (pcs s.data.toList).getD k [] := by
  rw [← pcB_map, nth, List.getD_eq_getElem?_getD, List.getD_eq_getElem?_getD, List.getElem?_map]
  cases (pcB s)[k]? <;> rfl
end Go.Proofs.YtmbcojpdigoojaaGreatDoor.Pth
