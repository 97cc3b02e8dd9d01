/- DERIVED. strings.Split at a slash, paths.Check, paths.Prefix of any text. -/
import Derived.Test.YtmbcojpdigoojaaGreatDoorShelf
import Derived.Test.YtmbcojpdigoojaaGreatDoorPthPart
import Derived.Deep.CutBlock
namespace Go.Proofs.YtmbcojpdigoojaaGreatDoor.Pth
open Go.RowKit
/-- what a walk wants of the world: internal/bytealg.MaxLen holds some number. -/
def Laid (w : World) : Prop := ∃ m : Int, w.cell? ⟨1, 0, none⟩ = some (.int .i64 m)
theorem Laid.below {w w' : World} {B : Nat} (h : Laid w) (hb : Below B w w') (hB : w.heap.size ≤ B) : Laid w' := by
  obtain ⟨m, hm⟩ := h
  have hlt := World.block_lt_of_cell? _ _ hm
  exact ⟨m, (hb.cell (p := ⟨1, 0, none⟩) (Nat.lt_of_lt_of_le hlt hB)).trans hm⟩
theorem Laid.alloc {w : World} (h : Laid w) (o : Obj) : Laid (w.alloc o) := h.below ((Below.refl w.heap.size w).alloc (Nat.le_refl _) o) (Nat.le_refl _)
/-- a text's pieces. -/
def pcB (s : ByteArray) : List ByteArray := Lib.splitB ⟨#[47]⟩ 0 (Lib.countB s ⟨#[47]⟩) s
theorem pcB_len (s : ByteArray) : (pcB s).length = Lib.countB s ⟨#[47]⟩ + 1 := Lib.splitB_all ⟨#[47]⟩ (by decide) 0 _ s rfl
theorem pcB_map (s : ByteArray) : (pcB s).map (·.data.toList) = pcs s.data.toList := by
  rw [pcB, Lib.splitB_data, ← split_pcs]
  rfl
theorem pcB_length (s : ByteArray) : (pcB s).length = (pcs s.data.toList).length := by rw [← pcB_map, List.length_map]
/-- the k-th text. -/
def nth (L : List ByteArray) (k : Nat) : ByteArray := L.getD k ByteArray.empty
/-- a row of texts. -/
def txts (L : List ByteArray) : Array Value := (L.map Value.string).toArray
theorem txts_get (L : List ByteArray) (j : Nat) (h : j < L.length) : (txts L)[j]? = some (.string (nth L j)) := by
  simp [txts, nth, h]
theorem txts_cell {w : World} {g T : Nat} {L : List ByteArray} {fr : Nat × Nat} (h : w.heap[g]? = some (.cells (txts L) T fr)) (j : Nat) (hj : j < L.length) : w.cell? ⟨g, j, none⟩ = some (.string (nth L j)) := by
  rw [cell_row h, txts_get L j hj]
theorem split_any (s : ByteArray) (w : World) (hL : Laid w) (hs : s.size < 4294967281) : Calls Tryz.prog 56 #[.string s, .string ⟨#[47]⟩] w fun e w' =>
    e = .returned (.slice (some ⟨w.heap.size, 0, none⟩) (pcB s).length (pcB s).length) ∧ w.alloc (.cells (txts (pcB s)) 9) = w' := by
  obtain ⟨m, hm⟩ := hL
  refine (Tryz.strings_Split s ⟨#[47]⟩ m w hs hm (by decide)).mono ?_
  rintro e w' ⟨he, hw⟩
  exact ⟨by rw [he, pcB_len], hw.symm⟩
def partS (s : ByteArray) : Bool := partL s.data.toList
theorem parts_all (s : ByteArray) : (pcB s).all partS = (pcs s.data.toList).all partL := by
  rw [← pcB_map, List.all_map]; rfl
theorem all_drop_yes {L : List ByteArray} {k : Nat} (h : k < L.length) (hp : partS (nth L k) = true) : (L.drop k).all partS = (L.drop (k + 1)).all partS := by
  rw [List.drop_eq_getElem_cons h, List.all_cons]
  rw [nth, List.getD_eq_getElem?_getD, List.getElem?_eq_getElem h] at hp
  rw [show partS L[k] = true from hp, Bool.true_and]
theorem all_drop_no {L : List ByteArray} {k : Nat} (h : k < L.length) (hp : partS (nth L k) = false) : (L.drop k).all partS = false := by
  rw [List.drop_eq_getElem_cons h, List.all_cons]
  rw [nth, List.getD_eq_getElem?_getD, List.getElem?_eq_getElem h] at hp
  rw [show partS L[k] = false from hp, Bool.false_and]
theorem all_drop_end {L : List ByteArray} {k : Nat} (h : ¬ k < L.length) : (L.drop k).all partS = true := by
  rw [List.drop_eq_nil_iff.2 (by omega)]; rfl
def chk (s : ByteArray) : Int := if isP s.data.toList then 0 else 15
theorem chk_big {s : ByteArray} (h : 60 < s.size) : chk s = 15 := by
  have e : decide (s.data.toList.length ≤ 60) = false := by rw [decide_eq_false_iff_not, ← Lib.size_eq]; omega
  rw [chk, isP, e, Bool.false_and]; rfl
theorem chk_many {s : ByteArray} (h : 8 < (pcB s).length) : chk s = 15 := by
  have e : decide ((pcs s.data.toList).length ≤ 8) = false := by rw [decide_eq_false_iff_not, ← pcB_length]; omega
  rw [chk, isP, e, Bool.false_and, Bool.and_false]; rfl
theorem chk_parts {s : ByteArray} (h : ¬ 60 < s.size) (h' : ¬ 8 < (pcB s).length) : chk s = if (pcB s).all partS then 0 else 15 := by
  have e : decide (s.data.toList.length ≤ 60) = true := by rw [decide_eq_true_eq, ← Lib.size_eq]; omega
  have e' : decide ((pcs s.data.toList).length ≤ 8) = true := by rw [decide_eq_true_eq, ← pcB_length]; omega
  rw [chk, isP, e, e', Bool.true_and, Bool.true_and, parts_all]
theorem ret_z {a b : Int} (h : a = b) : Ending.returned (.int .i64 a) = Ending.returned (.int .i64 b) := by rw [h]
set_option maxHeartbeats 1000000 in
theorem check_any (s : ByteArray) (w : World) (hL : Laid w) (hs : s.size ≤ 9223372036854775807) : Calls Tryz.prog 39 #[.string s] w fun e w' => e = .returned (.int .i64 (chk s)) ∧ Below w.heap.size w w' := by
  by_cases hbig : 60 < s.size
  · have hc := Lib.hid (chk_big hbig)
    go_enter Tryz.func39, Tryz.ntmps39
    go_wp2
    go_ret
    exact ⟨ret_z hc.out.symm, Below.refl _ _⟩
  · have hb0 : Below w.heap.size w (w.alloc (.cells (txts (pcB s)) 9)) := (Below.refl _ _).alloc (Nat.le_refl _) _
    have hrow0 : (w.alloc (.cells (txts (pcB s)) 9)).heap[w.heap.size]? = some (.cells (txts (pcB s)) 9 (0, 0)) := heap_alloc_new _ _
    by_cases hmany : 8 < (pcB s).length
    · have hc := Lib.hid (chk_many hmany)
      go_enter Tryz.func39, Tryz.ntmps39
      go_wp2_with (go_at_call 56; refine (split_any s _ hL (by omega)).mono ?_; rintro e w' ⟨rfl, rfl⟩)
      go_ret
      exact ⟨ret_z hc.out.symm, hb0⟩
    · have hc := Lib.hid (chk_parts hbig hmany)
      go_enter Tryz.func39, Tryz.ntmps39
      go_wp2_with (go_at_call 56; refine (split_any s _ hL (by omega)).mono ?_; rintro e w' ⟨rfl, rfl⟩)
      go_loopw [16] (fun v wr => ∃ k : Nat, k ≤ (pcB s).length ∧ v = .int .i64 k ∧ wr.heap[w.heap.size]? = some (.cells (txts (pcB s)) 9 (0, 0)) ∧ Below w.heap.size w wr ∧ Hid (chk s = if ((pcB s).drop k).all partS then 0 else 15)) (fun v _ => (pcB s).length - (intOf v).toNat)
      case atStart => exact ⟨0, Nat.zero_le _, rfl, hrow0, hb0, hc⟩
      case round =>
        obtain ⟨k, hk, rfl, hrow, hb, HS⟩ := hrel
        have hsz := (Array.getElem?_eq_some_iff.1 hrow).1
        by_cases hlt : k < (pcB s).length
        · have hcell : wr.cell? ⟨w.heap.size, k, none⟩ = some (.string (nth (pcB s) k)) := txts_cell hrow k hlt
          have hr := HS.out
          cases hp : partS (nth (pcB s) k)
          · rw [all_drop_no hlt hp] at hr
            have HR := Lib.hid hr
            clear hr HS hc
            have hpl : partL (nth (pcB s) k).data.toList = false := hp
            go_wp2_with (go_at_call 57; refine (part_any _ _).mono ?_; rw [hpl]; rintro e w' ⟨rfl, hb1⟩)
            go_ret
            exact ⟨ret_z HR.out.symm, hb.trans (hb1.mono (Nat.le_of_lt hsz))⟩
          · rw [all_drop_yes hlt hp] at hr
            have HR := Lib.hid hr
            clear hr HS hc
            have hpl : partL (nth (pcB s) k).data.toList = true := hp
            go_wp2_with (go_at_call 57; refine (part_any _ _).mono ?_; rw [hpl]; rintro e w' ⟨rfl, hb1⟩)
            go_roundw
            case rel => exact ⟨k + 1, by omega, by go_num, (hb1.block _ hsz).trans hrow, hb.trans (hb1.mono (Nat.le_of_lt hsz)), HR⟩
            case measure => simp [intOf]; omega
        · have hr := HS.out
          rw [all_drop_end hlt] at hr
          have HR := Lib.hid hr
          clear hr HS hc
          go_wp2
          go_ret
          exact ⟨ret_z HR.out.symm, hb⟩
def pre (s : ByteArray) : Int := if s.data.toList = [] then 0 else chk s
theorem prefix_any (s : ByteArray) (w : World) (hL : Laid w) (hs : s.size ≤ 9223372036854775807) : Calls Tryz.prog 20 #[.string s] w fun e w' => e = .returned (.int .i64 (pre s)) ∧ Below w.heap.size w w' := by
  by_cases h0 : s.data.toList = []
  · have hl : s.toList = [] := by rw [Lib.toList_data, h0]
    have hc : pre s = 0 := if_pos h0
    have HC := Lib.hid hc
    clear hc
    go_enter Tryz.func20, Tryz.ntmps20
    go_wp2
    go_ret
    exact ⟨ret_z HC.out.symm, Below.refl _ _⟩
  · have hl : s.toList.isEmpty = false := by rw [Lib.toList_data]; cases h : s.data.toList <;> simp_all
    have hc : pre s = chk s := if_neg h0
    have HC := Lib.hid hc
    clear hc h0
    go_enter Tryz.func20, Tryz.ntmps20
    go_wp2_with (go_at_call 39; refine (check_any s _ hL hs).mono ?_; rintro e w' ⟨rfl, hb1⟩)
    go_ret
    exact ⟨ret_z HC.out.symm, hb1⟩
end Go.Proofs.YtmbcojpdigoojaaGreatDoor.Pth
