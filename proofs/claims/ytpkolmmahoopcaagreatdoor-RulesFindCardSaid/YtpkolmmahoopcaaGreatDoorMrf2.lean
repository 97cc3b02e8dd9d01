/- DERIVED. Texts of ours, merged: XPthCheck XPthUnder XPthWorks XStr XLabFormat. -/
import Derived.Test.YtpkolmmahoopcaaGreatDoorShelf
import Derived.Test.YtpkolmmahoopcaaGreatDoorMrf1
import Derived.Deep.CutBlock
import Derived.WalkLawsBesides
import Derived.Test.YtpkolmmahoopcaaGreatDoorProg
import Derived.Lib.ConvBytes
import Derived.Laws.BytesArg
import Derived.Laws.BitsLemmas
import Derived.Lib.Hide
import Derived.KernelRfl
/- DERIVED. strings.Split at a slash, paths.Check, paths.Prefix of any text. -/
namespace Go.Proofs.YtpkolmmahoopcaaGreatDoor.Pth
open Go.RowKit
/-- what a walk wants of the world: internal/bytealg.MaxLen holds some number. -/
def Laid (w : World) : Prop := ∃ m : Int, w.cell? ⟨1, 0, none⟩ = some (.int .i64 m)
theorem Laid.below {w w' : World} {B : Nat} (h : Laid w) (hb : Below B w w') (hB : w.heap.size ≤ B) : Laid w' := by
  obtain ⟨m, hm⟩ := h
  have hlt := World.block_lt_of_cell? _ _ hm
  exact ⟨m, (hb.cell (p := ⟨1, 0, none⟩) (Nat.lt_of_lt_of_le hlt hB)).trans hm⟩
theorem Laid.alloc {w : World} (h : Laid w) (o : Obj) : Laid (w.alloc o) := h.below ((Below.refl w.heap.size w).alloc (Nat.le_refl _) o) (Nat.le_refl _)
/-- a text's pieces. -/
def pcB (s : ByteArray) : List ByteArray := Lib.splitB ⟨#[47]⟩ 0 (Lib.countB s ⟨#[47]⟩) s
theorem pcB_len (s : ByteArray) : (pcB s).length = Lib.countB s ⟨#[47]⟩ + 1 := Lib.splitB_all ⟨#[47]⟩ (by decide) 0 _ s rfl
theorem pcB_map (s : ByteArray) : (pcB s).map (·.data.toList) = pcs s.data.toList := by
  rw [pcB, Lib.splitB_data, ← split_pcs]
  rfl
theorem pcB_length (s : ByteArray) : (pcB s).length = (pcs s.data.toList).length := by rw [← pcB_map, List.length_map]
/-- the k-th text. -/
def nth (L : List ByteArray) (k : Nat) : ByteArray := L.getD k ByteArray.empty
/-- a row of texts. -/
def txts (L : List ByteArray) : Array Value := (L.map Value.string).toArray
theorem txts_get (L : List ByteArray) (j : Nat) (h : j < L.length) : (txts L)[j]? = some (.string (nth L j)) := by
  simp [txts, nth, h]
theorem txts_cell {w : World} {g T : Nat} {L : List ByteArray} {fr : Nat × Nat} (h : w.heap[g]? = some (.cells (txts L) T fr)) (j : Nat) (hj : j < L.length) : w.cell? ⟨g, j, none⟩ = some (.string (nth L j)) := by
  rw [cell_row h, txts_get L j hj]
theorem split_any (s : ByteArray) (w : World) (hL : Laid w) (hs : s.size < 4294967281) : Calls Tryz.prog 47 #[.string s, .string ⟨#[47]⟩] w fun e w' =>
    e = .returned (.slice (some ⟨w.heap.size, 0, none⟩) (pcB s).length (pcB s).length) ∧ w.alloc (.cells (txts (pcB s)) 9) = w' := by
  obtain ⟨m, hm⟩ := hL
  refine (Tryz.strings_Split s ⟨#[47]⟩ m w hs hm (by decide)).mono ?_
  rintro e w' ⟨he, hw⟩
  exact ⟨by rw [he, pcB_len], hw.symm⟩
def partS (s : ByteArray) : Bool := partL s.data.toList
theorem parts_all (s : ByteArray) : (pcB s).all partS = (pcs s.data.toList).all partL := by
  rw [← pcB_map, List.all_map]; rfl
theorem all_drop_yes {L : List ByteArray} {k : Nat} (h : k < L.length) (hp : partS (nth L k) = true) : (L.drop k).all partS = (L.drop (k + 1)).all partS := by
  rw [List.drop_eq_getElem_cons h, List.all_cons]
  rw [nth, List.getD_eq_getElem?_getD, List.getElem?_eq_getElem h] at hp
  rw [show partS L[k] = true from hp, Bool.true_and]
theorem all_drop_no {L : List ByteArray} {k : Nat} (h : k < L.length) (hp : partS (nth L k) = false) : (L.drop k).all partS = false := by
  rw [List.drop_eq_getElem_cons h, List.all_cons]
  rw [nth, List.getD_eq_getElem?_getD, List.getElem?_eq_getElem h] at hp
  rw [show partS L[k] = false from hp, Bool.false_and]
theorem all_drop_end {L : List ByteArray} {k : Nat} (h : ¬ k < L.length) : (L.drop k).all partS = true := by
  rw [List.drop_eq_nil_iff.2 (by omega)]; rfl
def chk (s : ByteArray) : Int := if isP s.data.toList then 0 else 15
theorem chk_big {s : ByteArray} (h : 60 < s.size) : chk s = 15 := by
  have e : decide (s.data.toList.length ≤ 60) = false := by rw [decide_eq_false_iff_not, ← Lib.size_eq]; omega
  rw [chk, isP, e, Bool.false_and]; rfl
theorem chk_many {s : ByteArray} (h : 8 < (pcB s).length) : chk s = 15 := by
  have e : decide ((pcs s.data.toList).length ≤ 8) = false := by rw [decide_eq_false_iff_not, ← pcB_length]; omega
  rw [chk, isP, e, Bool.false_and, Bool.and_false]; rfl
theorem chk_parts {s : ByteArray} (h : ¬ 60 < s.size) (h' : ¬ 8 < (pcB s).length) : chk s = if (pcB s).all partS then 0 else 15 := by
  have e : decide (s.data.toList.length ≤ 60) = true := by rw [decide_eq_true_eq, ← Lib.size_eq]; omega
  have e' : decide ((pcs s.data.toList).length ≤ 8) = true := by rw [decide_eq_true_eq, ← pcB_length]; omega
  rw [chk, isP, e, e', Bool.true_and, Bool.true_and, parts_all]
theorem ret_z {a b : Int} (h : a = b) : Ending.returned (.int .i64 a) = Ending.returned (.int .i64 b) := by rw [h]
set_option maxHeartbeats 1000000 in
theorem check_any (s : ByteArray) (w : World) (hL : Laid w) (hs : s.size ≤ 9223372036854775807) : Calls Tryz.prog 33 #[.string s] w fun e w' => e = .returned (.int .i64 (chk s)) ∧ Below w.heap.size w w' := by
  by_cases hbig : 60 < s.size
  · have hc := Lib.hid (chk_big hbig)
    go_enter Tryz.func33, Tryz.ntmps33
    go_wp2
    go_ret
    exact ⟨ret_z hc.out.symm, Below.refl _ _⟩
  · have hb0 : Below w.heap.size w (w.alloc (.cells (txts (pcB s)) 9)) := (Below.refl _ _).alloc (Nat.le_refl _) _
    have hrow0 : (w.alloc (.cells (txts (pcB s)) 9)).heap[w.heap.size]? = some (.cells (txts (pcB s)) 9 (0, 0)) := heap_alloc_new _ _
    by_cases hmany : 8 < (pcB s).length
    · have hc := Lib.hid (chk_many hmany)
      go_enter Tryz.func33, Tryz.ntmps33
      go_wp2_with (go_at_call 47; refine (split_any s _ hL (by omega)).mono ?_; rintro e w' ⟨rfl, rfl⟩)
      go_ret
      exact ⟨ret_z hc.out.symm, hb0⟩
    · have hc := Lib.hid (chk_parts hbig hmany)
      go_enter Tryz.func33, Tryz.ntmps33
      go_wp2_with (go_at_call 47; refine (split_any s _ hL (by omega)).mono ?_; rintro e w' ⟨rfl, rfl⟩)
      go_loopw [16] (fun v wr => ∃ k : Nat, k ≤ (pcB s).length ∧ v = .int .i64 k ∧ wr.heap[w.heap.size]? = some (.cells (txts (pcB s)) 9 (0, 0)) ∧ Below w.heap.size w wr ∧ Hid (chk s = if ((pcB s).drop k).all partS then 0 else 15)) (fun v _ => (pcB s).length - (intOf v).toNat)
      case atStart => exact ⟨0, Nat.zero_le _, rfl, hrow0, hb0, hc⟩
      case round =>
        obtain ⟨k, hk, rfl, hrow, hb, HS⟩ := hrel
        have hsz := (Array.getElem?_eq_some_iff.1 hrow).1
        by_cases hlt : k < (pcB s).length
        · have hcell : wr.cell? ⟨w.heap.size, k, none⟩ = some (.string (nth (pcB s) k)) := txts_cell hrow k hlt
          have hr := HS.out
          cases hp : partS (nth (pcB s) k)
          · rw [all_drop_no hlt hp] at hr
            have HR := Lib.hid hr
            clear hr HS hc
            have hpl : partL (nth (pcB s) k).data.toList = false := hp
            go_wp2_with (go_at_call 48; refine (part_any _ _).mono ?_; rw [hpl]; rintro e w' ⟨rfl, hb1⟩)
            go_ret
            exact ⟨ret_z HR.out.symm, hb.trans (hb1.mono (Nat.le_of_lt hsz))⟩
          · rw [all_drop_yes hlt hp] at hr
            have HR := Lib.hid hr
            clear hr HS hc
            have hpl : partL (nth (pcB s) k).data.toList = true := hp
            go_wp2_with (go_at_call 48; refine (part_any _ _).mono ?_; rw [hpl]; rintro e w' ⟨rfl, hb1⟩)
            go_roundw
            case rel => exact ⟨k + 1, by omega, by go_num, (hb1.block _ hsz).trans hrow, hb.trans (hb1.mono (Nat.le_of_lt hsz)), HR⟩
            case measure => simp [intOf]; omega
        · have hr := HS.out
          rw [all_drop_end hlt] at hr
          have HR := Lib.hid hr
          clear hr HS hc
          go_wp2
          go_ret
          exact ⟨ret_z HR.out.symm, hb⟩
def pre (s : ByteArray) : Int := if s.data.toList = [] then 0 else chk s
theorem prefix_any (s : ByteArray) (w : World) (hL : Laid w) (hs : s.size ≤ 9223372036854775807) : Calls Tryz.prog 18 #[.string s] w fun e w' => e = .returned (.int .i64 (pre s)) ∧ Below w.heap.size w w' := by
  by_cases h0 : s.data.toList = []
  · have hl : s.toList = [] := by rw [Lib.toList_data, h0]
    have hc : pre s = 0 := if_pos h0
    have HC := Lib.hid hc
    clear hc
    go_enter Tryz.func18, Tryz.ntmps18
    go_wp2
    go_ret
    exact ⟨ret_z HC.out.symm, Below.refl _ _⟩
  · have hl : s.toList.isEmpty = false := by rw [Lib.toList_data]; cases h : s.data.toList <;> simp_all
    have hc : pre s = chk s := if_neg h0
    have HC := Lib.hid hc
    clear hc h0
    go_enter Tryz.func18, Tryz.ntmps18
    go_wp2_with (go_at_call 33; refine (check_any s _ hL hs).mono ?_; rintro e w' ⟨rfl, hb1⟩)
    go_ret
    exact ⟨ret_z HC.out.symm, hb1⟩
end Go.Proofs.YtpkolmmahoopcaaGreatDoor.Pth
/- DERIVED. paths.Under, paths.Parts, paths.Order of any texts. -/
namespace Go.Proofs.YtpkolmmahoopcaaGreatDoor.Pth
open Go.RowKit
theorem und_no {p l : List UInt8} (h : isP l = false) : und p l = false := by rw [und, h, Bool.false_and]
theorem und_empty {p l : List UInt8} (h : isP l = true) (hp : p = []) : und p l = true := by rw [und, h, hp]; rfl
theorem und_same {p l : List UInt8} (h : isP l = true) (hp : p = l) : und p l = true := by rw [und, h, hp]; simp
theorem und_else {p l : List UInt8} (h : isP l = true) (hp : p ≠ []) (he : p ≠ l) : und p l = Lib.hasPrefix l (p ++ [47]) := by
  rw [und, h, Bool.true_and, beq_eq_false_iff_ne.2 hp, beq_eq_false_iff_ne.2 he, Bool.false_or, Bool.false_or]
theorem chk_yes {s : ByteArray} (h : isP s.data.toList = true) : chk s = 0 := by rw [chk, h]; rfl
theorem chk_no {s : ByteArray} (h : isP s.data.toList = false) : chk s = 15 := by rw [chk, h]; rfl
theorem ne_empty {s : ByteArray} (h : s.data.toList ≠ []) : s.toList.isEmpty = false := by rw [Lib.toList_data]; cases e : s.data.toList <;> simp_all
theorem eq_lists {a b : ByteArray} (h : a.data.toList = b.data.toList) : (a.toList == b.toList) = true := by rw [Lib.toList_data, Lib.toList_data, h]; simp
theorem ne_lists {a b : ByteArray} (h : a.data.toList ≠ b.data.toList) : (a.toList == b.toList) = false := by rw [Lib.toList_data, Lib.toList_data]; simpa using h
set_option maxHeartbeats 1000000 in
theorem under_any (p l : ByteArray) (w : World) (hL : Laid w) (hp : p.size ≤ 1000) (hl : l.size ≤ 1000) : Calls Tryz.prog 36 #[.string p, .string l] w fun e w' => e = .returned (.bool (und p.data.toList l.data.toList)) ∧ Below w.heap.size w w' := by
  cases hi : isP l.data.toList
  · have hc := chk_no hi
    have HR := Lib.hid (und_no (p := p.data.toList) hi)
    clear hi
    go_enter Tryz.func36, Tryz.ntmps36
    go_wp2_with (go_at_call 33; refine (check_any _ _ hL (by omega)).mono ?_; rw [hc]; rintro e w' ⟨rfl, hb1⟩)
    go_ret
    exact ⟨ret_b HR.out.symm, hb1⟩
  · have hc := chk_yes hi
    by_cases h0 : p.data.toList = []
    · have HR := Lib.hid (und_empty hi h0)
      have hl0 : p.toList = [] := by rw [Lib.toList_data, h0]
      clear hi h0
      go_enter Tryz.func36, Tryz.ntmps36
      go_wp2_with (go_at_call 33; refine (check_any _ _ hL (by omega)).mono ?_; rw [hc]; rintro e w' ⟨rfl, hb1⟩)
      go_ret
      exact ⟨ret_b HR.out.symm, hb1⟩
    · have hl0 := ne_empty h0
      by_cases he : p.data.toList = l.data.toList
      · have HR := Lib.hid (und_same hi he)
        have hle := eq_lists he
        clear hi h0 he
        go_enter Tryz.func36, Tryz.ntmps36
        go_wp2_with (go_at_call 33; refine (check_any _ _ hL (by omega)).mono ?_; rw [hc]; rintro e w' ⟨rfl, hb1⟩)
        go_ret
        exact ⟨ret_b HR.out.symm, hb1⟩
      · have HR := Lib.hid (und_else hi h0 he)
        have hle := ne_lists he
        clear hi h0 he
        go_enter Tryz.func36, Tryz.ntmps36
        go_wp2_with (first
          | (go_at_call 33; refine (check_any _ _ hL (by omega)).mono ?_; rw [hc]; rintro e w' ⟨rfl, hb1⟩)
          | (go_at_call 51; refine (Tryz.strings_HasPrefix _ _ _).mono ?_; rintro e w' ⟨rfl, rfl⟩))
        go_ret
        exact ⟨ret_b HR.out.symm, hb1⟩
set_option maxHeartbeats 1000000 in
theorem less_lists (a b : ByteArray) : Op.bytesLess a.toList b.toList = decide (ordL a.data.toList b.data.toList = -1) := by rw [Lib.toList_data, Lib.toList_data, less_ord]
theorem order_any (a b : ByteArray) (w : World) : Calls Tryz.prog 20 #[.string a, .string b] w fun e w' => e = .returned (.int .i64 (ordL a.data.toList b.data.toList)) ∧ w = w' := by
  have hn := ord_neg a.data.toList b.data.toList
  rcases ord_three a.data.toList b.data.toList with h | h | h
  · have h1 : Op.bytesLess a.toList b.toList = true := by rw [less_lists, h]; rfl
    have HR := Lib.hid h
    clear h hn
    go_enter Tryz.func20, Tryz.ntmps20
    go_wp2
    go_ret
    exact ⟨ret_z HR.out.symm, rfl⟩
  · have h1 : Op.bytesLess a.toList b.toList = false := by rw [less_lists, h]; rfl
    have h2 : Op.bytesLess b.toList a.toList = false := by rw [less_lists, hn, h]; rfl
    have h3 : (a.toList == b.toList) = true := eq_lists ((ord_eq _ _).1 h)
    have HR := Lib.hid h
    clear h hn
    go_enter Tryz.func20, Tryz.ntmps20
    go_wp2
    go_ret
    exact ⟨ret_z HR.out.symm, rfl⟩
  · have h1 : Op.bytesLess a.toList b.toList = false := by rw [less_lists, h]; rfl
    have h2 : Op.bytesLess b.toList a.toList = true := by rw [less_lists, hn, h]; rfl
    have h3 : (a.toList == b.toList) = false := ne_lists (fun e => by rw [(ord_eq _ _).2 e] at h; cases h)
    have HR := Lib.hid h
    clear h hn
    go_enter Tryz.func20, Tryz.ntmps20
    go_wp2
    go_ret
    exact ⟨ret_z HR.out.symm, rfl⟩
end Go.Proofs.YtpkolmmahoopcaaGreatDoor.Pth
/- DERIVED. In a seat of rules: what XPthLaid imports of XPthWorks. Written by mklite.py. -/
namespace Go.Proofs.YtpkolmmahoopcaaGreatDoor.Pth
open Go.RowKit
/-- of what was there at w0 nothing has turned, and the world is laid. -/
def From (w0 w : World) : Prop := Below w0.heap.size w0 w ∧ Laid w
theorem From.refl {w : World} (h : Laid w) : From w w := ⟨Below.refl _ _, h⟩
theorem From.next {w0 w w' : World} (h : From w0 w) (hb : Below w.heap.size w w') : From w0 w' := ⟨h.1.trans (hb.mono h.1.size), h.2.below hb (Nat.le_refl _)⟩
theorem From.alloc {w0 w : World} (h : From w0 w) (o : Obj) : From w0 (w.alloc o) := h.next ((Below.refl _ _).alloc (Nat.le_refl _) _)
theorem check_from {w0 w : World} (s : ByteArray) (h : From w0 w) (hs : s.size ≤ 1000) : Calls Tryz.prog 33 #[.string s] w fun e w' => e = .returned (.int .i64 (chk s)) ∧ From w0 w' :=
  (check_any s w h.2 (by omega)).mono fun _ _ ⟨he, hb⟩ => ⟨he, h.next hb⟩
theorem prefix_from {w0 w : World} (s : ByteArray) (h : From w0 w) (hs : s.size ≤ 1000) : Calls Tryz.prog 18 #[.string s] w fun e w' => e = .returned (.int .i64 (pre s)) ∧ From w0 w' :=
  (prefix_any s w h.2 (by omega)).mono fun _ _ ⟨he, hb⟩ => ⟨he, h.next hb⟩
def undB (p l : ByteArray) : Bool := und p.data.toList l.data.toList
theorem under_from {w0 w : World} (p l : ByteArray) (h : From w0 w) (hp : p.size ≤ 1000) (hl : l.size ≤ 1000) : Calls Tryz.prog 36 #[.string p, .string l] w fun e w' => e = .returned (.bool (undB p l)) ∧ From w0 w' :=
  (under_any p l w h.2 hp hl).mono fun _ _ ⟨he, hb⟩ => ⟨he, h.next hb⟩
def ordB (p l : ByteArray) : Int := ordL p.data.toList l.data.toList
theorem ordB_in (p l : ByteArray) : -1 ≤ ordB p l ∧ ordB p l ≤ 1 := by
  rcases ord_three p.data.toList l.data.toList with h | h | h <;> (unfold ordB; omega)
theorem order_from {w : World} (a b : ByteArray) : Calls Tryz.prog 20 #[.string a, .string b] w fun e w' => e = .returned (.int .i64 (ordB a b)) ∧ w = w' := order_any a b w
theorem bytes_eq {a b : ByteArray} (h : a.data.toList = b.data.toList) : a = b := by
  obtain ⟨⟨a⟩⟩ := a
  obtain ⟨⟨b⟩⟩ := b
  simpa using h
theorem nth_data (s : ByteArray) (k : Nat) : (nth (pcB s) k).data.toList = (pcs s.data.toList).getD k [] := by
  rw [← pcB_map, nth, List.getD_eq_getElem?_getD, List.getD_eq_getElem?_getD, List.getElem?_map]
  cases (pcB s)[k]? <;> rfl
end Go.Proofs.YtpkolmmahoopcaaGreatDoor.Pth
/- DERIVED. Texts and slices of bytes, there and back; no number of a type. -/
namespace Go.Proofs.YtpkolmmahoopcaaGreatDoor.Str
open Go.RowKit
/-- a text's bytes. -/
def bOf (s : ByteArray) : List Int := s.data.toList.map fun b => (b.toNat : Int)
theorem bOf_length (s : ByteArray) : (bOf s).length = s.size := by rw [bOf, List.length_map, Array.length_toList]; rfl
theorem bOf_in (s : ByteArray) : InB (bOf s) := by
  intro j
  by_cases h : j < (bOf s).length
  · have h' : j < s.data.toList.length := by simpa [bOf] using h
    have e : (bOf s).getD j 0 = ((s.data.toList[j]).toNat : Int) := by simp [bOf, List.getD_eq_getElem?_getD, List.getElem?_map, List.getElem?_eq_getElem h']
    rw [e]
    have := (s.data.toList[j]).toNat_lt
    omega
  · rw [getD_out _ _ (Nat.le_of_not_lt h)]; omega
theorem byt_string (w : World) (s : ByteArray) : Byt (Lib.bytesWorld w 5 s) (some ⟨w.heap.size, 0, none⟩) (grownCap w s.size 0 5) (bOf s) := by
  refine ⟨by rw [bOf_length]; exact grownCap_ge _ _ _ _, (fun h => by cases h), fun _ => ⟨w.heap.size, 0, rfl, by rw [Lib.bytesWorld_size]; omega, fun j hj => ?_⟩⟩
  rw [bOf_length] at hj
  rw [Nat.zero_add, Lib.bytesWorld_cell w 5 s j hj]
  have h' : j < s.data.toList.length := by simpa using hj
  simp [bOf, List.getD_eq_getElem?_getD, List.getElem?_map, List.getElem?_eq_getElem h']
theorem below_string (w : World) (s : ByteArray) : Below w.heap.size w (Lib.bytesWorld w 5 s) := by
  refine ⟨?_, ?_, ?_, by rw [Lib.bytesWorld_size]; omega, fun k hk => Lib.bytesWorld_at_old w 5 s k hk⟩
  all_goals (simp only [Lib.bytesWorld, World.freeze]; rfl)
/-- a text as bytes. -/
theorem run_bytes (w : World) (s : ByteArray) : (convert 9 55 (.string s)).run Tryz.prog w = .ok (.slice (some ⟨w.heap.size, 0, none⟩) s.size (grownCap w s.size 0 5)) (Lib.bytesWorld w 5 s) :=
  Lib.run_convert_string_bytes w 9 55 5 s Tryz.underlying9 Tryz.underlying55 Tryz.underlying5
/-- a slice of bytes as a text, empty ones let in. -/
theorem conv_any {w : World} {A : Option Addr} {c n : Nat} {L : List Int} (hB : Byt w A c L) (hn : L.length = n) : (convert 55 9 (.slice A n c)).run Tryz.prog w = .ok (.string (strOfNums L)) w := by
  by_cases h0 : 0 < n
  · obtain ⟨g, off, rfl, _, hc⟩ := hB.2.2 (by omega)
    exact run_convert_bytes_arg w 55 5 Tryz.underlying55 Tryz.underlying5 g off n c L hn (fun i hi => hc i (by omega)) 9 Tryz.underlying9
  · obtain rfl : n = 0 := by omega
    obtain rfl : L = [] := List.eq_nil_of_length_eq_zero hn
    cases A with
    | none => exact run_convert_bytes_nil w 55 5 Tryz.underlying55 Tryz.underlying5 0 c 9 Tryz.underlying9
    | some a =>
      rw [run_convert_bytes_string w 55 9 5 _ 0 c Tryz.underlying55 Tryz.underlying5 Tryz.underlying9]
      simp [Conv.bytesToString, loadCells, loadCellsFrom, strOfNums]
      rfl
/-- a slice's beginning. -/
theorem byt_take {w : World} {A : Option Addr} {c : Nat} {L : List Int} (h : Byt w A c L) (k : Nat) : Byt w A c (L.take k) := by
  obtain ⟨h1, h2, h3⟩ := h
  refine ⟨by rw [List.length_take]; omega, h2, fun h0 => ?_⟩
  rw [List.length_take] at h0
  obtain ⟨g, off, e, hg, hc⟩ := h3 (by omega)
  refine ⟨g, off, e, hg, fun j hj => ?_⟩
  rw [List.length_take] at hj
  rw [hc j (by omega)]
  simp [List.getD_eq_getElem?_getD, show j < k by omega]
theorem byt_rowT {w : World} {g : Nat} {t : TypeId} {l : List Int} {fr : Nat × Nat} (h : w.heap[g]? = some (.cells (u8s l) t fr)) {n : Nat} (hn : l.length = n) : Byt w (some ⟨g, 0, none⟩) n l :=
  ⟨by omega, (fun h => by cases h), fun _ => ⟨g, 0, rfl, (Array.getElem?_eq_some_iff.1 h).1, fun j hj => by rw [Nat.zero_add, cell_row h, u8s_get _ _ hj]⟩⟩
theorem inB_get {L : List Int} (h : InB L) : ∀ x ∈ L, 0 ≤ x ∧ x < 256 := by
  intro x hx
  obtain ⟨j, hj, rfl⟩ := List.getElem_of_mem hx
  have := h j
  simpa [List.getD_eq_getElem?_getD, hj] using this
theorem bOf_str {L : List Int} (h : InB L) : bOf (strOfNums L) = L := by
  have hm := inB_get h
  unfold bOf
  rw [strOfNums_data, List.map_map]
  conv => rhs; rw [← List.map_id L]
  refine List.map_congr_left fun x hx => ?_
  have := hm x hx
  simp
  omega
theorem str_bOf (s : ByteArray) : strOfNums (bOf s) = s := by
  unfold strOfNums bOf
  congr 1
  rw [List.map_map]
  have : ((fun n : Int => UInt8.ofNat n.toNat) ∘ fun b : UInt8 => (b.toNat : Int)) = id := by
    funext b
    simp
  rw [this, List.map_id]
theorem str_inj {L M : List Int} (h : InB L) (k : InB M) (e : strOfNums L = strOfNums M) : L = M := by
  rw [← bOf_str h, ← bOf_str k, e]
theorem toList_inj {s t : ByteArray} (e : s.toList = t.toList) : s = t := by
  rw [ByteArray.toList_eq, ByteArray.toList_eq] at e
  cases s; cases t
  simpa using e
theorem str_ne {L M : List Int} (h : InB L) (k : InB M) (e : L ≠ M) : ¬ (strOfNums L).toList = (strOfNums M).toList := fun h' => e (str_inj h k (toList_inj h'))
theorem bOf_inj {s t : ByteArray} (e : bOf s = bOf t) : s = t := by
  rw [← str_bOf s, ← str_bOf t, e]
end Go.Proofs.YtpkolmmahoopcaaGreatDoor.Str
/- DERIVED. Digits of base 16; strconv.FormatUint at base 16. -/
namespace Go.Proofs.YtpkolmmahoopcaaGreatDoor.Lab
section
open Go.RowKit
/-- the byte of a hexadecimal digit. -/
def hexC (m : Nat) : Int := if m < 10 then (48 + m : Nat) else (87 + m : Nat)
def hexF : Nat → Nat → List Int
  | 0, n => [hexC (n % 16)]
  | k + 1, n => if n < 16 then [hexC (n % 16)] else hexF k (n / 16) ++ [hexC (n % 16)]
/-- the hexadecimal digits of a number. -/
def hexL (n : Nat) : List Int := hexF 15 n
theorem hexC_in (m : Nat) (h : m < 16) : 48 ≤ hexC m ∧ hexC m < 128 := by unfold hexC; split <;> omega
theorem hexF_in (k n : Nat) : ∀ x ∈ hexF k n, 48 ≤ x ∧ x < 128 := by
  induction k generalizing n with
  | zero => simp [hexF]; exact hexC_in _ (by omega)
  | succ k ih =>
    unfold hexF
    split
    · simp; exact hexC_in _ (by omega)
    · intro x hx
      rcases List.mem_append.1 hx with hx | hx
      · exact ih _ x hx
      · obtain rfl := List.mem_singleton.1 hx
        exact hexC_in _ (by omega)
theorem hexF_le (k n : Nat) : (hexF k n).length ≤ k + 1 := by
  induction k generalizing n with
  | zero => simp [hexF]
  | succ k ih => unfold hexF; split <;> simp; exact ih _
theorem pow16 {n k : Nat} (h : n < 16 ^ (k + 1)) : n / 16 < 16 ^ k := by
  rw [Nat.pow_succ] at h
  exact Nat.div_lt_of_lt_mul (by rw [Nat.mul_comm]; exact h)
end
end Go.Proofs.YtpkolmmahoopcaaGreatDoor.Lab
namespace Go.Proofs.YtpkolmmahoopcaaGreatDoor.Lab
section
open Go.RowKit Str
/-- what the walks read of the tables. -/
def Laid (w : World) : Prop := w.cell? ⟨3, 15, none⟩ = some (.int .u8 4)
/-- what the loop holds to: the digits that are written, X, stand behind j zeros. -/
structure FI (n : Nat) (w : World) (j m : Nat) (X : List Int) (wr : World) : Prop where
  eq : hexL n = hexF (j - 50) m ++ X
  len : X.length = 65 - j
  lt : m < 16 ^ (j - 49)
  row : wr.heap[w.heap.size]? = some (.cells (u8s (List.replicate j 0 ++ X)) 113 (0, 0))
  low : Below w.heap.size w wr
theorem lt16 {n : Nat} (h : n < 18446744073709551616) : n < 16 ^ (65 - 49) := Nat.lt_of_lt_of_le h (by decide)
theorem hex_fin : ∀ d : Fin 16, ((((⟨#[48, 49, 50, 51, 52, 53, 54, 55, 56, 57, 97, 98, 99, 100, 101, 102, 103, 104, 105, 106, 107, 108, 109, 110, 111, 112, 113, 114, 115, 116, 117, 118, 119, 120, 121, 122]⟩ : ByteArray).data.getD d.val 0).toNat : Nat) : Int) = hexC d.val := by decide
theorem hex_at (d : Nat) (hd : d < 16) (h : d < (⟨#[48, 49, 50, 51, 52, 53, 54, 55, 56, 57, 97, 98, 99, 100, 101, 102, 103, 104, 105, 106, 107, 108, 109, 110, 111, 112, 113, 114, 115, 116, 117, 118, 119, 120, 121, 122]⟩ : ByteArray).size) : ((((⟨#[48, 49, 50, 51, 52, 53, 54, 55, 56, 57, 97, 98, 99, 100, 101, 102, 103, 104, 105, 106, 107, 108, 109, 110, 111, 112, 113, 114, 115, 116, 117, 118, 119, 120, 121, 122]⟩ : ByteArray)[d]'h).toNat : Nat) : Int) = hexC d := by
  rw [← hex_fin ⟨d, hd⟩]
  congr 2
  show ByteArray.get _ _ _ = _
  simp only [ByteArray.get]
  exact (Array.getElem_eq_getD 0)
theorem rep_set (j : Nat) (h : 0 < j) (X : List Int) (v : Int) : (List.replicate j 0 ++ X).set (j - 1) v = List.replicate (j - 1) 0 ++ v :: X := by
  obtain ⟨k, rfl⟩ : ∃ k, j = k + 1 := ⟨j - 1, by omega⟩
  rw [Nat.add_sub_cancel, List.replicate_succ', List.append_assoc, List.set_append_right _ _ (by simp)]
  simp
theorem rep_get (j : Nat) (h : 0 < j) (X : List Int) : (u8s (List.replicate j 0 ++ X))[j - 1]? = some (.int .u8 0) := by
  rw [u8s_get _ _ (by simp; omega), List.getD_eq_getElem?_getD, List.getElem?_append_left (by simp; omega), List.getElem?_replicate, if_pos (by omega)]
  rfl
/-- one digit is written. -/
theorem FI.step {n j m d : Nat} {w wr : World} {X : List Int} (h : FI n w j m X wr) (hj : 50 < j) (hj1 : j ≤ 65) (hm : 16 ≤ m) (hd : d = m % 16) : FI n w (j - 1) (m / 16) (hexC d :: X) (wr.setCell ⟨w.heap.size, j - 1, none⟩ (.int .u8 (hexC d))) := by
  refine ⟨?_, by rw [List.length_cons, h.len]; omega, ?_, ?_, h.low.setCell (Nat.le_refl _) _⟩
  · rw [h.eq, show j - 50 = (j - 1 - 50) + 1 by omega, hexF, if_neg (by omega), ← hd]
    simp
  · have := h.lt
    rw [show j - 49 = (j - 1 - 49) + 1 by omega] at this
    exact pow16 this
  · rw [heap_setCell_same _ _ _ _ _ _ h.row, u8s_set, rep_set _ (by omega)]
/-- the last digit is written: the text. -/
theorem FI.last {n j m : Nat} {w wr : World} {X : List Int} (h : FI n w j m X wr) (hj : 50 ≤ j) (hj1 : j ≤ 65) (hm : m < 16) :
    Byt (wr.setCell ⟨w.heap.size, j - 1, none⟩ (.int .u8 (hexC m))) (some ⟨w.heap.size, j - 1, none⟩) (65 - (j - 1)) (hexL n) ∧ (hexL n).length = 65 - (j - 1) ∧ Below w.heap.size w (wr.setCell ⟨w.heap.size, j - 1, none⟩ (.int .u8 (hexC m))) := by
  have he : hexL n = hexC m :: X := by
    rw [h.eq]
    cases j - 50 with
    | zero => simp [hexF, Nat.mod_eq_of_lt hm]
    | succ k => simp [hexF, hm, Nat.mod_eq_of_lt hm]
  have hrow : (wr.setCell ⟨w.heap.size, j - 1, none⟩ (.int .u8 (hexC m))).heap[w.heap.size]? = some (.cells (u8s (List.replicate (j - 1) 0 ++ hexC m :: X)) 113 (0, 0)) := by
    rw [heap_setCell_same _ _ _ _ _ _ h.row, u8s_set, rep_set _ (by omega)]
  have hlen : (hexL n).length = 65 - (j - 1) := by rw [he, List.length_cons, h.len]; omega
  refine ⟨⟨by omega, (fun e => by cases e), fun _ => ⟨w.heap.size, j - 1, rfl, (Array.getElem?_eq_some_iff.1 hrow).1, fun i hi => ?_⟩⟩, hlen, h.low.setCell (Nat.le_refl _) _⟩
  have hX := h.len
  rw [hlen] at hi
  rw [cell_row hrow, u8s_get _ _ (by simp; omega), he]
  congr 2
  rw [List.getD_eq_getElem?_getD, List.getD_eq_getElem?_getD, List.getElem?_append_right (by simp), List.length_replicate, Nat.add_sub_cancel_left]
theorem and15 (m : Nat) (h : m < 18446744073709551616) : bits .and .u64 (m : Nat) 15 = ((m % 16 : Nat) : Int) := by
  have h := (bits_nat .u64 64 (by decide) (fun n h0 h1 => by rw [show IntKind.u64.wrap n = n % 18446744073709551616 by simp [IntKind.wrap, IntKind.bits, IntKind.signed]]; omega) m 15 h (by decide)).1
  rw [show (15 : Nat) = 2 ^ 4 - 1 from rfl, Nat.and_two_pow_sub_one_eq_mod] at h
  exact h
theorem al65 : Tryz.prog.arrayLen 113 = 65 := by kernel_rfl
theorem el65 : Tryz.prog.elem 113 = 5 := by kernel_rfl
theorem un65 : Tryz.prog.underlying 113 = some (.array (Tryz.prog.arrayLen 113) (Tryz.prog.elem 113)) := by kernel_rfl
/-- a[i:] of the local array. -/
theorem slice_65 (w : World) (g j : Nat) (h0 : 1 ≤ j) (h1 : j ≤ 65) :
    (Instr.sliceAt 113 (.pointer (some ⟨g, 0, none⟩)) (some (.int .i64 ((j : Int) - 1))) none none).run Tryz.prog w = .ok (.slice (some ⟨g, j - 1, none⟩) (65 - (j - 1)) (65 - (j - 1))) w := by
  rw [run_sliceAt_array_l w 113 ⟨g, 0, none⟩ un65 .i64 _ (by omega) (by rw [al65]; omega), el65, al65]
  have e : ((j : Int) - 1).toNat = j - 1 := by omega
  have e2 : ¬ 65 = j - 1 := by omega
  simp [go_sem, e, e2, slicedAt, Addr.add_mid]
theorem pow_16 (w : World) : Calls Tryz.prog 93 #[.int .i64 16] w fun e w' => e = .returned (.bool true) ∧ w = w' := by
  go_enter Tryz.func93, Tryz.ntmps93
  go_wp2
  go_ret
  exact ⟨rfl, rfl⟩
theorem zeros_16 (w : World) (hL : Laid w) : Calls Tryz.prog 94 #[.int .u64 16] w fun e w' => e = .returned (.int .i64 4) ∧ w = w' := by
  unfold Laid at hL
  go_enter Tryz.func94, Tryz.ntmps94
  have e1 : IntKind.u64.wrap (-16) = 18446744073709551600 := by kernel_rfl
  have e2 : bits .and .u64 16 18446744073709551600 = 16 := by kernel_rfl
  have e3 : IntKind.u64.wrap (16 * 285870213051353865) = 4573923408821661840 := by kernel_rfl
  go_wp2
  go_ret
  exact ⟨rfl, rfl⟩
theorem Laid.below {w w' : World} (h : Laid w) (hb : Below w.heap.size w w') : Laid w' := (hb.cell (p := ⟨3, 15, none⟩) (World.block_lt_of_cell? w _ h)).trans h
set_option maxRecDepth 100000 in
set_option maxHeartbeats 4000000 in
theorem format_any (n : Nat) (hn : n < 18446744073709551616) (w : World) (hL : Laid w) :
    Calls Tryz.prog 81 #[.slice none 0 0, .int .u64 (n : Nat), .int .i64 16, .bool false, .bool false] w fun e w' => e = .returned (.tuple #[.slice none 0 0, .string (strOfNums (hexL n))]) ∧ Below w.heap.size w w' := by
  obtain ⟨w1, hw1⟩ : ∃ w1, w1 = w.alloc (.cells (u8s (List.replicate 65 0)) 113) := ⟨_, rfl⟩
  have h1 : w1.heap[w.heap.size]? = some (.cells (u8s (List.replicate 65 0 ++ [])) 113 (0, 0)) := by rw [hw1]; exact Go.heap_alloc_new w _
  have l1 : Below w.heap.size w w1 := by rw [hw1]; exact (Below.refl _ _).alloc (Nat.le_refl _) _
  have HL2 : Hid (Laid w1) := hL.below l1
  have HF : Hid (FI n w 65 n [] w1) := ⟨by simp [hexL], rfl, lt16 hn, h1, l1⟩
  have Hw1 := Lib.hid hw1
  clear h1 l1 hw1
  clear hL
  go_enter Tryz.func81, Tryz.ntmps81
  go_upto_region 5 with (fail)
  change Code.wp _ _ _ _ (w.alloc (.cells (u8s (List.replicate 65 0)) 113))
  rw [← Hw1.out]
  clear Hw1
  go_upto_region 11 with (first
    | (go_at_call 93; refine (pow_16 _).mono ?_; rintro e w2 ⟨rfl, rfl⟩)
    | (go_at_call 94; refine (zeros_16 _ HL2.out).mono ?_; rintro e w2 ⟨rfl, rfl⟩))
  clear HL2
  go_wp2
  go_loopw [1, 13] (fun u i wr => ∃ j m : Nat, 50 ≤ j ∧ j ≤ 65 ∧ u = .int .u64 (m : Nat) ∧ i = .int .i64 (j : Nat) ∧ Hid (∃ X, FI n w j m X wr)) (fun _ i _ => (intOf i).toNat)
  case atStart => exact ⟨65, n, by omega, by omega, rfl, rfl, [], HF⟩
  case round =>
    obtain ⟨j, m, hj0, hj1, rfl, rfl, hI⟩ := hrel
    clear HF
    by_cases h16 : 16 ≤ m
    · have h16' : (16 : Int) ≤ m := by omega
      obtain ⟨X, hF⟩ := hI.out
      have hm64 : m < 18446744073709551616 := Nat.lt_of_lt_of_le hF.lt (Nat.le_trans (Nat.pow_le_pow_right (by decide) (by omega : j - 49 ≤ 16)) (by decide))
      have hj5 : 50 < j := by
        by_cases e : j = 50
        · have := hF.lt
          rw [e] at this
          omega
        · omega
      obtain ⟨d, hd⟩ : ∃ d, d = m % 16 := ⟨_, rfl⟩
      have hb := and15 m hm64
      rw [← hd] at hb
      have hd1 : d < 16 := by omega
      have c0 := (cell_row hF.row (j - 1)).trans (rep_get j (by omega) X)
      have f0 := free_row hF.row (j - 1)
      have Hd := Lib.hid hd
      have HF := Lib.hid hF
      clear hd hF hI hm64
      go_wp2
      rw [hex_at d hd1 _]
      go_roundw
      case rel => exact ⟨j - 1, m / 16, by omega, by omega, by go_num, by go_num, _, HF.out.step hj5 hj1 h16 Hd.out⟩
      case measure => simp [intOf]; omega
    · have h16' : ¬ (16 : Int) ≤ m := by omega
      obtain ⟨X, hF⟩ := hI.out
      have hm1 : m < 16 := by omega
      have c0 := (cell_row hF.row (j - 1)).trans (rep_get j (by omega) X)
      have f0 := free_row hF.row (j - 1)
      have HF := Lib.hid hF
      clear hF hI
      go_upto_region 25 with (fail)
      rw [hex_at m hm1 _]
      generalize hw2 : World.setCell _ _ _ = w2
      have hb := HF.out.last (by omega) hj1 hm1
      rw [hw2] at hb
      have cv := conv_any hb.1 (n := 65 - (j - 1)) hb.2.1
      have Hl := Lib.hid hb.2.2
      clear hw2 hb c0 f0 HF
      have hsl := slice_65 w2 w.heap.size j (by omega) hj1
      go_wp2
      go_ret2
      exact ⟨rfl, Hl.out⟩
/-- strconv.FormatUint at base 16. -/
theorem formatU_any (n : Nat) (hn : n < 18446744073709551616) (w : World) (hL : Laid w) :
    Calls Tryz.prog 45 #[.int .u64 (n : Nat), .int .i64 16] w fun e w' => e = .returned (.string (strOfNums (hexL n))) ∧ Below w.heap.size w w' := by
  have HF := Lib.hid (format_any n hn w hL)
  clear hL
  go_enter Tryz.func45, Tryz.ntmps45
  go_wp2_with (first
    | (go_at_call 81; refine HF.out.mono ?_; rintro e w2 ⟨rfl, low⟩; have Low := Lib.hid low; clear low)
    | go_in)
  go_ret
  exact ⟨rfl, Low.out⟩
end
end Go.Proofs.YtpkolmmahoopcaaGreatDoor.Lab
