/- DERIVED. Texts of ours, merged: XCodLabel XDskSpec XDsk XDskOff XDskTornMath XSltSpec. -/
import Derived.Test.YtkjhoanlkkcfkaaGreatDoorMseg14
import Derived.Test.YtkjhoanlkkcfkaaGreatDoorMseg9
import Derived.Test.YtkjhoanlkkcfkaaGreatDoorProg
import Derived.Lib.Builder
import Derived.LaidEqlPtr
/- DERIVED. The contract of codec.Label. Written by mkcodec.py. -/
namespace Go.Proofs.YtkjhoanlkkcfkaaGreatDoor.Cod
open Go.RowKit Str
set_option maxRecDepth 100000 in
set_option maxHeartbeats 1000000 in
theorem label_any (A : Option Addr) (x c : Nat) (lv : Int) (cp : Nat) (L : List Int) (hx : L.length = x) (hle : x ≤ 40000) (w : World) (hB : Byt w A c L) :
    Calls Tryz.prog 75 #[.slice A x c, .agg #[.int .i64 lv, .int .u64 (cp : Nat)]] w fun e w' => ∃ v, e = .returned v ∧ NewB w.heap.size (L ++ (encN (uN lv) ++ compL cp)) v w' ∧ Below w.heap.size w w' := by
  have HB0 : Hid (SlB L (.slice A x c) w) := ⟨A, c, by rw [hx], hB⟩
  have Hlen : Hid (0 < [L, encN (uN lv), compL cp].flatten.length ∧ [L, encN (uN lv), compL cp].flatten.length ≤ 50000) := by
    have := encN_le (uN lv)
    have := compL_length cp
    constructor <;> simp <;> omega
  have hwr : Hid (IntKind.u64.wrap lv = (uN lv : Nat)) := wrap_uN lv
  clear hx hB
  go_enter Tryz.func75, Tryz.ntmps75
  obtain ⟨w0, hw0⟩ : ∃ w0, w0 = w.alloc (.cells #[.int .i64 lv, .int .u64 (cp : Nat)] 27) := ⟨_, rfl⟩
  have hs0 : w0.heap.size = w.heap.size + 1 := by rw [hw0, World.size_alloc]
  have hb0 : w0.heap[w.heap.size]? = some (.cells #[.int .i64 lv, .int .u64 (cp : Nat)] 27 (0, 0)) := by rw [hw0]; exact Go.heap_alloc_new w _
  have low0 : Below w.heap.size w w0 := by rw [hw0]; exact (Below.refl _ _).alloc (Nat.le_refl _) _
  have Hi : Hid ((Tryz.prog.info? 145).map (·.size) = some (u8s (compL cp)).size) := info8x8
  have Hb0 := Lib.hid hb0
  have Low0 := Lib.hid low0
  have Hs0 := Lib.hid hs0
  clear hb0 low0 hs0
  go_upto_region 2 with (first
    | (go_at_call 101; rw [← hw0]; refine (comps_any cp w0).mono ?_; rintro e w1 ⟨rfl, low1⟩; have Low1 := Lib.hid low1; clear low1)
    | (refine wpList_store_row rfl 145 (.tmp 5) (.tmp 8) rfl w1.heap.size (u8s (compL cp)) rfl rfl 145 _ (Go.heap_alloc_new w1 _) Hi.out (by simp [u8s_size, compL_length]) (u8s_one _) ?_; rw [World.setRow_alloc_new]))
  have hb1 : w1.heap[w.heap.size]? = some (.cells #[.int .i64 lv, .int .u64 (cp : Nat)] 27 (0, 0)) := (Low1.out.block _ (by rw [Hs0.out]; omega)).trans Hb0.out
  have hs1 : w.heap.size + 1 ≤ w1.heap.size := by have := Low1.out.size; rw [Hs0.out] at this; exact this
  have hl1 : Below w.heap.size w w1 := Low0.out.trans (Low1.out.mono (by rw [Hs0.out]; omega))
  obtain ⟨w2, hw2⟩ : ∃ w2, w2 = w1.alloc (.cells (u8s (compL cp)) 145) := ⟨_, rfl⟩
  have hb2 : w2.heap[w.heap.size]? = some (.cells #[.int .i64 lv, .int .u64 (cp : Nat)] 27 (0, 0)) := by rw [hw2]; exact (Go.heap_alloc_old w1 _ (by omega)).trans hb1
  have hc2 : w2.heap[w1.heap.size]? = some (.cells (u8s (compL cp)) 145 (0, 0)) := by rw [hw2]; exact Go.heap_alloc_new w1 _
  have hl2 : Below w.heap.size w w2 := by rw [hw2]; exact hl1.alloc (by omega) _
  have hs2 : w.heap.size ≤ w2.heap.size := by rw [hw2, World.size_alloc]; omega
  have CC : Hid (w2.cell? ⟨w.heap.size, 0, none⟩ = some (.int .i64 lv)) := by show _ = _; rw [cell_row hb2]; rfl
  have HL : Hid (SlB L (.slice A x c) w2) := HB0.out.at hl2 (Nat.le_refl _)
  have Hl2 := Lib.hid hl2
  have hbase := Lib.hid hs2
  have HC : Hid (SlB (compL cp) (.slice (some ⟨w1.heap.size, 0, none⟩) 8 8) w2) := ⟨_, _, rfl, byt_rowT hc2 rfl⟩
  rw [← hw2]
  clear hw2 hb2 hc2 hl2 hb1 hl1 Low1 Low0 Hb0 Hs0 hs1 Hi hs2 HB0
  obtain ⟨gc, hgc⟩ : ∃ gc, gc = w1.heap.size := ⟨_, rfl⟩
  rw [← hgc] at HC ⊢
  clear hgc
  have apx : apartB [9, 10, 11, 12, 13, 14, 15, 16, 4] = true := by decide
  refine wp_region_any (by kernel_rfl) ?_
  change wpAny _ _ _ _ _ _ _ (World.drew _)
  refine wpAny_inv (fun ll aa wx => Hid (ll.size = 9 ∧ Below w2.heap.size w2 wx) ∧ ∃ (z : Nat → Value), Hid (aa = ⟨#[.slice A x c, .agg #[.int .i64 lv, .int .u64 (cp : Nat)], undef, .pointer (some ⟨w.heap.size, 0, none⟩), z 4, .pointer (some ⟨gc, 0, none⟩), .pointer (some ⟨w.heap.size, 1, none⟩), .int .u64 (cp : Nat), .agg (u8s (compL cp)), z 9, z 10, z 11, z 12, z 13, z 14, z 15, z 16], []⟩) ∧ Holding [9, 10, 11, 12, 13, 14, 15, 16, 4] [some (.slice A x c), some (.pointer (some ⟨w.heap.size, 0, none⟩)), some (.int .i64 lv), some (.int .u64 (uN lv : Nat)), none, some (.slice (some ⟨gc, 0, none⟩) 8 8), none, none, none] ll z ∧ Whn ll 4 (SlB (encN (uN lv))) (z 13) wx ∧ Whn ll 6 (RowsM [L, encN (uN lv), compL cp]) (z 15) wx ∧ Whn ll 7 (NewB w.heap.size (L ++ (encN (uN lv) ++ compL cp))) (z 16) wx ∧ Whn ll 8 (NewB w.heap.size (L ++ (encN (uN lv) ++ compL cp))) (z 4) wx) ?_ (by kernel_rfl) ?_ ?_ _ _ _ _ (unlisted_none _) ?_
  · rintro ll aa wx ⟨h, _⟩
    exact h.out.1
  · rintro ll aa wx ⟨h, z, ha, hz, hp4, hp6, hp7, hp8⟩ hall
    have hx := Lib.hid h.out.2
    have e0 : z 9 = .slice A x c := hz 0 _ (hall 0 (by decide)) rfl
    have e1 : z 10 = .pointer (some ⟨w.heap.size, 0, none⟩) := hz 1 _ (hall 1 (by decide)) rfl
    have e2 : z 11 = .int .i64 lv := hz 2 _ (hall 2 (by decide)) rfl
    have e3 : z 12 = .int .u64 (uN lv : Nat) := hz 3 _ (hall 3 (by decide)) rfl
    have e5 : z 14 = .slice (some ⟨gc, 0, none⟩) 8 8 := hz 5 _ (hall 5 (by decide)) rfl
    have p4 := hp4.get (hall 4 (by decide))
    have p6 := hp6.get (hall 6 (by decide))
    have p7 := hp7.get (hall 7 (by decide))
    have p8 := hp8.get (hall 8 (by decide))
    clear hall hz h hp4 hp6 hp7 hp8
    obtain rfl := ha.out
    clear ha
    clear apx
    clear e0 e1 e2 e3 e5 p4 p6 p7
    have P8 := Lib.hid p8
    clear p8
    go_wp2
    go_ret
    exact ⟨_, rfl, P8.out, Hl2.out.trans (hx.out.mono hbase.out)⟩
  · rintro ll aa wx i ⟨h, z, ha, hz, hp4, hp6, hp7, hp8⟩ hi hu hw
    obtain rfl := ha.out
    have hsz := Lib.hid h.out.1
    have hx := Lib.hid h.out.2
    clear ha h
    have hin : i < 9 := hi
    obtain rfl | rfl | rfl | rfl | rfl | rfl | rfl | rfl | rfl : i = 0 ∨ i = 1 ∨ i = 2 ∨ i = 3 ∨ i = 4 ∨ i = 5 ∨ i = 6 ∨ i = 7 ∨ i = 8 := by omega
    · refine wpOp_plain rfl rfl ?_
      go_simp
      exact ⟨⟨by simp [hsz.out], hx.out⟩, upd z 9 (.slice A x c), (by unfold Hid; simp [upd]), hz.next apx hsz.out 0 (by decide) _ (fun _ h => Option.some.inj h), hp4.keep (by decide), hp6.keep (by decide), hp7.keep (by decide), hp8.keep (by decide)⟩
    · refine wpOp_plain rfl rfl ?_
      go_simp
      exact ⟨⟨by simp [hsz.out], hx.out⟩, upd z 10 (.pointer (some ⟨w.heap.size, 0, none⟩)), (by unfold Hid; simp [upd]), hz.next apx hsz.out 1 (by decide) _ (fun _ h => Option.some.inj h), hp4.keep (by decide), hp6.keep (by decide), hp7.keep (by decide), hp8.keep (by decide)⟩
    · have e1 : z 10 = .pointer (some ⟨w.heap.size, 0, none⟩) := hz 1 _ (hw 1 (by kernel_rfl)) rfl
      have cl : wx.cell? ⟨w.heap.size, 0, none⟩ = some (.int .i64 lv) := (hx.out.cell (p := ⟨w.heap.size, 0, none⟩) (World.block_lt_of_cell? _ _ CC.out)).trans CC.out
      refine wpOp_plain rfl rfl ?_
      go_simp
      exact ⟨⟨by simp [hsz.out], hx.out⟩, upd z 11 (.int .i64 lv), (by unfold Hid; simp [upd, e1]), hz.next apx hsz.out 2 (by decide) _ (fun _ h => Option.some.inj h), hp4.keep (by decide), hp6.keep (by decide), hp7.keep (by decide), hp8.keep (by decide)⟩
    · have e2 : z 11 = .int .i64 lv := hz 2 _ (hw 2 (by kernel_rfl)) rfl
      refine wpOp_plain rfl rfl ?_
      go_simp
      exact ⟨⟨by simp [hsz.out], hx.out⟩, upd z 12 (.int .u64 (uN lv : Nat)), (by unfold Hid; simp [upd, e2, hwr.out]), hz.next apx hsz.out 3 (by decide) _ (fun _ h => Option.some.inj h), hp4.keep (by decide), hp6.keep (by decide), hp7.keep (by decide), hp8.keep (by decide)⟩
    · have e3 : z 12 = .int .u64 (uN lv : Nat) := hz 3 _ (hw 3 (by kernel_rfl)) rfl
      refine wpOp_plain rfl rfl ?_
      go_simp
      go_at_call 103
      refine (digits_new (uN lv) (uN_lt lv) _).mono ?_
      rintro e w' ⟨vr, rfl, own, low⟩
      exact ⟨⟨by simp [hsz.out], hx.out.trans (low.mono hx.out.size)⟩, upd z 13 (vr), (by unfold Hid; simp [upd, e3]), hz.next apx hsz.out 4 (by decide) _ (fun _ h => by cases h), Whn.done (own.sl), (hp6.keep (by decide)).map (fun h => h.later low), (hp7.keep (by decide)).map (fun h => h.later low), (hp8.keep (by decide)).map (fun h => h.later low)⟩
    · refine wpOp_plain rfl rfl ?_
      go_simp
      exact ⟨⟨by simp [hsz.out], hx.out⟩, upd z 14 (.slice (some ⟨gc, 0, none⟩) 8 8), (by unfold Hid; simp [upd]), hz.next apx hsz.out 5 (by decide) _ (fun _ h => Option.some.inj h), hp4.keep (by decide), hp6.keep (by decide), hp7.keep (by decide), hp8.keep (by decide)⟩
    · have e0 : z 9 = .slice A x c := hz 0 _ (hw 0 (by kernel_rfl)) rfl
      have e5 : z 14 = .slice (some ⟨gc, 0, none⟩) 8 8 := hz 5 _ (hw 5 (by kernel_rfl)) rfl
      have p4 := hp4.get (hw 4 (by kernel_rfl))
      obtain ⟨A3, c3, e13, b3⟩ := p4
      refine wpOp_plain rfl rfl ?_
      go_simp
      have lown : Below wx.heap.size wx (wx.alloc (.cells #[.slice A x c, .slice A3 (encN (uN lv)).length c3, .slice (some ⟨gc, 0, none⟩) 8 8] 38)) := (Below.refl _ _).alloc (Nat.le_refl _) _
      exact ⟨⟨by simp [hsz.out], hx.out.trans (lown.mono hx.out.size)⟩, upd z 15 (.slice (some ⟨wx.heap.size, 0, none⟩) 3 3), (by unfold Hid; simp [upd, e0, e5, e13]), hz.next apx hsz.out 6 (by decide) _ (fun _ h => by cases h), (hp4.keep (by decide)).map (fun h => h.later lown), Whn.done (RowsM.three (HL.out.at hx.out (Nat.le_refl _)) ⟨A3, c3, rfl, b3⟩ (HC.out.at hx.out (Nat.le_refl _))), (hp7.keep (by decide)).map (fun h => h.later lown), (hp8.keep (by decide)).map (fun h => h.later lown)⟩
    · have p6 := hp6.get (hw 6 (by kernel_rfl))
      refine wpOp_plain rfl rfl ?_
      go_simp
      go_at_call 102
      refine (concat_rows _ _ _ p6 (by simp) Hlen.out.1 Hlen.out.2).mono ?_
      rintro e w' ⟨vr, rfl, own, low⟩
      exact ⟨⟨by simp [hsz.out], hx.out.trans (low.mono hx.out.size)⟩, upd z 16 (vr), (by unfold Hid; simp [upd]), hz.next apx hsz.out 7 (by decide) _ (fun _ h => by cases h), (hp4.keep (by decide)).map (fun h => h.later low), (hp6.keep (by decide)).map (fun h => h.later low), Whn.done (by have h := own.base (B' := w.heap.size) (Nat.le_trans hbase.out hx.out.size); have h2 : NewB w.heap.size (L ++ (encN (uN lv) ++ compL cp)) vr w' := (by simpa using h); exact h2), (hp8.keep (by decide)).map (fun h => h.later low)⟩
    · have p7 := hp7.get (hw 7 (by kernel_rfl))
      refine wpOp_plain rfl rfl ?_
      go_simp
      exact ⟨⟨by simp [hsz.out], hx.out⟩, upd z 4 (z 16), (by unfold Hid; simp [upd]), hz.next apx hsz.out 8 (by decide) _ (fun _ h => by cases h), hp4.keep (by decide), hp6.keep (by decide), hp7.keep (by decide), Whn.done (p7)⟩
  · exact ⟨⟨rfl, (Below.refl _ _).drew⟩, fun x => (#[.slice A x c, .agg #[.int .i64 lv, .int .u64 (cp : Nat)], undef, .pointer (some ⟨w.heap.size, 0, none⟩), .slice none 0 0, .pointer (some ⟨gc, 0, none⟩), .pointer (some ⟨w.heap.size, 1, none⟩), .int .u64 (cp : Nat), .agg (u8s (compL cp)), undef, undef, undef, undef, undef, undef, undef, undef] : Array Value).getD x undef, rfl, Holding.start, Whn.none (by decide), Whn.none (by decide), Whn.none (by decide), Whn.none (by decide)⟩
end Go.Proofs.YtkjhoanlkkcfkaaGreatDoor.Cod
/- DERIVED. A disk on lists: what its calls make. No program. -/
namespace Go.Proofs.YtkjhoanlkkcfkaaGreatDoor.Dsk
open Go.RowKit
structure DS where
  data : List Int
  writes : Int
  off : Bool
  laid : Bool
  whole : Int
  mask : List Int
def z16 : List Int := List.replicate 16 0
/-- is byte i of the mask's sector written? -/
def bitX (x : Int) (s : Nat) : Bool := (bits .and .u8 (x / 2 ^ s) 1 == 1)
def bitM (m : List Int) (i : Nat) : Bool := bitX (m.getD (i / 8) 0) (i % 8)
/-- the sector at, of n. -/
def secL (d : List Int) (k : Nat) : List Int := (d.drop (k * 128)).take 128
def tornL (m o b : List Int) : List Int := (List.range 128).map fun i => if bitM m i then b.getD i 0 else o.getD i 0
def DS.due (D : DS) : Bool := D.laid && decide (D.whole = 0)
/-- a sector written. -/
def stepD (D : DS) (k : Nat) (b : List Int) : DS :=
  if D.due then { data := splice D.data (k * 128) (tornL D.mask (secL D.data k) b), writes := D.writes + 1, off := true, laid := false, whole := 0, mask := z16 }
  else { D with data := splice D.data (k * 128) b, writes := D.writes + 1, whole := if D.laid then D.whole - 1 else D.whole }
/-- n sectors written, from the i-th of b on. -/
def runD (D : DS) (at_ : Nat) (b : List Int) (i : Nat) : Nat → DS × Int
  | 0 => (D, 0)
  | n + 1 => if (stepD D (at_ + i) (secL b i)).off then (stepD D (at_ + i) (secL b i), 12) else runD (stepD D (at_ + i) (secL b i)) at_ b (i + 1) n
def DS.secs (D : DS) : Nat := D.data.length / 128
def withinI (k n o : Int) : Bool := decide (0 ≤ k) && decide (0 ≤ n) && decide (n ≤ o - k)
def refE (D : DS) (fits : Bool) : Int := if fits then (if D.off then 12 else 0) else 2
structure DS.Ok (D : DS) : Prop where
  inb : InB D.data
  whole128 : D.data.length = D.secs * 128
  one : 1 ≤ D.secs
  most : D.secs ≤ 16384
  mlen : D.mask.length = 16
  minb : InB D.mask
  wh : 0 ≤ D.whole ∧ D.whole ≤ 9223372036854775807
  wr : 0 ≤ D.writes
theorem splice_get {α : Type} (L : List α) (o : Nat) (cs : List α) (h : o + cs.length ≤ L.length) (j : Nat) : (splice L o cs)[j]? = if j < o then L[j]? else if j < o + cs.length then cs[j - o]? else L[j]? := by
  have hl : (L.take o).length = o := by rw [List.length_take]; omega
  unfold splice
  by_cases h1 : j < o
  · rw [if_pos h1, List.getElem?_append_left (by omega), List.getElem?_take, if_pos h1]
  · rw [if_neg h1, List.getElem?_append_right (by omega), hl]
    by_cases h2 : j < o + cs.length
    · rw [if_pos h2, List.getElem?_append_left (by omega)]
    · rw [if_neg h2, List.getElem?_append_right (by omega), List.getElem?_drop]
      congr 1; omega
theorem splice_len {α : Type} (L : List α) (o : Nat) (cs : List α) (h : o + cs.length ≤ L.length) : (splice L o cs).length = L.length := by
  simp [splice]; omega
theorem splice_more (L : List Value) (o k : Nat) (T : List Int) (x : Int) (hk : k < T.length) (h : o + T.length ≤ L.length) (hx : x = T.getD k 0) : (splice L o (vals (T.take k))).toArray.setIfInBounds (o + k) (.int .u8 x) = (splice L o (vals (T.take (k + 1)))).toArray := by
  have l1 : (vals (T.take k)).length = k := by rw [vals_length, List.length_take]; omega
  have l2 : (vals (T.take (k + 1))).length = k + 1 := by rw [vals_length, List.length_take]; omega
  apply Array.ext_getElem?
  intro j
  rw [Array.getElem?_setIfInBounds, List.getElem?_toArray, List.getElem?_toArray, splice_get _ _ _ (by omega), splice_get _ _ _ (by omega), l1, l2, List.size_toArray, splice_len _ _ _ (by omega)]
  by_cases e : o + k = j
  · subst e
    rw [if_pos rfl, if_pos (by omega), if_neg (by omega), if_pos (by omega), Nat.add_sub_cancel_left]
    simp [vals, hx, hk]
  · rw [if_neg e]
    by_cases h1 : j < o
    · rw [if_pos h1, if_pos h1]
    · rw [if_neg h1, if_neg h1]
      by_cases h2 : j < o + k
      · rw [if_pos h2, if_pos (by omega)]
        simp [vals, show j - o < k by omega, show j - o < k + 1 by omega]
      · rw [if_neg h2, if_neg (by omega)]
theorem splice_same (L : List Value) (o k : Nat) (T : List Int) (hk : k < T.length) (h : o + T.length ≤ L.length) (hx : L[o + k]? = some (.int .u8 (T.getD k 0))) : splice L o (vals (T.take k)) = splice L o (vals (T.take (k + 1))) := by
  have l1 : (vals (T.take k)).length = k := by rw [vals_length, List.length_take]; omega
  have l2 : (vals (T.take (k + 1))).length = k + 1 := by rw [vals_length, List.length_take]; omega
  apply List.ext_getElem?
  intro j
  rw [splice_get _ _ _ (by omega), splice_get _ _ _ (by omega), l1, l2]
  by_cases h1 : j < o
  · rw [if_pos h1, if_pos h1]
  · rw [if_neg h1, if_neg h1]
    by_cases h2 : j < o + k
    · rw [if_pos h2, if_pos (by omega)]
      simp [vals, show j - o < k by omega, show j - o < k + 1 by omega]
    · rw [if_neg h2]
      by_cases h3 : j = o + k
      · subst h3
        rw [if_pos (by omega), hx, Nat.add_sub_cancel_left]
        simp [vals, hk]
      · rw [if_neg (by omega)]
theorem torn_len (m o b : List Int) : (tornL m o b).length = 128 := by simp [tornL]
theorem torn_get (m o b : List Int) (k : Nat) (h : k < 128) : (tornL m o b).getD k 0 = if bitM m k then b.getD k 0 else o.getD k 0 := by
  simp [tornL, List.getD_eq_getElem?_getD, h]
theorem secL_get (d : List Int) (k j : Nat) (h : j < 128) : (secL d k).getD j 0 = d.getD (k * 128 + j) 0 := by
  simp [secL, List.getD_eq_getElem?_getD, h]
theorem secL_len (d : List Int) (k : Nat) (h : k * 128 + 128 ≤ d.length) : (secL d k).length = 128 := by
  simp [secL]; omega
end Go.Proofs.YtkjhoanlkkcfkaaGreatDoor.Dsk
/- DERIVED. A disk in memory; the contracts of disk's small methods. -/
namespace Go.Proofs.YtkjhoanlkkcfkaaGreatDoor.Dsk
open Go.RowKit
/-- where a disk lies: its struct, its bytes, and what lies behind them. -/
structure DK where
  g : Nat
  h : Nat
  sp : List Value
def cutC (l : Bool) (k : Int) (m : List Int) : List Value := .bool l :: .int .i64 k :: vals m
def rowC (K : DK) (n : Nat) (wr : Int) (off : Bool) (c : List Value) : Array Value := (.pointer (some ⟨K.g, 0, none⟩) :: .slice (some ⟨K.h, 0, none⟩) n (n + K.sp.length) :: .int .i64 wr :: .bool off :: c).toArray
structure Dsk (w : World) (K : DK) (D : DS) : Prop where
  row : w.heap[K.g]? = some (.cells (rowC K D.data.length D.writes D.off (cutC D.laid D.whole D.mask)) 74 (0, 0))
  body : w.heap[K.h]? = some (.cells (vals D.data ++ K.sp).toArray 5 (0, 0))
  ne : K.g ≠ K.h
  ok : D.Ok
/-- its blocks. -/
def DK.bl (K : DK) : List Nat := [K.g, K.h]
theorem Dsk.glt {w : World} {K : DK} {D : DS} (h : Dsk w K D) : K.g < w.heap.size := (Array.getElem?_eq_some_iff.1 h.row).1
theorem Dsk.hlt {w : World} {K : DK} {D : DS} (h : Dsk w K D) : K.h < w.heap.size := (Array.getElem?_eq_some_iff.1 h.body).1
theorem Dsk.chg {w w' : World} {K : DK} {D : DS} {S : List Nat} (h : Dsk w K D) (hc : Chg S w w') (hg : K.g ∉ S) (hh : K.h ∉ S) : Dsk w' K D :=
  ⟨hc.at h.row hg, hc.at h.body hh, h.ne, h.ok⟩
theorem Dsk.later {w w' : World} {K : DK} {D : DS} (h : Dsk w K D) (hb : Below w.heap.size w w') : Dsk w' K D := h.chg (S := []) (Chg.of_below hb) (by simp) (by simp)
def DK.ptr (K : DK) : Value := .pointer (some ⟨K.g, 0, none⟩)
theorem row0 {w : World} {K : DK} {n : Nat} {wr : Int} {off l : Bool} {k : Int} {m : List Int} {T : Nat} {fr : Nat × Nat} (h : w.heap[K.g]? = some (.cells (rowC K n wr off (cutC l k m)) T fr)) :
    w.cell? ⟨K.g, 0, none⟩ = some (.pointer (some ⟨K.g, 0, none⟩)) ∧ w.cell? ⟨K.g, 1, none⟩ = some (.slice (some ⟨K.h, 0, none⟩) n (n + K.sp.length)) ∧ w.cell? ⟨K.g, 2, none⟩ = some (.int .i64 wr) ∧ w.cell? ⟨K.g, 3, none⟩ = some (.bool off) ∧ w.cell? ⟨K.g, 4, none⟩ = some (.bool l) ∧ w.cell? ⟨K.g, 5, none⟩ = some (.int .i64 k) ∧ ∀ j, j < m.length → w.cell? ⟨K.g, 6 + j, none⟩ = some (.int .u8 (m.getD j 0)) := by
  refine ⟨?_, ?_, ?_, ?_, ?_, ?_, fun j hj => ?_⟩ <;> rw [cell_row h]
  · rfl
  · rfl
  · rfl
  · rfl
  · rfl
  · rfl
  · rw [rowC, cutC, List.getElem?_toArray, show 6 + j = j + 6 by omega]
    simp [vals, hj]
theorem body_cell {w : World} {K : DK} {L : List Int} {T : Nat} {fr : Nat × Nat} (h : w.heap[K.h]? = some (.cells (vals L ++ K.sp).toArray T fr)) (j : Nat) (hj : j < L.length) : w.cell? ⟨K.h, j, none⟩ = some (.int .u8 (L.getD j 0)) := by
  rw [cell_row h, List.getElem?_toArray, List.getElem?_append_left (by rw [vals_length]; exact hj)]
  simp [vals, hj]
theorem eq_same (a : Addr) (w : World) : (binOp .eql 32 (.pointer (some a)) (.pointer (some a))).run Tryz.prog w = .ok (.bool true) w := by
  obtain ⟨j, hj⟩ : ∃ j, Tryz.prog.info? 74 = some j := Option.isSome_iff_exists.1 (by kernel_rfl)
  exact Go.run_eql_ptr_same w a (te := 74) Tryz.underlying32 hj
theorem made_any {w : World} {K : DK} {D : DS} (h : Dsk w K D) : Calls Tryz.prog 36 #[K.ptr] w fun e w' => e = .returned (.bool true) ∧ w = w' := by
  obtain ⟨c0, _⟩ := row0 h.row
  have he := eq_same ⟨K.g, 0, none⟩
  unfold DK.ptr
  clear h
  go_enter Tryz.func36, Tryz.ntmps36
  go_wp2
  go_ret
  exact ⟨rfl, rfl⟩
theorem within_any (k n o : Int) (w : World) (hk : k ≤ 9223372036854775807) (h0 : 0 ≤ o) (ho : o ≤ 9223372036854775807) : Calls Tryz.prog 39 #[.int .i64 k, .int .i64 n, .int .i64 o] w fun e w' => e = .returned (.bool (withinI k n o)) ∧ w = w' := by
  by_cases a1 : 0 ≤ k
  · by_cases a2 : 0 ≤ n
    · by_cases a3 : n ≤ o - k
      · rw [show withinI k n o = true by rw [withinI, decide_eq_true a1, decide_eq_true a2, decide_eq_true a3]; rfl]
        go_enter Tryz.func39, Tryz.ntmps39
        go_wp2
        go_ret
        exact ⟨rfl, rfl⟩
      · rw [show withinI k n o = false by rw [withinI, decide_eq_true a1, decide_eq_true a2, decide_eq_false a3]; rfl]
        go_enter Tryz.func39, Tryz.ntmps39
        go_wp2
        go_ret
        exact ⟨rfl, rfl⟩
    · rw [show withinI k n o = false by rw [withinI, decide_eq_true a1, decide_eq_false a2]; rfl]
      go_enter Tryz.func39, Tryz.ntmps39
      go_wp2
      go_ret
      exact ⟨rfl, rfl⟩
  · rw [show withinI k n o = false by rw [withinI, decide_eq_false a1]; rfl]
    go_enter Tryz.func39, Tryz.ntmps39
    go_wp2
    go_ret
    exact ⟨rfl, rfl⟩
theorem refuses_any {w : World} {K : DK} {D : DS} (h : Dsk w K D) (b : Bool) : Calls Tryz.prog 73 #[K.ptr, .bool b] w fun e w' => e = .returned (.int .i64 (refE D b)) ∧ w = w' := by
  have Hm := Lib.hid (made_any h)
  obtain ⟨_, _, _, c3, _⟩ := row0 h.row
  unfold refE DK.ptr at *
  obtain ⟨off, ho⟩ : ∃ off, off = D.off := ⟨_, rfl⟩
  rw [← ho] at c3 ⊢
  clear h ho
  cases b <;> cases off <;>
  · go_enter Tryz.func73, Tryz.ntmps73
    go_wp2_with (go_at_call 36; refine Hm.out.mono ?_; rintro e w' ⟨rfl, rfl⟩)
    go_ret
    exact ⟨rfl, rfl⟩
theorem sectors_count {w : World} {K : DK} {D : DS} (h : Dsk w K D) : Calls Tryz.prog 14 #[K.ptr] w fun e w' => e = .returned (.int .i64 D.secs) ∧ w = w' := by
  have Hm := Lib.hid (made_any h)
  obtain ⟨_, c1, _⟩ := row0 h.row
  have hn := h.ok.whole128
  have hm := h.ok.most
  unfold DK.ptr at *
  obtain ⟨s, hs⟩ : ∃ s, s = D.secs := ⟨_, rfl⟩
  rw [hn, ← hs] at c1
  rw [← hs] at hm ⊢
  clear h hn hs
  go_enter Tryz.func14, Tryz.ntmps14
  go_wp2_with (go_at_call 36; refine Hm.out.mono ?_; rintro e w' ⟨rfl, rfl⟩)
  go_ret
  refine ⟨?_, rfl⟩
  congr 3
/-- the slice of n sectors from the k-th on. -/
def secV (K : DK) (k n cap : Nat) : Value := .slice (if cap = k * 128 then some ⟨K.h, 0, none⟩ else some ⟨K.h, k * 128, none⟩) (n * 128) (cap - k * 128)
theorem secV_yes (K : DK) (k n cap : Nat) (h : cap = k * 128) : secV K k n cap = .slice (some ⟨K.h, 0, none⟩) ((k + n) * 128 - k * 128) (k * 128 - k * 128) := by
  unfold secV; rw [if_pos h, h]; congr 1; omega
theorem secV_no (K : DK) (k n cap : Nat) (h : ¬ cap = k * 128) : secV K k n cap = .slice (some ⟨K.h, k * 128, none⟩) ((k + n) * 128 - k * 128) (cap - k * 128) := by
  unfold secV; rw [if_neg h]; congr 1; omega
theorem sectors_any {w : World} {K : DK} {D : DS} (h : Dsk w K D) (k n : Nat) (hk : k + n ≤ D.secs) : Calls Tryz.prog 104 #[K.ptr, .int .i64 k, .int .i64 n] w fun e w' => e = .returned (secV K k n (D.data.length + K.sp.length)) ∧ w = w' := by
  obtain ⟨_, c1, _⟩ := row0 h.row
  have hn := h.ok.whole128
  have hm := h.ok.most
  unfold DK.ptr at *
  obtain ⟨s, hs⟩ : ∃ s, s = D.secs := ⟨_, rfl⟩
  rw [hn, ← hs] at c1
  rw [hn]
  rw [← hs] at hm hk ⊢
  obtain ⟨c, hc⟩ : ∃ c, c = s * 128 + K.sp.length := ⟨_, rfl⟩
  rw [← hc] at c1 ⊢
  have hcs : s * 128 ≤ c := by omega
  clear h hn hs hc
  by_cases e : c = k * 128
  · have hV := secV_yes K k n c e
    rw [hV]
    clear hV
    go_enter Tryz.func104, Tryz.ntmps104
    go_wp2
    go_ret
    exact ⟨rfl, rfl⟩
  · have hV := secV_no K k n c e
    rw [hV]
    clear hV
    go_enter Tryz.func104, Tryz.ntmps104
    go_wp2
    go_ret
    exact ⟨rfl, rfl⟩
end Go.Proofs.YtkjhoanlkkcfkaaGreatDoor.Dsk
/- DERIVED. The contract of Disk.Off. -/
namespace Go.Proofs.YtkjhoanlkkcfkaaGreatDoor.Dsk
open Go.RowKit
theorem off_any {w : World} {K : DK} {D : DS} (h : Dsk w K D) : Calls Tryz.prog 29 #[K.ptr] w fun e w' => e = .returned (.bool D.off) ∧ w = w' := by
  have Hm := Lib.hid (made_any h)
  obtain ⟨_, _, _, c3, _⟩ := row0 h.row
  unfold DK.ptr at *
  clear h
  go_enter Tryz.func29, Tryz.ntmps29
  go_wp2_with (go_at_call 36; refine Hm.out.mono ?_; rintro e w' ⟨rfl, rfl⟩)
  go_ret
  exact ⟨rfl, rfl⟩
end Go.Proofs.YtkjhoanlkkcfkaaGreatDoor.Dsk
/- DERIVED. What a write with a cut ahead leaves, byte by byte. No program. -/
namespace Go.Proofs.YtkjhoanlkkcfkaaGreatDoor.Dsk
open Go.RowKit
theorem splice_getD (L : List Int) (o : Nat) (cs : List Int) (h : o + cs.length ≤ L.length) (j : Nat) : (splice L o cs).getD j 0 = if j < o then L.getD j 0 else if j < o + cs.length then cs.getD (j - o) 0 else L.getD j 0 := by
  simp only [List.getD_eq_getElem?_getD]
  rw [splice_get _ _ _ h]
  split
  · rfl
  · split <;> rfl
/-- is byte j written, where W more sectors are written whole, from the first-th on, of m? -/
def hitB (mask : List Int) (first m W j : Nat) : Bool := decide (first ≤ j / 128) && decide (j / 128 < first + m) && (decide (j / 128 - first < W) || (decide (j / 128 - first = W) && bitM mask (j % 128)))
structure TornQ (D : DS) (k : Nat) (b : List Int) (i m W : Nat) (R : DS × Int) : Prop where
  err : R.2 = if W < m then 12 else 0
  off : R.1.off = decide (W < m)
  len : R.1.data.length = D.data.length
  get : ∀ j, j < D.data.length → R.1.data.getD j 0 = if hitB D.mask (k + i) m W j then b.getD (j - k * 128) 0 else D.data.getD j 0
theorem torn_run (k : Nat) (b : List Int) : ∀ (m : Nat) (D : DS) (i W : Nat), D.off = false → D.laid = true → D.whole = W → (k + i + m) * 128 ≤ D.data.length → (i + m) * 128 ≤ b.length → TornQ D k b i m W (runD D k b i m) := by
  intro m
  induction m with
  | zero =>
    intro D i W ho _ _ _ _
    refine ⟨by simp [runD], by simp [runD, ho], by simp [runD], fun j _ => ?_⟩
    have : hitB D.mask (k + i) 0 W j = false := by
      unfold hitB
      by_cases h : k + i ≤ j / 128
      · rw [decide_eq_false (show ¬ j / 128 < k + i + 0 by omega)]; simp
      · rw [decide_eq_false h]; simp
    rw [runD, this, if_neg Bool.false_ne_true]
  | succ m ih =>
    intro D i W ho hl hw hd hb
    have hsl : i * 128 + 128 ≤ b.length := by omega
    have hls := secL_len b i hsl
    have hfit : (k + i) * 128 + 128 ≤ D.data.length := by omega
    by_cases h0 : W = 0
    · subst h0
      have hdue : D.due = true := by simp [DS.due, hl, hw]
      have hst : stepD D (k + i) (secL b i) = { data := splice D.data ((k + i) * 128) (tornL D.mask (secL D.data (k + i)) (secL b i)), writes := D.writes + 1, off := true, laid := false, whole := 0, mask := z16 } := by
        unfold stepD; rw [if_pos hdue]
      have hr : runD D k b i (m + 1) = (stepD D (k + i) (secL b i), 12) := by
        rw [runD, if_pos (by rw [hst])]
      rw [hr, hst]
      have ht : (tornL D.mask (secL D.data (k + i)) (secL b i)).length = 128 := torn_len _ _ _
      refine ⟨by simp, by simp, splice_len _ _ _ (by omega), fun j hj => ?_⟩
      simp only
      rw [splice_getD _ _ _ (by omega), ht]
      by_cases h1 : j < (k + i) * 128
      · have : hitB D.mask (k + i) (m + 1) 0 j = false := by
          unfold hitB; rw [decide_eq_false (show ¬ k + i ≤ j / 128 by omega)]; simp
        rw [if_pos h1, this, if_neg Bool.false_ne_true]
      · rw [if_neg h1]
        by_cases h2 : j < (k + i) * 128 + 128
        · have hq : j / 128 = k + i := by omega
          have hh : hitB D.mask (k + i) (m + 1) 0 j = bitM D.mask (j % 128) := by
            unfold hitB; rw [hq]; simp
          rw [if_pos h2, hh, torn_get _ _ _ _ (by omega), show j - (k + i) * 128 = j % 128 by omega, secL_get _ _ _ (by omega), secL_get _ _ _ (by omega)]
          rw [show i * 128 + j % 128 = j - k * 128 by omega, show (k + i) * 128 + j % 128 = j by omega]
        · have : hitB D.mask (k + i) (m + 1) 0 j = false := by
            unfold hitB; rw [decide_eq_false (show ¬ j / 128 - (k + i) < 0 by omega), decide_eq_false (show ¬ j / 128 - (k + i) = 0 by omega)]; simp
          rw [if_neg h2, this, if_neg Bool.false_ne_true]
    · obtain ⟨V, rfl⟩ : ∃ V, W = V + 1 := ⟨W - 1, by omega⟩
      have hdue : D.due = false := by
        have : D.whole ≠ 0 := by omega
        simp [DS.due, hl, this]
      have hst : stepD D (k + i) (secL b i) = { D with data := splice D.data ((k + i) * 128) (secL b i), writes := D.writes + 1, whole := D.whole - 1 } := by
        unfold stepD; rw [if_neg (by rw [hdue]; decide), if_pos hl]
      have hr : runD D k b i (m + 1) = runD (stepD D (k + i) (secL b i)) k b (i + 1) m := by
        rw [runD, if_neg (by rw [hst]; simp [ho])]
      have hlen : (splice D.data ((k + i) * 128) (secL b i)).length = D.data.length := splice_len _ _ _ (by omega)
      have h := ih (stepD D (k + i) (secL b i)) (i + 1) V (by rw [hst]; exact ho) (by rw [hst]; exact hl) (by rw [hst]; simp only; omega) (by rw [hst]; simp only [hlen]; omega) (by omega)
      rw [hr]
      obtain ⟨e1, e2, e3, e4⟩ := h
      rw [hst] at e1 e2 e3 e4 ⊢
      simp only [hlen] at e3 e4
      refine ⟨by rw [e1]; simp, by rw [e2]; simp, e3, fun j hj => ?_⟩
      rw [e4 j hj, splice_getD _ _ _ (by omega), hls]
      by_cases h1 : j < (k + i) * 128
      · have a1 : hitB D.mask (k + (i + 1)) m V j = false := by
          unfold hitB; rw [decide_eq_false (show ¬ k + (i + 1) ≤ j / 128 by omega)]; simp
        have a2 : hitB D.mask (k + i) (m + 1) (V + 1) j = false := by
          unfold hitB; rw [decide_eq_false (show ¬ k + i ≤ j / 128 by omega)]; simp
        rw [a1, a2, if_neg Bool.false_ne_true, if_neg Bool.false_ne_true, if_pos h1]
      · by_cases h2 : j < (k + i) * 128 + 128
        · have a1 : hitB D.mask (k + (i + 1)) m V j = false := by
            unfold hitB; rw [decide_eq_false (show ¬ k + (i + 1) ≤ j / 128 by omega)]; simp
          have a2 : hitB D.mask (k + i) (m + 1) (V + 1) j = true := by
            unfold hitB; rw [decide_eq_true (show k + i ≤ j / 128 by omega), decide_eq_true (show j / 128 < k + i + (m + 1) by omega), decide_eq_true (show j / 128 - (k + i) < V + 1 by omega)]; simp
          rw [a1, a2, if_neg Bool.false_ne_true, if_pos rfl, if_neg h1, if_pos h2, secL_get _ _ _ (by omega), show i * 128 + (j - (k + i) * 128) = j - k * 128 by omega]
        · have a : hitB D.mask (k + (i + 1)) m V j = hitB D.mask (k + i) (m + 1) (V + 1) j := by
            unfold hitB
            rw [show decide (k + (i + 1) ≤ j / 128) = decide (k + i ≤ j / 128) by rw [decide_eq_true (show k + (i + 1) ≤ j / 128 by omega), decide_eq_true (show k + i ≤ j / 128 by omega)],
              show decide (j / 128 < k + (i + 1) + m) = decide (j / 128 < k + i + (m + 1)) by congr 2; omega,
              show decide (j / 128 - (k + (i + 1)) < V) = decide (j / 128 - (k + i) < V + 1) by congr 1; apply propext; omega,
              show decide (j / 128 - (k + (i + 1)) = V) = decide (j / 128 - (k + i) = V + 1) by congr 1; apply propext; omega]
          rw [a, if_neg h1, if_neg h2]
end Go.Proofs.YtkjhoanlkkcfkaaGreatDoor.Dsk
/- DERIVED. A log on lists: the slots' bytes, and what is read of bytes. No program. -/
namespace Go.Proofs.YtkjhoanlkkcfkaaGreatDoor.Slt
open Go.RowKit Dsk
/-- the sectors of a record of n bytes. -/
def tk (n : Nat) : Nat := (n + 132) / 128
theorem tk_pos (n : Nat) : 1 ≤ tk n := by unfold tk; omega
theorem tk_fit (n : Nat) : n + 5 ≤ tk n * 128 := by unfold tk; omega
def be4 (n : Nat) : List Int := [((n / 16777216 % 256 : Nat) : Int), ((n / 65536 % 256 : Nat) : Int), ((n / 256 % 256 : Nat) : Int), ((n % 256 : Nat) : Int)]
/-- k sectors: a mark, a length, a text, zeros. -/
def slotB (m : Int) (t : List Int) (k : Nat) : List Int := m :: (be4 t.length ++ (t ++ List.replicate (k * 128 - 5 - t.length) 0))
theorem slotB_len (m : Int) (t : List Int) (k : Nat) (h : t.length + 5 ≤ k * 128) : (slotB m t k).length = k * 128 := by
  simp [slotB, be4]; omega
theorem inb_nil : InB [] := fun j => by simp
theorem inb_cons {x : Int} {L : List Int} (hx : 0 ≤ x ∧ x < 256) (h : InB L) : InB (x :: L) := by
  intro j
  cases j with
  | zero => simpa using hx
  | succ j => simpa using h j
theorem inb_rep (n : Nat) : InB (List.replicate n 0) := by
  intro j
  simp only [List.getD_eq_getElem?_getD, List.getElem?_replicate]
  split <;> simp
theorem be4_in (n : Nat) : InB (be4 n) := by
  unfold be4
  exact inb_cons (by omega) (inb_cons (by omega) (inb_cons (by omega) (inb_cons (by omega) inb_nil)))
theorem slotB_in {m : Int} {t : List Int} {k : Nat} (hm : 0 ≤ m ∧ m < 256) (ht : InB t) : InB (slotB m t k) :=
  inb_cons hm ((be4_in _).append (ht.append (inb_rep _)))
/-- the length that a slot's head tells. -/
def lenB (b : List Int) : Nat := (b.getD 1 0).toNat * 16777216 + (b.getD 2 0).toNat * 65536 + (b.getD 3 0).toNat * 256 + (b.getD 4 0).toNat
theorem lenB_slot (m : Int) (t : List Int) (k : Nat) (R : List Int) (h : t.length < 4294967296) : lenB (slotB m t k ++ R) = t.length := by
  simp only [lenB, slotB, be4, List.cons_append, List.getD_cons_succ, List.getD_cons_zero, Int.toNat_natCast]
  omega
/-- a right slot, as bytes. -/
def Good (c : List Int) : Prop := c.getD 0 0 = 1 ∧ lenB c ≤ 262144 ∧ c.length = tk (lenB c) * 128
def textC (c : List Int) : List Int := (c.drop 5).take (lenB c)
theorem textC_len {c : List Int} (h : Good c) : (textC c).length = lenB c := by
  have := tk_fit (lenB c)
  simp [textC, h.2.2]; omega
theorem slotB_good (t : List Int) (h : t.length ≤ 262144) : Good (slotB 1 t (tk t.length)) := by
  have e : lenB (slotB 1 t (tk t.length)) = t.length := by simpa using lenB_slot 1 t (tk t.length) [] (by omega)
  exact ⟨rfl, by rw [e]; exact h, by rw [e]; exact slotB_len _ _ _ (tk_fit _)⟩
theorem slotB_text (t : List Int) (h : t.length ≤ 262144) : textC (slotB 1 t (tk t.length)) = t := by
  have e : lenB (slotB 1 t (tk t.length)) = t.length := by simpa using lenB_slot 1 t (tk t.length) [] (by omega)
  rw [textC, e]
  simp [slotB, be4]
/-- a slot that is not right, ahead of all that is left. -/
def BadB (R : List Int) : Prop := R ≠ [] ∧ R.getD 0 0 ≠ 0 ∧ ¬ (R.getD 0 0 = 1 ∧ lenB R ≤ 262144 ∧ tk (lenB R) * 128 ≤ R.length)
def Done (R : List Int) : Prop := R = [] ∨ R.getD 0 0 = 0
/-- the bytes are right slots, and what is left; e: is it a fault? -/
structure Reads (L : List Int) (cs : List (List Int)) (R : List Int) (e : Bool) : Prop where
  eq : L = cs.flatten ++ R
  good : ∀ c ∈ cs, Good c
  tail : if e then BadB R else Done R
theorem getD_append_lt {L R : List Int} {j : Nat} (h : j < L.length) : (L ++ R).getD j 0 = L.getD j 0 := by
  simp [List.getD_eq_getElem?_getD, List.getElem?_append_left h]
theorem getD_append_ge {L R : List Int} {j : Nat} (h : L.length ≤ j) : (L ++ R).getD j 0 = R.getD (j - L.length) 0 := by
  simp [List.getD_eq_getElem?_getD, List.getElem?_append_right h]
theorem getD_take' {L : List Int} {n j : Nat} (h : j < n) : (L.take n).getD j 0 = L.getD j 0 := by
  simp [List.getD_eq_getElem?_getD, h]
theorem getD_drop' {L : List Int} {n j : Nat} : (L.drop n).getD j 0 = L.getD (n + j) 0 := by
  simp [List.getD_eq_getElem?_getD]
theorem lenB_app {c : List Int} (h : 5 ≤ c.length) (R : List Int) : lenB (c ++ R) = lenB c := by
  unfold lenB
  rw [getD_append_lt (by omega), getD_append_lt (by omega), getD_append_lt (by omega), getD_append_lt (by omega)]
theorem lenB_take {c : List Int} {n : Nat} (h : 5 ≤ n) : lenB (c.take n) = lenB c := by
  unfold lenB
  rw [getD_take' (by omega), getD_take' (by omega), getD_take' (by omega), getD_take' (by omega)]
theorem Good.len {c : List Int} (h : Good c) : 128 ≤ c.length := by have := h.2.2; have := tk_pos (lenB c); omega
/-- each row of bytes is read so. -/
theorem reads_all : ∀ (n : Nat) (L : List Int), L.length ≤ n → ∃ cs R e, Reads L cs R e := by
  intro n
  induction n with
  | zero =>
    intro L h
    obtain rfl : L = [] := List.eq_nil_of_length_eq_zero (by omega)
    exact ⟨[], [], false, rfl, by simp, .inl rfl⟩
  | succ n ih =>
    intro L h
    by_cases h0 : L = [] ∨ L.getD 0 0 = 0
    · exact ⟨[], L, false, rfl, by simp, h0⟩
    · have h1 : L ≠ [] := fun e => h0 (.inl e)
      have h2 : L.getD 0 0 ≠ 0 := fun e => h0 (.inr e)
      by_cases hg : L.getD 0 0 = 1 ∧ lenB L ≤ 262144 ∧ tk (lenB L) * 128 ≤ L.length
      · have ht := tk_pos (lenB L)
        obtain ⟨cs, R, e, hr⟩ := ih (L.drop (tk (lenB L) * 128)) (by rw [List.length_drop]; omega)
        refine ⟨L.take (tk (lenB L) * 128) :: cs, R, e, ?_, ?_, hr.tail⟩
        · rw [List.flatten_cons, List.append_assoc, ← hr.eq, List.take_append_drop]
        · intro c hc
          rcases List.mem_cons.1 hc with rfl | hc
          · have e5 : lenB (L.take (tk (lenB L) * 128)) = lenB L := lenB_take (by omega)
            exact ⟨by rw [getD_take' (by omega)]; exact hg.1, by rw [e5]; exact hg.2.1, by rw [e5, List.length_take]; omega⟩
          · exact hr.good c hc
      · exact ⟨[], L, true, rfl, by simp, h1, h2, hg⟩
/-- and in no other way. -/
theorem reads_one : ∀ (cs cs' : List (List Int)) (L R R' : List Int) (e e' : Bool), Reads L cs R e → Reads L cs' R' e' → cs = cs' ∧ R = R' ∧ e = e' := by
  have key : ∀ (c R : List Int) (e : Bool), Good c → ∀ X, (if e then BadB R else Done R) → R = c ++ X → False := by
    intro c R e hc X ht hR
    have hl := hc.len
    have h0 : R.getD 0 0 = 1 := by rw [hR, getD_append_lt (by omega)]; exact hc.1
    have h1 : lenB R = lenB c := by rw [hR]; exact lenB_app (by omega) X
    cases e with
    | true =>
      obtain ⟨_, _, h⟩ := ht
      refine h ⟨h0, by rw [h1]; exact hc.2.1, ?_⟩
      rw [h1, ← hc.2.2, hR, List.length_append]; omega
    | false =>
      rcases ht with h | h
      · rw [h] at hR
        have := congrArg List.length hR
        simp at this; omega
      · rw [h0] at h; omega
  intro cs
  induction cs with
  | nil =>
    intro cs' L R R' e e' h h'
    cases cs' with
    | nil =>
      have : R = R' := by have := h.eq.symm.trans h'.eq; simpa using this
      subst this
      refine ⟨rfl, rfl, ?_⟩
      cases e <;> cases e'
      · rfl
      · rcases h.tail with a | a
        · exact absurd a h'.tail.1
        · exact absurd a h'.tail.2.1
      · rcases h'.tail with a | a
        · exact absurd a h.tail.1
        · exact absurd a h.tail.2.1
      · rfl
    | cons c cs' =>
      have hR : R = c ++ (cs'.flatten ++ R') := by have := h.eq.symm.trans h'.eq; simpa using this
      exact (key c R e (h'.good c (by simp)) _ h.tail hR).elim
  | cons c cs ih =>
    intro cs' L R R' e e' h h'
    cases cs' with
    | nil =>
      have hR : R' = c ++ (cs.flatten ++ R) := by have := h'.eq.symm.trans h.eq; simpa using this
      exact (key c R' e' (h.good c (by simp)) _ h'.tail hR).elim
    | cons c' cs' =>
      have hc := h.good c (by simp)
      have hc' := h'.good c' (by simp)
      have h2 : c ++ (cs.flatten ++ R) = c' ++ (cs'.flatten ++ R') := by have := h.eq.symm.trans h'.eq; simpa using this
      have hl := hc.len
      have hl' := hc'.len
      have e1 : lenB c = lenB c' := by
        have := congrArg lenB h2
        rwa [lenB_app (by omega), lenB_app (by omega)] at this
      have e2 : c.length = c'.length := by rw [hc.2.2, hc'.2.2, e1]
      obtain ⟨rfl, h3⟩ := List.append_inj h2 e2
      obtain ⟨rfl, rfl, rfl⟩ := ih cs' (cs.flatten ++ R) R R' e e' ⟨rfl, fun x hx => h.good x (by simp [hx]), h.tail⟩ ⟨h3, fun x hx => h'.good x (by simp [hx]), h'.tail⟩
      exact ⟨rfl, rfl, rfl⟩
/-- where the i-th slot begins. -/
def posC (cs : List (List Int)) (i : Nat) : Nat := (cs.take i).flatten.length
end Go.Proofs.YtkjhoanlkkcfkaaGreatDoor.Slt
