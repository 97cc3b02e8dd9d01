/- DERIVED. The walk of the law CodecKnown. -/
import Derived.Test.YtdoklhbjbokcmaaCodBad
import Derived.Test.YtdoklhbjbokcmaaCodWorks
import Derived.Test.YtdoklhbjbokcmaaCodEq
import Derived.Test.YtdoklhbjbokcmaaArrEq
import Derived.Lib.SlBytesConst
namespace Go.Proofs.Ytdoklhbjbokcmaa.Cod
open Go.RowKit Str
/-- what a writer leaves, as a text. -/
def Said (S : ByteArray) (k : Nat) (w : World) (e : Ending) (w' : World) : Prop := ∃ A c, e = .returned (.slice A k c) ∧ (convert 22 9 (.slice A k c)).run Try.prog w' = .ok (.string S) w' ∧ Below w.heap.size w w'
theorem said_of {M : List Int} {S : ByteArray} {k : Nat} {w w' : World} {v : Value} (hk : M.length = k) (hS : strOfNums M = S) (h : SlB M v w') (hb : Below w.heap.size w w') : Said S k w (.returned v) w' := by
  obtain ⟨A, c, rfl, b⟩ := h
  exact ⟨A, c, by rw [hk], by rw [← hS]; exact conv_any b hk, hb⟩
theorem num_str (n k : Nat) (m : Int) (L M : List Int) (S : ByteArray) (v : Value) (hm : m = (n : Nat)) (hM : L ++ encN n = M) (hn : n < 18446744073709551616) (hk : M.length = k) (hS : strOfNums M = S) (hle : L.length ≤ 1000) (w : World) (hv : SlB L v w) :
    Calls Try.prog 18 #[v, .int .u64 m] w (Said S k w) := by
  subst hm hM
  exact (num_w n hn hv (by omega)).mono (by rintro e w' ⟨v', rfl, sl, low⟩; exact said_of hk hS sl low)
theorem text_str (s : ByteArray) (k : Nat) (M : List Int) (S : ByteArray) (hM : textL s = M) (hs : s.size ≤ 5000) (hk : M.length = k) (hS : strOfNums M = S) (w : World) :
    Calls Try.prog 20 #[.slice none 0 0, .string s] w (Said S k w) := by
  subst hM
  exact (text_w s hs (slb_nil w) (by decide)).mono (by rintro e w' ⟨v', rfl, sl, low⟩; exact said_of hk hS sl low)
theorem label_str (p : Nat × Nat) (k : Nat) (M : List Int) (S : ByteArray) (hM : labelL (p.1 : Nat) p.2 = M) (hk : M.length = k) (hS : strOfNums M = S) (w : World) :
    Calls Try.prog 24 #[.slice none 0 0, .agg (labC p)] w (Said S k w) := by
  subst hM
  exact (label_w p (slb_nil w) (by decide)).mono (by rintro e w' ⟨v', rfl, sl, low⟩; exact said_of hk hS sl low)
theorem slb_one (w : World) (L : List Int) (fr : Nat × Nat) (o : Nat) (h : L.length = o) : SlB L (.slice (some ⟨w.heap.size, 0, none⟩) o o) (w.alloc (.cells (u8s L) 5 fr)) := ⟨_, _, by rw [h], byt_rowT (Go.heap_alloc_new w _) h⟩
def badS : Nat → ByteArray
  | 0 => ⟨#[128, 0]⟩
  | 1 => ⟨#[128]⟩
  | 2 => ⟨#[255, 255, 255, 255, 255, 255, 255, 255, 255, 2]⟩
  | 3 => ⟨#[]⟩
  | _ => ⟨#[128, 128, 128, 128, 128, 128, 128, 128, 128, 128, 1]⟩
theorem bad_rd : ∀ k, k < 5 → readN (bOf (badS k)) 0 18446744073709551615 = (0, bOf (badS k), 4) := by decide +kernel
theorem bad_sz : ∀ k, k < 5 → (badS k).size ≤ 11 := by decide +kernel
theorem three_read : labelL ((3 : Nat) : Int) 31 = [3, 0, 0, 0, 0, 0, 0, 0, 31] := by decide +kernel
def mostL : List Int := [255, 255, 255, 255, 255, 255, 255, 255, 255, 1]
def longL : List Int := [3, 97, 98, 99]
def levelL : List Int := [16, 0, 0, 0, 0, 0, 0, 0, 0]
theorem rd_most : readN mostL 0 18446744073709551615 = (18446744073709551615, [], 0) := by decide +kernel
theorem rd_long : rdOf [] longL 0 (textR longL 2) = ([], longL, 3) := by decide +kernel
theorem rd_level : rdOf (0, 0) levelL 0 (labelR levelL) = ((0, 0), levelL, 4) := by decide +kernel
theorem in_most : InB mostL := inB_mem (by decide)
theorem in_long : InB longL := inB_mem (by decide)
theorem in_level : InB levelL := inB_mem (by decide)
theorem long_read {rb : Nat} {w : World} (h : Rdr rb longL 0 w) : Calls Try.prog 21 #[.pointer (some ⟨rb, 0, none⟩), .int .i64 2] w fun e w' => e = .returned (.string ⟨#[]⟩) ∧ Rdr rb longL 3 w' ∧ Chg [rb] w w' := by
  have k := text_read 2 (by decide) h (by decide) in_long
  rw [rd_long] at k
  exact k
theorem level_read {rb : Nat} {w : World} (h : Rdr rb levelL 0 w) : Calls Try.prog 25 #[.pointer (some ⟨rb, 0, none⟩)] w fun e w' => e = .returned (.agg #[.int .i64 0, .int .u64 0]) ∧ Rdr rb levelL 4 w' ∧ Chg [rb] w w' := by
  have k := label_read h (by decide) in_level
  rw [rd_level] at k
  exact k
theorem hash_zero {p : Value} {w : World} (h : BadR p w) : Calls Try.prog 23 #[p] w fun e w' => e = .returned (.agg #[.int .u8 0, .int .u8 0, .int .u8 0, .int .u8 0, .int .u8 0, .int .u8 0, .int .u8 0, .int .u8 0, .int .u8 0, .int .u8 0, .int .u8 0, .int .u8 0, .int .u8 0, .int .u8 0, .int .u8 0, .int .u8 0, .int .u8 0, .int .u8 0, .int .u8 0, .int .u8 0, .int .u8 0, .int .u8 0, .int .u8 0, .int .u8 0, .int .u8 0, .int .u8 0, .int .u8 0, .int .u8 0, .int .u8 0, .int .u8 0, .int .u8 0, .int .u8 0]) ∧ Below w.heap.size w w' := hash_bad h
theorem eql_z (W : World) : (binOp .eql 30 (.agg #[.int .u8 0, .int .u8 0, .int .u8 0, .int .u8 0, .int .u8 0, .int .u8 0, .int .u8 0, .int .u8 0, .int .u8 0, .int .u8 0, .int .u8 0, .int .u8 0, .int .u8 0, .int .u8 0, .int .u8 0, .int .u8 0, .int .u8 0, .int .u8 0, .int .u8 0, .int .u8 0, .int .u8 0, .int .u8 0, .int .u8 0, .int .u8 0, .int .u8 0, .int .u8 0, .int .u8 0, .int .u8 0, .int .u8 0, .int .u8 0, .int .u8 0, .int .u8 0]) (.agg #[.int .u8 0, .int .u8 0, .int .u8 0, .int .u8 0, .int .u8 0, .int .u8 0, .int .u8 0, .int .u8 0, .int .u8 0, .int .u8 0, .int .u8 0, .int .u8 0, .int .u8 0, .int .u8 0, .int .u8 0, .int .u8 0, .int .u8 0, .int .u8 0, .int .u8 0, .int .u8 0, .int .u8 0, .int .u8 0, .int .u8 0, .int .u8 0, .int .u8 0, .int .u8 0, .int .u8 0, .int .u8 0, .int .u8 0, .int .u8 0, .int .u8 0, .int .u8 0])).run Try.prog W = .ok (.bool true) W := by
  have h := Arr.eql_arr (k := .u8) Try.underlying5 (by kernel_rfl) (fun _ => by kernel_rfl) (T := 30) (n := 32) (by kernel_rfl) (by kernel_rfl) z32 z32 rfl rfl W
  rw [decide_eq_true rfl] at h
  exact h
/-- what stands at the law's last statement. -/
structure KX (r1 r2 r3 lb zb : Nat) (L1 L2 : List Int) (e1 e2 : Int) (w wx : World) : Prop where
  a : Rdr r1 L1 e1 wx
  b : Rdr r2 L2 e2 wx
  c : Rdr r3 levelL 4 wx
  l : wx.heap[lb]? = some (.cells #[.int .i64 0, .int .u64 0] 32 (0, 0))
  z : wx.heap[zb]? = some (.cells #[.pointer none, .slice none 0 0, .int .i64 0] 63 (0, 0))
  low : Below w.heap.size w wx
theorem KX.later {r1 r2 r3 lb zb : Nat} {L1 L2 : List Int} {e1 e2 : Int} {w wx wy : World} (h : KX r1 r2 r3 lb zb L1 L2 e1 e2 w wx) (hb : Below wx.heap.size wx wy) : KX r1 r2 r3 lb zb L1 L2 e1 e2 w wy :=
  ⟨h.a.later hb, h.b.later hb, h.c.later hb, (hb.block _ (Array.getElem?_eq_some_iff.1 h.l).1).trans h.l, (hb.block _ (Array.getElem?_eq_some_iff.1 h.z).1).trans h.z, h.low.trans (hb.mono h.low.size)⟩
theorem known_a {r1 r2 r3 lb zb : Nat} {L1 L2 M : List Int} {e1 e2 f : Int} {w wx wy : World} (h : KX r1 r2 r3 lb zb L1 L2 e1 e2 w wx) (ha : Rdr r1 M f wy) (hc : Chg [r1] wx wy) (hn : r2 ≠ r1 ∧ r3 ≠ r1) (hw : w.heap.size ≤ r1) (hl : lb ≠ r1) (hz : zb ≠ r1) : KX r1 r2 r3 lb zb M L2 f e2 w wy :=
  ⟨ha, rdr_chg h.b h.a hn.1 hc, rdr_chg h.c h.a hn.2 hc, hc.at h.l (by simpa using hl), hc.at h.z (by simpa using hz), hc.below h.low h.low.size (by intro k hk; obtain rfl := List.mem_singleton.1 hk; exact hw)⟩
theorem known_b {r1 r2 r3 lb zb : Nat} {L1 L2 M : List Int} {e1 e2 f : Int} {w wx wy : World} (h : KX r1 r2 r3 lb zb L1 L2 e1 e2 w wx) (hb : Rdr r2 M f wy) (hc : Chg [r2] wx wy) (hn : r1 ≠ r2 ∧ r3 ≠ r2) (hw : w.heap.size ≤ r2) (hl : lb ≠ r2) (hz : zb ≠ r2) : KX r1 r2 r3 lb zb L1 M e1 f w wy :=
  ⟨rdr_chg h.a h.b hn.1 hc, hb, rdr_chg h.c h.b hn.2 hc, hc.at h.l (by simpa using hl), hc.at h.z (by simpa using hz), hc.below h.low h.low.size (by intro k hk; obtain rfl := List.mem_singleton.1 hk; exact hw)⟩
set_option maxRecDepth 100000 in
set_option maxHeartbeats 8000000 in
theorem known_walk (w : World) : Calls Try.prog 8 #[] w fun e w' => e = .returned (.bool true) ∧ Below w.heap.size w w' := by
  go_enter Try.func8, Try.ntmps8
  go_upto_region 3 with (first
    | (go_at_call 24; refine (label_str (3, 31) 9 _ ⟨#[3, 0, 0, 0, 0, 0, 0, 0, 31]⟩ three_read rfl rfl w4).mono ?_; rintro e w5 ⟨A5, c5, rfl, cv5, low⟩; have Low5 : Hid (Below w.heap.size w w5) := Low4.out.trans (low.mono Low4.out.size); clear low)
    | (go_at_call 20; refine (text_str ⟨#[97, 98]⟩ 3 [2, 97, 98] ⟨#[2, 97, 98]⟩ (by decide +kernel) (by decide) rfl rfl w3).mono ?_; rintro e w4 ⟨A4, c4, rfl, cv4, low⟩; have Low4 : Hid (Below w.heap.size w w4) := Low3.out.trans (low.mono Low3.out.size); clear low)
    | (go_at_call 18; refine (num_str 128 3 128 [9] [9, 128, 1] ⟨#[9, 128, 1]⟩ _ rfl (by decide) (by decide) rfl rfl (by decide) _ (slb_one w2 [9] (0, 0) 1 rfl)).mono ?_; rintro e w3 ⟨A3, c3, rfl, cv3, low⟩; have Low3 : Hid (Below w.heap.size w w3) := (Low2.out.alloc Low2.out.size _).trans (low.mono (Nat.le_trans Low2.out.size (by simp))); clear low)
    | (go_at_call 18; refine (num_str 127 1 127 [] [127] ⟨#[127]⟩ _ rfl (by decide) (by decide) rfl rfl (by decide) w1 (slb_nil w1)).mono ?_; rintro e w2 ⟨A2, c2, rfl, cv2, low⟩; have Low2 : Hid (Below w.heap.size w w2) := Low1.out.trans (low.mono Low1.out.size); clear low)
    | (go_at_call 18; refine (num_str 0 1 0 [] [0] ⟨#[0]⟩ _ rfl (by decide) (by decide) rfl rfl (by decide) w (slb_nil w)).mono ?_; rintro e w1 ⟨A1, c1, rfl, cv1, low⟩; have Low1 := Lib.hid low; clear low))
  clear cv1 cv2 cv3 cv4 cv5 Low1 Low2 Low3 Low4
  have hz5 := Low5.out.size
  obtain ⟨w6, hw6⟩ : ∃ w6, w6 = w5.alloc (.cells #[.string ⟨#[128, 0]⟩, .string ⟨#[128]⟩, .string ⟨#[255, 255, 255, 255, 255, 255, 255, 255, 255, 2]⟩, .string ⟨#[]⟩, .string ⟨#[128, 128, 128, 128, 128, 128, 128, 128, 128, 128, 1]⟩] 9) := ⟨_, rfl⟩
  have hb6 : w6.heap[w5.heap.size]? = some (.cells #[.string (badS 0), .string (badS 1), .string (badS 2), .string (badS 3), .string (badS 4)] 9 (0, 0)) := by rw [hw6]; exact Go.heap_alloc_new w5 _
  have low6 : Below w.heap.size w w6 := by rw [hw6]; exact Low5.out.alloc hz5 _
  have Hb6 := Lib.hid hb6
  have Low6 := Lib.hid low6
  have HW6 := Lib.hid hw6
  clear hb6 low6 hw6
  go_upto_region 4 with (fail)
  rw [← HW6.out]
  go_wp2
  go_loopw [2] (fun i wr => ∃ k : Nat, k ≤ 5 ∧ i = .int .i64 (k : Nat) ∧ Hid (Below w.heap.size w wr) ∧ Hid (wr.heap[w5.heap.size]? = some (.cells #[.string (badS 0), .string (badS 1), .string (badS 2), .string (badS 3), .string (badS 4)] 9 (0, 0)))) (fun i _ => 5 - (intOf i).toNat)
  case atStart => exact ⟨0, by omega, rfl, Low6, Hb6⟩
  case round =>
    obtain ⟨k, hk, rfl, low, row⟩ := hrel
    clear Hb6 Low6 HW6
    by_cases hlt : k < 5
    · obtain ⟨S, hS⟩ : ∃ S, S = badS k := ⟨_, rfl⟩
      have ck : wr.cell? ⟨w5.heap.size, k, none⟩ = some (.string S) := by
        rw [cell_row row.out, hS]
        obtain rfl | rfl | rfl | rfl | rfl : k = 0 ∨ k = 1 ∨ k = 2 ∨ k = 3 ∨ k = 4 := by omega
        all_goals rfl
      have hrd := bad_rd k hlt
      have hsz := bad_sz k hlt
      rw [← hS] at hrd hsz
      have Hrd := Lib.hid hrd
      have kc := run_bytes wr S
      have Hb := Lib.hid (byt_string wr S)
      have Hl := Lib.hid (below_string wr S)
      have hlt' : (k : Int) < 5 := by omega
      clear hS hrd
      go_wp2_with (first
        | (go_at_call 17; refine (err_any R2.out).mono ?_; rintro e w9 ⟨rfl, rfl⟩)
        | (go_at_call 19; refine (num_is 18446744073709551615 _ 0 0 _ 4 rfl Hrd.out rfl R1.out (by rw [bOf_length]; omega) (bOf_in S)).mono ?_; rintro e w8 ⟨rfl, r2, ch⟩; have R2 := Lib.hid r2; have Ch := Lib.hid ch; clear r2 ch)
        | (go_at_call 12; refine (open_any (L := bOf S) (w := Lib.bytesWorld wr 5 S) ⟨_, _, by rw [bOf_length], Hb.out⟩ (by rw [bOf_length]; omega)).mono ?_; rintro e w7 ⟨rb, rfl, hrb, r1, low7⟩; have R1 := Lib.hid r1; have Low7 := Lib.hid low7; clear r1 low7))
      have hl1 := low.out.trans (Hl.out.mono low.out.size)
      have hl2 := hl1.trans (Low7.out.mono hl1.size)
      have hrw : w.heap.size ≤ rb := Nat.le_trans hl1.size hrb
      have hl3 := Ch.out.below hl2 hl2.size (by intro k hk; obtain rfl := List.mem_singleton.1 hk; exact hrw)
      have hg := (Array.getElem?_eq_some_iff.1 row.out).1
      have hr1 := (Hl.out.block _ hg).trans row.out
      have hr2 := (Low7.out.block _ (Array.getElem?_eq_some_iff.1 hr1).1).trans hr1
      have hr3 := Ch.out.at hr2 (by have := (Array.getElem?_eq_some_iff.1 hr1).1; simp; omega)
      have Hl3 := Lib.hid hl3
      have Hr3 := Lib.hid hr3
      clear hl1 hl2 hrw hl3 hg hr1 hr2 hr3 kc
      go_roundw
      case rel => exact ⟨k + 1, by omega, by go_num, Hl3, Hr3⟩
      case measure => simp [intOf]; omega
    · have hk5 : k = 5 := by omega
      subst hk5
      clear row hlt
      have hlw := low.out.size
      have kconst := fun (w : World) (C : Array Value) (n c : Nat) => Lib.run_convert_bytes_const (P := Try.prog) w 22 5 C n c Try.underlying22 Try.underlying5
      go_upto_region 16 with (first
        | (go_at_call 25; refine (level_read R3.out).mono ?_; rintro e w14 ⟨rfl, r3', ch⟩; have R3' := Lib.hid r3'; have Ch3 := Lib.hid ch; clear r3' ch)
        | (go_at_call 12; refine (open_any (L := levelL) (slb_one w12 levelL _ 9 rfl) (by decide)).mono ?_; rintro e w13 ⟨r3, rfl, hr3, rr3, low⟩; have Hr3 := Lib.hid hr3; have R3 := Lib.hid rr3; have Low13 := Lib.hid low; clear hr3 rr3 low)
        | (go_at_call 12; refine (open_any (L := longL) (slb_one w11 longL _ 4 rfl) (by decide)).mono ?_; rintro e w12 ⟨r2, rfl, hr2, rr2, low⟩; have Hr2 := Lib.hid hr2; have R2 := Lib.hid rr2; have Low12 := Lib.hid low; clear hr2 rr2 low)
        | (go_at_call 12; refine (open_any (L := mostL) (slb_one wr mostL _ 10 rfl) (by decide)).mono ?_; rintro e w11 ⟨r1, rfl, hr1, rr1, low⟩; have Hr1 := Lib.hid hr1; have R1 := Lib.hid rr1; have Low11 := Lib.hid low; clear hr1 rr1 low))
      have lA : Below w.heap.size w w11 := (low.out.alloc hlw _).trans (Low11.out.mono (by rw [World.size_alloc]; omega))
      have b12 := ((Below.refl w11.heap.size w11).alloc (Nat.le_refl _) _).trans (Low12.out.mono (show w11.heap.size ≤ _ by rw [World.size_alloc]; omega))
      have b13 := ((Below.refl w12.heap.size w12).alloc (Nat.le_refl _) _).trans (Low13.out.mono (show w12.heap.size ≤ _ by rw [World.size_alloc]; omega))
      have lB := lA.trans (b12.mono lA.size)
      have lC := lB.trans (b13.mono lB.size)
      have q1 : w.heap.size ≤ r1 := by have := Hr1.out; rw [World.size_alloc] at this; omega
      have q2 : r1 < r2 := by have := Hr2.out; have := R1.out.lt; rw [World.size_alloc] at *; omega
      have q3 : r2 < r3 := by have := Hr3.out; have := R2.out.lt; rw [World.size_alloc] at *; omega
      have a13 := (R1.out.later b12).later b13
      have c13 := R2.out.later b13
      have a14 := rdr_chg a13 R3.out (by omega) Ch3.out
      have c14 := rdr_chg c13 R3.out (by omega) Ch3.out
      have lD := Ch3.out.below lC lC.size (by intro k hk; obtain rfl := List.mem_singleton.1 hk; omega)
      have t2 := two_new w14 (.cells #[.int .i64 0, .int .u64 0] 32) (.cells #[.pointer none, .slice none 0 0, .int .i64 0] 63)
      have k2 : Below w14.heap.size w14 ((w14.alloc (.cells #[.int .i64 0, .int .u64 0] 32)).alloc (.cells #[.pointer none, .slice none 0 0, .int .i64 0] 63)) := ((Below.refl _ _).alloc (Nat.le_refl _) _).alloc (by simp) _
      have hKX : KX r1 r2 r3 w14.heap.size (w14.heap.size + 1) mostL longL 0 0 w ((w14.alloc (.cells #[.int .i64 0, .int .u64 0] 32)).alloc (.cells #[.pointer none, .slice none 0 0, .int .i64 0] 63)) :=
        ⟨a14.later k2, c14.later k2, R3'.out.later k2, t2.1, t2.2, lD.trans (k2.mono lD.size)⟩
      obtain ⟨wz, hwz⟩ : ∃ wz, wz = (w14.alloc (.cells #[.int .i64 0, .int .u64 0] 32)).alloc (.cells #[.pointer none, .slice none 0 0, .int .i64 0] 63) := ⟨_, rfl⟩
      rw [← hwz] at hKX ⊢
      obtain ⟨lb, hlb⟩ : ∃ lb, lb = w14.heap.size := ⟨_, rfl⟩
      rw [← hlb] at hKX ⊢
      have hlz : lb + 1 < wz.heap.size := (Array.getElem?_eq_some_iff.1 hKX.z).1
      have n1 : Hid (r2 ≠ r1 ∧ r3 ≠ r1 ∧ r1 ≠ r2 ∧ r3 ≠ r2) := by refine ⟨?_, ?_, ?_, ?_⟩ <;> omega
      have n2 : Hid (w.heap.size ≤ r1 ∧ w.heap.size ≤ r2) := ⟨q1, by omega⟩
      have n3 : Hid ((lb ≠ r1 ∧ lb ≠ r2) ∧ lb + 1 ≠ r1 ∧ lb + 1 ≠ r2) := by
        have h1 := a14.lt
        have h2 := c14.lt
        refine ⟨⟨?_, ?_⟩, ?_, ?_⟩ <;> omega
      have HK := Lib.hid hKX
      have eqz := eql_z
      clear kconst lA b12 b13 lB lC q1 q2 q3 a13 c13 a14 c14 lD t2 k2 hKX hwz hlb hlz hlw Low11 Low12 Low13 Hr1 Hr2 Hr3 R1 R2 R3 R3' Ch3 low Low5
      go_wp2_with (first
        | (go_at_call 10; have _t := tk9; refine (works_any _).mono ?_; rintro e x6 ⟨rfl, low6⟩; have K9 := Lib.hid (K8.out.low.trans (low6.mono K8.out.low.size)); clear low6)
        | (go_at_call 23; have _t := tk8; refine (hash_zero (bad_zero K7.out.z)).mono ?_; rintro e x5 ⟨rfl, low5⟩; have K8 := Lib.hid (K7.out.later low5); have tk9 := trivial; clear low5)
        | (go_at_call 14; have _t := tk7; refine (done_bad (bad_zero K7.out.z)).mono ?_; rintro e x4 ⟨rfl, rfl⟩; have tk8 := trivial)
        | (go_at_call 21; have _t := tk6; refine (text_bad (bad_nil x3) _).mono ?_; rintro e x4 ⟨rfl, low4⟩; have K7 := Lib.hid (K6.out.later low4); have tk7 := trivial; clear low4)
        | (go_at_call 19; have _t := tk5; refine (num_bad (bad_nil x2) _).mono ?_; rintro e x3 ⟨rfl, low3⟩; have K6 := Lib.hid (K5.out.later low3); have tk6 := trivial; clear low3)
        | (go_at_call 17; have _t := tk4; refine (err_nil x2).mono ?_; rintro e x9 ⟨rfl, hx⟩; subst hx; have tk5 := trivial)
        | (go_at_call 17; have _t := tk3; refine (err_any K5.out.c).mono ?_; rintro e x9 ⟨rfl, hx⟩; subst hx; have tk4 := trivial)
        | (go_at_call 17; have _t := tk2; refine (err_any K5.out.b).mono ?_; rintro e x9 ⟨rfl, hx⟩; subst hx; have tk3 := trivial)
        | (go_at_call 21; have _t := tk1; refine (long_read K2.out.b).mono ?_; rintro e x2 ⟨rfl, rb2, ch2⟩; have k5 := known_b K2.out rb2 ch2 n1.out.2.2 n2.out.2 n3.out.1.2 n3.out.2.2; have dl0 := cell_row k5.l 0; have dl1 := cell_row k5.l 1; simp only [List.getElem?_toArray, List.getElem?_cons_zero, List.getElem?_cons_succ] at dl0 dl1; have K5 := Lib.hid k5; have tk2 := trivial; clear rb2 ch2 k5)
        | (go_at_call 14; have _t := tk0; refine (done_is (z := 0) rfl K2.out.a).mono ?_; rintro e x9 ⟨rfl, hx⟩; subst hx; have tk1 := trivial)
        | (go_at_call 19; refine (num_is 18446744073709551615 _ 18446744073709551615 18446744073709551615 [] 0 rfl rd_most rfl HK.out.a (by decide) in_most).mono ?_; rintro e x1 ⟨rfl, ra1, ch1⟩; have K2 := Lib.hid (known_a HK.out ra1 ch1 ⟨n1.out.1, n1.out.2.1⟩ n2.out.1 n3.out.1.1 n3.out.2.1); have tk0 := trivial; clear ra1 ch1))
      go_ret
      exact ⟨rfl, K9.out⟩
end Go.Proofs.Ytdoklhbjbokcmaa.Cod
