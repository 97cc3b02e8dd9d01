/- DERIVED. The walk of the law CodecOnce. Written by mkonce.py. -/
import Derived.Test.YtdoklhbjbokcmaaCodOnceMath
import Derived.Deep.CutBlock
namespace Go.Proofs.Ytdoklhbjbokcmaa.Cod
open Go.RowKit Str
/-- what a read leaves. -/
structure RP (rb : Nat) (L D R : List Int) (E : Int) (w w' : World) : Prop where
  split : Split L D R E
  rdr : Rdr rb R E w'
  chg : Chg [rb] w w'
  len : D.length ≤ 2000
theorem encN_le' (n : Nat) : (encN n).length ≤ 2000 := by have := encN_le n; omega
theorem num_r {rb : Nat} {L : List Int} {w : World} (h : Rdr rb L 0 w) (hle : L.length ≤ 1000) (hb : InB L) :
    Calls Try.prog 19 #[.pointer (some ⟨rb, 0, none⟩), .int .u64 18446744073709551615] w fun e w' => ∃ n R E, e = .returned (.int .u64 (n : Nat)) ∧ n < 18446744073709551616 ∧ RP rb L (encN n) R E w w' := by
  have k := num_read 18446744073709551615 h (by omega) hb
  unfold readN at k
  rw [if_pos rfl] at k
  exact k.mono (by rintro e w' ⟨he, hr, hc⟩; exact ⟨_, _, _, he, cutL_lt _ _, split_num _ _, hr, hc, encN_le' _⟩)
theorem textR_len (L : List Int) (m : Int) : (textR L m).1.length ≤ L.length := by
  unfold textR
  split
  · simp
  · split
    · simp
    · have := cutL_len L (mostN m)
      rw [List.length_take]; omega
theorem text_r {rb : Nat} {L : List Int} {w : World} (h : Rdr rb L 0 w) (hle : L.length ≤ 1000) (hb : InB L) :
    Calls Try.prog 21 #[.pointer (some ⟨rb, 0, none⟩), .int .i64 1000] w fun e w' => ∃ s R E, e = .returned (.string s) ∧ s.size ≤ 1000 ∧ RP rb L (textL s) R E w w' := by
  have k := text_read 1000 (by decide) h (by omega) hb
  rw [rdOf_ok] at k
  have hl : (strOfNums (textR L 1000).1).size ≤ 1000 := by rw [strOfNums_size]; have := textR_len L 1000; omega
  exact k.mono (by rintro e w' ⟨he, hr, hc⟩; exact ⟨_, _, _, he, hl, split_text hb _, hr, hc, by have := encN_le (strOfNums (textR L 1000).1).size; have := bOf_length (strOfNums (textR L 1000).1); simp [textL]; omega⟩)
theorem hash_r {rb : Nat} {L : List Int} {w : World} (h : Rdr rb L 0 w) (hle : L.length ≤ 1000) (hb : InB L) :
    Calls Try.prog 23 #[.pointer (some ⟨rb, 0, none⟩)] w fun e w' => ∃ x R E, e = .returned (.agg (u8s x)) ∧ x.length = 32 ∧ RP rb L x R E w w' := by
  have k := hash_read h (by omega) hb
  rw [rdOf_ok] at k
  exact k.mono (by rintro e w' ⟨he, hr, hc⟩; exact ⟨_, _, _, he, hashR_len L, split_hash _, hr, hc, by rw [hashR_len]; omega⟩)
theorem label_r {rb : Nat} {L : List Int} {w : World} (h : Rdr rb L 0 w) (hle : L.length ≤ 1000) (hb : InB L) :
    Calls Try.prog 25 #[.pointer (some ⟨rb, 0, none⟩)] w fun e w' => ∃ x R E, e = .returned (.agg (labC x)) ∧ RP rb L (labelL (x.1 : Nat) x.2) R E w w' := by
  have k := label_read h (by omega) hb
  rw [rdOf_ok] at k
  exact k.mono (by rintro e w' ⟨he, hr, hc⟩; exact ⟨_, _, _, he, split_label hb, hr, hc, by have := encN_le (uN ((labelR L).1.1 : Nat)); simp [labelL, compL_length]; omega⟩)
theorem vertex_r {rb : Nat} {L : List Int} {w : World} (h : Rdr rb L 0 w) (hle : L.length ≤ 1000) (hb : InB L) :
    Calls Try.prog 27 #[.pointer (some ⟨rb, 0, none⟩)] w fun e w' => ∃ x R E, e = .returned (.agg (vtxP x)) ∧ x.1.length = 32 ∧ RP rb L (vertexL x.1 x.2) R E w w' := by
  have k := vertex_read h (by omega) hb
  rw [rdOf_ok] at k
  exact k.mono (by rintro e w' ⟨he, hr, hc⟩; exact ⟨_, _, _, he, vertexR_len L, split_vertex _, hr, hc, by have := encN_le (uN ((vertexR L).1.2 + 2)); have := vertexR_len L; simp [vertexL]; omega⟩)
/-- what the loop keeps. -/
structure OI (B C R : List Int) (s6 : Value) (rb : Nat) (w wr : World) : Prop where
  sl : SlB C s6 wr
  rd : Rdr rb R 0 wr
  eq : B = C ++ R
  low : Below w.heap.size w wr
  rbw : w.heap.size ≤ rb
/-- what the loop leaves. -/
def OF (B : List Int) (s6 : Value) (rb : Nat) (w wx : World) : Prop := ∃ C R E R', SlB C s6 wx ∧ Rdr rb R E wx ∧ Below w.heap.size w wx ∧ B = C ++ R' ∧ (E = 0 → R' = R)
theorem OI.chg {B C R R1 D : List Int} {E : Int} {s6 : Value} {rb : Nat} {w wr w1 : World} (h : OI B C R s6 rb w wr) (hp : RP rb R D R1 E wr w1) : SlB C s6 w1 ∧ Below w.heap.size w w1 := by
  have no8 : ∀ k ∈ [rb], ∀ o x, wr.cell? ⟨k, o, none⟩ ≠ some (.int .u8 x) := by
    intro k hk
    obtain rfl := List.mem_singleton.1 hk
    obtain ⟨v, r, s⟩ := h.rd
    exact rdr_no8 r s
  exact ⟨slb_chg h.sl hp.chg no8, hp.chg.below h.low h.low.size (by intro k hk; obtain rfl := List.mem_singleton.1 hk; exact h.rbw)⟩
set_option maxRecDepth 100000 in
set_option maxHeartbeats 8000000 in
theorem once_walk (A A1 : Option Addr) (n c n1 c1 : Nat) (L K : List Int) (hn : L.length = n) (hn1 : K.length = n1) (hb : InB L) (hk : InB K) (hm : n ≤ maxLen) (hm1 : n1 ≤ maxLen) (w : World) (hB : Byt w A c L) (hK : Byt w A1 c1 K) :
    Calls Try.prog 6 #[.slice A n c, .slice A1 n1 c1] w fun e w' => e = .returned (.bool true) ∧ Below w.heap.size w w' := by
  unfold maxLen at hm hm1
  obtain ⟨m, hmm⟩ : ∃ m, m = min n 400 := ⟨_, rfl⟩
  obtain ⟨B, hBB⟩ : ∃ B, B = L.take m := ⟨_, rfl⟩
  have hBl : B.length = m := by rw [hBB, List.length_take]; omega
  have hSB : SlB B (.slice A m c) w := ⟨A, c, by rw [hBl], by rw [hBB]; exact byt_take hB m⟩
  have hBi : InB B := by rw [hBB]; exact hb.take m
  have hcap := hB.1
  have HSB := Lib.hid hSB
  have HBi := Lib.hid hBi
  have HBl := Lib.hid hBl
  have Hmm := Lib.hid hmm
  have Hk := Lib.hid hk
  have HK := Lib.hid hK
  have Hn1 := Lib.hid hn1
  have hm4 : m ≤ 400 := by omega
  have hmn : m ≤ n := by omega
  rw [hn] at hcap
  clear hmm hBB hBl hSB hBi hB hb hk hK hn hn1
  go_enter Try.func6, Try.ntmps6
  go_upto_region 1 with (fail)
  go_cut [0] (fun s0 wx => s0 = .slice A m c ∧ wx = w)
  case first =>
    by_cases h4 : n ≤ 400
    · obtain rfl : m = n := by have := Hmm.out; omega
      have h4' : (m : Int) ≤ 400 := by omega
      clear Hmm
      go_wp2
      go_meet
      exact ⟨rfl, rfl⟩
    · obtain rfl : m = 400 := by have := Hmm.out; omega
      have h4' : ¬ (n : Int) ≤ 400 := by omega
      have h5' : ¬ (n : Int) < 400 := by omega
      have hcI : (400 : Int) ≤ (c : Int) := by omega
      clear Hmm
      go_wp2
      go_meet
      exact ⟨rfl, rfl⟩
  case rest =>
    obtain ⟨rfl, hww⟩ := hcut
    subst hww
    rename World => W0
    go_upto_region 3 with (go_at_call 12; refine (open_any HSB.out (by rw [HBl.out]; omega)).mono ?_; rintro e w1 ⟨rb, rfl, hrb, rd, low⟩; have Rd := Lib.hid rd; have Low := Lib.hid low; clear rd low)
    go_upto_block 0 with (fail)
    have HL0 : Hid (OI B [] B (.slice none 0 0) rb W0 w1) := ⟨slb_nil _, Rd.out, rfl, Low.out, hrb⟩
    go_cut [6] (fun s6 wx => OF B s6 rb W0 wx)
    case first =>
      go_wp2
      go_loopw [6, 7] (fun s6 i wr => ∃ (k : Nat) (C R : List Int), k ≤ 20 ∧ i = .int .i64 (k : Nat) ∧ Hid (OI B C R s6 rb W0 wr)) (fun _ i _ => 20 - (intOf i).toNat)
      case atStart => exact ⟨0, [], B, by omega, rfl, HL0⟩
      case round =>
        obtain ⟨k, C, R, hk20, rfl, hO⟩ := hrel
        clear HL0 Rd Low
        obtain ⟨A6, c6, rfl, b6⟩ := hO.out.sl
        obtain ⟨x, hx⟩ : ∃ x, x = C.length := ⟨_, rfl⟩
        rw [← hx] at hO ⊢
        have hBC : m = x + R.length := by rw [← HBl.out, hO.out.eq, List.length_append, hx]
        have hRi : InB R := by
          have h := HBi.out
          rw [hO.out.eq] at h
          have h2 := h.drop C.length
          rwa [List.drop_left] at h2
        have HRi := Lib.hid hRi
        have hRl : R.length ≤ 400 := by omega
        have hx4 : x ≤ 400 := by omega
        have Hx := Lib.hid hx
        clear hx b6 hRi hBC
        by_cases hg : k < n1 ∧ k < 20
        · obtain ⟨hg1, hg2⟩ := hg
          have hg1' : (k : Int) < (n1 : Int) := by omega
          have hg2' : (k : Int) < 20 := by omega
          obtain ⟨g, off, rfl, hgl, hcK⟩ := HK.out.2.2 (by rw [Hn1.out]; omega)
          have ck : wr.cell? ⟨g, off + k, none⟩ = some (.int .u8 (K.getD k 0)) := (hO.out.low.cell (p := ⟨g, off + k, none⟩) hgl).trans (hcK k (by rw [Hn1.out]; exact hg1))
          obtain ⟨q, hq⟩ : ∃ q, q = K.getD k 0 := ⟨_, rfl⟩
          have hqb := Hk.out k
          rw [← hq] at ck hqb
          obtain ⟨q0, q1⟩ := hqb
          clear hq hcK
          obtain ⟨r, hr⟩ : ∃ r, r = q % 5 := ⟨_, rfl⟩
          have hr5 : r = 0 ∨ r = 1 ∨ r = 2 ∨ r = 3 ∨ r = 4 := by omega
          rcases hr5 with h5 | h5 | h5 | h5 | h5
          · have h5' : q % 5 = 0 := by omega
            clear h5 hr
            go_upto_region 18 with (first
              | (go_at_call 19; refine (num_r hO.out.rd (by omega) HRi.out).mono ?_; rintro e w2 ⟨n, R1, E, rfl, hn, hp⟩; have hs2 := hO.out.chg hp; have Hp := Lib.hid hp; have Sl2 := Lib.hid hs2.1; have Low2 := Lib.hid hs2.2; clear hp hs2)
              | (go_at_call 18; refine (num_w n hn Sl2.out (by rw [← Hx.out]; omega)).mono ?_; rintro e w3 ⟨v3, rfl, sl3, low3⟩; obtain ⟨A3, c3, rfl, b3⟩ := sl3; have B3 := Lib.hid b3; have Rd3 := Lib.hid (Hp.out.rdr.later low3); have Low3 := Lib.hid (Low2.out.trans (low3.mono Low2.out.size)); clear b3 low3))
            obtain ⟨d, hd⟩ : ∃ d, d = (encN n).length := ⟨_, rfl⟩
            rw [← Hx.out, ← hd]
            have hd2 : d ≤ 2000 := by rw [hd]; exact Hp.out.len
            have hcap3 : x + d ≤ c3 := by have := B3.out.1; rw [List.length_append, ← Hx.out, ← hd] at this; exact this
            have hx1 : (x : Int) ≤ (x : Int) + (d : Int) := by omega
            have hx2 : (x : Int) ≤ (c3 : Int) := by omega
            have hx3 : (x : Int) + (d : Int) ≤ (c3 : Int) := by omega
            have Hd := Lib.hid hd
            clear hd
            by_cases hE : E = 0
            · subst hE
              go_wp2_with (go_at_call 17; refine (err_any Rd3.out).mono ?_; rintro e w4 ⟨rfl, rfl⟩)
              go_roundw
              case rel => exact ⟨k + 1, C ++ (encN n), R1, by omega, by go_num, ⟨⟨A3, c3, by rw [List.length_append, ← Hx.out, ← Hd.out], B3.out⟩, Rd3.out, by rw [hO.out.eq, Hp.out.split rfl, List.append_assoc], Low3.out, hO.out.rbw⟩⟩
              case measure => simp [intOf]; omega
            · have hE' : (E != 0) = true := by simpa using hE
              have HE := Lib.hid hE
              clear hE
              go_wp2_with (go_at_call 17; refine (err_any Rd3.out).mono ?_; rintro e w4 ⟨rfl, rfl⟩)
              go_meet
              exact ⟨C, R1, E, R, ⟨A3, c3, by rw [Hx.out], by have h := byt_take B3.out C.length; rwa [List.take_left] at h⟩, Rd3.out, Low3.out, hO.out.eq, fun e => absurd e HE.out⟩
          · have h5' : q % 5 = 1 := by omega
            clear h5 hr
            go_upto_region 18 with (first
              | (go_at_call 21; refine (text_r hO.out.rd (by omega) HRi.out).mono ?_; rintro e w2 ⟨s, R1, E, rfl, hs, hp⟩; have hs2 := hO.out.chg hp; have Hp := Lib.hid hp; have Sl2 := Lib.hid hs2.1; have Low2 := Lib.hid hs2.2; clear hp hs2)
              | (go_at_call 20; refine (text_w s (Nat.le_trans hs (by decide)) Sl2.out (by rw [← Hx.out]; omega)).mono ?_; rintro e w3 ⟨v3, rfl, sl3, low3⟩; obtain ⟨A3, c3, rfl, b3⟩ := sl3; have B3 := Lib.hid b3; have Rd3 := Lib.hid (Hp.out.rdr.later low3); have Low3 := Lib.hid (Low2.out.trans (low3.mono Low2.out.size)); clear b3 low3))
            obtain ⟨d, hd⟩ : ∃ d, d = (textL s).length := ⟨_, rfl⟩
            rw [← Hx.out, ← hd]
            have hd2 : d ≤ 2000 := by rw [hd]; exact Hp.out.len
            have hcap3 : x + d ≤ c3 := by have := B3.out.1; rw [List.length_append, ← Hx.out, ← hd] at this; exact this
            have hx1 : (x : Int) ≤ (x : Int) + (d : Int) := by omega
            have hx2 : (x : Int) ≤ (c3 : Int) := by omega
            have hx3 : (x : Int) + (d : Int) ≤ (c3 : Int) := by omega
            have Hd := Lib.hid hd
            clear hd
            by_cases hE : E = 0
            · subst hE
              go_wp2_with (go_at_call 17; refine (err_any Rd3.out).mono ?_; rintro e w4 ⟨rfl, rfl⟩)
              go_roundw
              case rel => exact ⟨k + 1, C ++ (textL s), R1, by omega, by go_num, ⟨⟨A3, c3, by rw [List.length_append, ← Hx.out, ← Hd.out], B3.out⟩, Rd3.out, by rw [hO.out.eq, Hp.out.split rfl, List.append_assoc], Low3.out, hO.out.rbw⟩⟩
              case measure => simp [intOf]; omega
            · have hE' : (E != 0) = true := by simpa using hE
              have HE := Lib.hid hE
              clear hE
              go_wp2_with (go_at_call 17; refine (err_any Rd3.out).mono ?_; rintro e w4 ⟨rfl, rfl⟩)
              go_meet
              exact ⟨C, R1, E, R, ⟨A3, c3, by rw [Hx.out], by have h := byt_take B3.out C.length; rwa [List.take_left] at h⟩, Rd3.out, Low3.out, hO.out.eq, fun e => absurd e HE.out⟩
          · have h5' : q % 5 = 2 := by omega
            clear h5 hr
            go_upto_region 18 with (first
              | (go_at_call 23; refine (hash_r hO.out.rd (by omega) HRi.out).mono ?_; rintro e w2 ⟨y, R1, E, rfl, hh0, hp⟩; have hh := Lib.hid hh0; clear hh0; have hs2 := hO.out.chg hp; have Hp := Lib.hid hp; have Sl2 := Lib.hid hs2.1; have Low2 := Lib.hid hs2.2; clear hp hs2)
              | (go_at_call 22; refine (hash_w hh.out Sl2.out (by rw [← Hx.out]; omega)).mono ?_; rintro e w3 ⟨v3, rfl, sl3, low3⟩; obtain ⟨A3, c3, rfl, b3⟩ := sl3; have B3 := Lib.hid b3; have Rd3 := Lib.hid (Hp.out.rdr.later low3); have Low3 := Lib.hid (Low2.out.trans (low3.mono Low2.out.size)); clear b3 low3))
            obtain ⟨d, hd⟩ : ∃ d, d = (y).length := ⟨_, rfl⟩
            rw [← Hx.out, ← hd]
            have hd2 : d ≤ 2000 := by rw [hd]; exact Hp.out.len
            have hcap3 : x + d ≤ c3 := by have := B3.out.1; rw [List.length_append, ← Hx.out, ← hd] at this; exact this
            have hx1 : (x : Int) ≤ (x : Int) + (d : Int) := by omega
            have hx2 : (x : Int) ≤ (c3 : Int) := by omega
            have hx3 : (x : Int) + (d : Int) ≤ (c3 : Int) := by omega
            have Hd := Lib.hid hd
            clear hd
            by_cases hE : E = 0
            · subst hE
              go_wp2_with (go_at_call 17; refine (err_any Rd3.out).mono ?_; rintro e w4 ⟨rfl, rfl⟩)
              go_roundw
              case rel => exact ⟨k + 1, C ++ (y), R1, by omega, by go_num, ⟨⟨A3, c3, by rw [List.length_append, ← Hx.out, ← Hd.out], B3.out⟩, Rd3.out, by rw [hO.out.eq, Hp.out.split rfl, List.append_assoc], Low3.out, hO.out.rbw⟩⟩
              case measure => simp [intOf]; omega
            · have hE' : (E != 0) = true := by simpa using hE
              have HE := Lib.hid hE
              clear hE
              go_wp2_with (go_at_call 17; refine (err_any Rd3.out).mono ?_; rintro e w4 ⟨rfl, rfl⟩)
              go_meet
              exact ⟨C, R1, E, R, ⟨A3, c3, by rw [Hx.out], by have h := byt_take B3.out C.length; rwa [List.take_left] at h⟩, Rd3.out, Low3.out, hO.out.eq, fun e => absurd e HE.out⟩
          · have h5' : q % 5 = 3 := by omega
            clear h5 hr
            go_upto_region 18 with (first
              | (go_at_call 25; refine (label_r hO.out.rd (by omega) HRi.out).mono ?_; rintro e w2 ⟨y, R1, E, rfl, hp⟩; have hs2 := hO.out.chg hp; have Hp := Lib.hid hp; have Sl2 := Lib.hid hs2.1; have Low2 := Lib.hid hs2.2; clear hp hs2)
              | (go_at_call 24; refine (label_w y Sl2.out (by rw [← Hx.out]; omega)).mono ?_; rintro e w3 ⟨v3, rfl, sl3, low3⟩; obtain ⟨A3, c3, rfl, b3⟩ := sl3; have B3 := Lib.hid b3; have Rd3 := Lib.hid (Hp.out.rdr.later low3); have Low3 := Lib.hid (Low2.out.trans (low3.mono Low2.out.size)); clear b3 low3))
            obtain ⟨d, hd⟩ : ∃ d, d = (labelL (y.1 : Nat) y.2).length := ⟨_, rfl⟩
            rw [← Hx.out, ← hd]
            have hd2 : d ≤ 2000 := by rw [hd]; exact Hp.out.len
            have hcap3 : x + d ≤ c3 := by have := B3.out.1; rw [List.length_append, ← Hx.out, ← hd] at this; exact this
            have hx1 : (x : Int) ≤ (x : Int) + (d : Int) := by omega
            have hx2 : (x : Int) ≤ (c3 : Int) := by omega
            have hx3 : (x : Int) + (d : Int) ≤ (c3 : Int) := by omega
            have Hd := Lib.hid hd
            clear hd
            by_cases hE : E = 0
            · subst hE
              go_wp2_with (go_at_call 17; refine (err_any Rd3.out).mono ?_; rintro e w4 ⟨rfl, rfl⟩)
              go_roundw
              case rel => exact ⟨k + 1, C ++ (labelL (y.1 : Nat) y.2), R1, by omega, by go_num, ⟨⟨A3, c3, by rw [List.length_append, ← Hx.out, ← Hd.out], B3.out⟩, Rd3.out, by rw [hO.out.eq, Hp.out.split rfl, List.append_assoc], Low3.out, hO.out.rbw⟩⟩
              case measure => simp [intOf]; omega
            · have hE' : (E != 0) = true := by simpa using hE
              have HE := Lib.hid hE
              clear hE
              go_wp2_with (go_at_call 17; refine (err_any Rd3.out).mono ?_; rintro e w4 ⟨rfl, rfl⟩)
              go_meet
              exact ⟨C, R1, E, R, ⟨A3, c3, by rw [Hx.out], by have h := byt_take B3.out C.length; rwa [List.take_left] at h⟩, Rd3.out, Low3.out, hO.out.eq, fun e => absurd e HE.out⟩
          · have h5' : q % 5 = 4 := by omega
            clear h5 hr
            go_upto_region 18 with (first
              | (go_at_call 27; refine (vertex_r hO.out.rd (by omega) HRi.out).mono ?_; rintro e w2 ⟨y, R1, E, rfl, hh, hp⟩; have hs2 := hO.out.chg hp; have Hp := Lib.hid hp; have Sl2 := Lib.hid hs2.1; have Low2 := Lib.hid hs2.2; clear hp hs2)
              | (go_at_call 26; refine (vertex_w y hh Sl2.out (by rw [← Hx.out]; omega)).mono ?_; rintro e w3 ⟨v3, rfl, sl3, low3⟩; obtain ⟨A3, c3, rfl, b3⟩ := sl3; have B3 := Lib.hid b3; have Rd3 := Lib.hid (Hp.out.rdr.later low3); have Low3 := Lib.hid (Low2.out.trans (low3.mono Low2.out.size)); clear b3 low3))
            obtain ⟨d, hd⟩ : ∃ d, d = (vertexL y.1 y.2).length := ⟨_, rfl⟩
            rw [← Hx.out, ← hd]
            have hd2 : d ≤ 2000 := by rw [hd]; exact Hp.out.len
            have hcap3 : x + d ≤ c3 := by have := B3.out.1; rw [List.length_append, ← Hx.out, ← hd] at this; exact this
            have hx1 : (x : Int) ≤ (x : Int) + (d : Int) := by omega
            have hx2 : (x : Int) ≤ (c3 : Int) := by omega
            have hx3 : (x : Int) + (d : Int) ≤ (c3 : Int) := by omega
            have Hd := Lib.hid hd
            clear hd
            by_cases hE : E = 0
            · subst hE
              go_wp2_with (go_at_call 17; refine (err_any Rd3.out).mono ?_; rintro e w4 ⟨rfl, rfl⟩)
              go_roundw
              case rel => exact ⟨k + 1, C ++ (vertexL y.1 y.2), R1, by omega, by go_num, ⟨⟨A3, c3, by rw [List.length_append, ← Hx.out, ← Hd.out], B3.out⟩, Rd3.out, by rw [hO.out.eq, Hp.out.split rfl, List.append_assoc], Low3.out, hO.out.rbw⟩⟩
              case measure => simp [intOf]; omega
            · have hE' : (E != 0) = true := by simpa using hE
              have HE := Lib.hid hE
              clear hE
              go_wp2_with (go_at_call 17; refine (err_any Rd3.out).mono ?_; rintro e w4 ⟨rfl, rfl⟩)
              go_meet
              exact ⟨C, R1, E, R, ⟨A3, c3, by rw [Hx.out], by have h := byt_take B3.out C.length; rwa [List.take_left] at h⟩, Rd3.out, Low3.out, hO.out.eq, fun e => absurd e HE.out⟩
        · have HO := hO
          have HF : Hid (OF B (.slice A6 x c6) rb W0 wr) := ⟨C, R, 0, R, hO.out.sl, hO.out.rd, hO.out.low, hO.out.eq, fun _ => rfl⟩
          clear hO
          by_cases hk1 : k < n1
          · have hk2 : ¬ k < 20 := fun h => hg ⟨hk1, h⟩
            have hk1' : (k : Int) < (n1 : Int) := by omega
            have hk2' : ¬ (k : Int) < 20 := by omega
            clear hg
            go_wp2
            go_meet
            exact HF.out
          · have hk1' : ¬ (k : Int) < (n1 : Int) := by omega
            clear hg
            go_wp2
            go_meet
            exact HF.out
    case rest =>
      obtain ⟨C, R, E, R', sl, rd, low, heq, hER⟩ := hcut
      obtain ⟨A6, c6, hs6, b6⟩ := sl
      obtain ⟨x, hx⟩ : ∃ x, x = C.length := ⟨_, rfl⟩
      rw [← hx] at hs6
      subst hs6
      have hBC : m = x + R'.length := by rw [← HBl.out, heq, List.length_append, hx]
      have hxc : x ≤ c6 := by have := b6.1; omega
      have htk : B.take x = C := by rw [heq, hx, List.take_left]
      have hxm : (x : Int) ≤ (m : Int) := by omega
      have hxc2 : (x : Int) ≤ (c : Int) := by omega
      have Hx := Lib.hid hx
      have B6 := Lib.hid b6
      have HBx : Hid (Byt wc A c C) := by
        obtain ⟨A', c', e, hb⟩ := HSB.out
        simp only [Value.slice.injEq] at e
        obtain ⟨rfl, _, rfl⟩ := e
        have h := byt_take (hb.below low (Nat.le_refl _)) x
        rw [htk] at h
        exact h
      have HRd := Lib.hid rd
      have HLow := Lib.hid low
      clear hx b6 rd low htk heq HL0 Rd Low HSB HK Hk Hn1 HBi Hmm
      go_wp2
      by_cases hE : E = 0
      · subst hE
        have hR := hER rfl
        subst hR
        by_cases hR0 : R'.length = 0
        · have HZ : Hid (doneE R' 0 = 0) := by show _ = _; unfold doneE; rw [if_pos rfl, if_pos hR0]
          obtain rfl : m = x := by omega
          clear hR0 hER HBl hBC
          have apx : apartB [70, 71, 72, 73, 74, 75, 76, 77, 78, 79, 80, 81, 82, 83, 84, 85, 86, 87, 88, 89, 90, 91, 92, 93, 94, 95, 96, 97, 98, 99, 100, 101, 102, 103, 4] = true := by decide
          refine wp_region_any (by kernel_rfl) ?_
          change wpAny _ _ _ _ _ _ _ (World.drew _)
          refine wpAny_inv (fun ll aa wx => Hid (ll.size = 35 ∧ Below wc.heap.size wc wx) ∧ ∃ (z : Nat → Value), Hid (aa = ⟨#[.slice A m c, .slice A1 n1 c1, undef, undef, z 4, .pointer (some ⟨rb, 0, none⟩), .slice A6 m c6, u7, u8, u9, u10, u11, u12, u13, .slice A m c, .pointer (some ⟨rb, 0, none⟩), u16, u17, u18, u19, u20, u21, u22, u23, u24, u25, u26, u27, u28, u29, u30, u31, u32, u33, u34, u35, u36, u37, u38, u39, u40, u41, u42, u43, u44, u45, u46, u47, u48, u49, u50, u51, u52, u53, u54, u55, u56, u57, u58, u59, u60, u61, u62, u63, u64, u65, u66, u67, u68, u69, z 70, z 71, z 72, z 73, z 74, z 75, z 76, z 77, z 78, z 79, z 80, z 81, z 82, z 83, z 84, z 85, z 86, z 87, z 88, z 89, z 90, z 91, z 92, z 93, z 94, z 95, z 96, z 97, z 98, z 99, z 100, z 101, z 102, z 103], []⟩) ∧ Holding [70, 71, 72, 73, 74, 75, 76, 77, 78, 79, 80, 81, 82, 83, 84, 85, 86, 87, 88, 89, 90, 91, 92, 93, 94, 95, 96, 97, 98, 99, 100, 101, 102, 103, 4] [some (.slice A6 m c6), some (.int .i64 (m : Nat)), some (.slice A m c), some (.int .i64 (m : Nat)), some (.bool true), some (.bool true), some (.slice A6 m c6), some (.string (strOfNums C)), some (.slice A m c), some (.slice A6 m c6), some (.int .i64 (m : Nat)), some (.slice A m c), some (.string (strOfNums C)), some (.bool true), some (.bool true), some (.bool true), some (.pointer (some ⟨rb, 0, none⟩)), some (.int .i64 0), some (.bool false), some (.bool false), some (.pointer (some ⟨rb, 0, none⟩)), some (.int .i64 0), some (.bool true), some (.slice A6 m c6), some (.int .i64 (m : Nat)), some (.slice A m c), some (.int .i64 (m : Nat)), some (.bool true), some (.bool true), some (.bool true), some (.bool true), some (.bool true), some (.bool true), some (.bool true), some (.bool true)] ll z) ?_ (by kernel_rfl) ?_ ?_ _ _ _ _ (unlisted_none _) ?_
          · rintro ll aa wx ⟨h, _⟩
            exact h.out.1
          · rintro ll aa wx ⟨h, z, ha, hz⟩ hall
            have hx := Lib.hid h.out.2
            have e0 : z 70 = .slice A6 m c6 := hz 0 _ (hall 0 (by decide)) rfl
            have e1 : z 71 = .int .i64 (m : Nat) := hz 1 _ (hall 1 (by decide)) rfl
            have e2 : z 72 = .slice A m c := hz 2 _ (hall 2 (by decide)) rfl
            have e3 : z 73 = .int .i64 (m : Nat) := hz 3 _ (hall 3 (by decide)) rfl
            have e4 : z 74 = .bool true := hz 4 _ (hall 4 (by decide)) rfl
            have e5 : z 75 = .bool true := hz 5 _ (hall 5 (by decide)) rfl
            have e6 : z 76 = .slice A6 m c6 := hz 6 _ (hall 6 (by decide)) rfl
            have e7 : z 77 = .string (strOfNums C) := hz 7 _ (hall 7 (by decide)) rfl
            have e8 : z 78 = .slice A m c := hz 8 _ (hall 8 (by decide)) rfl
            have e9 : z 79 = .slice A6 m c6 := hz 9 _ (hall 9 (by decide)) rfl
            have e10 : z 80 = .int .i64 (m : Nat) := hz 10 _ (hall 10 (by decide)) rfl
            have e11 : z 81 = .slice A m c := hz 11 _ (hall 11 (by decide)) rfl
            have e12 : z 82 = .string (strOfNums C) := hz 12 _ (hall 12 (by decide)) rfl
            have e13 : z 83 = .bool true := hz 13 _ (hall 13 (by decide)) rfl
            have e14 : z 84 = .bool true := hz 14 _ (hall 14 (by decide)) rfl
            have e15 : z 85 = .bool true := hz 15 _ (hall 15 (by decide)) rfl
            have e16 : z 86 = .pointer (some ⟨rb, 0, none⟩) := hz 16 _ (hall 16 (by decide)) rfl
            have e17 : z 87 = .int .i64 0 := hz 17 _ (hall 17 (by decide)) rfl
            have e18 : z 88 = .bool false := hz 18 _ (hall 18 (by decide)) rfl
            have e19 : z 89 = .bool false := hz 19 _ (hall 19 (by decide)) rfl
            have e20 : z 90 = .pointer (some ⟨rb, 0, none⟩) := hz 20 _ (hall 20 (by decide)) rfl
            have e21 : z 91 = .int .i64 0 := hz 21 _ (hall 21 (by decide)) rfl
            have e22 : z 92 = .bool true := hz 22 _ (hall 22 (by decide)) rfl
            have e23 : z 93 = .slice A6 m c6 := hz 23 _ (hall 23 (by decide)) rfl
            have e24 : z 94 = .int .i64 (m : Nat) := hz 24 _ (hall 24 (by decide)) rfl
            have e25 : z 95 = .slice A m c := hz 25 _ (hall 25 (by decide)) rfl
            have e26 : z 96 = .int .i64 (m : Nat) := hz 26 _ (hall 26 (by decide)) rfl
            have e27 : z 97 = .bool true := hz 27 _ (hall 27 (by decide)) rfl
            have e28 : z 98 = .bool true := hz 28 _ (hall 28 (by decide)) rfl
            have e29 : z 99 = .bool true := hz 29 _ (hall 29 (by decide)) rfl
            have e30 : z 100 = .bool true := hz 30 _ (hall 30 (by decide)) rfl
            have e31 : z 101 = .bool true := hz 31 _ (hall 31 (by decide)) rfl
            have e32 : z 102 = .bool true := hz 32 _ (hall 32 (by decide)) rfl
            have e33 : z 103 = .bool true := hz 33 _ (hall 33 (by decide)) rfl
            have e34 : z 4 = .bool true := hz 34 _ (hall 34 (by decide)) rfl
            clear hall hz h 
            obtain rfl := ha.out
            clear ha
            clear apx
            clear e0 e1 e2 e3 e4 e5 e6 e7 e8 e9 e10 e11 e12 e13 e14 e15 e16 e17 e18 e19 e20 e21 e22 e23 e24 e25 e26 e27 e28 e29 e30 e31 e32 e33
            have Hl := Lib.hid (HLow.out.trans (hx.out.mono HLow.out.size))
            go_wp2
            go_ret
            exact ⟨by simp [e34], Hl.out⟩
          · rintro ll aa wx i ⟨h, z, ha, hz⟩ hi hu hw
            obtain rfl := ha.out
            have hsz := Lib.hid h.out.1
            have hx := Lib.hid h.out.2
            clear ha h
            have hin : i < 35 := hi
            obtain rfl | rfl | rfl | rfl | rfl | rfl | rfl | rfl | rfl | rfl | rfl | rfl | rfl | rfl | rfl | rfl | rfl | rfl | rfl | rfl | rfl | rfl | rfl | rfl | rfl | rfl | rfl | rfl | rfl | rfl | rfl | rfl | rfl | rfl | rfl : i = 0 ∨ i = 1 ∨ i = 2 ∨ i = 3 ∨ i = 4 ∨ i = 5 ∨ i = 6 ∨ i = 7 ∨ i = 8 ∨ i = 9 ∨ i = 10 ∨ i = 11 ∨ i = 12 ∨ i = 13 ∨ i = 14 ∨ i = 15 ∨ i = 16 ∨ i = 17 ∨ i = 18 ∨ i = 19 ∨ i = 20 ∨ i = 21 ∨ i = 22 ∨ i = 23 ∨ i = 24 ∨ i = 25 ∨ i = 26 ∨ i = 27 ∨ i = 28 ∨ i = 29 ∨ i = 30 ∨ i = 31 ∨ i = 32 ∨ i = 33 ∨ i = 34 := by omega
            · refine wpOp_plain rfl rfl ?_
              go_simp
              exact ⟨⟨by simp [hsz.out], hx.out⟩, upd z 70 (.slice A6 m c6), (by unfold Hid; simp [upd]), hz.next apx hsz.out 0 (by decide) _ (fun _ h => Option.some.inj h)⟩
            · have e0 : z 70 = .slice A6 m c6 := hz 0 _ (hw 0 (by kernel_rfl)) rfl
              refine wpOp_plain rfl rfl ?_
              go_simp
              exact ⟨⟨by simp [hsz.out], hx.out⟩, upd z 71 (.int .i64 (m : Nat)), (by unfold Hid; simp [upd, e0]), hz.next apx hsz.out 1 (by decide) _ (fun _ h => Option.some.inj h)⟩
            · refine wpOp_plain rfl rfl ?_
              go_simp
              exact ⟨⟨by simp [hsz.out], hx.out⟩, upd z 72 (.slice A m c), (by unfold Hid; simp [upd]), hz.next apx hsz.out 2 (by decide) _ (fun _ h => Option.some.inj h)⟩
            · have e2 : z 72 = .slice A m c := hz 2 _ (hw 2 (by kernel_rfl)) rfl
              refine wpOp_plain rfl rfl ?_
              go_simp
              exact ⟨⟨by simp [hsz.out], hx.out⟩, upd z 73 (.int .i64 (m : Nat)), (by unfold Hid; simp [upd, e2]), hz.next apx hsz.out 3 (by decide) _ (fun _ h => Option.some.inj h)⟩
            · have e1 : z 71 = .int .i64 (m : Nat) := hz 1 _ (hw 1 (by kernel_rfl)) rfl
              have e3 : z 73 = .int .i64 (m : Nat) := hz 3 _ (hw 3 (by kernel_rfl)) rfl
              refine wpOp_plain rfl rfl ?_
              go_simp
              exact ⟨⟨by simp [hsz.out], hx.out⟩, upd z 74 (.bool true), (by unfold Hid; simp [upd, e1, e3]), hz.next apx hsz.out 4 (by decide) _ (fun _ h => Option.some.inj h)⟩
            · have e4 : z 74 = .bool true := hz 4 _ (hw 4 (by kernel_rfl)) rfl
              refine wpOp_plain rfl rfl ?_
              go_simp
              exact ⟨⟨by simp [hsz.out], hx.out⟩, upd z 75 (.bool true), (by unfold Hid; simp [upd, e4]), hz.next apx hsz.out 5 (by decide) _ (fun _ h => Option.some.inj h)⟩
            · have e5 : z 75 = .bool true := hz 5 _ (hw 5 (by kernel_rfl)) rfl
              refine wpOp_want rfl (by simp [Region.wanted, yielded, e5]) ?_
              go_simp
              exact ⟨⟨by simp [hsz.out], hx.out⟩, upd z 76 (.slice A6 m c6), (by unfold Hid; simp [upd, e5]), hz.next apx hsz.out 6 (by decide) _ (fun _ h => Option.some.inj h)⟩
            · have e5 : z 75 = .bool true := hz 5 _ (hw 5 (by kernel_rfl)) rfl
              have e6 : z 76 = .slice A6 m c6 := hz 6 _ (hw 6 (by kernel_rfl)) rfl
              have cv := conv_any (B6.out.below hx.out (Nat.le_refl _)) Hx.out.symm
              refine wpOp_want rfl (by simp [Region.wanted, yielded, e5]) ?_
              go_simp
              exact ⟨⟨by simp [hsz.out], hx.out⟩, upd z 77 (.string (strOfNums C)), (by unfold Hid; simp [upd, e5, e6]), hz.next apx hsz.out 7 (by decide) _ (fun _ h => Option.some.inj h)⟩
            · have e5 : z 75 = .bool true := hz 5 _ (hw 5 (by kernel_rfl)) rfl
              refine wpOp_want rfl (by simp [Region.wanted, yielded, e5]) ?_
              go_simp
              exact ⟨⟨by simp [hsz.out], hx.out⟩, upd z 78 (.slice A m c), (by unfold Hid; simp [upd, e5]), hz.next apx hsz.out 8 (by decide) _ (fun _ h => Option.some.inj h)⟩
            · have e5 : z 75 = .bool true := hz 5 _ (hw 5 (by kernel_rfl)) rfl
              refine wpOp_want rfl (by simp [Region.wanted, yielded, e5]) ?_
              go_simp
              exact ⟨⟨by simp [hsz.out], hx.out⟩, upd z 79 (.slice A6 m c6), (by unfold Hid; simp [upd, e5]), hz.next apx hsz.out 9 (by decide) _ (fun _ h => Option.some.inj h)⟩
            · have e5 : z 75 = .bool true := hz 5 _ (hw 5 (by kernel_rfl)) rfl
              have e9 : z 79 = .slice A6 m c6 := hz 9 _ (hw 9 (by kernel_rfl)) rfl
              refine wpOp_want rfl (by simp [Region.wanted, yielded, e5]) ?_
              go_simp
              exact ⟨⟨by simp [hsz.out], hx.out⟩, upd z 80 (.int .i64 (m : Nat)), (by unfold Hid; simp [upd, e5, e9]), hz.next apx hsz.out 10 (by decide) _ (fun _ h => Option.some.inj h)⟩
            · have e5 : z 75 = .bool true := hz 5 _ (hw 5 (by kernel_rfl)) rfl
              have e8 : z 78 = .slice A m c := hz 8 _ (hw 8 (by kernel_rfl)) rfl
              have e10 : z 80 = .int .i64 (m : Nat) := hz 10 _ (hw 10 (by kernel_rfl)) rfl
              refine wpOp_want rfl (by simp [Region.wanted, yielded, e5]) ?_
              go_simp
              exact ⟨⟨by simp [hsz.out], hx.out⟩, upd z 81 (.slice A m c), (by unfold Hid; simp [upd, e5, e8, e10]), hz.next apx hsz.out 11 (by decide) _ (fun _ h => Option.some.inj h)⟩
            · have e5 : z 75 = .bool true := hz 5 _ (hw 5 (by kernel_rfl)) rfl
              have e11 : z 81 = .slice A m c := hz 11 _ (hw 11 (by kernel_rfl)) rfl
              have cv := conv_any (HBx.out.below hx.out (Nat.le_refl _)) Hx.out.symm
              refine wpOp_want rfl (by simp [Region.wanted, yielded, e5]) ?_
              go_simp
              exact ⟨⟨by simp [hsz.out], hx.out⟩, upd z 82 (.string (strOfNums C)), (by unfold Hid; simp [upd, e5, e11]), hz.next apx hsz.out 12 (by decide) _ (fun _ h => Option.some.inj h)⟩
            · have e5 : z 75 = .bool true := hz 5 _ (hw 5 (by kernel_rfl)) rfl
              have e7 : z 77 = .string (strOfNums C) := hz 7 _ (hw 7 (by kernel_rfl)) rfl
              have e12 : z 82 = .string (strOfNums C) := hz 12 _ (hw 12 (by kernel_rfl)) rfl
              refine wpOp_want rfl (by simp [Region.wanted, yielded, e5]) ?_
              go_simp
              exact ⟨⟨by simp [hsz.out], hx.out⟩, upd z 83 (.bool true), (by unfold Hid; simp [upd, e5, e7, e12]), hz.next apx hsz.out 13 (by decide) _ (fun _ h => Option.some.inj h)⟩
            · have e5 : z 75 = .bool true := hz 5 _ (hw 5 (by kernel_rfl)) rfl
              have e13 : z 83 = .bool true := hz 13 _ (hw 13 (by kernel_rfl)) rfl
              refine wpOp_plain rfl rfl ?_
              go_simp
              exact ⟨⟨by simp [hsz.out], hx.out⟩, upd z 84 (.bool true), (by unfold Hid; simp [upd, e5, e13]), hz.next apx hsz.out 14 (by decide) _ (fun _ h => Option.some.inj h)⟩
            · have e14 : z 84 = .bool true := hz 14 _ (hw 14 (by kernel_rfl)) rfl
              refine wpOp_plain rfl rfl ?_
              go_simp
              exact ⟨⟨by simp [hsz.out], hx.out⟩, upd z 85 (.bool true), (by unfold Hid; simp [upd, e14]), hz.next apx hsz.out 15 (by decide) _ (fun _ h => Option.some.inj h)⟩
            · have e15 : z 85 = .bool true := hz 15 _ (hw 15 (by kernel_rfl)) rfl
              refine wpOp_want rfl (by simp [Region.wanted, yielded, e15]) ?_
              go_simp
              exact ⟨⟨by simp [hsz.out], hx.out⟩, upd z 86 (.pointer (some ⟨rb, 0, none⟩)), (by unfold Hid; simp [upd, e15]), hz.next apx hsz.out 16 (by decide) _ (fun _ h => Option.some.inj h)⟩
            · have e15 : z 85 = .bool true := hz 15 _ (hw 15 (by kernel_rfl)) rfl
              have e16 : z 86 = .pointer (some ⟨rb, 0, none⟩) := hz 16 _ (hw 16 (by kernel_rfl)) rfl
              refine wpOp_want rfl (by simp [Region.wanted, yielded, e15]) ?_
              go_simp
              go_at_call 17
              refine (err_any (HRd.out.later hx.out)).mono ?_
              rintro e w' ⟨rfl, rfl⟩
              exact ⟨⟨by simp [hsz.out], hx.out⟩, upd z 87 (.int .i64 0), (by unfold Hid; simp [upd, e15, e16]), hz.next apx hsz.out 17 (by decide) _ (fun _ h => Option.some.inj h)⟩
            · have e15 : z 85 = .bool true := hz 15 _ (hw 15 (by kernel_rfl)) rfl
              have e17 : z 87 = .int .i64 0 := hz 17 _ (hw 17 (by kernel_rfl)) rfl
              refine wpOp_want rfl (by simp [Region.wanted, yielded, e15]) ?_
              go_simp
              exact ⟨⟨by simp [hsz.out], hx.out⟩, upd z 88 (.bool false), (by unfold Hid; simp [upd, e15, e17]), hz.next apx hsz.out 18 (by decide) _ (fun _ h => Option.some.inj h)⟩
            · have e15 : z 85 = .bool true := hz 15 _ (hw 15 (by kernel_rfl)) rfl
              have e18 : z 88 = .bool false := hz 18 _ (hw 18 (by kernel_rfl)) rfl
              refine wpOp_want rfl (by simp [Region.wanted, yielded, e15]) ?_
              go_simp
              exact ⟨⟨by simp [hsz.out], hx.out⟩, upd z 89 (.bool false), (by unfold Hid; simp [upd, e15, e18]), hz.next apx hsz.out 19 (by decide) _ (fun _ h => Option.some.inj h)⟩
            · have e19 : z 89 = .bool false := hz 19 _ (hw 19 (by kernel_rfl)) rfl
              refine wpOp_want rfl (by simp [Region.wanted, yielded, e19]) ?_
              go_simp
              exact ⟨⟨by simp [hsz.out], hx.out⟩, upd z 90 (.pointer (some ⟨rb, 0, none⟩)), (by unfold Hid; simp [upd, e19]), hz.next apx hsz.out 20 (by decide) _ (fun _ h => Option.some.inj h)⟩
            · have e19 : z 89 = .bool false := hz 19 _ (hw 19 (by kernel_rfl)) rfl
              have e20 : z 90 = .pointer (some ⟨rb, 0, none⟩) := hz 20 _ (hw 20 (by kernel_rfl)) rfl
              refine wpOp_want rfl (by simp [Region.wanted, yielded, e19]) ?_
              go_simp
              go_at_call 14
              refine (done_is (z := 0) (HZ.out) (HRd.out.later hx.out)).mono ?_
              rintro e w' ⟨rfl, rfl⟩
              exact ⟨⟨by simp [hsz.out], hx.out⟩, upd z 91 (.int .i64 0), (by unfold Hid; simp [upd, e19, e20]), hz.next apx hsz.out 21 (by decide) _ (fun _ h => Option.some.inj h)⟩
            · have e19 : z 89 = .bool false := hz 19 _ (hw 19 (by kernel_rfl)) rfl
              have e21 : z 91 = .int .i64 0 := hz 21 _ (hw 21 (by kernel_rfl)) rfl
              refine wpOp_want rfl (by simp [Region.wanted, yielded, e19]) ?_
              go_simp
              exact ⟨⟨by simp [hsz.out], hx.out⟩, upd z 92 (.bool true), (by unfold Hid; simp [upd, e19, e21]), hz.next apx hsz.out 22 (by decide) _ (fun _ h => Option.some.inj h)⟩
            · have e19 : z 89 = .bool false := hz 19 _ (hw 19 (by kernel_rfl)) rfl
              refine wpOp_want rfl (by simp [Region.wanted, yielded, e19]) ?_
              go_simp
              exact ⟨⟨by simp [hsz.out], hx.out⟩, upd z 93 (.slice A6 m c6), (by unfold Hid; simp [upd, e19]), hz.next apx hsz.out 23 (by decide) _ (fun _ h => Option.some.inj h)⟩
            · have e19 : z 89 = .bool false := hz 19 _ (hw 19 (by kernel_rfl)) rfl
              have e23 : z 93 = .slice A6 m c6 := hz 23 _ (hw 23 (by kernel_rfl)) rfl
              refine wpOp_want rfl (by simp [Region.wanted, yielded, e19]) ?_
              go_simp
              exact ⟨⟨by simp [hsz.out], hx.out⟩, upd z 94 (.int .i64 (m : Nat)), (by unfold Hid; simp [upd, e19, e23]), hz.next apx hsz.out 24 (by decide) _ (fun _ h => Option.some.inj h)⟩
            · have e19 : z 89 = .bool false := hz 19 _ (hw 19 (by kernel_rfl)) rfl
              refine wpOp_want rfl (by simp [Region.wanted, yielded, e19]) ?_
              go_simp
              exact ⟨⟨by simp [hsz.out], hx.out⟩, upd z 95 (.slice A m c), (by unfold Hid; simp [upd, e19]), hz.next apx hsz.out 25 (by decide) _ (fun _ h => Option.some.inj h)⟩
            · have e19 : z 89 = .bool false := hz 19 _ (hw 19 (by kernel_rfl)) rfl
              have e25 : z 95 = .slice A m c := hz 25 _ (hw 25 (by kernel_rfl)) rfl
              refine wpOp_want rfl (by simp [Region.wanted, yielded, e19]) ?_
              go_simp
              exact ⟨⟨by simp [hsz.out], hx.out⟩, upd z 96 (.int .i64 (m : Nat)), (by unfold Hid; simp [upd, e19, e25]), hz.next apx hsz.out 26 (by decide) _ (fun _ h => Option.some.inj h)⟩
            · have e19 : z 89 = .bool false := hz 19 _ (hw 19 (by kernel_rfl)) rfl
              have e24 : z 94 = .int .i64 (m : Nat) := hz 24 _ (hw 24 (by kernel_rfl)) rfl
              have e26 : z 96 = .int .i64 (m : Nat) := hz 26 _ (hw 26 (by kernel_rfl)) rfl
              refine wpOp_want rfl (by simp [Region.wanted, yielded, e19]) ?_
              go_simp
              exact ⟨⟨by simp [hsz.out], hx.out⟩, upd z 97 (.bool true), (by unfold Hid; simp [upd, e19, e24, e26]), hz.next apx hsz.out 27 (by decide) _ (fun _ h => Option.some.inj h)⟩
            · have e19 : z 89 = .bool false := hz 19 _ (hw 19 (by kernel_rfl)) rfl
              have e22 : z 92 = .bool true := hz 22 _ (hw 22 (by kernel_rfl)) rfl
              have e27 : z 97 = .bool true := hz 27 _ (hw 27 (by kernel_rfl)) rfl
              refine wpOp_want rfl (by simp [Region.wanted, yielded, e19]) ?_
              go_simp
              exact ⟨⟨by simp [hsz.out], hx.out⟩, upd z 98 (.bool true), (by unfold Hid; simp [upd, e19, e22, e27]), hz.next apx hsz.out 28 (by decide) _ (fun _ h => Option.some.inj h)⟩
            · have e15 : z 85 = .bool true := hz 15 _ (hw 15 (by kernel_rfl)) rfl
              have e19 : z 89 = .bool false := hz 19 _ (hw 19 (by kernel_rfl)) rfl
              have e28 : z 98 = .bool true := hz 28 _ (hw 28 (by kernel_rfl)) rfl
              refine wpOp_want rfl (by simp [Region.wanted, yielded, e15]) ?_
              go_simp
              exact ⟨⟨by simp [hsz.out], hx.out⟩, upd z 99 (.bool true), (by unfold Hid; simp [upd, e15, e19, e28]), hz.next apx hsz.out 29 (by decide) _ (fun _ h => Option.some.inj h)⟩
            · have e15 : z 85 = .bool true := hz 15 _ (hw 15 (by kernel_rfl)) rfl
              have e29 : z 99 = .bool true := hz 29 _ (hw 29 (by kernel_rfl)) rfl
              refine wpOp_plain rfl rfl ?_
              go_simp
              exact ⟨⟨by simp [hsz.out], hx.out⟩, upd z 100 (.bool true), (by unfold Hid; simp [upd, e15, e29]), hz.next apx hsz.out 30 (by decide) _ (fun _ h => Option.some.inj h)⟩
            · have e30 : z 100 = .bool true := hz 30 _ (hw 30 (by kernel_rfl)) rfl
              refine wpOp_plain rfl rfl ?_
              go_simp
              exact ⟨⟨by simp [hsz.out], hx.out⟩, upd z 101 (.bool true), (by unfold Hid; simp [upd, e30]), hz.next apx hsz.out 31 (by decide) _ (fun _ h => Option.some.inj h)⟩
            · have e31 : z 101 = .bool true := hz 31 _ (hw 31 (by kernel_rfl)) rfl
              refine wpOp_want rfl (by simp [Region.wanted, yielded, e31]) ?_
              go_simp
              go_at_call 10
              refine (works_any _).mono ?_
              rintro e w' ⟨rfl, low⟩
              exact ⟨⟨by simp [hsz.out], hx.out.trans (low.mono hx.out.size)⟩, upd z 102 (.bool true), (by unfold Hid; simp [upd, e31]), hz.next apx hsz.out 32 (by decide) _ (fun _ h => Option.some.inj h)⟩
            · have e31 : z 101 = .bool true := hz 31 _ (hw 31 (by kernel_rfl)) rfl
              have e32 : z 102 = .bool true := hz 32 _ (hw 32 (by kernel_rfl)) rfl
              refine wpOp_plain rfl rfl ?_
              go_simp
              exact ⟨⟨by simp [hsz.out], hx.out⟩, upd z 103 (.bool true), (by unfold Hid; simp [upd, e31, e32]), hz.next apx hsz.out 33 (by decide) _ (fun _ h => Option.some.inj h)⟩
            · have e33 : z 103 = .bool true := hz 33 _ (hw 33 (by kernel_rfl)) rfl
              refine wpOp_plain rfl rfl ?_
              go_simp
              exact ⟨⟨by simp [hsz.out], hx.out⟩, upd z 4 (.bool true), (by unfold Hid; simp [upd, e33]), hz.next apx hsz.out 34 (by decide) _ (fun _ h => Option.some.inj h)⟩
          · exact ⟨⟨rfl, (Below.refl _ _).drew⟩, fun xx => (#[.slice A m c, .slice A1 n1 c1, undef, undef, .bool false, .pointer (some ⟨rb, 0, none⟩), .slice A6 m c6, u7, u8, u9, u10, u11, u12, u13, .slice A m c, .pointer (some ⟨rb, 0, none⟩), u16, u17, u18, u19, u20, u21, u22, u23, u24, u25, u26, u27, u28, u29, u30, u31, u32, u33, u34, u35, u36, u37, u38, u39, u40, u41, u42, u43, u44, u45, u46, u47, u48, u49, u50, u51, u52, u53, u54, u55, u56, u57, u58, u59, u60, u61, u62, u63, u64, u65, u66, u67, u68, u69, u70, u71, u72, u73, u74, u75, u76, u77, u78, u79, u80, u81, u82, u83, u84, u85, u86, u87, u88, u89, u90, u91, u92, u93, u94, u95, u96, u97, u98, u99, u100, u101, u102, u103] : Array Value).getD xx undef, rfl, Holding.start⟩
        · have HZ : Hid (doneE R' 0 = 4) := by show _ = _; unfold doneE; rw [if_pos rfl, if_neg hR0]
          have hne : Hid (((x : Int) == (m : Int)) = false) := by show _ = _; rw [beq_eq_false_iff_ne]; omega
          clear hR0 hER HBl hBC
          have apx : apartB [70, 71, 72, 73, 74, 75, 76, 77, 78, 79, 80, 81, 82, 83, 84, 85, 86, 87, 88, 89, 90, 91, 92, 93, 94, 95, 96, 97, 98, 99, 100, 101, 102, 103, 4] = true := by decide
          refine wp_region_any (by kernel_rfl) ?_
          change wpAny _ _ _ _ _ _ _ (World.drew _)
          refine wpAny_inv (fun ll aa wx => Hid (ll.size = 35 ∧ Below wc.heap.size wc wx) ∧ ∃ (z : Nat → Value), Hid (aa = ⟨#[.slice A m c, .slice A1 n1 c1, undef, undef, z 4, .pointer (some ⟨rb, 0, none⟩), .slice A6 x c6, u7, u8, u9, u10, u11, u12, u13, .slice A m c, .pointer (some ⟨rb, 0, none⟩), u16, u17, u18, u19, u20, u21, u22, u23, u24, u25, u26, u27, u28, u29, u30, u31, u32, u33, u34, u35, u36, u37, u38, u39, u40, u41, u42, u43, u44, u45, u46, u47, u48, u49, u50, u51, u52, u53, u54, u55, u56, u57, u58, u59, u60, u61, u62, u63, u64, u65, u66, u67, u68, u69, z 70, z 71, z 72, z 73, z 74, z 75, z 76, z 77, z 78, z 79, z 80, z 81, z 82, z 83, z 84, z 85, z 86, z 87, z 88, z 89, z 90, z 91, z 92, z 93, z 94, z 95, z 96, z 97, z 98, z 99, z 100, z 101, z 102, z 103], []⟩) ∧ Holding [70, 71, 72, 73, 74, 75, 76, 77, 78, 79, 80, 81, 82, 83, 84, 85, 86, 87, 88, 89, 90, 91, 92, 93, 94, 95, 96, 97, 98, 99, 100, 101, 102, 103, 4] [some (.slice A6 x c6), some (.int .i64 (x : Nat)), some (.slice A m c), some (.int .i64 (m : Nat)), some (.bool true), some (.bool true), some (.slice A6 x c6), some (.string (strOfNums C)), some (.slice A m c), some (.slice A6 x c6), some (.int .i64 (x : Nat)), some (.slice A x c), some (.string (strOfNums C)), some (.bool true), some (.bool true), some (.bool true), some (.pointer (some ⟨rb, 0, none⟩)), some (.int .i64 0), some (.bool false), some (.bool false), some (.pointer (some ⟨rb, 0, none⟩)), some (.int .i64 4), some (.bool false), some (.slice A6 x c6), some (.int .i64 (x : Nat)), some (.slice A m c), some (.int .i64 (m : Nat)), some (.bool false), some (.bool true), some (.bool true), some (.bool true), some (.bool true), some (.bool true), some (.bool true), some (.bool true)] ll z) ?_ (by kernel_rfl) ?_ ?_ _ _ _ _ (unlisted_none _) ?_
          · rintro ll aa wx ⟨h, _⟩
            exact h.out.1
          · rintro ll aa wx ⟨h, z, ha, hz⟩ hall
            have hx := Lib.hid h.out.2
            have e0 : z 70 = .slice A6 x c6 := hz 0 _ (hall 0 (by decide)) rfl
            have e1 : z 71 = .int .i64 (x : Nat) := hz 1 _ (hall 1 (by decide)) rfl
            have e2 : z 72 = .slice A m c := hz 2 _ (hall 2 (by decide)) rfl
            have e3 : z 73 = .int .i64 (m : Nat) := hz 3 _ (hall 3 (by decide)) rfl
            have e4 : z 74 = .bool true := hz 4 _ (hall 4 (by decide)) rfl
            have e5 : z 75 = .bool true := hz 5 _ (hall 5 (by decide)) rfl
            have e6 : z 76 = .slice A6 x c6 := hz 6 _ (hall 6 (by decide)) rfl
            have e7 : z 77 = .string (strOfNums C) := hz 7 _ (hall 7 (by decide)) rfl
            have e8 : z 78 = .slice A m c := hz 8 _ (hall 8 (by decide)) rfl
            have e9 : z 79 = .slice A6 x c6 := hz 9 _ (hall 9 (by decide)) rfl
            have e10 : z 80 = .int .i64 (x : Nat) := hz 10 _ (hall 10 (by decide)) rfl
            have e11 : z 81 = .slice A x c := hz 11 _ (hall 11 (by decide)) rfl
            have e12 : z 82 = .string (strOfNums C) := hz 12 _ (hall 12 (by decide)) rfl
            have e13 : z 83 = .bool true := hz 13 _ (hall 13 (by decide)) rfl
            have e14 : z 84 = .bool true := hz 14 _ (hall 14 (by decide)) rfl
            have e15 : z 85 = .bool true := hz 15 _ (hall 15 (by decide)) rfl
            have e16 : z 86 = .pointer (some ⟨rb, 0, none⟩) := hz 16 _ (hall 16 (by decide)) rfl
            have e17 : z 87 = .int .i64 0 := hz 17 _ (hall 17 (by decide)) rfl
            have e18 : z 88 = .bool false := hz 18 _ (hall 18 (by decide)) rfl
            have e19 : z 89 = .bool false := hz 19 _ (hall 19 (by decide)) rfl
            have e20 : z 90 = .pointer (some ⟨rb, 0, none⟩) := hz 20 _ (hall 20 (by decide)) rfl
            have e21 : z 91 = .int .i64 4 := hz 21 _ (hall 21 (by decide)) rfl
            have e22 : z 92 = .bool false := hz 22 _ (hall 22 (by decide)) rfl
            have e23 : z 93 = .slice A6 x c6 := hz 23 _ (hall 23 (by decide)) rfl
            have e24 : z 94 = .int .i64 (x : Nat) := hz 24 _ (hall 24 (by decide)) rfl
            have e25 : z 95 = .slice A m c := hz 25 _ (hall 25 (by decide)) rfl
            have e26 : z 96 = .int .i64 (m : Nat) := hz 26 _ (hall 26 (by decide)) rfl
            have e27 : z 97 = .bool false := hz 27 _ (hall 27 (by decide)) rfl
            have e28 : z 98 = .bool true := hz 28 _ (hall 28 (by decide)) rfl
            have e29 : z 99 = .bool true := hz 29 _ (hall 29 (by decide)) rfl
            have e30 : z 100 = .bool true := hz 30 _ (hall 30 (by decide)) rfl
            have e31 : z 101 = .bool true := hz 31 _ (hall 31 (by decide)) rfl
            have e32 : z 102 = .bool true := hz 32 _ (hall 32 (by decide)) rfl
            have e33 : z 103 = .bool true := hz 33 _ (hall 33 (by decide)) rfl
            have e34 : z 4 = .bool true := hz 34 _ (hall 34 (by decide)) rfl
            clear hall hz h 
            obtain rfl := ha.out
            clear ha
            clear apx
            clear e0 e1 e2 e3 e4 e5 e6 e7 e8 e9 e10 e11 e12 e13 e14 e15 e16 e17 e18 e19 e20 e21 e22 e23 e24 e25 e26 e27 e28 e29 e30 e31 e32 e33
            have Hl := Lib.hid (HLow.out.trans (hx.out.mono HLow.out.size))
            go_wp2
            go_ret
            exact ⟨by simp [e34], Hl.out⟩
          · rintro ll aa wx i ⟨h, z, ha, hz⟩ hi hu hw
            obtain rfl := ha.out
            have hsz := Lib.hid h.out.1
            have hx := Lib.hid h.out.2
            clear ha h
            have hin : i < 35 := hi
            obtain rfl | rfl | rfl | rfl | rfl | rfl | rfl | rfl | rfl | rfl | rfl | rfl | rfl | rfl | rfl | rfl | rfl | rfl | rfl | rfl | rfl | rfl | rfl | rfl | rfl | rfl | rfl | rfl | rfl | rfl | rfl | rfl | rfl | rfl | rfl : i = 0 ∨ i = 1 ∨ i = 2 ∨ i = 3 ∨ i = 4 ∨ i = 5 ∨ i = 6 ∨ i = 7 ∨ i = 8 ∨ i = 9 ∨ i = 10 ∨ i = 11 ∨ i = 12 ∨ i = 13 ∨ i = 14 ∨ i = 15 ∨ i = 16 ∨ i = 17 ∨ i = 18 ∨ i = 19 ∨ i = 20 ∨ i = 21 ∨ i = 22 ∨ i = 23 ∨ i = 24 ∨ i = 25 ∨ i = 26 ∨ i = 27 ∨ i = 28 ∨ i = 29 ∨ i = 30 ∨ i = 31 ∨ i = 32 ∨ i = 33 ∨ i = 34 := by omega
            · refine wpOp_plain rfl rfl ?_
              go_simp
              exact ⟨⟨by simp [hsz.out], hx.out⟩, upd z 70 (.slice A6 x c6), (by unfold Hid; simp [upd]), hz.next apx hsz.out 0 (by decide) _ (fun _ h => Option.some.inj h)⟩
            · have e0 : z 70 = .slice A6 x c6 := hz 0 _ (hw 0 (by kernel_rfl)) rfl
              refine wpOp_plain rfl rfl ?_
              go_simp
              exact ⟨⟨by simp [hsz.out], hx.out⟩, upd z 71 (.int .i64 (x : Nat)), (by unfold Hid; simp [upd, e0]), hz.next apx hsz.out 1 (by decide) _ (fun _ h => Option.some.inj h)⟩
            · refine wpOp_plain rfl rfl ?_
              go_simp
              exact ⟨⟨by simp [hsz.out], hx.out⟩, upd z 72 (.slice A m c), (by unfold Hid; simp [upd]), hz.next apx hsz.out 2 (by decide) _ (fun _ h => Option.some.inj h)⟩
            · have e2 : z 72 = .slice A m c := hz 2 _ (hw 2 (by kernel_rfl)) rfl
              refine wpOp_plain rfl rfl ?_
              go_simp
              exact ⟨⟨by simp [hsz.out], hx.out⟩, upd z 73 (.int .i64 (m : Nat)), (by unfold Hid; simp [upd, e2]), hz.next apx hsz.out 3 (by decide) _ (fun _ h => Option.some.inj h)⟩
            · have e1 : z 71 = .int .i64 (x : Nat) := hz 1 _ (hw 1 (by kernel_rfl)) rfl
              have e3 : z 73 = .int .i64 (m : Nat) := hz 3 _ (hw 3 (by kernel_rfl)) rfl
              refine wpOp_plain rfl rfl ?_
              go_simp
              exact ⟨⟨by simp [hsz.out], hx.out⟩, upd z 74 (.bool true), (by unfold Hid; simp [upd, e1, e3]), hz.next apx hsz.out 4 (by decide) _ (fun _ h => Option.some.inj h)⟩
            · have e4 : z 74 = .bool true := hz 4 _ (hw 4 (by kernel_rfl)) rfl
              refine wpOp_plain rfl rfl ?_
              go_simp
              exact ⟨⟨by simp [hsz.out], hx.out⟩, upd z 75 (.bool true), (by unfold Hid; simp [upd, e4]), hz.next apx hsz.out 5 (by decide) _ (fun _ h => Option.some.inj h)⟩
            · have e5 : z 75 = .bool true := hz 5 _ (hw 5 (by kernel_rfl)) rfl
              refine wpOp_want rfl (by simp [Region.wanted, yielded, e5]) ?_
              go_simp
              exact ⟨⟨by simp [hsz.out], hx.out⟩, upd z 76 (.slice A6 x c6), (by unfold Hid; simp [upd, e5]), hz.next apx hsz.out 6 (by decide) _ (fun _ h => Option.some.inj h)⟩
            · have e5 : z 75 = .bool true := hz 5 _ (hw 5 (by kernel_rfl)) rfl
              have e6 : z 76 = .slice A6 x c6 := hz 6 _ (hw 6 (by kernel_rfl)) rfl
              have cv := conv_any (B6.out.below hx.out (Nat.le_refl _)) Hx.out.symm
              refine wpOp_want rfl (by simp [Region.wanted, yielded, e5]) ?_
              go_simp
              exact ⟨⟨by simp [hsz.out], hx.out⟩, upd z 77 (.string (strOfNums C)), (by unfold Hid; simp [upd, e5, e6]), hz.next apx hsz.out 7 (by decide) _ (fun _ h => Option.some.inj h)⟩
            · have e5 : z 75 = .bool true := hz 5 _ (hw 5 (by kernel_rfl)) rfl
              refine wpOp_want rfl (by simp [Region.wanted, yielded, e5]) ?_
              go_simp
              exact ⟨⟨by simp [hsz.out], hx.out⟩, upd z 78 (.slice A m c), (by unfold Hid; simp [upd, e5]), hz.next apx hsz.out 8 (by decide) _ (fun _ h => Option.some.inj h)⟩
            · have e5 : z 75 = .bool true := hz 5 _ (hw 5 (by kernel_rfl)) rfl
              refine wpOp_want rfl (by simp [Region.wanted, yielded, e5]) ?_
              go_simp
              exact ⟨⟨by simp [hsz.out], hx.out⟩, upd z 79 (.slice A6 x c6), (by unfold Hid; simp [upd, e5]), hz.next apx hsz.out 9 (by decide) _ (fun _ h => Option.some.inj h)⟩
            · have e5 : z 75 = .bool true := hz 5 _ (hw 5 (by kernel_rfl)) rfl
              have e9 : z 79 = .slice A6 x c6 := hz 9 _ (hw 9 (by kernel_rfl)) rfl
              refine wpOp_want rfl (by simp [Region.wanted, yielded, e5]) ?_
              go_simp
              exact ⟨⟨by simp [hsz.out], hx.out⟩, upd z 80 (.int .i64 (x : Nat)), (by unfold Hid; simp [upd, e5, e9]), hz.next apx hsz.out 10 (by decide) _ (fun _ h => Option.some.inj h)⟩
            · have e5 : z 75 = .bool true := hz 5 _ (hw 5 (by kernel_rfl)) rfl
              have e8 : z 78 = .slice A m c := hz 8 _ (hw 8 (by kernel_rfl)) rfl
              have e10 : z 80 = .int .i64 (x : Nat) := hz 10 _ (hw 10 (by kernel_rfl)) rfl
              refine wpOp_want rfl (by simp [Region.wanted, yielded, e5]) ?_
              go_simp
              exact ⟨⟨by simp [hsz.out], hx.out⟩, upd z 81 (.slice A x c), (by unfold Hid; simp [upd, e5, e8, e10]), hz.next apx hsz.out 11 (by decide) _ (fun _ h => Option.some.inj h)⟩
            · have e5 : z 75 = .bool true := hz 5 _ (hw 5 (by kernel_rfl)) rfl
              have e11 : z 81 = .slice A x c := hz 11 _ (hw 11 (by kernel_rfl)) rfl
              have cv := conv_any (HBx.out.below hx.out (Nat.le_refl _)) Hx.out.symm
              refine wpOp_want rfl (by simp [Region.wanted, yielded, e5]) ?_
              go_simp
              exact ⟨⟨by simp [hsz.out], hx.out⟩, upd z 82 (.string (strOfNums C)), (by unfold Hid; simp [upd, e5, e11]), hz.next apx hsz.out 12 (by decide) _ (fun _ h => Option.some.inj h)⟩
            · have e5 : z 75 = .bool true := hz 5 _ (hw 5 (by kernel_rfl)) rfl
              have e7 : z 77 = .string (strOfNums C) := hz 7 _ (hw 7 (by kernel_rfl)) rfl
              have e12 : z 82 = .string (strOfNums C) := hz 12 _ (hw 12 (by kernel_rfl)) rfl
              refine wpOp_want rfl (by simp [Region.wanted, yielded, e5]) ?_
              go_simp
              exact ⟨⟨by simp [hsz.out], hx.out⟩, upd z 83 (.bool true), (by unfold Hid; simp [upd, e5, e7, e12]), hz.next apx hsz.out 13 (by decide) _ (fun _ h => Option.some.inj h)⟩
            · have e5 : z 75 = .bool true := hz 5 _ (hw 5 (by kernel_rfl)) rfl
              have e13 : z 83 = .bool true := hz 13 _ (hw 13 (by kernel_rfl)) rfl
              refine wpOp_plain rfl rfl ?_
              go_simp
              exact ⟨⟨by simp [hsz.out], hx.out⟩, upd z 84 (.bool true), (by unfold Hid; simp [upd, e5, e13]), hz.next apx hsz.out 14 (by decide) _ (fun _ h => Option.some.inj h)⟩
            · have e14 : z 84 = .bool true := hz 14 _ (hw 14 (by kernel_rfl)) rfl
              refine wpOp_plain rfl rfl ?_
              go_simp
              exact ⟨⟨by simp [hsz.out], hx.out⟩, upd z 85 (.bool true), (by unfold Hid; simp [upd, e14]), hz.next apx hsz.out 15 (by decide) _ (fun _ h => Option.some.inj h)⟩
            · have e15 : z 85 = .bool true := hz 15 _ (hw 15 (by kernel_rfl)) rfl
              refine wpOp_want rfl (by simp [Region.wanted, yielded, e15]) ?_
              go_simp
              exact ⟨⟨by simp [hsz.out], hx.out⟩, upd z 86 (.pointer (some ⟨rb, 0, none⟩)), (by unfold Hid; simp [upd, e15]), hz.next apx hsz.out 16 (by decide) _ (fun _ h => Option.some.inj h)⟩
            · have e15 : z 85 = .bool true := hz 15 _ (hw 15 (by kernel_rfl)) rfl
              have e16 : z 86 = .pointer (some ⟨rb, 0, none⟩) := hz 16 _ (hw 16 (by kernel_rfl)) rfl
              refine wpOp_want rfl (by simp [Region.wanted, yielded, e15]) ?_
              go_simp
              go_at_call 17
              refine (err_any (HRd.out.later hx.out)).mono ?_
              rintro e w' ⟨rfl, rfl⟩
              exact ⟨⟨by simp [hsz.out], hx.out⟩, upd z 87 (.int .i64 0), (by unfold Hid; simp [upd, e15, e16]), hz.next apx hsz.out 17 (by decide) _ (fun _ h => Option.some.inj h)⟩
            · have e15 : z 85 = .bool true := hz 15 _ (hw 15 (by kernel_rfl)) rfl
              have e17 : z 87 = .int .i64 0 := hz 17 _ (hw 17 (by kernel_rfl)) rfl
              refine wpOp_want rfl (by simp [Region.wanted, yielded, e15]) ?_
              go_simp
              exact ⟨⟨by simp [hsz.out], hx.out⟩, upd z 88 (.bool false), (by unfold Hid; simp [upd, e15, e17]), hz.next apx hsz.out 18 (by decide) _ (fun _ h => Option.some.inj h)⟩
            · have e15 : z 85 = .bool true := hz 15 _ (hw 15 (by kernel_rfl)) rfl
              have e18 : z 88 = .bool false := hz 18 _ (hw 18 (by kernel_rfl)) rfl
              refine wpOp_want rfl (by simp [Region.wanted, yielded, e15]) ?_
              go_simp
              exact ⟨⟨by simp [hsz.out], hx.out⟩, upd z 89 (.bool false), (by unfold Hid; simp [upd, e15, e18]), hz.next apx hsz.out 19 (by decide) _ (fun _ h => Option.some.inj h)⟩
            · have e19 : z 89 = .bool false := hz 19 _ (hw 19 (by kernel_rfl)) rfl
              refine wpOp_want rfl (by simp [Region.wanted, yielded, e19]) ?_
              go_simp
              exact ⟨⟨by simp [hsz.out], hx.out⟩, upd z 90 (.pointer (some ⟨rb, 0, none⟩)), (by unfold Hid; simp [upd, e19]), hz.next apx hsz.out 20 (by decide) _ (fun _ h => Option.some.inj h)⟩
            · have e19 : z 89 = .bool false := hz 19 _ (hw 19 (by kernel_rfl)) rfl
              have e20 : z 90 = .pointer (some ⟨rb, 0, none⟩) := hz 20 _ (hw 20 (by kernel_rfl)) rfl
              refine wpOp_want rfl (by simp [Region.wanted, yielded, e19]) ?_
              go_simp
              go_at_call 14
              refine (done_is (z := 4) (HZ.out) (HRd.out.later hx.out)).mono ?_
              rintro e w' ⟨rfl, rfl⟩
              exact ⟨⟨by simp [hsz.out], hx.out⟩, upd z 91 (.int .i64 4), (by unfold Hid; simp [upd, e19, e20]), hz.next apx hsz.out 21 (by decide) _ (fun _ h => Option.some.inj h)⟩
            · have e19 : z 89 = .bool false := hz 19 _ (hw 19 (by kernel_rfl)) rfl
              have e21 : z 91 = .int .i64 4 := hz 21 _ (hw 21 (by kernel_rfl)) rfl
              refine wpOp_want rfl (by simp [Region.wanted, yielded, e19]) ?_
              go_simp
              exact ⟨⟨by simp [hsz.out], hx.out⟩, upd z 92 (.bool false), (by unfold Hid; simp [upd, e19, e21]), hz.next apx hsz.out 22 (by decide) _ (fun _ h => Option.some.inj h)⟩
            · have e19 : z 89 = .bool false := hz 19 _ (hw 19 (by kernel_rfl)) rfl
              refine wpOp_want rfl (by simp [Region.wanted, yielded, e19]) ?_
              go_simp
              exact ⟨⟨by simp [hsz.out], hx.out⟩, upd z 93 (.slice A6 x c6), (by unfold Hid; simp [upd, e19]), hz.next apx hsz.out 23 (by decide) _ (fun _ h => Option.some.inj h)⟩
            · have e19 : z 89 = .bool false := hz 19 _ (hw 19 (by kernel_rfl)) rfl
              have e23 : z 93 = .slice A6 x c6 := hz 23 _ (hw 23 (by kernel_rfl)) rfl
              refine wpOp_want rfl (by simp [Region.wanted, yielded, e19]) ?_
              go_simp
              exact ⟨⟨by simp [hsz.out], hx.out⟩, upd z 94 (.int .i64 (x : Nat)), (by unfold Hid; simp [upd, e19, e23]), hz.next apx hsz.out 24 (by decide) _ (fun _ h => Option.some.inj h)⟩
            · have e19 : z 89 = .bool false := hz 19 _ (hw 19 (by kernel_rfl)) rfl
              refine wpOp_want rfl (by simp [Region.wanted, yielded, e19]) ?_
              go_simp
              exact ⟨⟨by simp [hsz.out], hx.out⟩, upd z 95 (.slice A m c), (by unfold Hid; simp [upd, e19]), hz.next apx hsz.out 25 (by decide) _ (fun _ h => Option.some.inj h)⟩
            · have e19 : z 89 = .bool false := hz 19 _ (hw 19 (by kernel_rfl)) rfl
              have e25 : z 95 = .slice A m c := hz 25 _ (hw 25 (by kernel_rfl)) rfl
              refine wpOp_want rfl (by simp [Region.wanted, yielded, e19]) ?_
              go_simp
              exact ⟨⟨by simp [hsz.out], hx.out⟩, upd z 96 (.int .i64 (m : Nat)), (by unfold Hid; simp [upd, e19, e25]), hz.next apx hsz.out 26 (by decide) _ (fun _ h => Option.some.inj h)⟩
            · have e19 : z 89 = .bool false := hz 19 _ (hw 19 (by kernel_rfl)) rfl
              have e24 : z 94 = .int .i64 (x : Nat) := hz 24 _ (hw 24 (by kernel_rfl)) rfl
              have e26 : z 96 = .int .i64 (m : Nat) := hz 26 _ (hw 26 (by kernel_rfl)) rfl
              have hq := hne.out
              refine wpOp_want rfl (by simp [Region.wanted, yielded, e19]) ?_
              go_simp
              exact ⟨⟨by simp [hsz.out], hx.out⟩, upd z 97 (.bool false), (by unfold Hid; simp [upd, e19, e24, e26]), hz.next apx hsz.out 27 (by decide) _ (fun _ h => Option.some.inj h)⟩
            · have e19 : z 89 = .bool false := hz 19 _ (hw 19 (by kernel_rfl)) rfl
              have e22 : z 92 = .bool false := hz 22 _ (hw 22 (by kernel_rfl)) rfl
              have e27 : z 97 = .bool false := hz 27 _ (hw 27 (by kernel_rfl)) rfl
              refine wpOp_want rfl (by simp [Region.wanted, yielded, e19]) ?_
              go_simp
              exact ⟨⟨by simp [hsz.out], hx.out⟩, upd z 98 (.bool true), (by unfold Hid; simp [upd, e19, e22, e27]), hz.next apx hsz.out 28 (by decide) _ (fun _ h => Option.some.inj h)⟩
            · have e15 : z 85 = .bool true := hz 15 _ (hw 15 (by kernel_rfl)) rfl
              have e19 : z 89 = .bool false := hz 19 _ (hw 19 (by kernel_rfl)) rfl
              have e28 : z 98 = .bool true := hz 28 _ (hw 28 (by kernel_rfl)) rfl
              refine wpOp_want rfl (by simp [Region.wanted, yielded, e15]) ?_
              go_simp
              exact ⟨⟨by simp [hsz.out], hx.out⟩, upd z 99 (.bool true), (by unfold Hid; simp [upd, e15, e19, e28]), hz.next apx hsz.out 29 (by decide) _ (fun _ h => Option.some.inj h)⟩
            · have e15 : z 85 = .bool true := hz 15 _ (hw 15 (by kernel_rfl)) rfl
              have e29 : z 99 = .bool true := hz 29 _ (hw 29 (by kernel_rfl)) rfl
              refine wpOp_plain rfl rfl ?_
              go_simp
              exact ⟨⟨by simp [hsz.out], hx.out⟩, upd z 100 (.bool true), (by unfold Hid; simp [upd, e15, e29]), hz.next apx hsz.out 30 (by decide) _ (fun _ h => Option.some.inj h)⟩
            · have e30 : z 100 = .bool true := hz 30 _ (hw 30 (by kernel_rfl)) rfl
              refine wpOp_plain rfl rfl ?_
              go_simp
              exact ⟨⟨by simp [hsz.out], hx.out⟩, upd z 101 (.bool true), (by unfold Hid; simp [upd, e30]), hz.next apx hsz.out 31 (by decide) _ (fun _ h => Option.some.inj h)⟩
            · have e31 : z 101 = .bool true := hz 31 _ (hw 31 (by kernel_rfl)) rfl
              refine wpOp_want rfl (by simp [Region.wanted, yielded, e31]) ?_
              go_simp
              go_at_call 10
              refine (works_any _).mono ?_
              rintro e w' ⟨rfl, low⟩
              exact ⟨⟨by simp [hsz.out], hx.out.trans (low.mono hx.out.size)⟩, upd z 102 (.bool true), (by unfold Hid; simp [upd, e31]), hz.next apx hsz.out 32 (by decide) _ (fun _ h => Option.some.inj h)⟩
            · have e31 : z 101 = .bool true := hz 31 _ (hw 31 (by kernel_rfl)) rfl
              have e32 : z 102 = .bool true := hz 32 _ (hw 32 (by kernel_rfl)) rfl
              refine wpOp_plain rfl rfl ?_
              go_simp
              exact ⟨⟨by simp [hsz.out], hx.out⟩, upd z 103 (.bool true), (by unfold Hid; simp [upd, e31, e32]), hz.next apx hsz.out 33 (by decide) _ (fun _ h => Option.some.inj h)⟩
            · have e33 : z 103 = .bool true := hz 33 _ (hw 33 (by kernel_rfl)) rfl
              refine wpOp_plain rfl rfl ?_
              go_simp
              exact ⟨⟨by simp [hsz.out], hx.out⟩, upd z 4 (.bool true), (by unfold Hid; simp [upd, e33]), hz.next apx hsz.out 34 (by decide) _ (fun _ h => Option.some.inj h)⟩
          · exact ⟨⟨rfl, (Below.refl _ _).drew⟩, fun xx => (#[.slice A m c, .slice A1 n1 c1, undef, undef, .bool false, .pointer (some ⟨rb, 0, none⟩), .slice A6 x c6, u7, u8, u9, u10, u11, u12, u13, .slice A m c, .pointer (some ⟨rb, 0, none⟩), u16, u17, u18, u19, u20, u21, u22, u23, u24, u25, u26, u27, u28, u29, u30, u31, u32, u33, u34, u35, u36, u37, u38, u39, u40, u41, u42, u43, u44, u45, u46, u47, u48, u49, u50, u51, u52, u53, u54, u55, u56, u57, u58, u59, u60, u61, u62, u63, u64, u65, u66, u67, u68, u69, u70, u71, u72, u73, u74, u75, u76, u77, u78, u79, u80, u81, u82, u83, u84, u85, u86, u87, u88, u89, u90, u91, u92, u93, u94, u95, u96, u97, u98, u99, u100, u101, u102, u103] : Array Value).getD xx undef, rfl, Holding.start⟩
      · have hEb : Hid ((E != 0) = true) := by show _ = _; simpa using hE
        clear hER hE HBl hBC
        have apx : apartB [70, 71, 72, 73, 74, 75, 76, 77, 78, 79, 80, 81, 82, 83, 84, 85, 86, 87, 88, 89, 90, 91, 92, 93, 94, 95, 96, 97, 98, 99, 100, 101, 102, 103, 4] = true := by decide
        refine wp_region_any (by kernel_rfl) ?_
        change wpAny _ _ _ _ _ _ _ (World.drew _)
        refine wpAny_inv (fun ll aa wx => Hid (ll.size = 35 ∧ Below wc.heap.size wc wx) ∧ ∃ (z : Nat → Value), Hid (aa = ⟨#[.slice A m c, .slice A1 n1 c1, undef, undef, z 4, .pointer (some ⟨rb, 0, none⟩), .slice A6 x c6, u7, u8, u9, u10, u11, u12, u13, .slice A m c, .pointer (some ⟨rb, 0, none⟩), u16, u17, u18, u19, u20, u21, u22, u23, u24, u25, u26, u27, u28, u29, u30, u31, u32, u33, u34, u35, u36, u37, u38, u39, u40, u41, u42, u43, u44, u45, u46, u47, u48, u49, u50, u51, u52, u53, u54, u55, u56, u57, u58, u59, u60, u61, u62, u63, u64, u65, u66, u67, u68, u69, z 70, z 71, z 72, z 73, z 74, z 75, z 76, z 77, z 78, z 79, z 80, z 81, z 82, z 83, z 84, z 85, z 86, z 87, z 88, z 89, z 90, z 91, z 92, z 93, z 94, z 95, z 96, z 97, z 98, z 99, z 100, z 101, z 102, z 103], []⟩) ∧ Holding [70, 71, 72, 73, 74, 75, 76, 77, 78, 79, 80, 81, 82, 83, 84, 85, 86, 87, 88, 89, 90, 91, 92, 93, 94, 95, 96, 97, 98, 99, 100, 101, 102, 103, 4] [some (.slice A6 x c6), some (.int .i64 (x : Nat)), some (.slice A m c), some (.int .i64 (m : Nat)), some (.bool true), some (.bool true), some (.slice A6 x c6), some (.string (strOfNums C)), some (.slice A m c), some (.slice A6 x c6), some (.int .i64 (x : Nat)), some (.slice A x c), some (.string (strOfNums C)), some (.bool true), some (.bool true), some (.bool true), some (.pointer (some ⟨rb, 0, none⟩)), some (.int .i64 E), some (.bool true), some (.bool true), some (undef), some (undef), some (undef), some (undef), some (undef), some (undef), some (undef), some (undef), some (undef), some (.bool true), some (.bool true), some (.bool true), some (.bool true), some (.bool true), some (.bool true)] ll z) ?_ (by kernel_rfl) ?_ ?_ _ _ _ _ (unlisted_none _) ?_
        · rintro ll aa wx ⟨h, _⟩
          exact h.out.1
        · rintro ll aa wx ⟨h, z, ha, hz⟩ hall
          have hx := Lib.hid h.out.2
          have e0 : z 70 = .slice A6 x c6 := hz 0 _ (hall 0 (by decide)) rfl
          have e1 : z 71 = .int .i64 (x : Nat) := hz 1 _ (hall 1 (by decide)) rfl
          have e2 : z 72 = .slice A m c := hz 2 _ (hall 2 (by decide)) rfl
          have e3 : z 73 = .int .i64 (m : Nat) := hz 3 _ (hall 3 (by decide)) rfl
          have e4 : z 74 = .bool true := hz 4 _ (hall 4 (by decide)) rfl
          have e5 : z 75 = .bool true := hz 5 _ (hall 5 (by decide)) rfl
          have e6 : z 76 = .slice A6 x c6 := hz 6 _ (hall 6 (by decide)) rfl
          have e7 : z 77 = .string (strOfNums C) := hz 7 _ (hall 7 (by decide)) rfl
          have e8 : z 78 = .slice A m c := hz 8 _ (hall 8 (by decide)) rfl
          have e9 : z 79 = .slice A6 x c6 := hz 9 _ (hall 9 (by decide)) rfl
          have e10 : z 80 = .int .i64 (x : Nat) := hz 10 _ (hall 10 (by decide)) rfl
          have e11 : z 81 = .slice A x c := hz 11 _ (hall 11 (by decide)) rfl
          have e12 : z 82 = .string (strOfNums C) := hz 12 _ (hall 12 (by decide)) rfl
          have e13 : z 83 = .bool true := hz 13 _ (hall 13 (by decide)) rfl
          have e14 : z 84 = .bool true := hz 14 _ (hall 14 (by decide)) rfl
          have e15 : z 85 = .bool true := hz 15 _ (hall 15 (by decide)) rfl
          have e16 : z 86 = .pointer (some ⟨rb, 0, none⟩) := hz 16 _ (hall 16 (by decide)) rfl
          have e17 : z 87 = .int .i64 E := hz 17 _ (hall 17 (by decide)) rfl
          have e18 : z 88 = .bool true := hz 18 _ (hall 18 (by decide)) rfl
          have e19 : z 89 = .bool true := hz 19 _ (hall 19 (by decide)) rfl
          have e20 : z 90 = undef := hz 20 _ (hall 20 (by decide)) rfl
          have e21 : z 91 = undef := hz 21 _ (hall 21 (by decide)) rfl
          have e22 : z 92 = undef := hz 22 _ (hall 22 (by decide)) rfl
          have e23 : z 93 = undef := hz 23 _ (hall 23 (by decide)) rfl
          have e24 : z 94 = undef := hz 24 _ (hall 24 (by decide)) rfl
          have e25 : z 95 = undef := hz 25 _ (hall 25 (by decide)) rfl
          have e26 : z 96 = undef := hz 26 _ (hall 26 (by decide)) rfl
          have e27 : z 97 = undef := hz 27 _ (hall 27 (by decide)) rfl
          have e28 : z 98 = undef := hz 28 _ (hall 28 (by decide)) rfl
          have e29 : z 99 = .bool true := hz 29 _ (hall 29 (by decide)) rfl
          have e30 : z 100 = .bool true := hz 30 _ (hall 30 (by decide)) rfl
          have e31 : z 101 = .bool true := hz 31 _ (hall 31 (by decide)) rfl
          have e32 : z 102 = .bool true := hz 32 _ (hall 32 (by decide)) rfl
          have e33 : z 103 = .bool true := hz 33 _ (hall 33 (by decide)) rfl
          have e34 : z 4 = .bool true := hz 34 _ (hall 34 (by decide)) rfl
          clear hall hz h 
          obtain rfl := ha.out
          clear ha
          clear apx
          clear e0 e1 e2 e3 e4 e5 e6 e7 e8 e9 e10 e11 e12 e13 e14 e15 e16 e17 e18 e19 e20 e21 e22 e23 e24 e25 e26 e27 e28 e29 e30 e31 e32 e33
          have Hl := Lib.hid (HLow.out.trans (hx.out.mono HLow.out.size))
          go_wp2
          go_ret
          exact ⟨by simp [e34], Hl.out⟩
        · rintro ll aa wx i ⟨h, z, ha, hz⟩ hi hu hw
          obtain rfl := ha.out
          have hsz := Lib.hid h.out.1
          have hx := Lib.hid h.out.2
          clear ha h
          have hin : i < 35 := hi
          obtain rfl | rfl | rfl | rfl | rfl | rfl | rfl | rfl | rfl | rfl | rfl | rfl | rfl | rfl | rfl | rfl | rfl | rfl | rfl | rfl | rfl | rfl | rfl | rfl | rfl | rfl | rfl | rfl | rfl | rfl | rfl | rfl | rfl | rfl | rfl : i = 0 ∨ i = 1 ∨ i = 2 ∨ i = 3 ∨ i = 4 ∨ i = 5 ∨ i = 6 ∨ i = 7 ∨ i = 8 ∨ i = 9 ∨ i = 10 ∨ i = 11 ∨ i = 12 ∨ i = 13 ∨ i = 14 ∨ i = 15 ∨ i = 16 ∨ i = 17 ∨ i = 18 ∨ i = 19 ∨ i = 20 ∨ i = 21 ∨ i = 22 ∨ i = 23 ∨ i = 24 ∨ i = 25 ∨ i = 26 ∨ i = 27 ∨ i = 28 ∨ i = 29 ∨ i = 30 ∨ i = 31 ∨ i = 32 ∨ i = 33 ∨ i = 34 := by omega
          · refine wpOp_plain rfl rfl ?_
            go_simp
            exact ⟨⟨by simp [hsz.out], hx.out⟩, upd z 70 (.slice A6 x c6), (by unfold Hid; simp [upd]), hz.next apx hsz.out 0 (by decide) _ (fun _ h => Option.some.inj h)⟩
          · have e0 : z 70 = .slice A6 x c6 := hz 0 _ (hw 0 (by kernel_rfl)) rfl
            refine wpOp_plain rfl rfl ?_
            go_simp
            exact ⟨⟨by simp [hsz.out], hx.out⟩, upd z 71 (.int .i64 (x : Nat)), (by unfold Hid; simp [upd, e0]), hz.next apx hsz.out 1 (by decide) _ (fun _ h => Option.some.inj h)⟩
          · refine wpOp_plain rfl rfl ?_
            go_simp
            exact ⟨⟨by simp [hsz.out], hx.out⟩, upd z 72 (.slice A m c), (by unfold Hid; simp [upd]), hz.next apx hsz.out 2 (by decide) _ (fun _ h => Option.some.inj h)⟩
          · have e2 : z 72 = .slice A m c := hz 2 _ (hw 2 (by kernel_rfl)) rfl
            refine wpOp_plain rfl rfl ?_
            go_simp
            exact ⟨⟨by simp [hsz.out], hx.out⟩, upd z 73 (.int .i64 (m : Nat)), (by unfold Hid; simp [upd, e2]), hz.next apx hsz.out 3 (by decide) _ (fun _ h => Option.some.inj h)⟩
          · have e1 : z 71 = .int .i64 (x : Nat) := hz 1 _ (hw 1 (by kernel_rfl)) rfl
            have e3 : z 73 = .int .i64 (m : Nat) := hz 3 _ (hw 3 (by kernel_rfl)) rfl
            refine wpOp_plain rfl rfl ?_
            go_simp
            exact ⟨⟨by simp [hsz.out], hx.out⟩, upd z 74 (.bool true), (by unfold Hid; simp [upd, e1, e3]), hz.next apx hsz.out 4 (by decide) _ (fun _ h => Option.some.inj h)⟩
          · have e4 : z 74 = .bool true := hz 4 _ (hw 4 (by kernel_rfl)) rfl
            refine wpOp_plain rfl rfl ?_
            go_simp
            exact ⟨⟨by simp [hsz.out], hx.out⟩, upd z 75 (.bool true), (by unfold Hid; simp [upd, e4]), hz.next apx hsz.out 5 (by decide) _ (fun _ h => Option.some.inj h)⟩
          · have e5 : z 75 = .bool true := hz 5 _ (hw 5 (by kernel_rfl)) rfl
            refine wpOp_want rfl (by simp [Region.wanted, yielded, e5]) ?_
            go_simp
            exact ⟨⟨by simp [hsz.out], hx.out⟩, upd z 76 (.slice A6 x c6), (by unfold Hid; simp [upd, e5]), hz.next apx hsz.out 6 (by decide) _ (fun _ h => Option.some.inj h)⟩
          · have e5 : z 75 = .bool true := hz 5 _ (hw 5 (by kernel_rfl)) rfl
            have e6 : z 76 = .slice A6 x c6 := hz 6 _ (hw 6 (by kernel_rfl)) rfl
            have cv := conv_any (B6.out.below hx.out (Nat.le_refl _)) Hx.out.symm
            refine wpOp_want rfl (by simp [Region.wanted, yielded, e5]) ?_
            go_simp
            exact ⟨⟨by simp [hsz.out], hx.out⟩, upd z 77 (.string (strOfNums C)), (by unfold Hid; simp [upd, e5, e6]), hz.next apx hsz.out 7 (by decide) _ (fun _ h => Option.some.inj h)⟩
          · have e5 : z 75 = .bool true := hz 5 _ (hw 5 (by kernel_rfl)) rfl
            refine wpOp_want rfl (by simp [Region.wanted, yielded, e5]) ?_
            go_simp
            exact ⟨⟨by simp [hsz.out], hx.out⟩, upd z 78 (.slice A m c), (by unfold Hid; simp [upd, e5]), hz.next apx hsz.out 8 (by decide) _ (fun _ h => Option.some.inj h)⟩
          · have e5 : z 75 = .bool true := hz 5 _ (hw 5 (by kernel_rfl)) rfl
            refine wpOp_want rfl (by simp [Region.wanted, yielded, e5]) ?_
            go_simp
            exact ⟨⟨by simp [hsz.out], hx.out⟩, upd z 79 (.slice A6 x c6), (by unfold Hid; simp [upd, e5]), hz.next apx hsz.out 9 (by decide) _ (fun _ h => Option.some.inj h)⟩
          · have e5 : z 75 = .bool true := hz 5 _ (hw 5 (by kernel_rfl)) rfl
            have e9 : z 79 = .slice A6 x c6 := hz 9 _ (hw 9 (by kernel_rfl)) rfl
            refine wpOp_want rfl (by simp [Region.wanted, yielded, e5]) ?_
            go_simp
            exact ⟨⟨by simp [hsz.out], hx.out⟩, upd z 80 (.int .i64 (x : Nat)), (by unfold Hid; simp [upd, e5, e9]), hz.next apx hsz.out 10 (by decide) _ (fun _ h => Option.some.inj h)⟩
          · have e5 : z 75 = .bool true := hz 5 _ (hw 5 (by kernel_rfl)) rfl
            have e8 : z 78 = .slice A m c := hz 8 _ (hw 8 (by kernel_rfl)) rfl
            have e10 : z 80 = .int .i64 (x : Nat) := hz 10 _ (hw 10 (by kernel_rfl)) rfl
            refine wpOp_want rfl (by simp [Region.wanted, yielded, e5]) ?_
            go_simp
            exact ⟨⟨by simp [hsz.out], hx.out⟩, upd z 81 (.slice A x c), (by unfold Hid; simp [upd, e5, e8, e10]), hz.next apx hsz.out 11 (by decide) _ (fun _ h => Option.some.inj h)⟩
          · have e5 : z 75 = .bool true := hz 5 _ (hw 5 (by kernel_rfl)) rfl
            have e11 : z 81 = .slice A x c := hz 11 _ (hw 11 (by kernel_rfl)) rfl
            have cv := conv_any (HBx.out.below hx.out (Nat.le_refl _)) Hx.out.symm
            refine wpOp_want rfl (by simp [Region.wanted, yielded, e5]) ?_
            go_simp
            exact ⟨⟨by simp [hsz.out], hx.out⟩, upd z 82 (.string (strOfNums C)), (by unfold Hid; simp [upd, e5, e11]), hz.next apx hsz.out 12 (by decide) _ (fun _ h => Option.some.inj h)⟩
          · have e5 : z 75 = .bool true := hz 5 _ (hw 5 (by kernel_rfl)) rfl
            have e7 : z 77 = .string (strOfNums C) := hz 7 _ (hw 7 (by kernel_rfl)) rfl
            have e12 : z 82 = .string (strOfNums C) := hz 12 _ (hw 12 (by kernel_rfl)) rfl
            refine wpOp_want rfl (by simp [Region.wanted, yielded, e5]) ?_
            go_simp
            exact ⟨⟨by simp [hsz.out], hx.out⟩, upd z 83 (.bool true), (by unfold Hid; simp [upd, e5, e7, e12]), hz.next apx hsz.out 13 (by decide) _ (fun _ h => Option.some.inj h)⟩
          · have e5 : z 75 = .bool true := hz 5 _ (hw 5 (by kernel_rfl)) rfl
            have e13 : z 83 = .bool true := hz 13 _ (hw 13 (by kernel_rfl)) rfl
            refine wpOp_plain rfl rfl ?_
            go_simp
            exact ⟨⟨by simp [hsz.out], hx.out⟩, upd z 84 (.bool true), (by unfold Hid; simp [upd, e5, e13]), hz.next apx hsz.out 14 (by decide) _ (fun _ h => Option.some.inj h)⟩
          · have e14 : z 84 = .bool true := hz 14 _ (hw 14 (by kernel_rfl)) rfl
            refine wpOp_plain rfl rfl ?_
            go_simp
            exact ⟨⟨by simp [hsz.out], hx.out⟩, upd z 85 (.bool true), (by unfold Hid; simp [upd, e14]), hz.next apx hsz.out 15 (by decide) _ (fun _ h => Option.some.inj h)⟩
          · have e15 : z 85 = .bool true := hz 15 _ (hw 15 (by kernel_rfl)) rfl
            refine wpOp_want rfl (by simp [Region.wanted, yielded, e15]) ?_
            go_simp
            exact ⟨⟨by simp [hsz.out], hx.out⟩, upd z 86 (.pointer (some ⟨rb, 0, none⟩)), (by unfold Hid; simp [upd, e15]), hz.next apx hsz.out 16 (by decide) _ (fun _ h => Option.some.inj h)⟩
          · have e15 : z 85 = .bool true := hz 15 _ (hw 15 (by kernel_rfl)) rfl
            have e16 : z 86 = .pointer (some ⟨rb, 0, none⟩) := hz 16 _ (hw 16 (by kernel_rfl)) rfl
            refine wpOp_want rfl (by simp [Region.wanted, yielded, e15]) ?_
            go_simp
            go_at_call 17
            refine (err_any (HRd.out.later hx.out)).mono ?_
            rintro e w' ⟨rfl, rfl⟩
            exact ⟨⟨by simp [hsz.out], hx.out⟩, upd z 87 (.int .i64 E), (by unfold Hid; simp [upd, e15, e16]), hz.next apx hsz.out 17 (by decide) _ (fun _ h => Option.some.inj h)⟩
          · have e15 : z 85 = .bool true := hz 15 _ (hw 15 (by kernel_rfl)) rfl
            have e17 : z 87 = .int .i64 E := hz 17 _ (hw 17 (by kernel_rfl)) rfl
            have hq := hEb.out
            refine wpOp_want rfl (by simp [Region.wanted, yielded, e15]) ?_
            go_simp
            exact ⟨⟨by simp [hsz.out], hx.out⟩, upd z 88 (.bool true), (by unfold Hid; simp [upd, e15, e17]), hz.next apx hsz.out 18 (by decide) _ (fun _ h => Option.some.inj h)⟩
          · have e15 : z 85 = .bool true := hz 15 _ (hw 15 (by kernel_rfl)) rfl
            have e18 : z 88 = .bool true := hz 18 _ (hw 18 (by kernel_rfl)) rfl
            refine wpOp_want rfl (by simp [Region.wanted, yielded, e15]) ?_
            go_simp
            exact ⟨⟨by simp [hsz.out], hx.out⟩, upd z 89 (.bool true), (by unfold Hid; simp [upd, e15, e18]), hz.next apx hsz.out 19 (by decide) _ (fun _ h => Option.some.inj h)⟩
          · have e19 : z 89 = .bool true := hz 19 _ (hw 19 (by kernel_rfl)) rfl
            refine wpOp_skip rfl (by simp [Region.wanted, yielded, e19]) ?_
            go_simp
            exact ⟨⟨by simp [hsz.out], hx.out⟩, upd z 90 (undef), (by unfold Hid; simp [upd, e19]), hz.next apx hsz.out 20 (by decide) _ (fun _ h => Option.some.inj h)⟩
          · have e19 : z 89 = .bool true := hz 19 _ (hw 19 (by kernel_rfl)) rfl
            refine wpOp_skip rfl (by simp [Region.wanted, yielded, e19]) ?_
            go_simp
            exact ⟨⟨by simp [hsz.out], hx.out⟩, upd z 91 (undef), (by unfold Hid; simp [upd, e19]), hz.next apx hsz.out 21 (by decide) _ (fun _ h => Option.some.inj h)⟩
          · have e19 : z 89 = .bool true := hz 19 _ (hw 19 (by kernel_rfl)) rfl
            refine wpOp_skip rfl (by simp [Region.wanted, yielded, e19]) ?_
            go_simp
            exact ⟨⟨by simp [hsz.out], hx.out⟩, upd z 92 (undef), (by unfold Hid; simp [upd, e19]), hz.next apx hsz.out 22 (by decide) _ (fun _ h => Option.some.inj h)⟩
          · have e19 : z 89 = .bool true := hz 19 _ (hw 19 (by kernel_rfl)) rfl
            refine wpOp_skip rfl (by simp [Region.wanted, yielded, e19]) ?_
            go_simp
            exact ⟨⟨by simp [hsz.out], hx.out⟩, upd z 93 (undef), (by unfold Hid; simp [upd, e19]), hz.next apx hsz.out 23 (by decide) _ (fun _ h => Option.some.inj h)⟩
          · have e19 : z 89 = .bool true := hz 19 _ (hw 19 (by kernel_rfl)) rfl
            refine wpOp_skip rfl (by simp [Region.wanted, yielded, e19]) ?_
            go_simp
            exact ⟨⟨by simp [hsz.out], hx.out⟩, upd z 94 (undef), (by unfold Hid; simp [upd, e19]), hz.next apx hsz.out 24 (by decide) _ (fun _ h => Option.some.inj h)⟩
          · have e19 : z 89 = .bool true := hz 19 _ (hw 19 (by kernel_rfl)) rfl
            refine wpOp_skip rfl (by simp [Region.wanted, yielded, e19]) ?_
            go_simp
            exact ⟨⟨by simp [hsz.out], hx.out⟩, upd z 95 (undef), (by unfold Hid; simp [upd, e19]), hz.next apx hsz.out 25 (by decide) _ (fun _ h => Option.some.inj h)⟩
          · have e19 : z 89 = .bool true := hz 19 _ (hw 19 (by kernel_rfl)) rfl
            refine wpOp_skip rfl (by simp [Region.wanted, yielded, e19]) ?_
            go_simp
            exact ⟨⟨by simp [hsz.out], hx.out⟩, upd z 96 (undef), (by unfold Hid; simp [upd, e19]), hz.next apx hsz.out 26 (by decide) _ (fun _ h => Option.some.inj h)⟩
          · have e19 : z 89 = .bool true := hz 19 _ (hw 19 (by kernel_rfl)) rfl
            refine wpOp_skip rfl (by simp [Region.wanted, yielded, e19]) ?_
            go_simp
            exact ⟨⟨by simp [hsz.out], hx.out⟩, upd z 97 (undef), (by unfold Hid; simp [upd, e19]), hz.next apx hsz.out 27 (by decide) _ (fun _ h => Option.some.inj h)⟩
          · have e19 : z 89 = .bool true := hz 19 _ (hw 19 (by kernel_rfl)) rfl
            refine wpOp_skip rfl (by simp [Region.wanted, yielded, e19]) ?_
            go_simp
            exact ⟨⟨by simp [hsz.out], hx.out⟩, upd z 98 (undef), (by unfold Hid; simp [upd, e19]), hz.next apx hsz.out 28 (by decide) _ (fun _ h => Option.some.inj h)⟩
          · have e15 : z 85 = .bool true := hz 15 _ (hw 15 (by kernel_rfl)) rfl
            have e19 : z 89 = .bool true := hz 19 _ (hw 19 (by kernel_rfl)) rfl
            have e28 : z 98 = undef := hz 28 _ (hw 28 (by kernel_rfl)) rfl
            refine wpOp_want rfl (by simp [Region.wanted, yielded, e15]) ?_
            go_simp
            exact ⟨⟨by simp [hsz.out], hx.out⟩, upd z 99 (.bool true), (by unfold Hid; simp [upd, e15, e19, e28]), hz.next apx hsz.out 29 (by decide) _ (fun _ h => Option.some.inj h)⟩
          · have e15 : z 85 = .bool true := hz 15 _ (hw 15 (by kernel_rfl)) rfl
            have e29 : z 99 = .bool true := hz 29 _ (hw 29 (by kernel_rfl)) rfl
            refine wpOp_plain rfl rfl ?_
            go_simp
            exact ⟨⟨by simp [hsz.out], hx.out⟩, upd z 100 (.bool true), (by unfold Hid; simp [upd, e15, e29]), hz.next apx hsz.out 30 (by decide) _ (fun _ h => Option.some.inj h)⟩
          · have e30 : z 100 = .bool true := hz 30 _ (hw 30 (by kernel_rfl)) rfl
            refine wpOp_plain rfl rfl ?_
            go_simp
            exact ⟨⟨by simp [hsz.out], hx.out⟩, upd z 101 (.bool true), (by unfold Hid; simp [upd, e30]), hz.next apx hsz.out 31 (by decide) _ (fun _ h => Option.some.inj h)⟩
          · have e31 : z 101 = .bool true := hz 31 _ (hw 31 (by kernel_rfl)) rfl
            refine wpOp_want rfl (by simp [Region.wanted, yielded, e31]) ?_
            go_simp
            go_at_call 10
            refine (works_any _).mono ?_
            rintro e w' ⟨rfl, low⟩
            exact ⟨⟨by simp [hsz.out], hx.out.trans (low.mono hx.out.size)⟩, upd z 102 (.bool true), (by unfold Hid; simp [upd, e31]), hz.next apx hsz.out 32 (by decide) _ (fun _ h => Option.some.inj h)⟩
          · have e31 : z 101 = .bool true := hz 31 _ (hw 31 (by kernel_rfl)) rfl
            have e32 : z 102 = .bool true := hz 32 _ (hw 32 (by kernel_rfl)) rfl
            refine wpOp_plain rfl rfl ?_
            go_simp
            exact ⟨⟨by simp [hsz.out], hx.out⟩, upd z 103 (.bool true), (by unfold Hid; simp [upd, e31, e32]), hz.next apx hsz.out 33 (by decide) _ (fun _ h => Option.some.inj h)⟩
          · have e33 : z 103 = .bool true := hz 33 _ (hw 33 (by kernel_rfl)) rfl
            refine wpOp_plain rfl rfl ?_
            go_simp
            exact ⟨⟨by simp [hsz.out], hx.out⟩, upd z 4 (.bool true), (by unfold Hid; simp [upd, e33]), hz.next apx hsz.out 34 (by decide) _ (fun _ h => Option.some.inj h)⟩
        · exact ⟨⟨rfl, (Below.refl _ _).drew⟩, fun xx => (#[.slice A m c, .slice A1 n1 c1, undef, undef, .bool false, .pointer (some ⟨rb, 0, none⟩), .slice A6 x c6, u7, u8, u9, u10, u11, u12, u13, .slice A m c, .pointer (some ⟨rb, 0, none⟩), u16, u17, u18, u19, u20, u21, u22, u23, u24, u25, u26, u27, u28, u29, u30, u31, u32, u33, u34, u35, u36, u37, u38, u39, u40, u41, u42, u43, u44, u45, u46, u47, u48, u49, u50, u51, u52, u53, u54, u55, u56, u57, u58, u59, u60, u61, u62, u63, u64, u65, u66, u67, u68, u69, u70, u71, u72, u73, u74, u75, u76, u77, u78, u79, u80, u81, u82, u83, u84, u85, u86, u87, u88, u89, u90, u91, u92, u93, u94, u95, u96, u97, u98, u99, u100, u101, u102, u103] : Array Value).getD xx undef, rfl, Holding.start⟩
end Go.Proofs.Ytdoklhbjbokcmaa.Cod
