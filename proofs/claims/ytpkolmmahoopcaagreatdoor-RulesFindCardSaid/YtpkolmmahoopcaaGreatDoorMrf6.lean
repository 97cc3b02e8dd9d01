/- DERIVED. Texts of ours, merged: XRefNumb XRefLabT XBefP XRefRTxt. -/
import Derived.Test.YtpkolmmahoopcaaGreatDoorMrf5
import Derived.Test.YtpkolmmahoopcaaGreatDoorMrf3
import Derived.Test.YtpkolmmahoopcaaGreatDoorMrf1
/- DERIVED. The reference's number of layer 7. -/
namespace Go.Proofs.YtpkolmmahoopcaaGreatDoor.Dig
open Go.RowKit Str
set_option maxRecDepth 100000 in
set_option maxHeartbeats 1000000 in
theorem number_one (n : Nat) (hn : n < 10) (w : World) :
    Calls Tryz.prog 31 #[.int .i64 (n : Nat)] w fun e w' => e = .returned (.string (strOfNums [digC n])) ∧ Below w.heap.size w w' := by
  have h0 : ¬ (n : Int) < 0 := by omega
  have h1 : (n : Int) < 10 := by omega
  have Hn := Lib.hid hn
  have hw1 : IntKind.i64.wrap (48 + (n : Int)) = 48 + (n : Int) := IntWalk.i64_in _ (by omega)
  have hw2 : IntKind.u8.wrap (48 + (n : Int)) = 48 + (n : Int) := IntWalk.u8_in _ (by omega)
  have b1 : Below w.heap.size w (w.alloc (.cells #[.int .u8 (48 + (n : Int))] 5)) := (Below.refl _ _).alloc (Nat.le_refl _) _
  have r1 : (w.alloc (.cells #[.int .u8 (48 + (n : Int))] 5)).heap[w.heap.size]? = some (.cells (u8s [48 + (n : Int)]) 5 (0, 0)) := Go.heap_alloc_new w _
  have cv := conv_any (byt_rowT r1 (n := 1) rfl) (n := 1) rfl
  have Hb1 := Lib.hid b1
  have Hcv := Lib.hid cv
  have Hd : Hid (digC n = 48 + (n : Int)) := by show _ = _; unfold digC; rw [if_pos hn]; omega
  clear b1 r1 cv hn
  go_enter Tryz.func31, Tryz.ntmps31
  go_wp2_with fail
  rw [Hcv.out]
  simp only [Result.andThen]
  rw [Oper.upon_value]
  go_wp2
  go_ret
  rw [Hd.out]
  exact ⟨rfl, Hb1.out⟩
set_option maxRecDepth 100000 in
set_option maxHeartbeats 1000000 in
theorem number_more (n : Nat) (hn : n < 1000000000) (hn10 : 10 ≤ n) (Y : List Int) (hY : Y.length ≤ 100) (hc : ∀ w : World, Calls Tryz.prog 31 #[.int .i64 (n / 10 : Nat)] w fun e w' => e = .returned (.string (strOfNums Y)) ∧ Below w.heap.size w w') (w : World) :
    Calls Tryz.prog 31 #[.int .i64 (n : Nat)] w fun e w' => e = .returned (.string (strOfNums (Y ++ [digC (n % 10)]))) ∧ Below w.heap.size w w' := by
  have h0 : ¬ (n : Int) < 0 := by omega
  have h1 : ¬ (n : Int) < 10 := by omega
  obtain ⟨q, hq⟩ : ∃ q, q = n / 10 := ⟨_, rfl⟩
  obtain ⟨d, hd⟩ : ∃ d, d = n % 10 := ⟨_, rfl⟩
  have hd10 : d < 10 := by omega
  have e1 : (n : Int) / 10 = (q : Int) := by omega
  have e2 : (n : Int) % 10 = (d : Int) := by omega
  have e3 : IntKind.i64.wrap (q : Int) = (q : Int) := IntWalk.i64_in _ (by omega)
  rw [← hq] at hc
  rw [← hd]
  have HC := Lib.hid hc
  have HD : Hid (∀ w : World, Calls Tryz.prog 31 #[.int .i64 (d : Nat)] w fun e w' => e = .returned (.string (strOfNums [digC d])) ∧ Below w.heap.size w w') := fun w => number_one d hd10 w
  obtain ⟨sd, hsd⟩ : ∃ sd, sd = strOfNums [digC d] := ⟨_, rfl⟩
  obtain ⟨sy, hsy⟩ : ∃ sy, sy = strOfNums Y := ⟨_, rfl⟩
  have hs1 : ¬ 9223372036854775807 < sy.size + sd.size := by rw [hsd, hsy, str_len, str_len]; simp; omega
  have Happ : Hid (sy ++ sd = strOfNums (Y ++ [digC d])) := by show _ = _; rw [hsd, hsy, str_app]
  rw [← hsd] at HD
  rw [← hsy] at HC
  rw [← Happ.out]
  clear hsd hsy hY hc hq hd hd10 hn hn10 Happ
  go_enter Tryz.func31, Tryz.ntmps31
  go_wp2_with fail
  refine (HC.out _).mono ?_
  rintro e w1 ⟨rfl, low1⟩
  have Low1 := Lib.hid low1
  clear low1
  go_wp2_with fail
  refine (HD.out _).mono ?_
  rintro e w2 ⟨rfl, low2⟩
  have Low2 := Lib.hid low2
  clear low2
  go_wp2
  go_ret
  exact ⟨rfl, Low1.out.trans (Low2.out.mono Low1.out.size)⟩
theorem number_any (k : Nat) (hk : k ≤ 90) (n : Nat) (hn : n < 10 ^ (k + 1)) (hn9 : n < 1000000000) (w : World) :
    Calls Tryz.prog 31 #[.int .i64 (n : Nat)] w fun e w' => e = .returned (.string (strOfNums (digL 10 k n))) ∧ Below w.heap.size w w' := by
  induction k generalizing n w with
  | zero =>
    have h : n < 10 := by simpa using hn
    have := number_one n h w
    rw [show digL 10 0 n = [digC n] by rw [digL, Nat.mod_eq_of_lt h]]
    exact this
  | succ k ih =>
    by_cases h : n < 10
    · rw [digL, if_pos h, Nat.mod_eq_of_lt h]
      exact number_one n h w
    · rw [digL, if_neg h]
      refine number_more n hn9 (by omega) _ (Nat.le_trans (digL_le _ _ _) (by omega)) (fun w => ih (by omega) (n / 10) ?_ (by omega) w) w
      rw [Nat.pow_succ] at hn
      exact Nat.div_lt_of_lt_mul (by rw [Nat.mul_comm]; exact hn)
/-- a number's text. -/
def numL (v : Int) : List Int := if v < 0 then 45 :: digL 10 8 (-v).toNat else digL 10 8 v.toNat
set_option maxRecDepth 100000 in
set_option maxHeartbeats 1000000 in
theorem rnumber_any (v : Int) (h1 : -1000000000 < v) (h2 : v < 1000000000) (w : World) :
    Calls Tryz.prog 31 #[.int .i64 v] w fun e w' => e = .returned (.string (strOfNums (numL v))) ∧ Below w.heap.size w w' := by
  by_cases h : v < 0
  · obtain ⟨n, hn⟩ : ∃ n : Nat, n = (-v).toNat := ⟨_, rfl⟩
    have hv : -v = (n : Int) := by omega
    have hw : IntKind.i64.wrap (n : Int) = (n : Int) := IntWalk.i64_in _ (by omega)
    have hc := fun w => number_any 8 (by decide) n (by show n < 1000000000; omega) (by omega) w
    have HC := Lib.hid hc
    obtain ⟨sy, hsy⟩ : ∃ sy, sy = strOfNums (digL 10 8 n) := ⟨_, rfl⟩
    have hs1 : ¬ 9223372036854775807 < 1 + sy.size := by rw [hsy, str_len]; have := digL_le 10 8 n; omega
    have Happ : Hid ((⟨#[45]⟩ : ByteArray) ++ sy = strOfNums (numL v)) := by
      show _ = _
      rw [numL, if_pos h, ← hn, hsy, show (45 :: digL 10 8 n : List Int) = [45] ++ digL 10 8 n from rfl, ← str_app]
      rfl
    rw [← hsy] at HC
    rw [← Happ.out]
    clear hn hc hsy Happ h1 h2
    go_enter Tryz.func31, Tryz.ntmps31
    go_wp2_with fail
    refine (HC.out _).mono ?_
    rintro e w1 ⟨rfl, low1⟩
    have Low1 := Lib.hid low1
    clear low1
    go_wp2
    go_ret
    exact ⟨rfl, Low1.out⟩
  · obtain ⟨n, rfl⟩ := Int.eq_ofNat_of_zero_le (show 0 ≤ v by omega)
    rw [numL, if_neg h]
    exact number_any 8 (by decide) n (by show n < 1000000000; omega) (by omega) w
end Go.Proofs.YtpkolmmahoopcaaGreatDoor.Dig
/- DERIVED. The reference's May and Text of layer 5, at any label. -/
namespace Go.Proofs.YtpkolmmahoopcaaGreatDoor.Dig
open Go.RowKit Str
set_option maxHeartbeats 1000000 in
theorem rmay_any (lv : Int) (cp : Nat) (w : World) :
    Calls Tryz.prog 22 #[.agg #[.int .i64 lv, .int .u64 (cp : Nat)]] w fun e w' => e = .returned (.bool (decide (0 ≤ lv) && decide (lv ≤ 15))) ∧ Below w.heap.size w w' := by
  obtain ⟨w1, hw1⟩ : ∃ w1, w1 = w.alloc (.cells #[.int .i64 lv, .int .u64 (cp : Nat)] 34) := ⟨_, rfl⟩
  have h1 : w1.heap[w.heap.size]? = some (.cells #[.int .i64 lv, .int .u64 (cp : Nat)] 34 (0, 0)) := by rw [hw1]; exact Go.heap_alloc_new w _
  have low1 : Below w.heap.size w w1 := by rw [hw1]; exact (Below.refl _ _).alloc (Nat.le_refl _) _
  have Hw1 := Lib.hid hw1
  have Hlow1 := Lib.hid low1
  have c0 : w1.cell? ⟨w.heap.size, 0, none⟩ = some (.int .i64 lv) := cell_row h1 0
  clear hw1 h1 low1
  by_cases a : 0 ≤ lv
  · by_cases b : lv ≤ 15
    all_goals
      go_enter Tryz.func22, Tryz.ntmps22
      go_upto_region 1 with (fail)
      rw [← Hw1.out]
      go_wp2
      go_ret
      exact ⟨by simp [a, b], Hlow1.out⟩
  · go_enter Tryz.func22, Tryz.ntmps22
    go_upto_region 1 with (fail)
    rw [← Hw1.out]
    go_wp2
    go_ret
    exact ⟨by rw [decide_eq_false (show ¬ 0 ≤ lv by omega)]; rfl, Hlow1.out⟩
/-- a label's text. -/
def labT (lv : Int) (cp : Nat) : List Int := if 0 ≤ lv ∧ lv ≤ 15 then digL 10 1 lv.toNat ++ [58] ++ digL 16 15 cp else [63]
theorem labT_le (lv : Int) (cp : Nat) : (labT lv cp).length ≤ 20 := by
  unfold labT
  split
  · have := digL_le 10 1 lv.toNat
    have := digL_le 16 15 cp
    simp only [List.length_append, List.length_cons, List.length_nil]
    omega
  · simp
set_option maxRecDepth 100000 in
set_option maxHeartbeats 2000000 in
theorem rtext_any (lv : Int) (cp : Nat) (hcp : cp < 18446744073709551616) (w : World) :
    Calls Tryz.prog 32 #[.agg #[.int .i64 lv, .int .u64 (cp : Nat)]] w fun e w' => e = .returned (.string (strOfNums (labT lv cp))) ∧ Below w.heap.size w w' := by
  obtain ⟨w1, hw1⟩ : ∃ w1, w1 = w.alloc (.cells #[.int .i64 lv, .int .u64 (cp : Nat)] 34) := ⟨_, rfl⟩
  have h1 : w1.heap[w.heap.size]? = some (.cells #[.int .i64 lv, .int .u64 (cp : Nat)] 34 (0, 0)) := by rw [hw1]; exact Go.heap_alloc_new w _
  have low1 : Below w.heap.size w w1 := by rw [hw1]; exact (Below.refl _ _).alloc (Nat.le_refl _) _
  have Hw1 := Lib.hid hw1
  have Hlow1 := Lib.hid low1
  have H1 := Lib.hid h1
  have Hcp := Lib.hid hcp
  have c0 : w1.cell? ⟨w.heap.size, 0, none⟩ = some (.int .i64 lv) := cell_row h1 0
  have c1 : w1.cell? ⟨w.heap.size, 1, none⟩ = some (.int .u64 (cp : Nat)) := cell_row h1 1
  clear hw1 h1 low1 hcp
  have hby : (decide (0 ≤ lv) && decide (lv ≤ 15)) = decide (0 ≤ lv ∧ lv ≤ 15) := by simp
  have Hm : Hid (Calls Tryz.prog 22 #[.agg #[.int .i64 lv, .int .u64 (cp : Nat)]] w1 fun e w' => e = .returned (.bool (decide (0 ≤ lv ∧ lv ≤ 15))) ∧ Below w1.heap.size w1 w') := by rw [← hby]; exact rmay_any lv cp w1
  clear hby
  have Hlt : Hid (w.heap.size < w1.heap.size) := (Array.getElem?_eq_some_iff.1 H1.out).1
  by_cases h : 0 ≤ lv ∧ lv ≤ 15
  · obtain ⟨n, rfl⟩ := Int.eq_ofNat_of_zero_le h.1
    have hn : n ≤ 15 := by omega
    rw [decide_eq_true h] at Hm
    obtain ⟨sa, hsa⟩ : ∃ sa, sa = strOfNums (digL 10 1 n) := ⟨_, rfl⟩
    obtain ⟨sb, hsb⟩ : ∃ sb, sb = strOfNums (digL 16 15 cp) := ⟨_, rfl⟩
    have hA : ∀ W, Calls Tryz.prog 46 #[.int .u64 (n : Nat), .int .u64 10] W fun e w' => e = .returned (.string (strOfNums (digL 10 1 n))) ∧ ∃ m, w' = W.drewN m := fun W => digits_any 10 (by decide) (by decide) 1 (by decide) n (by show n < 100; omega) (by omega) W
    have hB : ∀ W, Calls Tryz.prog 46 #[.int .u64 (cp : Nat), .int .u64 16] W fun e w' => e = .returned (.string (strOfNums (digL 16 15 cp))) ∧ ∃ m, w' = W.drewN m := fun W => digits_any 16 (by decide) (by decide) 15 (by decide) cp (by rw [show (16 : Nat) ^ (15 + 1) = 18446744073709551616 from rfl]; exact Hcp.out) Hcp.out W
    have hs1 : ¬ 9223372036854775807 < sa.size + 1 := by rw [hsa, str_len]; have := digL_le 10 1 n; omega
    have hs2 : ¬ 9223372036854775807 < sa.size + 1 + sb.size := by rw [hsa, hsb, str_len, str_len]; have := digL_le 10 1 n; have := digL_le 16 15 cp; omega
    have Hfin : Hid (sa ++ (⟨#[58]⟩ : ByteArray) ++ sb = strOfNums (labT n cp)) := by
      show _ = _
      rw [labT, if_pos h, hsa, hsb, ← str_app, ← str_app]
      rfl
    have hwn : IntKind.u64.wrap (n : Int) = (n : Int) := IntWalk.u64_in _ (by omega)
    rw [← hsa] at hA
    rw [← hsb] at hB
    have HA := Lib.hid hA
    have HB := Lib.hid hB
    rw [← Hfin.out]
    clear hsa hsb hA hB h hn Hfin Hcp
    go_enter Tryz.func32, Tryz.ntmps32
    go_upto_region 1 with (fail)
    rw [← Hw1.out]
    go_wp2_with fail
    refine Hm.out.mono ?_
    rintro e w2 ⟨rfl, low2⟩
    have Low2 := Lib.hid low2
    have d0 : w2.cell? ⟨w.heap.size, 0, none⟩ = some (.int .i64 (n : Nat)) := (low2.cell (p := ⟨w.heap.size, 0, none⟩) Hlt.out).trans c0
    have d1 : w2.cell? ⟨w.heap.size, 1, none⟩ = some (.int .u64 (cp : Nat)) := (low2.cell (p := ⟨w.heap.size, 1, none⟩) Hlt.out).trans c1
    clear low2 c0 c1 Hm
    go_upto_region 3 with (fail)
    go_quiet (first | (go_at_call_of 46 n; exact Calls.quiet_of (HA.out _)) | (go_at_call_of 46 cp; exact Calls.quiet_of (HB.out _)))
    go_wp2
    go_ret
    exact ⟨rfl, (Hlow1.out.trans (Low2.out.mono Hlow1.out.size)).trans ⟨rfl, rfl, rfl, Nat.le_refl _, fun _ _ => rfl⟩⟩
  · rw [decide_eq_false h] at Hm
    rw [labT, if_neg h]
    go_enter Tryz.func32, Tryz.ntmps32
    go_upto_region 1 with (fail)
    rw [← Hw1.out]
    go_wp2_with fail
    refine Hm.out.mono ?_
    rintro e w2 ⟨rfl, low2⟩
    have Low2 := Lib.hid low2
    clear low2
    go_wp2
    go_ret
    exact ⟨rfl, Hlow1.out.trans (Low2.out.mono Hlow1.out.size)⟩
end Go.Proofs.YtpkolmmahoopcaaGreatDoor.Dig
/- DERIVED. What a slot held before an operation of its region writes it. -/
namespace Go.Proofs.YtpkolmmahoopcaaGreatDoor
open Go.RowKit
/-- until operation q comes, the slot holds its old value. -/
def BefP (l : Array Bool) (q : Nat) (z : Nat → Value) (slot : Nat) (val : Value) : Prop := l.getD q false = false → z slot = val
theorem BefP.keep {l : Array Bool} {z : Nat → Value} {q k d slot : Nat} {v val : Value} (h : BefP l q z slot val) (hd : slot ≠ d) : BefP (l.setIfInBounds k true) q (upd z d v) slot val := fun hl => by
  unfold upd
  rw [if_neg hd]
  refine h ?_
  cases e : l.getD q false with
  | false => rfl
  | true => rw [getD_set_true e] at hl; cases hl
theorem BefP.past {l : Array Bool} {z : Nat → Value} {q slot : Nat} {val : Value} (hq : q < l.size) : BefP (l.setIfInBounds q true) q z slot val := fun h => by simp [hq] at h
theorem BefP.ok {l : Array Bool} {q i : Nat} (h : l.getD q false = true → l.getD i false = true) (hu : l.getD i false = false) : l.getD q false = false := by
  cases e : l.getD q false with
  | false => rfl
  | true => rw [h e] at hu; cases hu
theorem BefP.start {l : Array Bool} {z : Nat → Value} {q slot : Nat} {val : Value} (h : z slot = val) : BefP l q z slot val := fun _ => h
end Go.Proofs.YtpkolmmahoopcaaGreatDoor
/- DERIVED. The reference's Text of layer 7: a table's text. -/
namespace Go.Proofs.YtpkolmmahoopcaaGreatDoor.Dig
open Go.RowKit Str Rul
/-- a text with a rule's line behind it. -/
def lineB (s : ByteArray) (r : Rl) : ByteArray := s ++ (⟨#[10]⟩ : ByteArray) ++ strOfNums (labT r.a r.c) ++ (⟨#[32]⟩ : ByteArray) ++ r.p
/-- a table's text. -/
def textR (v : Int) (rs : List Rl) : ByteArray := rs.foldl lineB ((⟨#[118]⟩ : ByteArray) ++ strOfNums (numL v))
theorem textR_next (v : Int) (rs : List Rl) (k : Nat) (r : Rl) (h : rs[k]? = some r) : textR v (rs.take (k + 1)) = lineB (textR v (rs.take k)) r := by
  rw [List.take_add_one, h]
  simp [textR]
theorem lineB_size (s : ByteArray) (r : Rl) (h : r.p.size ≤ 1000) : (lineB s r).size ≤ s.size + 1022 := by
  unfold lineB
  have := labT_le r.a r.c
  simp only [ByteArray.size_append, str_len]
  have e1 : (⟨#[10]⟩ : ByteArray).size = 1 := rfl
  have e2 : (⟨#[32]⟩ : ByteArray).size = 1 := rfl
  omega
theorem numL_le (v : Int) : (numL v).length ≤ 10 := by
  unfold numL
  split
  · have := digL_le 10 8 (-v).toNat
    simp; omega
  · have := digL_le 10 8 v.toNat
    omega
theorem textR_size (v : Int) (rs : List Rl) (k : Nat) (h : ∀ r ∈ rs, r.p.size ≤ 1000) : (textR v (rs.take k)).size ≤ 20 + k * 1022 := by
  induction k with
  | zero =>
    have := numL_le v
    have e1 : (⟨#[118]⟩ : ByteArray).size = 1 := rfl
    simp only [List.take_zero, textR, List.foldl_nil, ByteArray.size_append, str_len]
    omega
  | succ k ih =>
    cases e : rs[k]? with
    | none =>
      rw [List.take_add_one, e, Option.toList_none, List.append_nil]
      exact Nat.le_trans ih (by omega)
    | some r =>
      rw [textR_next v rs k r e]
      have := lineB_size (textR v (rs.take k)) r (h r (List.mem_of_getElem? e))
      omega
set_option maxRecDepth 100000 in
set_option maxHeartbeats 4000000 in
theorem rtab_text (v : Int) (A : Option Addr) (n c : Nat) (rs : List Rl) (w : World) (hn : rs.length = n) (hR : Ruls w A c rs) (hz : ∀ r ∈ rs, r.p.size ≤ 1000 ∧ r.c < 18446744073709551616) (hn9 : n ≤ 1000) (h1 : -1000000000 < v) (h2 : v < 1000000000) :
    Calls Tryz.prog 15 #[.agg (tabV v A n c)] w fun e w' => e = .returned (.string (textR v rs)) ∧ Below w.heap.size w w' := by
  obtain ⟨w1, hw1⟩ : ∃ w1, w1 = w.alloc (.cells (tabV v A n c) 30) := ⟨_, rfl⟩
  have r1 : w1.heap[w.heap.size]? = some (.cells (tabV v A n c) 30 (0, 0)) := by rw [hw1]; exact Go.heap_alloc_new w _
  have b1 : Below w.heap.size w w1 := by rw [hw1]; exact (Below.refl _ _).alloc (Nat.le_refl _) _
  have c0 : w1.cell? ⟨w.heap.size, 0, none⟩ = some (.int .i64 v) := cell_row r1 0
  have Hc1 : Hid (w1.cell? ⟨w.heap.size, 1, none⟩ = some (.slice A n c)) := cell_row r1 1
  have Hlt : Hid (w.heap.size < w1.heap.size) := (Array.getElem?_eq_some_iff.1 r1).1
  have Hw1 := Lib.hid hw1
  have Hb1 := Lib.hid b1
  have Hn := Lib.hid hn
  have HR := Lib.hid hR
  have HZ := Lib.hid hz
  have Hnum := Lib.hid (rnumber_any v h1 h2 w1)
  have hs0 : ¬ 9223372036854775807 < 1 + (strOfNums (numL v)).size := by rw [str_len]; have := numL_le v; omega
  clear hw1 b1 hn hR hz h1 h2 r1
  go_enter Tryz.func15, Tryz.ntmps15
  go_upto_region 1 with (fail)
  rw [← Hw1.out]
  go_wp2_with fail
  refine Hnum.out.mono ?_
  rintro e w2 ⟨rfl, low2⟩
  have Low2 := Lib.hid low2
  have d1 : Hid (w2.cell? ⟨w.heap.size, 1, none⟩ = some (.slice A n c)) := (low2.cell (p := ⟨w.heap.size, 1, none⟩) Hlt.out).trans Hc1.out
  have Hlt2 : Hid (w.heap.size < w2.heap.size) := Nat.lt_of_lt_of_le Hlt.out low2.size
  have Hb2 := Lib.hid (Hb1.out.trans (low2.mono Hb1.out.size))
  clear low2 c0 Hc1 Hnum Low2 Hb1 Hlt Hw1
  go_wp2
  clear hs0
  go_loopw [3, 4] (fun s i wr => ∃ k : Nat, k ≤ n ∧ i = .int .i64 k ∧ s = .string (textR v (rs.take k)) ∧ Hid (Below w2.heap.size w2 wr)) (fun _ i _ => n - (intOf i).toNat)
  case atStart => exact ⟨0, Nat.zero_le _, rfl, by rw [List.take_zero]; rfl, Below.refl _ _⟩
  case round =>
    obtain ⟨k, hk, rfl, rfl, hlow⟩ := hrel
    have e1 : wr.cell? ⟨w.heap.size, 1, none⟩ = some (.slice A n c) := (hlow.out.cell (p := ⟨w.heap.size, 1, none⟩) Hlt2.out).trans d1.out
    by_cases hlt : k < n
    · have hI : (k : Int) < (n : Int) := by omega
      obtain ⟨r, hr⟩ : ∃ r, rs[k]? = some r := ⟨_, List.getElem?_eq_getElem (by rw [Hn.out]; exact hlt)⟩
      obtain ⟨b, off, hA, hb, hrange⟩ := HR.out.at hr
      have hlw : Below w.heap.size w wr := Hb2.out.trans (hlow.out.mono Hb2.out.size)
      have hcap : n ≤ c := by have := HR.out.1; rw [Hn.out] at this; exact this
      have Hcell : Hid (∀ W, Below wr.heap.size wr W → W.cell? ⟨b, off + k * 3, none⟩ = some (.string r.p) ∧ W.cell? ⟨b, off + k * 3 + 1, none⟩ = some (.int .i64 r.a) ∧ W.cell? ⟨b, off + k * 3 + 2, none⟩ = some (.int .u64 (r.c : Nat)) ∧ W.cell? ⟨w.heap.size, 1, none⟩ = some (.slice A n c)) := fun W hW => by
        have hWw := hlw.trans (hW.mono hlw.size)
        have hq : w.heap.size < wr.heap.size := Nat.lt_of_lt_of_le Hlt2.out hlow.out.size
        refine ⟨?_, ?_, ?_, (hW.cell (p := ⟨w.heap.size, 1, none⟩) hq).trans e1⟩
        · exact (hWw.cell (p := ⟨b, off + k * 3, none⟩) hb).trans (by have := hrange 0 _ rfl; simpa using this)
        · exact (hWw.cell (p := ⟨b, off + k * 3 + 1, none⟩) hb).trans (hrange 1 _ rfl)
        · exact (hWw.cell (p := ⟨b, off + k * 3 + 2, none⟩) hb).trans (hrange 2 _ rfl)
      have hnx := textR_next v rs k r hr
      have hz := HZ.out r (List.mem_of_getElem? hr)
      obtain ⟨T, hT⟩ : ∃ T, T = textR v (rs.take k) := ⟨_, rfl⟩
      have hTs : T.size ≤ 20 + k * 1022 := by rw [hT]; exact textR_size v rs k (fun r hr => (HZ.out r hr).1)
      rw [← hT] at hnx ⊢
      obtain ⟨rp, ra, rc⟩ := r
      obtain ⟨L, hL⟩ : ∃ L, L = strOfNums (labT ra rc) := ⟨_, rfl⟩
      have hLs : L.size ≤ 20 := by rw [hL, str_len]; exact labT_le _ _
      have hp : rp.size ≤ 1000 := hz.1
      have Htx : Hid (∀ W, Calls Tryz.prog 32 #[.agg #[.int .i64 ra, .int .u64 (rc : Nat)]] W fun e w' => e = .returned (.string L) ∧ Below W.heap.size W w') := fun W => by rw [hL]; exact rtext_any ra rc hz.2 W
      have hk5 : k ≤ 1000 := by omega
      have q1 : ¬ 9223372036854775807 < T.size + 1 := by omega
      have q2 : ¬ 9223372036854775807 < T.size + 1 + L.size := by omega
      have q3 : ¬ 9223372036854775807 < T.size + 1 + L.size + 1 := by omega
      have q4 : ¬ 9223372036854775807 < T.size + 1 + L.size + 1 + rp.size := by omega
      have Hnx : Hid (T ++ (⟨#[10]⟩ : ByteArray) ++ L ++ (⟨#[32]⟩ : ByteArray) ++ rp = textR v (rs.take (k + 1))) := by rw [hnx, hL]; exact rfl
      subst hA
      have Hk5 := Lib.hid hk5
      clear hr hb hrange hnx hz hT hTs hL hLs hp hk5 hlw e1 hn9
      have f0 := (Hcell.out wr (Below.refl _ _)).2.2.2
      go_upto_region 5 with (fail)
      clear f0
      have apx : apartB [16, 17, 18, 19, 20, 21, 22, 23, 24, 25, 26, 27, 28, 29, 30, 31, 32, 33, 3] = true := by decide
      refine wp_region_any (by kernel_rfl) ?_
      change wpAny _ _ _ _ _ _ _ (World.drew _)
      refine wpAny_inv2 (fun ll aa wx => Hid (ll.size = 19 ∧ Below wr.heap.size wr wx) ∧ ∃ (z : Nat → Value), Hid (aa = ⟨#[Value.agg (tabV v (some { block := b, off := off }) n c), Value.pointer (some { block := w.heap.size, off := 0 }), Value.string { data := #[] }, z 3, Value.int IntKind.i64 ((k : Nat) : Int), Value.pointer (some { block := w.heap.size, off := 0 }), Value.int IntKind.i64 v, Value.string (strOfNums (numL v)), Value.string ({ data := #[118] } ++ strOfNums (numL v)), Value.int IntKind.i64 ((k : Nat) : Int), Value.pointer (some { block := w.heap.size, off := 1 }), Value.slice (some { block := b, off := off }) n c, Value.int IntKind.i64 ((n : Nat) : Int), Value.bool true, u14, u15, z 16, z 17, z 18, z 19, z 20, z 21, z 22, z 23, z 24, z 25, z 26, z 27, z 28, z 29, z 30, z 31, z 32, z 33, undef], []⟩) ∧ Holding [16, 17, 18, 19, 20, 21, 22, 23, 24, 25, 26, 27, 28, 29, 30, 31, 32, 33, 3] [some (.string T), some (.string (T ++ (⟨#[10]⟩ : ByteArray))), some (.pointer (some ⟨w.heap.size, 1, none⟩)), some (.slice (some ⟨b, off, none⟩) n c), some (.int .i64 (k : Nat)), some (.pointer (some ⟨b, off + k * 3, none⟩)), some (.pointer (some ⟨b, off + k * 3 + 1, none⟩)), some (.agg #[.int .i64 ra, .int .u64 (rc : Nat)]), some (.string L), some (.string (T ++ (⟨#[10]⟩ : ByteArray) ++ L)), some (.string (T ++ (⟨#[10]⟩ : ByteArray) ++ L ++ (⟨#[32]⟩ : ByteArray))), some (.pointer (some ⟨w.heap.size, 1, none⟩)), some (.slice (some ⟨b, off, none⟩) n c), some (.int .i64 (k : Nat)), some (.pointer (some ⟨b, off + k * 3, none⟩)), some (.pointer (some ⟨b, off + k * 3, none⟩)), some (.string rp), some (.string (T ++ (⟨#[10]⟩ : ByteArray) ++ L ++ (⟨#[32]⟩ : ByteArray) ++ rp)), some (.string (T ++ (⟨#[10]⟩ : ByteArray) ++ L ++ (⟨#[32]⟩ : ByteArray) ++ rp))] ll z ∧ BefP ll 18 z 3 (.string T)) ?_ (by kernel_rfl) ?_ ?_ _ rfl _ _ ?_
      · rintro ll aa wx ⟨hI, _⟩
        exact hI.out.1
      · rintro ll aa wx ⟨hI, z, ha, hz, hb18⟩ hall
        have hx := Lib.hid hI.out.2
        have e0 : z 16 = .string T := hz 0 _ (hall 0 (by decide)) rfl
        have e1 : z 17 = .string (T ++ (⟨#[10]⟩ : ByteArray)) := hz 1 _ (hall 1 (by decide)) rfl
        have e2 : z 18 = .pointer (some ⟨w.heap.size, 1, none⟩) := hz 2 _ (hall 2 (by decide)) rfl
        have e3 : z 19 = .slice (some ⟨b, off, none⟩) n c := hz 3 _ (hall 3 (by decide)) rfl
        have e4 : z 20 = .int .i64 (k : Nat) := hz 4 _ (hall 4 (by decide)) rfl
        have e5 : z 21 = .pointer (some ⟨b, off + k * 3, none⟩) := hz 5 _ (hall 5 (by decide)) rfl
        have e6 : z 22 = .pointer (some ⟨b, off + k * 3 + 1, none⟩) := hz 6 _ (hall 6 (by decide)) rfl
        have e7 : z 23 = .agg #[.int .i64 ra, .int .u64 (rc : Nat)] := hz 7 _ (hall 7 (by decide)) rfl
        have e8 : z 24 = .string L := hz 8 _ (hall 8 (by decide)) rfl
        have e9 : z 25 = .string (T ++ (⟨#[10]⟩ : ByteArray) ++ L) := hz 9 _ (hall 9 (by decide)) rfl
        have e10 : z 26 = .string (T ++ (⟨#[10]⟩ : ByteArray) ++ L ++ (⟨#[32]⟩ : ByteArray)) := hz 10 _ (hall 10 (by decide)) rfl
        have e11 : z 27 = .pointer (some ⟨w.heap.size, 1, none⟩) := hz 11 _ (hall 11 (by decide)) rfl
        have e12 : z 28 = .slice (some ⟨b, off, none⟩) n c := hz 12 _ (hall 12 (by decide)) rfl
        have e13 : z 29 = .int .i64 (k : Nat) := hz 13 _ (hall 13 (by decide)) rfl
        have e14 : z 30 = .pointer (some ⟨b, off + k * 3, none⟩) := hz 14 _ (hall 14 (by decide)) rfl
        have e15 : z 31 = .pointer (some ⟨b, off + k * 3, none⟩) := hz 15 _ (hall 15 (by decide)) rfl
        have e16 : z 32 = .string rp := hz 16 _ (hall 16 (by decide)) rfl
        have e17 : z 33 = .string (T ++ (⟨#[10]⟩ : ByteArray) ++ L ++ (⟨#[32]⟩ : ByteArray) ++ rp) := hz 17 _ (hall 17 (by decide)) rfl
        have e18 : z 3 = .string (T ++ (⟨#[10]⟩ : ByteArray) ++ L ++ (⟨#[32]⟩ : ByteArray) ++ rp) := hz 18 _ (hall 18 (by decide)) rfl
        clear hall hz hI hb18
        obtain rfl := ha.out
        clear ha
        clear apx
        have HX := Lib.hid hx.out
        rw [e18, Hnx.out]
        clear e0 e1 e2 e3 e4 e5 e6 e7 e8 e9 e10 e11 e12 e13 e14 e15 e16 e17 e18 hx
        go_wp2
        have hk5 := Hk5.out
        have hwk : wrap64 ((k : Int) + 1) = ((k + 1 : Nat) : Int) := by unfold wrap64; omega
        rw [hwk]
        exact ⟨⟨k + 1, by omega, rfl, rfl, hlow.out.trans (HX.out.mono hlow.out.size)⟩, by show n - (k + 1) < n - k; omega⟩
      · rintro ll aa wx i ⟨hI, z, ha, hz, hb18⟩ hcl hi hu hw
        obtain rfl := ha.out
        have hsz := Lib.hid hI.out.1
        have hx := Lib.hid hI.out.2
        clear ha hI
        have hin : i < 19 := hi
        obtain rfl | rfl | rfl | rfl | rfl | rfl | rfl | rfl | rfl | rfl | rfl | rfl | rfl | rfl | rfl | rfl | rfl | rfl | rfl : i = 0 ∨ i = 1 ∨ i = 2 ∨ i = 3 ∨ i = 4 ∨ i = 5 ∨ i = 6 ∨ i = 7 ∨ i = 8 ∨ i = 9 ∨ i = 10 ∨ i = 11 ∨ i = 12 ∨ i = 13 ∨ i = 14 ∨ i = 15 ∨ i = 16 ∨ i = 17 ∨ i = 18 := by omega
        · have b18 : z 3 = .string T := hb18 (BefP.ok (fun hl => hcl 18 0 hl (by kernel_rfl)) hu)
          refine wpOp_plain rfl rfl ?_
          go_simp
          exact ⟨⟨by simp [hsz.out], hx.out⟩, upd z 16 (.string T), (by unfold Hid; simp [upd, b18]), hz.next apx hsz.out 0 (by decide) _ (fun _ h => Option.some.inj h), BefP.keep hb18 (by decide)⟩
        · have e0 : z 16 = .string T := hz 0 _ (hw 0 (by kernel_rfl)) rfl
          refine wpOp_plain rfl rfl ?_
          go_simp
          exact ⟨⟨by simp [hsz.out], hx.out⟩, upd z 17 (.string (T ++ (⟨#[10]⟩ : ByteArray))), (by unfold Hid; simp [upd, e0]), hz.next apx hsz.out 1 (by decide) _ (fun _ h => Option.some.inj h), BefP.keep hb18 (by decide)⟩
        · refine wpOp_plain rfl rfl ?_
          go_simp
          exact ⟨⟨by simp [hsz.out], hx.out⟩, upd z 18 (.pointer (some ⟨w.heap.size, 1, none⟩)), (by unfold Hid; simp [upd]), hz.next apx hsz.out 2 (by decide) _ (fun _ h => Option.some.inj h), BefP.keep hb18 (by decide)⟩
        · have e2 : z 18 = .pointer (some ⟨w.heap.size, 1, none⟩) := hz 2 _ (hw 2 (by kernel_rfl)) rfl
          have fx := (Hcell.out wx hx.out).2.2.2
          refine wpOp_plain rfl rfl ?_
          go_simp
          exact ⟨⟨by simp [hsz.out], hx.out⟩, upd z 19 (.slice (some ⟨b, off, none⟩) n c), (by unfold Hid; simp [upd, e2]), hz.next apx hsz.out 3 (by decide) _ (fun _ h => Option.some.inj h), BefP.keep hb18 (by decide)⟩
        · refine wpOp_plain rfl rfl ?_
          go_simp
          exact ⟨⟨by simp [hsz.out], hx.out⟩, upd z 20 (.int .i64 (k : Nat)), (by unfold Hid; simp [upd]), hz.next apx hsz.out 4 (by decide) _ (fun _ h => Option.some.inj h), BefP.keep hb18 (by decide)⟩
        · have e3 : z 19 = .slice (some ⟨b, off, none⟩) n c := hz 3 _ (hw 3 (by kernel_rfl)) rfl
          have e4 : z 20 = .int .i64 (k : Nat) := hz 4 _ (hw 4 (by kernel_rfl)) rfl
          refine wpOp_plain rfl rfl ?_
          go_simp
          exact ⟨⟨by simp [hsz.out], hx.out⟩, upd z 21 (.pointer (some ⟨b, off + k * 3, none⟩)), (by unfold Hid; simp [upd, e3, e4]), hz.next apx hsz.out 5 (by decide) _ (fun _ h => Option.some.inj h), BefP.keep hb18 (by decide)⟩
        · have e5 : z 21 = .pointer (some ⟨b, off + k * 3, none⟩) := hz 5 _ (hw 5 (by kernel_rfl)) rfl
          refine wpOp_plain rfl rfl ?_
          go_simp
          exact ⟨⟨by simp [hsz.out], hx.out⟩, upd z 22 (.pointer (some ⟨b, off + k * 3 + 1, none⟩)), (by unfold Hid; simp [upd, e5]), hz.next apx hsz.out 6 (by decide) _ (fun _ h => Option.some.inj h), BefP.keep hb18 (by decide)⟩
        · have e6 : z 22 = .pointer (some ⟨b, off + k * 3 + 1, none⟩) := hz 6 _ (hw 6 (by kernel_rfl)) rfl
          obtain ⟨_, fx1, fx2, _⟩ := Hcell.out wx hx.out
          refine wpOp_plain rfl rfl ?_
          go_simp
          exact ⟨⟨by simp [hsz.out], hx.out⟩, upd z 23 (.agg #[.int .i64 ra, .int .u64 (rc : Nat)]), (by unfold Hid; simp [upd, e6]), hz.next apx hsz.out 7 (by decide) _ (fun _ h => Option.some.inj h), BefP.keep hb18 (by decide)⟩
        · have e7 : z 23 = .agg #[.int .i64 ra, .int .u64 (rc : Nat)] := hz 7 _ (hw 7 (by kernel_rfl)) rfl
          refine wpOp_plain rfl rfl ?_
          go_simp
          go_at_call 32
          refine (Htx.out wx).mono ?_
          rintro e w' ⟨rfl, low⟩
          exact ⟨⟨by simp [hsz.out], hx.out.trans (low.mono hx.out.size)⟩, upd z 24 (.string L), (by unfold Hid; simp [upd, e7]), hz.next apx hsz.out 8 (by decide) _ (fun _ h => Option.some.inj h), BefP.keep hb18 (by decide)⟩
        · have e1 : z 17 = .string (T ++ (⟨#[10]⟩ : ByteArray)) := hz 1 _ (hw 1 (by kernel_rfl)) rfl
          have e8 : z 24 = .string L := hz 8 _ (hw 8 (by kernel_rfl)) rfl
          refine wpOp_plain rfl rfl ?_
          go_simp
          exact ⟨⟨by simp [hsz.out], hx.out⟩, upd z 25 (.string (T ++ (⟨#[10]⟩ : ByteArray) ++ L)), (by unfold Hid; simp [upd, e1, e8]), hz.next apx hsz.out 9 (by decide) _ (fun _ h => Option.some.inj h), BefP.keep hb18 (by decide)⟩
        · have e9 : z 25 = .string (T ++ (⟨#[10]⟩ : ByteArray) ++ L) := hz 9 _ (hw 9 (by kernel_rfl)) rfl
          refine wpOp_plain rfl rfl ?_
          go_simp
          exact ⟨⟨by simp [hsz.out], hx.out⟩, upd z 26 (.string (T ++ (⟨#[10]⟩ : ByteArray) ++ L ++ (⟨#[32]⟩ : ByteArray))), (by unfold Hid; simp [upd, e9]), hz.next apx hsz.out 10 (by decide) _ (fun _ h => Option.some.inj h), BefP.keep hb18 (by decide)⟩
        · refine wpOp_plain rfl rfl ?_
          go_simp
          exact ⟨⟨by simp [hsz.out], hx.out⟩, upd z 27 (.pointer (some ⟨w.heap.size, 1, none⟩)), (by unfold Hid; simp [upd]), hz.next apx hsz.out 11 (by decide) _ (fun _ h => Option.some.inj h), BefP.keep hb18 (by decide)⟩
        · have e11 : z 27 = .pointer (some ⟨w.heap.size, 1, none⟩) := hz 11 _ (hw 11 (by kernel_rfl)) rfl
          have fx := (Hcell.out wx hx.out).2.2.2
          refine wpOp_plain rfl rfl ?_
          go_simp
          exact ⟨⟨by simp [hsz.out], hx.out⟩, upd z 28 (.slice (some ⟨b, off, none⟩) n c), (by unfold Hid; simp [upd, e11]), hz.next apx hsz.out 12 (by decide) _ (fun _ h => Option.some.inj h), BefP.keep hb18 (by decide)⟩
        · refine wpOp_plain rfl rfl ?_
          go_simp
          exact ⟨⟨by simp [hsz.out], hx.out⟩, upd z 29 (.int .i64 (k : Nat)), (by unfold Hid; simp [upd]), hz.next apx hsz.out 13 (by decide) _ (fun _ h => Option.some.inj h), BefP.keep hb18 (by decide)⟩
        · have e12 : z 28 = .slice (some ⟨b, off, none⟩) n c := hz 12 _ (hw 12 (by kernel_rfl)) rfl
          have e13 : z 29 = .int .i64 (k : Nat) := hz 13 _ (hw 13 (by kernel_rfl)) rfl
          refine wpOp_plain rfl rfl ?_
          go_simp
          exact ⟨⟨by simp [hsz.out], hx.out⟩, upd z 30 (.pointer (some ⟨b, off + k * 3, none⟩)), (by unfold Hid; simp [upd, e12, e13]), hz.next apx hsz.out 14 (by decide) _ (fun _ h => Option.some.inj h), BefP.keep hb18 (by decide)⟩
        · have e14 : z 30 = .pointer (some ⟨b, off + k * 3, none⟩) := hz 14 _ (hw 14 (by kernel_rfl)) rfl
          refine wpOp_plain rfl rfl ?_
          go_simp
          exact ⟨⟨by simp [hsz.out], hx.out⟩, upd z 31 (.pointer (some ⟨b, off + k * 3, none⟩)), (by unfold Hid; simp [upd, e14]), hz.next apx hsz.out 15 (by decide) _ (fun _ h => Option.some.inj h), BefP.keep hb18 (by decide)⟩
        · have e15 : z 31 = .pointer (some ⟨b, off + k * 3, none⟩) := hz 15 _ (hw 15 (by kernel_rfl)) rfl
          have fx := (Hcell.out wx hx.out).1
          refine wpOp_plain rfl rfl ?_
          go_simp
          exact ⟨⟨by simp [hsz.out], hx.out⟩, upd z 32 (.string rp), (by unfold Hid; simp [upd, e15]), hz.next apx hsz.out 16 (by decide) _ (fun _ h => Option.some.inj h), BefP.keep hb18 (by decide)⟩
        · have e10 : z 26 = .string (T ++ (⟨#[10]⟩ : ByteArray) ++ L ++ (⟨#[32]⟩ : ByteArray)) := hz 10 _ (hw 10 (by kernel_rfl)) rfl
          have e16 : z 32 = .string rp := hz 16 _ (hw 16 (by kernel_rfl)) rfl
          refine wpOp_plain rfl rfl ?_
          go_simp
          exact ⟨⟨by simp [hsz.out], hx.out⟩, upd z 33 (.string (T ++ (⟨#[10]⟩ : ByteArray) ++ L ++ (⟨#[32]⟩ : ByteArray) ++ rp)), (by unfold Hid; simp [upd, e10, e16]), hz.next apx hsz.out 17 (by decide) _ (fun _ h => Option.some.inj h), BefP.keep hb18 (by decide)⟩
        · have e17 : z 33 = .string (T ++ (⟨#[10]⟩ : ByteArray) ++ L ++ (⟨#[32]⟩ : ByteArray) ++ rp) := hz 17 _ (hw 17 (by kernel_rfl)) rfl
          refine wpOp_plain rfl rfl ?_
          go_simp
          exact ⟨⟨by simp [hsz.out], hx.out⟩, upd z 3 (.string (T ++ (⟨#[10]⟩ : ByteArray) ++ L ++ (⟨#[32]⟩ : ByteArray) ++ rp)), (by unfold Hid; simp [upd, e17]), hz.next apx hsz.out 18 (by decide) _ (fun _ h => Option.some.inj h), BefP.past (by rw [hsz.out]; decide)⟩
      · exact ⟨⟨rfl, (Below.refl _ _).drew⟩, fun xx => (#[Value.agg (tabV v (some { block := b, off := off }) n c), Value.pointer (some { block := w.heap.size, off := 0 }), Value.string { data := #[] }, Value.string T, Value.int IntKind.i64 ((k : Nat) : Int), Value.pointer (some { block := w.heap.size, off := 0 }), Value.int IntKind.i64 v, Value.string (strOfNums (numL v)), Value.string ({ data := #[118] } ++ strOfNums (numL v)), Value.int IntKind.i64 ((k : Nat) : Int), Value.pointer (some { block := w.heap.size, off := 1 }), Value.slice (some { block := b, off := off }) n c, Value.int IntKind.i64 ((n : Nat) : Int), Value.bool true, u14, u15, u16, u17, u18, u19, u20, u21, u22, u23, u24, u25, u26, u27, u28, u29, u30, u31, u32, u33, undef] : Array Value).getD xx undef, (by rfl), Holding.start, BefP.start rfl⟩
    · have hI : ¬ (k : Int) < (n : Int) := by omega
      obtain rfl : k = n := by omega
      go_wp2
      go_ret
      rw [List.take_of_length_le (by rw [Hn.out]; exact Nat.le_refl _)]
      exact ⟨rfl, Hb2.out.trans (hlow.out.mono Hb2.out.size)⟩
end Go.Proofs.YtpkolmmahoopcaaGreatDoor.Dig
