/- DERIVED. The contracts of the reference's both, Join, Meet, Order and of label.Order. -/
import Derived.Test.YtmgjhinbkhebjaaDoorLabRef
namespace Go.Proofs.YtmgjhinbkhebjaaDoor.Lab
open Go.RowKit Str
/-- the compartments of one of both, or of both. -/
def mix (all : Bool) (c d : Nat) : Nat := if all = true then c &&& d else c ||| d
theorem mix_bit (all : Bool) (c d i : Nat) : (mix all c d).testBit i = ((c.testBit i && d.testBit i) || (!all && (c.testBit i || d.testBit i))) := by
  unfold mix
  cases all
  · rw [if_neg (by decide), Nat.testBit_or]; cases c.testBit i <;> cases d.testBit i <;> rfl
  · rw [if_pos rfl, Nat.testBit_and]; cases c.testBit i <;> cases d.testBit i <;> rfl
theorem mix_lt {all : Bool} {c d : Nat} (hc : OkC c) (hd : OkC d) : OkC (mix all c d) := by
  unfold mix
  split
  · exact OkC.and hd
  · exact hc.or hd
theorem half (R q : Nat) : R / 2 ^ q = 2 * (R / 2 ^ (q + 1)) + (if R.testBit q = true then 1 else 0) := by
  rw [Nat.testBit_eq_decide_div_mod_eq, Nat.pow_succ, ← Nat.div_div_eq_div_mul]
  by_cases h : R / 2 ^ q % 2 = 1
  · rw [if_pos (decide_eq_true h)]; omega
  · rw [if_neg (by simp [h])]; omega
theorem four_at (w : World) (x y z v : Obj) : ((((w.alloc x).alloc y).alloc z).alloc v).heap[w.heap.size]? = some x ∧ ((((w.alloc x).alloc y).alloc z).alloc v).heap[w.heap.size + 1]? = some y ∧ ((((w.alloc x).alloc y).alloc z).alloc v).heap[w.heap.size + 1 + 1]? = some z ∧ ((((w.alloc x).alloc y).alloc z).alloc v).heap[w.heap.size + 1 + 1 + 1]? = some v := by
  have h := two_new w x y
  refine ⟨?_, ?_, ?_, ?_⟩
  · rw [Below.heap_alloc _ _ _ (by simp; omega), Below.heap_alloc _ _ _ (by simp; omega)]; exact h.1
  · rw [Below.heap_alloc _ _ _ (by simp), Below.heap_alloc _ _ _ (by simp)]; exact h.2
  · rw [Below.heap_alloc _ _ _ (by simp)]
    have k := Go.heap_alloc_new ((w.alloc x).alloc y) z
    simpa using k
  · have k := Go.heap_alloc_new (((w.alloc x).alloc y).alloc z) v
    simpa using k
/-- what the loop of both holds to. -/
structure MI (w4 : World) (g9 : Nat) (lv : Int) (R k : Nat) (wr : World) : Prop where
  row : wr.heap[g9]? = some (.cells (lab lv (R / 2 ^ k)) 24 (0, 0))
  low : Below g9 w4 wr
set_option maxHeartbeats 4000000 in
theorem both_any (lv a b : Int) (c d : Nat) (all : Bool) (hc : OkC c) (hd : OkC d) (w : World) :
    Calls Tryd.prog 27 #[.int .i64 lv, .agg (lab a c), .agg (lab b d), .bool all] w fun e w' => e = .returned (.agg (lab lv (mix all c d))) ∧ Below w.heap.size w w' := by
  obtain ⟨R, hR⟩ : ∃ R, R = mix all c d := ⟨_, rfl⟩
  have hRl : OkC R := by rw [hR]; exact mix_lt hc hd
  have hbit : Hid (∀ i, R.testBit i = ((c.testBit i && d.testBit i) || (!all && (c.testBit i || d.testBit i)))) := fun i => by rw [hR]; exact mix_bit all c d i
  rw [← hR]
  obtain ⟨w4, hw4⟩ : ∃ w4, w4 = (((w.alloc (.cells (lab a c) 24)).alloc (.cells (lab b d) 24)).alloc (.cells #[.int .i64 0, .int .u64 0] 24)).alloc (.cells #[.int .i64 lv, .int .u64 0] 24) := ⟨_, rfl⟩
  have h4 := four_at w (.cells (lab a c) 24) (.cells (lab b d) 24) (.cells #[.int .i64 0, .int .u64 0] 24) (.cells #[.int .i64 lv, .int .u64 0] 24)
  rw [← hw4] at h4
  have low4 : Below w.heap.size w w4 := by rw [hw4]; exact ((((Below.refl _ _).alloc (Nat.le_refl _) _).alloc (by simp) _).alloc (by simp; omega) _).alloc (by simp; omega) _
  have hsz4 : w4.heap.size = w.heap.size + 1 + 1 + 1 + 1 := by rw [hw4]; simp
  have HM0 : Hid (MI w4 (w.heap.size + 1 + 1 + 1) lv R 64 w4) := ⟨by rw [h4.2.2.2, Nat.div_eq_of_lt (show R < 2 ^ 64 from hRl)]; rfl, Below.refl _ _⟩
  have Hw4 := Lib.hid hw4
  have H5 := Lib.hid h4.1
  have H6 := Lib.hid h4.2.1
  have H8 := Lib.hid h4.2.2.1
  have Low := Lib.hid low4
  have Hsz := Lib.hid hsz4
  have HRl := Lib.hid hRl
  clear hR h4 hw4 low4 hsz4 hRl hc hd
  cases all with
  | true =>
    go_enter Tryd.func27, Tryd.ntmps27
    go_upto_region 2 with (fail)
    rw [← Hw4.out]
    clear Hw4
    obtain ⟨g9, hg9⟩ : ∃ g9, g9 = w.heap.size + 1 + 1 + 1 := ⟨_, rfl⟩
    rw [← hg9] at HM0 ⊢
    obtain ⟨g8, hg8⟩ : ∃ g8, g8 = w.heap.size + 1 + 1 := ⟨_, rfl⟩
    rw [← hg8] at H8 ⊢
    obtain ⟨g6, hg6⟩ : ∃ g6, g6 = w.heap.size + 1 := ⟨_, rfl⟩
    rw [← hg6] at H6 ⊢
    obtain ⟨g5, hg5⟩ : ∃ g5, g5 = w.heap.size := ⟨_, rfl⟩
    rw [← hg5] at H5 ⊢
    have H96 : Hid (g6 < g9) := by show g6 < g9; omega
    have H95 : Hid (g5 < g9) := by show g5 < g9; omega
    have H98 : Hid (g8 < g9) := by show g8 < g9; omega
    have H9s : Hid (g9 ≤ w4.heap.size) := by show g9 ≤ w4.heap.size; have := Hsz.out; omega
    have HLow2 : Hid (∀ {wx : World}, Below g9 w4 wx → Below w.heap.size w wx) := fun h => Low.out.trans (h.mono (by omega))
    have H8w : Hid (w.heap.size ≤ g8) := by show w.heap.size ≤ g8; omega
    clear hg9 hg8 hg6 hg5
    go_wp2
    go_loopw [10] (fun i wr => ∃ k : Nat, k ≤ 64 ∧ i = .int .i64 ((k : Int) - 1) ∧ Hid (MI w4 g9 lv R k wr)) (fun i _ => (intOf i + 1).toNat)
    case atStart => exact ⟨64, by omega, rfl, HM0⟩
    case round =>
      obtain ⟨k, hk, rfl, hI⟩ := hrel
      clear HM0
      cases k with
      | zero =>
        rw [show ((0 : Nat) : Int) - 1 = -1 by rfl]
        have hrow := hI.out.row
        rw [Nat.pow_zero, Nat.div_one] at hrow
        have H9 := Lib.hid hrow
        have H8' := Lib.hid ((hI.out.low.block g8 H98.out).trans H8.out)
        have L9 := Lib.hid hI.out.low
        clear hrow hI
        go_wp2_with (first
          | (refine want_lab (.tmp 9) rfl g9 rfl _ _ H9.out rfl ?_)
          | (refine wpList_store_row rfl 24 (.tmp 8) (.tmp 47) rfl g8 (lab lv R) rfl rfl 24 _ H8'.out infoL rfl (lab_one _ _) ?_))
        have hrow : (World.setRow _ g8 (lab lv R)).heap[g8]? = some (.cells (lab lv R) 24 (0, 0)) := setRow_at H8'.out
        refine bodyPost_ret (v := .agg (lab lv R)) (results_cell_row rfl _ _ g8 24 _ (0, 0) _ rfl hrow Tryd.underlying24 rfl infoL) rfl ⟨rfl, ?_⟩
        exact below_setRow (HLow2.out L9.out) H8w.out _
      | succ q =>
        rw [show ((q + 1 : Nat) : Int) - 1 = (q : Int) by omega]
        have hq : q < 64 := by omega
        obtain ⟨x, hx⟩ : ∃ x, x = R / 2 ^ (q + 1) := ⟨_, rfl⟩
        have hrow := hI.out.row
        rw [← hx] at hrow
        have hh := half R q
        rw [← hx] at hh
        have hx2 : R / 2 ^ q ≤ R := Nat.div_le_self _ _
        have hx3 : R < 18446744073709551616 := HRl.out
        have hxb : (2 : Int) * x ≤ 18446744073709551615 := by omega
        have hwr : IntKind.u64.wrap (2 * (x : Int)) = 2 * (x : Int) := by rw [show IntKind.u64.wrap (2 * (x : Int)) = 2 * (x : Int) % 18446744073709551616 by simp [IntKind.wrap, IntKind.bits, IntKind.signed]]; omega
        have h91 : World.cell? _ ⟨g9, 1, none⟩ = some (.int .u64 (x : Nat)) := cell_row hrow 1
        have f91 := free_row hrow 1
        have Hx2 : Hid (R / 2 ^ q < 18446744073709551616) := by show _ < _; omega
        have Hh := Lib.hid hh
        have Hrow := Lib.hid hrow
        clear hh hx hx2 hx3 hrow hxb
        go_upto_region 6 with (fail)
        generalize hw5 : World.setCell _ _ _ = w5
        have r9 : w5.heap[g9]? = some (.cells (lab lv (2 * x)) 24 (0, 0)) := by
          rw [← hw5, heap_setCell_same _ _ _ _ _ _ Hrow.out]
          simp [lab]
        have l5 : Below g9 w4 w5 := by rw [← hw5]; exact hI.out.low.setCell (Nat.le_refl _) _
        have r5 : w5.heap[g5]? = some (.cells (lab a c) 24 (0, 0)) := (l5.block g5 H95.out).trans H5.out
        have r6 : w5.heap[g6]? = some (.cells (lab b d) 24 (0, 0)) := (l5.block g6 H96.out).trans H6.out
        have HF := Lib.hid (And.intro r5 (And.intro r6 (And.intro r9 l5)))
        clear hw5 r5 r6 r9 l5 h91 f91 hI Hrow hwr
        have hb := hbit.out q
        go_cut [42] (fun s42 wx => s42 = .bool (R.testBit q) ∧ Hid (wx.heap[g9]? = some (.cells (lab lv (2 * x)) 24 (0, 0)) ∧ Below g9 w4 wx))
        case first =>
          cases hcq : c.testBit q with
          | true =>
            cases hdq : d.testBit q with
            | true =>
              rw [hcq, hdq] at hb
              have Hb := Lib.hid hb
              clear hb
              go_wp2_with (first
                | (go_at_call 26; refine (has_any _ _ _ hq _).mono ?_; rintro e w6 ⟨rfl, low⟩; replace HF := Lib.hid (And.intro (kept low HF.out.1) (And.intro (kept low HF.out.2.1) (And.intro (kept low HF.out.2.2.1) (HF.out.2.2.2.trans (low.mono (Nat.le_trans H9s.out HF.out.2.2.2.size)))))); clear low)
                | ((with_reducible refine want_dst 21 rfl (.tmp 5) rfl g5 rfl _ _ HF.out.1 ?_ ?_); focus exact rfl)
                | ((with_reducible refine want_dst 25 rfl (.tmp 6) rfl g6 rfl _ _ HF.out.2.1 ?_ ?_); focus exact rfl))
              go_meet
              exact ⟨by rw [Hb.out]; rfl, HF.out.2.2.1, HF.out.2.2.2⟩
            | false =>
              rw [hcq, hdq] at hb
              have Hb := Lib.hid hb
              clear hb
              go_wp2_with (first
                | (go_at_call 26; refine (has_any _ _ _ hq _).mono ?_; rintro e w6 ⟨rfl, low⟩; replace HF := Lib.hid (And.intro (kept low HF.out.1) (And.intro (kept low HF.out.2.1) (And.intro (kept low HF.out.2.2.1) (HF.out.2.2.2.trans (low.mono (Nat.le_trans H9s.out HF.out.2.2.2.size)))))); clear low)
                | ((with_reducible refine want_dst 21 rfl (.tmp 5) rfl g5 rfl _ _ HF.out.1 ?_ ?_); focus exact rfl)
                | ((with_reducible refine want_dst 25 rfl (.tmp 6) rfl g6 rfl _ _ HF.out.2.1 ?_ ?_); focus exact rfl))
              go_meet
              exact ⟨by rw [Hb.out]; rfl, HF.out.2.2.1, HF.out.2.2.2⟩
          | false =>
            cases hdq : d.testBit q with
            | true =>
              rw [hcq, hdq] at hb
              have Hb := Lib.hid hb
              clear hb
              go_wp2_with (first
                | (go_at_call 26; refine (has_any _ _ _ hq _).mono ?_; rintro e w6 ⟨rfl, low⟩; replace HF := Lib.hid (And.intro (kept low HF.out.1) (And.intro (kept low HF.out.2.1) (And.intro (kept low HF.out.2.2.1) (HF.out.2.2.2.trans (low.mono (Nat.le_trans H9s.out HF.out.2.2.2.size)))))); clear low)
                | ((with_reducible refine want_dst 21 rfl (.tmp 5) rfl g5 rfl _ _ HF.out.1 ?_ ?_); focus exact rfl))
              go_meet
              exact ⟨by rw [Hb.out]; rfl, HF.out.2.2.1, HF.out.2.2.2⟩
            | false =>
              rw [hcq, hdq] at hb
              have Hb := Lib.hid hb
              clear hb
              go_wp2_with (first
                | (go_at_call 26; refine (has_any _ _ _ hq _).mono ?_; rintro e w6 ⟨rfl, low⟩; replace HF := Lib.hid (And.intro (kept low HF.out.1) (And.intro (kept low HF.out.2.1) (And.intro (kept low HF.out.2.2.1) (HF.out.2.2.2.trans (low.mono (Nat.le_trans H9s.out HF.out.2.2.2.size)))))); clear low)
                | ((with_reducible refine want_dst 21 rfl (.tmp 5) rfl g5 rfl _ _ HF.out.1 ?_ ?_); focus exact rfl))
              go_meet
              exact ⟨by rw [Hb.out]; rfl, HF.out.2.2.1, HF.out.2.2.2⟩
        case rest =>
          obtain ⟨rfl, hG⟩ := hcut
          clear hb HF
          cases hRq : R.testBit q with
          | true =>
            have hh := Hh.out
            rw [hRq, if_pos rfl] at hh
            have c91 : World.cell? _ ⟨g9, 1, none⟩ = some (.int .u64 ((2 * x : Nat) : Int)) := cell_row hG.out.1 1
            have f91 := free_row hG.out.1 1
            have hb1 : ((2 * x : Nat) : Int) + 1 ≤ 18446744073709551615 := by have := Hx2.out; omega
            have Hh2 := Lib.hid hh
            clear hh Hh
            go_wp2
            go_roundw
            case rel => exact ⟨q, by omega, by go_num, by rw [Hh2.out, heap_setCell_same _ _ _ _ _ _ hG.out.1]; simp [lab], hG.out.2.setCell (Nat.le_refl _) _⟩
            case measure => simp [intOf]
          | false =>
            have hh := Hh.out
            rw [hRq, if_neg (by decide), Nat.add_zero] at hh
            have Hh2 := Lib.hid hh
            clear hh Hh
            go_wp2
            go_roundw
            case rel => exact ⟨q, by omega, by go_num, by rw [Hh2.out]; exact hG.out.1, hG.out.2⟩
            case measure => simp [intOf]
  | false =>
    go_enter Tryd.func27, Tryd.ntmps27
    go_upto_region 2 with (fail)
    rw [← Hw4.out]
    clear Hw4
    obtain ⟨g9, hg9⟩ : ∃ g9, g9 = w.heap.size + 1 + 1 + 1 := ⟨_, rfl⟩
    rw [← hg9] at HM0 ⊢
    obtain ⟨g8, hg8⟩ : ∃ g8, g8 = w.heap.size + 1 + 1 := ⟨_, rfl⟩
    rw [← hg8] at H8 ⊢
    obtain ⟨g6, hg6⟩ : ∃ g6, g6 = w.heap.size + 1 := ⟨_, rfl⟩
    rw [← hg6] at H6 ⊢
    obtain ⟨g5, hg5⟩ : ∃ g5, g5 = w.heap.size := ⟨_, rfl⟩
    rw [← hg5] at H5 ⊢
    have H96 : Hid (g6 < g9) := by show g6 < g9; omega
    have H95 : Hid (g5 < g9) := by show g5 < g9; omega
    have H98 : Hid (g8 < g9) := by show g8 < g9; omega
    have H9s : Hid (g9 ≤ w4.heap.size) := by show g9 ≤ w4.heap.size; have := Hsz.out; omega
    have HLow2 : Hid (∀ {wx : World}, Below g9 w4 wx → Below w.heap.size w wx) := fun h => Low.out.trans (h.mono (by omega))
    have H8w : Hid (w.heap.size ≤ g8) := by show w.heap.size ≤ g8; omega
    clear hg9 hg8 hg6 hg5
    go_wp2
    go_loopw [10] (fun i wr => ∃ k : Nat, k ≤ 64 ∧ i = .int .i64 ((k : Int) - 1) ∧ Hid (MI w4 g9 lv R k wr)) (fun i _ => (intOf i + 1).toNat)
    case atStart => exact ⟨64, by omega, rfl, HM0⟩
    case round =>
      obtain ⟨k, hk, rfl, hI⟩ := hrel
      clear HM0
      cases k with
      | zero =>
        rw [show ((0 : Nat) : Int) - 1 = -1 by rfl]
        have hrow := hI.out.row
        rw [Nat.pow_zero, Nat.div_one] at hrow
        have H9 := Lib.hid hrow
        have H8' := Lib.hid ((hI.out.low.block g8 H98.out).trans H8.out)
        have L9 := Lib.hid hI.out.low
        clear hrow hI
        go_wp2_with (first
          | (refine want_lab (.tmp 9) rfl g9 rfl _ _ H9.out rfl ?_)
          | (refine wpList_store_row rfl 24 (.tmp 8) (.tmp 47) rfl g8 (lab lv R) rfl rfl 24 _ H8'.out infoL rfl (lab_one _ _) ?_))
        have hrow : (World.setRow _ g8 (lab lv R)).heap[g8]? = some (.cells (lab lv R) 24 (0, 0)) := setRow_at H8'.out
        refine bodyPost_ret (v := .agg (lab lv R)) (results_cell_row rfl _ _ g8 24 _ (0, 0) _ rfl hrow Tryd.underlying24 rfl infoL) rfl ⟨rfl, ?_⟩
        exact below_setRow (HLow2.out L9.out) H8w.out _
      | succ q =>
        rw [show ((q + 1 : Nat) : Int) - 1 = (q : Int) by omega]
        have hq : q < 64 := by omega
        obtain ⟨x, hx⟩ : ∃ x, x = R / 2 ^ (q + 1) := ⟨_, rfl⟩
        have hrow := hI.out.row
        rw [← hx] at hrow
        have hh := half R q
        rw [← hx] at hh
        have hx2 : R / 2 ^ q ≤ R := Nat.div_le_self _ _
        have hx3 : R < 18446744073709551616 := HRl.out
        have hxb : (2 : Int) * x ≤ 18446744073709551615 := by omega
        have hwr : IntKind.u64.wrap (2 * (x : Int)) = 2 * (x : Int) := by rw [show IntKind.u64.wrap (2 * (x : Int)) = 2 * (x : Int) % 18446744073709551616 by simp [IntKind.wrap, IntKind.bits, IntKind.signed]]; omega
        have h91 : World.cell? _ ⟨g9, 1, none⟩ = some (.int .u64 (x : Nat)) := cell_row hrow 1
        have f91 := free_row hrow 1
        have Hx2 : Hid (R / 2 ^ q < 18446744073709551616) := by show _ < _; omega
        have Hh := Lib.hid hh
        have Hrow := Lib.hid hrow
        clear hh hx hx2 hx3 hrow hxb
        go_upto_region 6 with (fail)
        generalize hw5 : World.setCell _ _ _ = w5
        have r9 : w5.heap[g9]? = some (.cells (lab lv (2 * x)) 24 (0, 0)) := by
          rw [← hw5, heap_setCell_same _ _ _ _ _ _ Hrow.out]
          simp [lab]
        have l5 : Below g9 w4 w5 := by rw [← hw5]; exact hI.out.low.setCell (Nat.le_refl _) _
        have r5 : w5.heap[g5]? = some (.cells (lab a c) 24 (0, 0)) := (l5.block g5 H95.out).trans H5.out
        have r6 : w5.heap[g6]? = some (.cells (lab b d) 24 (0, 0)) := (l5.block g6 H96.out).trans H6.out
        have HF := Lib.hid (And.intro r5 (And.intro r6 (And.intro r9 l5)))
        clear hw5 r5 r6 r9 l5 h91 f91 hI Hrow hwr
        have hb := hbit.out q
        go_cut [42] (fun s42 wx => s42 = .bool (R.testBit q) ∧ Hid (wx.heap[g9]? = some (.cells (lab lv (2 * x)) 24 (0, 0)) ∧ Below g9 w4 wx))
        case first =>
          cases hcq : c.testBit q with
          | true =>
            cases hdq : d.testBit q with
            | true =>
              rw [hcq, hdq] at hb
              have Hb := Lib.hid hb
              clear hb
              go_wp2_with (first
                | (go_at_call 26; refine (has_any _ _ _ hq _).mono ?_; rintro e w6 ⟨rfl, low⟩; replace HF := Lib.hid (And.intro (kept low HF.out.1) (And.intro (kept low HF.out.2.1) (And.intro (kept low HF.out.2.2.1) (HF.out.2.2.2.trans (low.mono (Nat.le_trans H9s.out HF.out.2.2.2.size)))))); clear low)
                | ((with_reducible refine want_dst 21 rfl (.tmp 5) rfl g5 rfl _ _ HF.out.1 ?_ ?_); focus exact rfl)
                | ((with_reducible refine want_dst 25 rfl (.tmp 6) rfl g6 rfl _ _ HF.out.2.1 ?_ ?_); focus exact rfl))
              go_meet
              exact ⟨by rw [Hb.out]; rfl, HF.out.2.2.1, HF.out.2.2.2⟩
            | false =>
              rw [hcq, hdq] at hb
              have Hb := Lib.hid hb
              clear hb
              go_wp2_with (first
                | (go_at_call 26; refine (has_any _ _ _ hq _).mono ?_; rintro e w6 ⟨rfl, low⟩; replace HF := Lib.hid (And.intro (kept low HF.out.1) (And.intro (kept low HF.out.2.1) (And.intro (kept low HF.out.2.2.1) (HF.out.2.2.2.trans (low.mono (Nat.le_trans H9s.out HF.out.2.2.2.size)))))); clear low)
                | ((with_reducible refine want_dst 21 rfl (.tmp 5) rfl g5 rfl _ _ HF.out.1 ?_ ?_); focus exact rfl)
                | ((with_reducible refine want_dst 25 rfl (.tmp 6) rfl g6 rfl _ _ HF.out.2.1 ?_ ?_); focus exact rfl)
                | ((with_reducible refine want_dst 33 rfl (.tmp 5) rfl g5 rfl _ _ HF.out.1 ?_ ?_); focus exact rfl))
              go_meet
              exact ⟨by rw [Hb.out]; rfl, HF.out.2.2.1, HF.out.2.2.2⟩
          | false =>
            cases hdq : d.testBit q with
            | true =>
              rw [hcq, hdq] at hb
              have Hb := Lib.hid hb
              clear hb
              go_wp2_with (first
                | (go_at_call 26; refine (has_any _ _ _ hq _).mono ?_; rintro e w6 ⟨rfl, low⟩; replace HF := Lib.hid (And.intro (kept low HF.out.1) (And.intro (kept low HF.out.2.1) (And.intro (kept low HF.out.2.2.1) (HF.out.2.2.2.trans (low.mono (Nat.le_trans H9s.out HF.out.2.2.2.size)))))); clear low)
                | ((with_reducible refine want_dst 21 rfl (.tmp 5) rfl g5 rfl _ _ HF.out.1 ?_ ?_); focus exact rfl)
                | ((with_reducible refine want_dst 33 rfl (.tmp 5) rfl g5 rfl _ _ HF.out.1 ?_ ?_); focus exact rfl)
                | ((with_reducible refine want_dst 37 rfl (.tmp 6) rfl g6 rfl _ _ HF.out.2.1 ?_ ?_); focus exact rfl))
              go_meet
              exact ⟨by rw [Hb.out]; rfl, HF.out.2.2.1, HF.out.2.2.2⟩
            | false =>
              rw [hcq, hdq] at hb
              have Hb := Lib.hid hb
              clear hb
              go_wp2_with (first
                | (go_at_call 26; refine (has_any _ _ _ hq _).mono ?_; rintro e w6 ⟨rfl, low⟩; replace HF := Lib.hid (And.intro (kept low HF.out.1) (And.intro (kept low HF.out.2.1) (And.intro (kept low HF.out.2.2.1) (HF.out.2.2.2.trans (low.mono (Nat.le_trans H9s.out HF.out.2.2.2.size)))))); clear low)
                | ((with_reducible refine want_dst 21 rfl (.tmp 5) rfl g5 rfl _ _ HF.out.1 ?_ ?_); focus exact rfl)
                | ((with_reducible refine want_dst 33 rfl (.tmp 5) rfl g5 rfl _ _ HF.out.1 ?_ ?_); focus exact rfl)
                | ((with_reducible refine want_dst 37 rfl (.tmp 6) rfl g6 rfl _ _ HF.out.2.1 ?_ ?_); focus exact rfl))
              go_meet
              exact ⟨by rw [Hb.out]; rfl, HF.out.2.2.1, HF.out.2.2.2⟩
        case rest =>
          obtain ⟨rfl, hG⟩ := hcut
          clear hb HF
          cases hRq : R.testBit q with
          | true =>
            have hh := Hh.out
            rw [hRq, if_pos rfl] at hh
            have c91 : World.cell? _ ⟨g9, 1, none⟩ = some (.int .u64 ((2 * x : Nat) : Int)) := cell_row hG.out.1 1
            have f91 := free_row hG.out.1 1
            have hb1 : ((2 * x : Nat) : Int) + 1 ≤ 18446744073709551615 := by have := Hx2.out; omega
            have Hh2 := Lib.hid hh
            clear hh Hh
            go_wp2
            go_roundw
            case rel => exact ⟨q, by omega, by go_num, by rw [Hh2.out, heap_setCell_same _ _ _ _ _ _ hG.out.1]; simp [lab], hG.out.2.setCell (Nat.le_refl _) _⟩
            case measure => simp [intOf]
          | false =>
            have hh := Hh.out
            rw [hRq, if_neg (by decide), Nat.add_zero] at hh
            have Hh2 := Lib.hid hh
            clear hh Hh
            go_wp2
            go_roundw
            case rel => exact ⟨q, by omega, by go_num, by rw [Hh2.out]; exact hG.out.1, hG.out.2⟩
            case measure => simp [intOf]
set_option maxHeartbeats 2000000 in
theorem refJoin_any (a b : Int) (c d : Nat) (hc : OkC c) (hd : OkC d) (w : World) :
    Calls Tryd.prog 12 #[.agg (lab a c), .agg (lab b d)] w fun e w' => e = .returned (.agg (lab (max a b) (c ||| d))) ∧ Below w.heap.size w w' := by
  have h3 := three_new w (.cells (lab a c) 24) (.cells (lab b d) 24) (.cells #[.int .i64 0, .int .u64 0] 24)
  have low : Below w.heap.size w (((w.alloc (.cells (lab a c) 24)).alloc (.cells (lab b d) 24)).alloc (.cells #[.int .i64 0, .int .u64 0] 24)) := (((Below.refl _ _).alloc (Nat.le_refl _) _).alloc (by simp) _).alloc (by simp; omega) _
  obtain ⟨w3, hw3⟩ : ∃ w3, w3 = ((w.alloc (.cells (lab a c) 24)).alloc (.cells (lab b d) 24)).alloc (.cells #[.int .i64 0, .int .u64 0] 24) := ⟨_, rfl⟩
  rw [← hw3] at h3 low
  have Low := Lib.hid low
  have H2 := Lib.hid h3.1
  have H3 := Lib.hid h3.2.1
  have H4 := Lib.hid h3.2.2
  have Hw3 := Lib.hid hw3
  have a0 : w3.cell? ⟨w.heap.size, 0, none⟩ = some (.int .i64 a) := cell_row h3.1 0
  have b0 : w3.cell? ⟨w.heap.size + 1, 0, none⟩ = some (.int .i64 b) := cell_row h3.2.1 0
  have HB := Lib.hid (fun x wx => both_any x a b c d false hc hd wx)
  clear low h3 hw3 hc hd
  obtain ⟨x, hx⟩ : ∃ x, x = max a b := ⟨_, rfl⟩
  rw [← hx]
  by_cases hab : b > a
  · obtain rfl : x = b := by omega
    have Hx := Lib.hid hx
    clear hx
    go_enter Tryd.func12, Tryd.ntmps12
    go_upto_region 1 with (fail)
    rw [← Hw3.out]
    clear Hw3
    obtain ⟨g4, hg4⟩ : ∃ g4, g4 = w.heap.size + 1 + 1 := ⟨_, rfl⟩
    have H4' : Hid (w3.heap[g4]? = some (.cells #[.int .i64 0, .int .u64 0] 24 (0, 0))) := by rw [hg4]; exact H4.out
    obtain ⟨g3, hg3⟩ : ∃ g3, g3 = w.heap.size + 1 := ⟨_, rfl⟩
    rw [← hg4]
    rw [← hg3] at H3 b0 ⊢
    obtain ⟨g2, hg2⟩ : ∃ g2, g2 = w.heap.size := ⟨_, rfl⟩
    rw [← hg2] at H2 a0 ⊢
    have Hg : Hid (w.heap.size ≤ g4) := by show w.heap.size ≤ g4; omega
    clear hg4 hg3 hg2
    go_wp2_with (first
      | (go_at_call 27; refine (HB.out _ _).mono ?_; rintro e w6 ⟨rfl, low⟩; have LB := Lib.hid low; have H4b := Lib.hid (kept low H4'.out); clear low)
      | ((with_reducible refine want_dst 15 rfl (.tmp 2) rfl g2 rfl _ _ H2.out ?_ ?_); focus exact rfl)
      | ((with_reducible refine want_dst 16 rfl (.tmp 3) rfl g3 rfl _ _ H3.out ?_ ?_); focus exact rfl)
      | (refine wpList_store_row rfl 24 (.tmp 4) (.tmp 17) rfl g4 _ rfl rfl 24 _ H4b.out infoL rfl (lab_one _ _) ?_))
    have hrow : (World.setRow _ g4 (lab x (c ||| d))).heap[g4]? = some (.cells (lab x (c ||| d)) 24 (0, 0)) := setRow_at H4b.out
    refine bodyPost_ret (v := .agg (lab x (c ||| d))) (results_cell_row rfl _ _ g4 24 _ (0, 0) _ rfl hrow Tryd.underlying24 rfl infoL) rfl ⟨rfl, ?_⟩
    exact below_setRow (Low.out.trans (LB.out.mono Low.out.size)) Hg.out _
  · obtain rfl : x = a := by omega
    have Hx := Lib.hid hx
    clear hx
    go_enter Tryd.func12, Tryd.ntmps12
    go_upto_region 1 with (fail)
    rw [← Hw3.out]
    clear Hw3
    obtain ⟨g4, hg4⟩ : ∃ g4, g4 = w.heap.size + 1 + 1 := ⟨_, rfl⟩
    have H4' : Hid (w3.heap[g4]? = some (.cells #[.int .i64 0, .int .u64 0] 24 (0, 0))) := by rw [hg4]; exact H4.out
    obtain ⟨g3, hg3⟩ : ∃ g3, g3 = w.heap.size + 1 := ⟨_, rfl⟩
    rw [← hg4]
    rw [← hg3] at H3 b0 ⊢
    obtain ⟨g2, hg2⟩ : ∃ g2, g2 = w.heap.size := ⟨_, rfl⟩
    rw [← hg2] at H2 a0 ⊢
    have Hg : Hid (w.heap.size ≤ g4) := by show w.heap.size ≤ g4; omega
    clear hg4 hg3 hg2
    go_wp2_with (first
      | (go_at_call 27; refine (HB.out _ _).mono ?_; rintro e w6 ⟨rfl, low⟩; have LB := Lib.hid low; have H4b := Lib.hid (kept low H4'.out); clear low)
      | ((with_reducible refine want_dst 15 rfl (.tmp 2) rfl g2 rfl _ _ H2.out ?_ ?_); focus exact rfl)
      | ((with_reducible refine want_dst 16 rfl (.tmp 3) rfl g3 rfl _ _ H3.out ?_ ?_); focus exact rfl)
      | (refine wpList_store_row rfl 24 (.tmp 4) (.tmp 17) rfl g4 _ rfl rfl 24 _ H4b.out infoL rfl (lab_one _ _) ?_))
    have hrow : (World.setRow _ g4 (lab x (c ||| d))).heap[g4]? = some (.cells (lab x (c ||| d)) 24 (0, 0)) := setRow_at H4b.out
    refine bodyPost_ret (v := .agg (lab x (c ||| d))) (results_cell_row rfl _ _ g4 24 _ (0, 0) _ rfl hrow Tryd.underlying24 rfl infoL) rfl ⟨rfl, ?_⟩
    exact below_setRow (Low.out.trans (LB.out.mono Low.out.size)) Hg.out _
set_option maxHeartbeats 2000000 in
theorem refMeet_any (a b : Int) (c d : Nat) (hc : OkC c) (hd : OkC d) (w : World) :
    Calls Tryd.prog 14 #[.agg (lab a c), .agg (lab b d)] w fun e w' => e = .returned (.agg (lab (min a b) (c &&& d))) ∧ Below w.heap.size w w' := by
  have h3 := three_new w (.cells (lab a c) 24) (.cells (lab b d) 24) (.cells #[.int .i64 0, .int .u64 0] 24)
  have low : Below w.heap.size w (((w.alloc (.cells (lab a c) 24)).alloc (.cells (lab b d) 24)).alloc (.cells #[.int .i64 0, .int .u64 0] 24)) := (((Below.refl _ _).alloc (Nat.le_refl _) _).alloc (by simp) _).alloc (by simp; omega) _
  obtain ⟨w3, hw3⟩ : ∃ w3, w3 = ((w.alloc (.cells (lab a c) 24)).alloc (.cells (lab b d) 24)).alloc (.cells #[.int .i64 0, .int .u64 0] 24) := ⟨_, rfl⟩
  rw [← hw3] at h3 low
  have Low := Lib.hid low
  have H2 := Lib.hid h3.1
  have H3 := Lib.hid h3.2.1
  have H4 := Lib.hid h3.2.2
  have Hw3 := Lib.hid hw3
  have a0 : w3.cell? ⟨w.heap.size, 0, none⟩ = some (.int .i64 a) := cell_row h3.1 0
  have b0 : w3.cell? ⟨w.heap.size + 1, 0, none⟩ = some (.int .i64 b) := cell_row h3.2.1 0
  have HB := Lib.hid (fun x wx => both_any x a b c d true hc hd wx)
  clear low h3 hw3 hc hd
  obtain ⟨x, hx⟩ : ∃ x, x = min a b := ⟨_, rfl⟩
  rw [← hx]
  by_cases hab : b < a
  · obtain rfl : x = b := by omega
    have Hx := Lib.hid hx
    clear hx
    go_enter Tryd.func14, Tryd.ntmps14
    go_upto_region 1 with (fail)
    rw [← Hw3.out]
    clear Hw3
    obtain ⟨g4, hg4⟩ : ∃ g4, g4 = w.heap.size + 1 + 1 := ⟨_, rfl⟩
    have H4' : Hid (w3.heap[g4]? = some (.cells #[.int .i64 0, .int .u64 0] 24 (0, 0))) := by rw [hg4]; exact H4.out
    obtain ⟨g3, hg3⟩ : ∃ g3, g3 = w.heap.size + 1 := ⟨_, rfl⟩
    rw [← hg4]
    rw [← hg3] at H3 b0 ⊢
    obtain ⟨g2, hg2⟩ : ∃ g2, g2 = w.heap.size := ⟨_, rfl⟩
    rw [← hg2] at H2 a0 ⊢
    have Hg : Hid (w.heap.size ≤ g4) := by show w.heap.size ≤ g4; omega
    clear hg4 hg3 hg2
    go_wp2_with (first
      | (go_at_call 27; refine (HB.out _ _).mono ?_; rintro e w6 ⟨rfl, low⟩; have LB := Lib.hid low; have H4b := Lib.hid (kept low H4'.out); clear low)
      | ((with_reducible refine want_dst 15 rfl (.tmp 2) rfl g2 rfl _ _ H2.out ?_ ?_); focus exact rfl)
      | ((with_reducible refine want_dst 16 rfl (.tmp 3) rfl g3 rfl _ _ H3.out ?_ ?_); focus exact rfl)
      | (refine wpList_store_row rfl 24 (.tmp 4) (.tmp 17) rfl g4 _ rfl rfl 24 _ H4b.out infoL rfl (lab_one _ _) ?_))
    have hrow : (World.setRow _ g4 (lab x (c &&& d))).heap[g4]? = some (.cells (lab x (c &&& d)) 24 (0, 0)) := setRow_at H4b.out
    refine bodyPost_ret (v := .agg (lab x (c &&& d))) (results_cell_row rfl _ _ g4 24 _ (0, 0) _ rfl hrow Tryd.underlying24 rfl infoL) rfl ⟨rfl, ?_⟩
    exact below_setRow (Low.out.trans (LB.out.mono Low.out.size)) Hg.out _
  · obtain rfl : x = a := by omega
    have Hx := Lib.hid hx
    clear hx
    go_enter Tryd.func14, Tryd.ntmps14
    go_upto_region 1 with (fail)
    rw [← Hw3.out]
    clear Hw3
    obtain ⟨g4, hg4⟩ : ∃ g4, g4 = w.heap.size + 1 + 1 := ⟨_, rfl⟩
    have H4' : Hid (w3.heap[g4]? = some (.cells #[.int .i64 0, .int .u64 0] 24 (0, 0))) := by rw [hg4]; exact H4.out
    obtain ⟨g3, hg3⟩ : ∃ g3, g3 = w.heap.size + 1 := ⟨_, rfl⟩
    rw [← hg4]
    rw [← hg3] at H3 b0 ⊢
    obtain ⟨g2, hg2⟩ : ∃ g2, g2 = w.heap.size := ⟨_, rfl⟩
    rw [← hg2] at H2 a0 ⊢
    have Hg : Hid (w.heap.size ≤ g4) := by show w.heap.size ≤ g4; omega
    clear hg4 hg3 hg2
    go_wp2_with (first
      | (go_at_call 27; refine (HB.out _ _).mono ?_; rintro e w6 ⟨rfl, low⟩; have LB := Lib.hid low; have H4b := Lib.hid (kept low H4'.out); clear low)
      | ((with_reducible refine want_dst 15 rfl (.tmp 2) rfl g2 rfl _ _ H2.out ?_ ?_); focus exact rfl)
      | ((with_reducible refine want_dst 16 rfl (.tmp 3) rfl g3 rfl _ _ H3.out ?_ ?_); focus exact rfl)
      | (refine wpList_store_row rfl 24 (.tmp 4) (.tmp 17) rfl g4 _ rfl rfl 24 _ H4b.out infoL rfl (lab_one _ _) ?_))
    have hrow : (World.setRow _ g4 (lab x (c &&& d))).heap[g4]? = some (.cells (lab x (c &&& d)) 24 (0, 0)) := setRow_at H4b.out
    refine bodyPost_ret (v := .agg (lab x (c &&& d))) (results_cell_row rfl _ _ g4 24 _ (0, 0) _ rfl hrow Tryd.underlying24 rfl infoL) rfl ⟨rfl, ?_⟩
    exact below_setRow (Low.out.trans (LB.out.mono Low.out.size)) Hg.out _
/-- the order of labels. -/
def ordL (a : Int) (c : Nat) (b : Int) (d : Nat) : Int := if a < b then -1 else if b < a then 1 else if c < d then -1 else if d < c then 1 else 0
set_option maxHeartbeats 4000000 in
theorem order_any (a b : Int) (c d : Nat) (w : World) :
    Calls Tryd.prog 15 #[.agg (lab a c), .agg (lab b d)] w fun e w' => e = .returned (.int .i64 (ordL a c b d)) ∧ Below w.heap.size w w' := by
  have low : Below w.heap.size w ((w.alloc (.cells (lab a c) 24)).alloc (.cells (lab b d) 24)) := ((Below.refl _ _).alloc (Nat.le_refl _) _).alloc (by simp) _
  have Low := Lib.hid low
  clear low
  by_cases h1 : a < b
  · have h1n : ¬ a = b := by omega
    have Hc : Hid (ordL a c b d = -1) := by show ordL a c b d = -1; unfold ordL; repeat (first | rw [if_pos (by omega)] | rw [if_neg (by omega)])
    go_enter Tryd.func15, Tryd.ntmps15
    go_wp2
    go_ret
    exact ⟨by rw [Hc.out]; rfl, Low.out⟩
  · by_cases h2 : b < a
    · have h2n : ¬ a = b := by omega
      have Hc : Hid (ordL a c b d = 1) := by show ordL a c b d = 1; unfold ordL; repeat (first | rw [if_pos (by omega)] | rw [if_neg (by omega)])
      go_enter Tryd.func15, Tryd.ntmps15
      go_wp2
      go_ret
      exact ⟨by rw [Hc.out]; rfl, Low.out⟩
    · obtain rfl : a = b := by omega
      by_cases h3 : c < d
      · have h3' : (c : Int) < d := by omega
        have Hc : Hid (ordL a c a d = -1) := by show ordL a c a d = -1; unfold ordL; repeat (first | rw [if_pos (by omega)] | rw [if_neg (by omega)])
        go_enter Tryd.func15, Tryd.ntmps15
        go_wp2
        go_ret
        exact ⟨by rw [Hc.out]; rfl, Low.out⟩
      · have h3' : ¬ (c : Int) < d := by omega
        by_cases h4 : d < c
        · have h4' : (d : Int) < c := by omega
          have Hc : Hid (ordL a c a d = 1) := by show ordL a c a d = 1; unfold ordL; repeat (first | rw [if_pos (by omega)] | rw [if_neg (by omega)])
          go_enter Tryd.func15, Tryd.ntmps15
          go_wp2
          go_ret
          exact ⟨by rw [Hc.out]; rfl, Low.out⟩
        · have h4' : ¬ (d : Int) < c := by omega
          have Hc : Hid (ordL a c a d = 0) := by show ordL a c a d = 0; unfold ordL; repeat (first | rw [if_pos (by omega)] | rw [if_neg (by omega)])
          go_enter Tryd.func15, Tryd.ntmps15
          go_wp2
          go_ret
          exact ⟨by rw [Hc.out]; rfl, Low.out⟩
set_option maxHeartbeats 4000000 in
theorem refOrder_any (a b : Int) (c d : Nat) (w : World) :
    Calls Tryd.prog 16 #[.agg (lab a c), .agg (lab b d)] w fun e w' => e = .returned (.int .i64 (ordL a c b d)) ∧ Below w.heap.size w w' := by
  have low : Below w.heap.size w ((w.alloc (.cells (lab a c) 24)).alloc (.cells (lab b d) 24)) := ((Below.refl _ _).alloc (Nat.le_refl _) _).alloc (by simp) _
  have Low := Lib.hid low
  clear low
  by_cases h1 : a < b
  · have h1n : ¬ a = b := by omega
    have Hc : Hid (ordL a c b d = -1) := by show ordL a c b d = -1; unfold ordL; repeat (first | rw [if_pos (by omega)] | rw [if_neg (by omega)])
    go_enter Tryd.func16, Tryd.ntmps16
    go_wp2
    go_ret
    exact ⟨by rw [Hc.out]; rfl, Low.out⟩
  · by_cases h2 : b < a
    · have h2n : ¬ a = b := by omega
      have Hc : Hid (ordL a c b d = 1) := by show ordL a c b d = 1; unfold ordL; repeat (first | rw [if_pos (by omega)] | rw [if_neg (by omega)])
      go_enter Tryd.func16, Tryd.ntmps16
      go_wp2
      go_ret
      exact ⟨by rw [Hc.out]; rfl, Low.out⟩
    · obtain rfl : a = b := by omega
      by_cases h3 : c < d
      · have h3' : (c : Int) < d := by omega
        have Hc : Hid (ordL a c a d = -1) := by show ordL a c a d = -1; unfold ordL; repeat (first | rw [if_pos (by omega)] | rw [if_neg (by omega)])
        go_enter Tryd.func16, Tryd.ntmps16
        go_wp2
        go_ret
        exact ⟨by rw [Hc.out]; rfl, Low.out⟩
      · have h3' : ¬ (c : Int) < d := by omega
        by_cases h4 : d < c
        · have h4' : (d : Int) < c := by omega
          have Hc : Hid (ordL a c a d = 1) := by show ordL a c a d = 1; unfold ordL; repeat (first | rw [if_pos (by omega)] | rw [if_neg (by omega)])
          go_enter Tryd.func16, Tryd.ntmps16
          go_wp2
          go_ret
          exact ⟨by rw [Hc.out]; rfl, Low.out⟩
        · have h4' : ¬ (d : Int) < c := by omega
          have Hc : Hid (ordL a c a d = 0) := by show ordL a c a d = 0; unfold ordL; repeat (first | rw [if_pos (by omega)] | rw [if_neg (by omega)])
          go_enter Tryd.func16, Tryd.ntmps16
          go_wp2
          go_ret
          exact ⟨by rw [Hc.out]; rfl, Low.out⟩
end Go.Proofs.YtmgjhinbkhebjaaDoor.Lab
