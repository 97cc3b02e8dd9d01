/- DERIVED. Texts of ours, merged: XRefChaBlock XRefChaStream. -/
import Derived.Test.YtgkmbamoffolgaaDoorMseal24
import Derived.Test.YtgkmbamoffolgaaDoorMseal8
import Derived.Deep.DeepCutAuto
import Derived.Test.YtgkmbamoffolgaaDoorMseal10
import Derived.IntWalk
import Derived.Deep.RegionWith
/- DERIVED. The contract of the reference's Block of layer 3. Written by mkrefblock.py. -/
namespace Go.Proofs.YtgkmbamoffolgaaDoor.Cha
open Go.RowKit
/-- what the first loop keeps. -/
structure RB (S L : List Int) (gS gL : Nat) (w wx : World) : Prop where
  src : Wds wx gS S
  mix : Wds wx gL L
  res : wx.heap[w.heap.size + 1 + 1]? = some (.cells (u8s zeros64) 61 (0, 0))
  low : Below w.heap.size w wx
theorem RB.next {S L L' : List Int} {gS gL g' : Nat} {w wx wy : World} (h : RB S L gS gL w wx) (hb : Below wx.heap.size wx wy) (hw : Wds wy g' L') : RB S L' gS g' w wy := by
  have h1 := (Array.getElem?_eq_some_iff.1 h.res).1
  exact ⟨h.src.below hb h.src.1, hw, (hb.block _ h1).trans h.res, h.low.trans (hb.mono (by omega))⟩
/-- what the second loop keeps. -/
structure RO (S M : List Int) (gS gM G j : Nat) (w wx : World) : Prop where
  src : Wds wx gS S
  mix : Wds wx gM M
  res : wx.heap[w.heap.size + 1 + 1]? = some (.cells (u8s zeros64) 61 (0, 0))
  row : ∃ C : Array Value, HoldsB C 64 j (outF M S) ∧ wx.heap[G]? = some (.cells C 61 (0, 0))
  sep : gS < G ∧ gM < G ∧ w.heap.size + 1 + 1 < G
  low : Below w.heap.size w wx
theorem RO.set {S M : List Int} {gS gM G j : Nat} {w wx : World} (h : RO S M gS gM G j w wx) (hj : j < 64) (v : Int) (hv : v = outF M S j) : RO S M gS gM G (j + 1) w (wx.setCell ⟨G, j, none⟩ (.int .u8 v)) := by
  obtain ⟨C, hC, hr⟩ := h.row
  obtain ⟨s1, s2, s3⟩ := h.sep
  have e1 : (wx.setCell ⟨G, j, none⟩ (.int .u8 v)).heap[gS]? = wx.heap[gS]? := heap_setCell_other _ _ _ _ (by simp; omega)
  have e2 : (wx.setCell ⟨G, j, none⟩ (.int .u8 v)).heap[gM]? = wx.heap[gM]? := heap_setCell_other _ _ _ _ (by simp; omega)
  refine ⟨⟨by simpa using h.src.1, fun i hi => (World.cell?_of_block e1).trans (h.src.2 i hi)⟩, ⟨by simpa using h.mix.1, fun i hi => (World.cell?_of_block e2).trans (h.mix.2 i hi)⟩, ?_, ⟨_, hC.set hj v hv, heap_setCell_same _ _ _ _ _ _ hr⟩, h.sep, h.low.setCell (by simp; omega) _⟩
  rw [heap_setCell_other _ _ _ _ (by simp; omega)]
  exact h.res
theorem RO.drewN {S M : List Int} {gS gM G j : Nat} {w wx : World} (h : RO S M gS gM G j w wx) (n : Nat) : RO S M gS gM G j w (wx.drewN n) :=
  ⟨h.src, h.mix, h.res, h.row, h.sep, Below.drewN h.low n⟩
theorem outF_step (M S : List Int) (k j : Nat) (hj : j < 4) (x : Int) (hx : x = (M.getD k 0 + S.getD k 0) % 4294967296) : x / 256 ^ j % 256 = outF M S (4 * k + j) := by
  obtain ⟨h0, h1, h2, h3⟩ := outF_at M S k x hx
  obtain rfl | rfl | rfl | rfl : j = 0 ∨ j = 1 ∨ j = 2 ∨ j = 3 := by omega
  · rw [Nat.add_zero, h0, show (256 : Int) ^ 0 = 1 from rfl, Int.ediv_one]
  · rw [h1]; rfl
  · rw [h2]; rfl
  · rw [h3]; rfl
theorem pow_step (x : Int) (j : Nat) : x / 256 ^ j / 256 = x / 256 ^ (j + 1) := by
  rw [Int.ediv_ediv_of_nonneg (Int.pow_nonneg (by decide)), Int.pow_succ]
set_option maxRecDepth 100000 in
set_option maxHeartbeats 4000000 in
theorem rblock_any (K Nn : List Int) (c : Int) (hK : K.length = 32) (hN : Nn.length = 12) (bK : InB K) (bN : InB Nn) (w : World) :
    Calls Tryd.prog 53 #[.agg (u8s K), .int .u32 c, .agg (u8s Nn)] w fun e' w' => e' = .returned (.agg (u8s (blockL K c Nn))) ∧ Below w.heap.size w w' := by
  have h3 := Lib.hid (three_new w)
  have b3 := Lib.hid (below3 w)
  have Hf := Lib.hid (rfirst_any K Nn c hK hN bK bN)
  have HsK : Hid ((Tryd.prog.info? 23).map (·.size) = some (u8s K).size) := by show _ = _; rw [u8s_size, hK]; kernel_rfl
  have HsN : Hid ((Tryd.prog.info? 67).map (·.size) = some (u8s Nn).size) := by show _ = _; rw [u8s_size, hN]; kernel_rfl
  obtain ⟨S, hS⟩ : ∃ S, S = stL K c Nn := ⟨_, rfl⟩
  have HS := Lib.hid hS
  have Hl : Hid (S.length = 16) := by show _ = _; rw [hS, stL_length]
  clear hK hN bK bN hS
  go_enter Tryd.func53, Tryd.ntmps53
  go_wp2_with (first
    | (with_reducible refine wpList_load_row rfl 23 (.tmp 3) rfl w.heap.size rfl 23 (u8s K) (0, 0) _ (h3.out _ _ _).1 Tryd.underlying23 rfl HsK.out ?_)
    | (with_reducible refine wpList_load_row rfl 67 (.tmp 5) rfl (w.heap.size + 1) rfl 67 (u8s Nn) (0, 0) _ (h3.out _ _ _).2.1 Tryd.underlying67 rfl HsN.out ?_)
    | (go_at_call 65; refine (Hf.out _).mono ?_; rintro e w1 ⟨gS, cS, rfl, -, hwS, low1⟩; rw [← HS.out] at hwS; have HwS := Lib.hid hwS; have Low1 := Lib.hid low1; clear hwS low1))
  have hr0 : RB S (drs S 0) gS gS w w1 := ⟨HwS.out, HwS.out, (Low1.out.block _ (by simp)).trans (h3.out _ _ _).2.2, (b3.out _ _ _).trans (Low1.out.mono (by simp; omega))⟩
  have Hr0 := Lib.hid hr0
  clear hr0 HwS Low1 h3 b3 Hf HsK HsN
  go_loopw [8, 9] (fun v i wr => ∃ k : Nat, k ≤ 10 ∧ i = .int .i64 k ∧ ∃ g cap, v = .slice (some ⟨g, 0, none⟩) 16 cap ∧ Hid (RB S (drs S k) gS g w wr)) (fun _ i _ => 10 - (intOf i).toNat)
  case atStart => exact ⟨0, Nat.zero_le _, rfl, gS, cS, rfl, Hr0.out⟩
  case round =>
    clear Hr0
    obtain ⟨k, hk, rfl, g0, c0, rfl, R0⟩ := hrel
    by_cases hlt10 : k < 10
    · have hlt' : (k : Int) < 10 := by omega
      obtain ⟨L0, e0⟩ : ∃ L0, L0 = drs S k := ⟨_, rfl⟩
      obtain ⟨L1, e1⟩ : ∃ L1, L1 = qstep L0 0 4 8 12 := ⟨_, rfl⟩
      obtain ⟨L2, e2⟩ : ∃ L2, L2 = qstep L1 1 5 9 13 := ⟨_, rfl⟩
      obtain ⟨L3, e3⟩ : ∃ L3, L3 = qstep L2 2 6 10 14 := ⟨_, rfl⟩
      obtain ⟨L4, e4⟩ : ∃ L4, L4 = qstep L3 3 7 11 15 := ⟨_, rfl⟩
      obtain ⟨L5, e5⟩ : ∃ L5, L5 = qstep L4 0 5 10 15 := ⟨_, rfl⟩
      obtain ⟨L6, e6⟩ : ∃ L6, L6 = qstep L5 1 6 11 12 := ⟨_, rfl⟩
      obtain ⟨L7, e7⟩ : ∃ L7, L7 = qstep L6 2 7 8 13 := ⟨_, rfl⟩
      obtain ⟨L8, e8⟩ : ∃ L8, L8 = qstep L7 3 4 9 14 := ⟨_, rfl⟩
      have E1 := Lib.hid e1
      have E2 := Lib.hid e2
      have E3 := Lib.hid e3
      have E4 := Lib.hid e4
      have E5 := Lib.hid e5
      have E6 := Lib.hid e6
      have E7 := Lib.hid e7
      have E8 := Lib.hid e8
      have HD : Hid (drs S (k + 1) = L8) := by show _ = _; rw [e8, e7, e6, e5, e4, e3, e2, e1, e0]; rfl
      have n0 : Hid (L0.length = 16) := by show _ = _; rw [e0, drs_length, Hl.out]
      have n1 : Hid (L1.length = 16) := by show _ = _; rw [e1, qstep_length, n0.out]
      have n2 : Hid (L2.length = 16) := by show _ = _; rw [e2, qstep_length, n1.out]
      have n3 : Hid (L3.length = 16) := by show _ = _; rw [e3, qstep_length, n2.out]
      have n4 : Hid (L4.length = 16) := by show _ = _; rw [e4, qstep_length, n3.out]
      have n5 : Hid (L5.length = 16) := by show _ = _; rw [e5, qstep_length, n4.out]
      have n6 : Hid (L6.length = 16) := by show _ = _; rw [e6, qstep_length, n5.out]
      have n7 : Hid (L7.length = 16) := by show _ = _; rw [e7, qstep_length, n6.out]
      rw [← e0] at R0
      clear e0 e1 e2 e3 e4 e5 e6 e7 e8
      go_wp2_with (first
        | (go_at_call 66; refine (rround_any L7 n7.out g7 c7 3 4 9 14 _ _ _ _ rfl rfl rfl rfl (by decide) (by decide) (by decide) (by decide) _ R7.out.mix).mono ?_; rintro e x8 ⟨g8, c8, rfl, -, hw8, low8⟩; rw [← E8.out] at hw8; have R8 := Lib.hid (R7.out.next low8 hw8); clear hw8 low8)
        | (go_at_call 66; refine (rround_any L6 n6.out g6 c6 2 7 8 13 _ _ _ _ rfl rfl rfl rfl (by decide) (by decide) (by decide) (by decide) _ R6.out.mix).mono ?_; rintro e x7 ⟨g7, c7, rfl, -, hw7, low7⟩; rw [← E7.out] at hw7; have R7 := Lib.hid (R6.out.next low7 hw7); clear hw7 low7)
        | (go_at_call 66; refine (rround_any L5 n5.out g5 c5 1 6 11 12 _ _ _ _ rfl rfl rfl rfl (by decide) (by decide) (by decide) (by decide) _ R5.out.mix).mono ?_; rintro e x6 ⟨g6, c6, rfl, -, hw6, low6⟩; rw [← E6.out] at hw6; have R6 := Lib.hid (R5.out.next low6 hw6); clear hw6 low6)
        | (go_at_call 66; refine (rround_any L4 n4.out g4 c4 0 5 10 15 _ _ _ _ rfl rfl rfl rfl (by decide) (by decide) (by decide) (by decide) _ R4.out.mix).mono ?_; rintro e x5 ⟨g5, c5, rfl, -, hw5, low5⟩; rw [← E5.out] at hw5; have R5 := Lib.hid (R4.out.next low5 hw5); clear hw5 low5)
        | (go_at_call 66; refine (rround_any L3 n3.out g3 c3 3 7 11 15 _ _ _ _ rfl rfl rfl rfl (by decide) (by decide) (by decide) (by decide) _ R3.out.mix).mono ?_; rintro e x4 ⟨g4, c4, rfl, -, hw4, low4⟩; rw [← E4.out] at hw4; have R4 := Lib.hid (R3.out.next low4 hw4); clear hw4 low4)
        | (go_at_call 66; refine (rround_any L2 n2.out g2 c2 2 6 10 14 _ _ _ _ rfl rfl rfl rfl (by decide) (by decide) (by decide) (by decide) _ R2.out.mix).mono ?_; rintro e x3 ⟨g3, c3, rfl, -, hw3, low3⟩; rw [← E3.out] at hw3; have R3 := Lib.hid (R2.out.next low3 hw3); clear hw3 low3)
        | (go_at_call 66; refine (rround_any L1 n1.out g1 c1 1 5 9 13 _ _ _ _ rfl rfl rfl rfl (by decide) (by decide) (by decide) (by decide) _ R1.out.mix).mono ?_; rintro e x2 ⟨g2, c2, rfl, -, hw2, low2⟩; rw [← E2.out] at hw2; have R2 := Lib.hid (R1.out.next low2 hw2); clear hw2 low2)
        | (go_at_call 66; refine (rround_any L0 n0.out g0 c0 0 4 8 12 _ _ _ _ rfl rfl rfl rfl (by decide) (by decide) (by decide) (by decide) _ R0.out.mix).mono ?_; rintro e x1 ⟨g1, c1, rfl, -, hw1, low1⟩; rw [← E1.out] at hw1; have R1 := Lib.hid (R0.out.next low1 hw1); clear hw1 low1))
      go_roundw
      case rel => exact ⟨k + 1, by omega, by go_num, g8, c8, rfl, by rw [HD.out]; exact R8.out⟩
      case measure => simp [intOf]; omega
    · have e10 : k = 10 := by omega
      rw [e10] at R0
      clear e10 hk
      obtain ⟨M, hM⟩ : ∃ M, M = drs S 10 := ⟨_, rfl⟩
      rw [← hM] at R0
      have HM := Lib.hid hM
      have HMl : Hid (M.length = 16) := by show _ = _; rw [hM, drs_length, Hl.out]
      have hb9 : Below wr.heap.size wr (wr.alloc (.cells (u8s zeros64) 61)) := (Below.refl _ _).alloc (Nat.le_refl _) _
      have ho9 : RO S M gS g0 wr.heap.size 0 w (wr.alloc (.cells (u8s zeros64) 61)) := by
        have s2 := (Array.getElem?_eq_some_iff.1 R0.out.res).1
        exact ⟨R0.out.src.below hb9 R0.out.src.1, R0.out.mix.below hb9 R0.out.mix.1, (hb9.block _ s2).trans R0.out.res, ⟨_, HoldsB.nil _ _ _ rfl, Go.heap_alloc_new _ _⟩, ⟨R0.out.src.1, R0.out.mix.1, s2⟩, R0.out.low.trans (hb9.mono (by omega))⟩
      have Ho9 := Lib.hid ho9
      clear hM hb9 ho9 R0
      go_wp2_with fail
      go_loopw [11] (fun i wx => ∃ k : Nat, k ≤ 16 ∧ i = .int .i64 k ∧ Hid (RO S M gS g0 wr.heap.size (4 * k) w wx)) (fun i _ => 16 - (intOf i).toNat)
      case atStart => exact ⟨0, Nat.zero_le _, rfl, Ho9.out⟩
      case round =>
        clear Ho9
        rename World => wx
        obtain ⟨k, hk, rfl, hinv⟩ := hrel
        by_cases hlt16 : k < 16
        · have hlt16' : (k : Int) < 16 := by omega
          obtain ⟨mk, hmk⟩ : ∃ mk, mk = M.getD k 0 := ⟨_, rfl⟩
          obtain ⟨sk, hsk⟩ : ∃ sk, sk = S.getD k 0 := ⟨_, rfl⟩
          have cm : wx.cell? ⟨g0, k, none⟩ = some (.int .u32 mk) := by rw [hmk]; exact hinv.out.mix.2 k (by rw [HMl.out]; exact hlt16)
          have cs : wx.cell? ⟨gS, k, none⟩ = some (.int .u32 sk) := by rw [hsk]; exact hinv.out.src.2 k (by rw [Hl.out]; exact hlt16)
          have Hmk := Lib.hid hmk
          have Hsk := Lib.hid hsk
          clear hmk hsk
          go_wp2
          go_quiet (fail)
          generalize hx : (mk + sk) % 4294967296 = x
          have x0 : 0 ≤ x := by omega
          have x1 : x < 4294967296 := by omega
          have Hx : Hid (x = (M.getD k 0 + S.getD k 0) % 4294967296) := by show _ = _; rw [← Hmk.out, ← Hsk.out, hx]
          have Hinv := Lib.hid (hinv.out.drewN nq)
          clear hx cm cs hinv
          go_wp2
          go_loopw [12, 13] (fun v i wy => ∃ j : Nat, j ≤ 4 ∧ i = .int .i64 j ∧ v = .int .u32 (x / 256 ^ j) ∧ Hid (RO S M gS g0 wr.heap.size (4 * k + j) w wy)) (fun _ i _ => 4 - (intOf i).toNat)
          case atStart => exact ⟨0, Nat.zero_le _, rfl, by rw [show (256 : Int) ^ 0 = 1 from rfl, Int.ediv_one], Hinv.out⟩
          case round =>
            clear Hinv
            rename World => wy
            obtain ⟨j, hj, rfl, rfl, hq⟩ := hrel
            by_cases hlt4 : j < 4
            · have hlt4' : (j : Int) < 4 := by omega
              obtain ⟨y, hy⟩ : ∃ y, y = x / 256 ^ j := ⟨_, rfl⟩
              rw [← hy]
              have y0 : 0 ≤ y := by rw [hy]; exact Int.ediv_nonneg x0 (Int.pow_nonneg (by decide))
              have y1 : y < 4294967296 := by
                have : y ≤ x := by rw [hy]; exact Int.ediv_le_self _ x0
                omega
              obtain ⟨C, hC, hr⟩ := hq.out.row
              obtain ⟨v0, hv0⟩ : ∃ v0, wy.cell? ⟨wr.heap.size, 4 * k + j, none⟩ = some v0 := by
                rw [cell_row hr, Array.getElem?_eq_getElem (by rw [hC.1]; omega)]; exact ⟨_, rfl⟩
              have f0 := free_row hr (4 * k + j)
              have hset := hq.out.set (by omega) (y % 256) (by rw [hy]; exact outF_step M S k j hlt4 x Hx.out)
              have hnext : y / 256 = x / 256 ^ (j + 1) := by rw [hy, pow_step]
              have Hset := Lib.hid hset
              have Hnext := Lib.hid hnext
              have tn : (4 * (k : Int) + (j : Int)).toNat = 4 * k + j := by omega
              have t64 : 4 * (k : Int) + (j : Int) < 64 := by omega
              have t0 : 0 ≤ 4 * (k : Int) + (j : Int) := by omega
              clear hy hset hnext hr hC hq
              go_wp2
              go_roundw
              case rel => exact ⟨j + 1, by omega, by go_num, by rw [Hnext.out], Hset.out⟩
              case measure => simp [intOf]; omega
            · have e4 : j = 4 := by omega
              rw [e4] at hq
              clear e4 hj
              go_wp2
              go_roundw
              case rel => exact ⟨k + 1, by omega, by go_num, hq.out⟩
              case measure => simp [intOf]; omega
        · have e16 : k = 16 := by omega
          rw [e16] at hinv
          clear e16 hk
          obtain ⟨C, hC, hr⟩ := hinv.out.row
          have hCe : C = u8s (blockL K c Nn) := hC.whole (blockL_length _ _ _) (fun j hj => by rw [HM.out, HS.out]; exact outL_getD _ _ j hj)
          rw [hCe] at hr
          have hrow := setRow_heap wx _ _ (u8s (blockL K c Nn)) _ _ hinv.out.res
          have hlow : Below w.heap.size w (wx.setRow (w.heap.size + 1 + 1) (u8s (blockL K c Nn))) := below_setRow hinv.out.low (by omega) _
          have Hsz : Hid ((Tryd.prog.info? 61).map (·.size) = some (u8s (blockL K c Nn)).size) := by show _ = _; rw [u8s_size, blockL_length]; exact info64
          have Hzz : Hid ((u8s zeros64).size = (u8s (blockL K c Nn)).size) := by show _ = _; rw [u8s_size, u8s_size, blockL_length]; rfl
          have Hr := Lib.hid hr
          have Hz := Lib.hid hinv.out.res
          have Hrow := Lib.hid hrow
          clear hCe hC hr hrow hinv
          go_wp2_with (first | (with_reducible refine wpList_load_row rfl 61 (.tmp 10) rfl wr.heap.size rfl 61 (u8s (blockL K c Nn)) (0, 0) _ Hr.out Tryd.underlying61 rfl Hsz.out ?_) | (with_reducible refine wpList_store_row rfl 61 (.tmp 6) (.tmp 66) rfl (w.heap.size + 1 + 1) (u8s (blockL K c Nn)) rfl rfl 61 (u8s zeros64) Hz.out Hsz.out Hzz.out (u8s_one _) ?_))
          exact bodyPost_ret (v := .agg (u8s (blockL K c Nn))) (results_cell_row rfl _ _ (w.heap.size + 1 + 1) 61 _ (0, 0) _ rfl Hrow.out Tryd.underlying61 rfl Hsz.out) rfl ⟨rfl, hlow⟩
end Go.Proofs.YtgkmbamoffolgaaDoor.Cha
/- DERIVED. The contract of the reference's Stream of layer 3. -/
namespace Go.Proofs.YtgkmbamoffolgaaDoor.Cha
open Go.RowKit
set_option maxRecDepth 100000 in
set_option maxHeartbeats 1000000 in
theorem rstream_no (K Nn : List Int) (c : Int) (A : Option Addr) (n cap : Nat) (hsm : n ≤ 100000) (c0 : 0 ≤ c) (c1 : c < 4294967296) (cb : ¬ c + (nbl n : Nat) ≤ 4294967296) (w : World) :
    Calls Tryd.prog 41 #[.agg (u8s K), .int .u32 c, .agg (u8s Nn), .slice A n cap] w fun e' w' => e' = .returned (.tuple #[.slice none 0 0, .int .i64 13]) ∧ Below w.heap.size w w' := by
  obtain ⟨B, hB⟩ : ∃ B, B = nbl n := ⟨_, rfl⟩
  have b0 : 0 < B := by rw [hB]; unfold nbl at *; omega
  have b1 : B ≤ 100000 := by rw [hB]; unfold nbl; omega
  rw [← hB] at cb
  have hq : ((n : Int) + 63).tdiv 64 = (B : Int) := by
    rw [Int.tdiv_eq_ediv_of_nonneg (by omega), hB]; unfold nbl; omega
  have hq2 : ((n : Int) + 63) / 64 = (B : Int) := by rw [hB]; unfold nbl; omega
  have b0' : (0 : Int) < (B : Int) := by omega
  have g1 : 4294967295 < c + (B : Int) - 1 := by omega
  have c1' : c ≤ 4294967295 := by omega
  clear hB cb c1
  go_enter Tryd.func41, Tryd.ntmps41
  go_wp2
  refine bodyPost_ret (results_tmp2 rfl _ _ _) rfl ?_
  exact ⟨rfl, ((Below.refl _ _).alloc (Nat.le_refl _) _).alloc (by simp) _⟩
attribute [local go_sem ↓ high] appendC_eq
/-- what the loops keep: so many bytes are out. -/
structure RS (K Nn X : List Int) (m : Nat) (w wx : World) (v : Value) : Prop where
  own : wx.ownsRow (w.heap.size + 1 + 1) 5 1 v m (vals (X.take m))
  key : wx.heap[w.heap.size]? = some (.cells (u8s K) 23 (0, 0))
  non : wx.heap[w.heap.size + 1]? = some (.cells (u8s Nn) 67 (0, 0))
  low : Below w.heap.size w wx
theorem RS.later {K Nn X : List Int} {m : Nat} {w wx wy : World} {v : Value} (h : RS K Nn X m w wx v) (hb : Below wx.heap.size wx wy) : RS K Nn X m w wy v := by
  have h1 := (Array.getElem?_eq_some_iff.1 h.key).1
  have h2 := (Array.getElem?_eq_some_iff.1 h.non).1
  exact ⟨own_keep h.own hb, (hb.block _ h1).trans h.key, (hb.block _ h2).trans h.non, h.low.trans (hb.mono (by omega))⟩
/-- one byte is appended; where the row lies then. -/
theorem append_one2 {w : World} (ty : TypeId) {base k : Nat} {v : Value} {xs : List Int} (hown : w.ownsRow base 5 1 v k (vals xs)) {G : Nat} {y : Int} (hcell : w.cell? ⟨G, 0, none⟩ = some (.int .u8 y)) (b1 : k ≤ 1000000) (b3 : base ≤ w.heap.size) :
    ∃ v' w', (appendC #[24, 24] ty #[v, .slice (some ⟨G, 0, none⟩) 1 1]).run Tryd.prog w = .ok v' w' ∧ w'.ownsRow base 5 1 v' (k + 1) (vals xs ++ [.int .u8 y]) ∧ w.grownBy w' v.ownBlock ∧ (v'.ownBlock = v.ownBlock ∨ v'.ownBlock = some w.heap.size) := by
  obtain ⟨i0, hi, hz0, hz1, hz2⟩ := parts3 info08
  unfold appendC
  obtain ⟨v', w', hr, hown', hgrow, _, hat⟩ := run_append_own_at (P := Tryd.prog) w base 24 ty 5 i0 (.int .u8 0) 1 1 Tryd.underlying24 hi hz0 hz1 hz2 rfl (by decide) v k (vals xs) hown ⟨G, 0, none⟩ 1 1 [.int .u8 y] rfl
    (fun j u hj => by
      match j, hj with
      | 0, hj => simp at hj; subst hj; simpa [Addr.add_mid] using hcell)
    (fun u hu => by simp at hu; subst hu; rfl) (by unfold maxLen; omega) (by omega) b3
  exact ⟨v', w', hr, hown', hgrow, hat⟩
theorem RS.more {K Nn X : List Int} {m : Nat} {w wx w2 : World} {v v2 : Value} {y : Int} {o : Obj} (h : RS K Nn X m w wx v) (hm : m < X.length) (hy : y = X.getD m 0) (ho : w2.ownsRow (w.heap.size + 1 + 1) 5 1 v2 (m + 1) (vals (X.take m) ++ [.int .u8 y])) (hg : (wx.alloc o).drew.grownBy w2 v.ownBlock) : RS K Nn X (m + 1) w w2 v2 := by
  have h1 := (Array.getElem?_eq_some_iff.1 h.key).1
  have h2 := (Array.getElem?_eq_some_iff.1 h.non).1
  have hs : (wx.alloc o).drew.heap.size = wx.heap.size + 1 := by show (wx.alloc o).heap.size = _; rw [World.size_alloc]
  refine ⟨by rw [hy, take_more hm] at ho; exact ho, ?_, ?_, (((h.low.alloc (by omega) o).trans (Below.refl _ _).drew).grown hg (by omega) (fun k hk => by have := (h.own.lt k hk).1; omega))⟩
  · exact ((hg.block _ (by omega) (fun e => by have := (h.own.lt _ e.symm).1; omega)).trans (Go.heap_alloc_old _ _ h1)).trans h.key
  · exact ((hg.block _ (by omega) (fun e => by have := (h.own.lt _ e.symm).1; omega)).trans (Go.heap_alloc_old _ _ h2)).trans h.non
set_option maxRecDepth 100000 in
set_option maxHeartbeats 4000000 in
theorem rstream_ok (K Nn L : List Int) (c : Int) (A : Option Addr) (n cap : Nat) (hK : K.length = 32) (hN : Nn.length = 12) (bK : InB K) (bN : InB Nn) (hl : L.length = n) (hsm : n ≤ 100000) (c0 : 0 ≤ c) (c1 : c < 4294967296) (cb : c + (nbl n : Nat) ≤ 4294967296) (w : World) (hB : Byt w A cap L) :
    Calls Tryd.prog 41 #[.agg (u8s K), .int .u32 c, .agg (u8s Nn), .slice A n cap] w fun e' w' => ∃ A' c', e' = .returned (.tuple #[.slice A' n c', .int .i64 0]) ∧ Byt w' A' c' (streamL K c Nn L) ∧ Below w.heap.size w w' := by
  obtain ⟨B, hBq⟩ : ∃ B, B = nbl n := ⟨_, rfl⟩
  have HBn : Hid (∀ k, k < B → 64 * k < n) := fun k hk => by rw [hBq] at hk; unfold nbl at hk; omega
  have HBm : Hid (n ≤ 64 * B) := by show _ ≤ _; rw [hBq]; unfold nbl; omega
  have b1 : B ≤ 100000 := by rw [hBq]; unfold nbl; omega
  rw [← hBq] at cb
  have hq : ((n : Int) + 63).tdiv 64 = (B : Int) := by
    rw [Int.tdiv_eq_ediv_of_nonneg (by omega), hBq]; unfold nbl; omega
  have hq2 : ((n : Int) + 63) / 64 = (B : Int) := by rw [hBq]; unfold nbl; omega
  have g1 : ¬ 4294967295 < c + (B : Int) - 1 := by omega
  obtain ⟨X, hX⟩ : ∃ X, X = streamL K c Nn L := ⟨_, rfl⟩
  have HX := Lib.hid hX
  have HXl : Hid (X.length = n) := by show _ = _; rw [hX, streamL_length, hl]
  have Hblk := Lib.hid (fun d W => rblock_any K Nn d hK hN bK bN W)
  have HsK : Hid ((Tryd.prog.info? 23).map (·.size) = some (u8s K).size) := by show _ = _; rw [u8s_size, hK]; kernel_rfl
  have HsN : Hid ((Tryd.prog.info? 67).map (·.size) = some (u8s Nn).size) := by show _ = _; rw [u8s_size, hN]; kernel_rfl
  have HCb : Hid (c + (B : Nat) ≤ 4294967296) := cb
  have Hl := Lib.hid hl
  have HB := Lib.hid hB
  have c1' : c ≤ 4294967295 := by omega
  have hr0 : RS K Nn X 0 w ((w.alloc (.cells (u8s K) 23)).alloc (.cells (u8s Nn) 67)) (.slice none 0 0) := by
    have h2 := two_new w (.cells (u8s K) 23) (.cells (u8s Nn) 67)
    exact ⟨World.ownsRow_nil _ _ _ _, h2.1, h2.2, ((Below.refl _ _).alloc (Nat.le_refl _) _).alloc (by simp) _⟩
  have Hr0 := Lib.hid hr0
  clear hBq cb c1 hX hK hN bK bN hl hB hr0
  go_enter Tryd.func41, Tryd.ntmps41
  by_cases hB0 : (0 : Int) < (B : Int)
  · go_wp2
    go_loopw [11, 12] (fun v i wx => ∃ k : Nat, k ≤ B ∧ i = .int .i64 k ∧ Hid (RS K Nn X (min n (64 * k)) w wx v)) (fun _ i _ => B - (intOf i).toNat)
    case atStart => exact ⟨0, Nat.zero_le _, rfl, by rw [show min n (64 * 0) = 0 by omega]; exact Hr0.out⟩
    case round =>
      obtain ⟨k, hk, rfl, hinv⟩ := hrel
      by_cases hlt : k < B
      · have hlt' : (k : Int) < (B : Int) := by omega
        have hk64 := HBn.out k hlt
        have hck : c + (k : Int) ≤ 4294967295 := by have := HCb.out; omega
        rw [show min n (64 * k) = 64 * k by omega] at hinv
        obtain ⟨Bl, hBl⟩ : ∃ Bl, Bl = blockL K (c + (k : Nat)) Nn := ⟨_, rfl⟩
        have hb := Hblk.out (c + (k : Nat))
        rw [← hBl] at hb
        have Hb := Lib.hid hb
        have HBl := Lib.hid hBl
        have Hi64 : Hid ((Tryd.prog.info? 61).map (·.size) = some (u8s Bl).size) := by show _ = _; rw [u8s_size, hBl, blockL_length]; exact info64
        have Hs64 : Hid ((u8s Bl).size = 64) := by show _ = _; rw [u8s_size, hBl, blockL_length]
        clear hb hBl hk
        go_wp2_with (first
          | (with_reducible refine wpList_load_row rfl 23 (.tmp 4) rfl w.heap.size rfl 23 (u8s K) (0, 0) _ hinv.out.key Tryd.underlying23 rfl HsK.out ?_)
          | (with_reducible refine wpList_load_row rfl 67 (.tmp 6) rfl (w.heap.size + 1) rfl 67 (u8s Nn) (0, 0) _ hinv.out.non Tryd.underlying67 rfl HsN.out ?_)
          | (go_at_call 53; refine (Hb.out _).mono ?_; rintro e w1 ⟨rfl, low1⟩; have Low1 := Lib.hid low1; clear low1)
          | (refine wpList_store_row rfl 61 (.tmp 13) (.tmp 40) rfl w1.heap.size (u8s Bl) rfl rfl 61 _ (Go.heap_alloc_new w1 _) Hi64.out (by rw [Hs64.out]; rfl) (u8s_one _) ?_; rw [World.setRow_alloc_new]))
        have hr2 : RS K Nn X (64 * k) w (w1.alloc (.cells (u8s Bl) 61)) u11 := (hinv.out.later Low1.out).later ((Below.refl _ _).alloc (Nat.le_refl _) _)
        have hsep : u11.ownBlock ≠ some w1.heap.size := fun e => by have := ((hinv.out.later Low1.out).own.lt _ e).2; omega
        have Hsep := Lib.hid hsep
        have Hr2 := Lib.hid hr2
        have Hrow2 := Lib.hid (Go.heap_alloc_new w1 (.cells (u8s Bl) 61))
        clear hr2 hsep hinv Low1
        go_loopw [11, 14] (fun v i wx => ∃ m : Nat, 64 * k ≤ m ∧ m ≤ 64 * k + 64 ∧ m ≤ n ∧ i = .int .i64 m ∧ Hid (RS K Nn X m w wx v ∧ wx.heap[w1.heap.size]? = some (.cells (u8s Bl) 61 (0, 0)) ∧ v.ownBlock ≠ some w1.heap.size)) (fun _ i _ => 64 * k + 64 - (intOf i).toNat)
        case atStart => exact ⟨64 * k, Nat.le_refl _, by omega, by omega, by go_num, Hr2.out, Hrow2.out, Hsep.out⟩
        case round =>
          obtain ⟨m, hm1, hm2, hm3, rfl, hr⟩ := hrel
          by_cases h1 : m < 64 * k + 64
          · have h1' : (m : Int) < 64 * (k : Int) + 64 := by omega
            by_cases h2 : m < n
            · have h2' : (m : Int) < (n : Int) := by omega
              obtain ⟨gb, ob, hA, hgb, hcb⟩ := HB.out.2.2 (by rw [Hl.out]; omega)
              subst hA
              obtain ⟨x, hx⟩ : ∃ x, x = L.getD m 0 := ⟨_, rfl⟩
              obtain ⟨z, hz⟩ : ∃ z, z = Bl.getD (m - 64 * k) 0 := ⟨_, rfl⟩
              have cb : wr.cell? ⟨gb, ob + m, none⟩ = some (.int .u8 x) := by rw [hx]; exact (World.cell?_of_block (hr.out.1.low.block gb hgb)).trans (hcb m (by rw [Hl.out]; exact h2))
              have cz : wr.cell? ⟨w1.heap.size, m - 64 * k, none⟩ = some (.int .u8 z) := by rw [hz]; exact row8_cell hr.out.2.1 _ (by have := Hs64.out; rw [u8s_size] at this; omega)
              have hy : bits .xor .u8 x z = X.getD m 0 := by
                rw [HX.out, streamL_getD _ _ _ _ _ (by rw [Hl.out]; exact h2)]
                unfold strF
                rw [show m / 64 = k by omega, show m % 64 = m - 64 * k by omega, hx, hz, HBl.out]
              obtain ⟨y, hyy⟩ : ∃ y, y = bits .xor .u8 x z := ⟨_, rfl⟩
              rw [← hyy] at hy
              have hsz1 := (Array.getElem?_eq_some_iff.1 hr.out.2.1).1
              have hsz2 := (Array.getElem?_eq_some_iff.1 hr.out.1.non).1
              obtain ⟨v2, w2, hrun, hown2, hgrow2, hat2⟩ := append_one2 24 (own_keep hr.out.1.own (((Below.refl _ wr).alloc (Nat.le_refl _) (.cells #[.int .u8 y] 5)).trans (Below.refl _ _).drew)) (G := wr.heap.size) (y := y) (cell_row (t := 5) (Go.heap_alloc_new wr (.cells #[.int .u8 y] 5)) 0) (by omega) (by show _ ≤ (wr.alloc _).heap.size; rw [World.size_alloc]; omega)
              have hnext := hr.out.1.more (by rw [HXl.out]; exact h2) hy hown2 hgrow2
              have hrow3 : w2.heap[w1.heap.size]? = some (.cells (u8s Bl) 61 (0, 0)) := ((hgrow2.block _ (by show _ < (wr.alloc _).heap.size; rw [World.size_alloc]; omega) (fun e => hr.out.2.2 e.symm)).trans (Go.heap_alloc_old _ _ hsz1)).trans hr.out.2.1
              have hsep3 : v2.ownBlock ≠ some w1.heap.size := by
                rcases hat2 with e | e
                · rw [e]; exact hr.out.2.2
                · rw [e]; intro e3; injection e3 with e3; have : (wr.alloc (.cells #[.int .u8 y] 5)).heap.size = w1.heap.size := e3; rw [World.size_alloc] at this; omega
              have Hnext := Lib.hid hnext
              have Hrow3 := Lib.hid hrow3
              have Hsep3 := Lib.hid hsep3
              have tn : ((m : Int) - 64 * (k : Int)).toNat = m - 64 * k := by omega
              have t0 : 0 ≤ (m : Int) - 64 * (k : Int) := by omega
              have t64 : (m : Int) - 64 * (k : Int) < 64 := by omega
              have hw1 : IntKind.i64.wrap (64 * (k : Int)) = 64 * (k : Int) := IntWalk.i64_in _ (by omega)
              have hw2 : IntKind.i64.wrap ((m : Int) - 64 * (k : Int)) = (m : Int) - 64 * (k : Int) := IntWalk.i64_in _ (by omega)
              have hyy' := hyy.symm
              clear hyy hx hz hy hown2 hgrow2 hat2 hnext hrow3 hsep3 hsz1 hsz2 hcb hr
              go_wp2
              go_region_with (fail)
              all_goals
                go_wp2_with fail
                go_roundw
                case rel => exact ⟨m + 1, by omega, by omega, by omega, by go_num, Hnext.out, Hrow3.out, Hsep3.out⟩
                case measure => simp [intOf]; omega
            · have h2' : ¬ (m : Int) < (n : Int) := by omega
              have e2 : m = n := by omega
              rw [e2] at hr
              clear e2
              go_wp2
              go_roundw
              case rel => exact ⟨k + 1, by omega, by go_num, by rw [show min n (64 * (k + 1)) = n by omega]; exact hr.out.1⟩
              case measure => simp [intOf]; omega
          · have h1' : ¬ (m : Int) < 64 * (k : Int) + 64 := by omega
            have e2 : m = 64 * (k + 1) := by omega
            rw [e2] at hr
            clear e2
            go_wp2
            go_roundw
            case rel => exact ⟨k + 1, by omega, by go_num, by rw [show min n (64 * (k + 1)) = 64 * (k + 1) by omega]; exact hr.out.1⟩
            case measure => simp [intOf]; omega
      · have hge : ¬ (k : Int) < (B : Int) := by omega
        have hmin : min n (64 * k) = n := by have := HBm.out; omega
        rw [hmin] at hinv
        have hpos : 0 < n := by have := HBn.out 0 (by omega); omega
        have hown := hinv.out.own
        rw [List.take_of_length_le (by rw [HXl.out]; exact Nat.le_refl _), ← HXl.out] at hown
        obtain ⟨g, cg, rfl, hbyt, _, _⟩ := own_slice2 hown HXl.out hpos
        rw [HX.out] at hbyt
        have Hbyt := Lib.hid hbyt
        have Hlow := Lib.hid hinv.out.low
        clear hmin hinv hown hbyt hpos
        go_wp2_with fail
        refine bodyPost_ret (results_tmp2 rfl _ _ _) rfl ?_
        exact ⟨some ⟨g, 0, none⟩, cg, rfl, Hbyt.out, Hlow.out⟩
  · have hn0 : n = 0 := by have := HBm.out; omega
    have hB00 : B = 0 := by omega
    subst hn0 hB00
    have Hlow := Lib.hid Hr0.out.low
    have hL0 : L = [] := List.eq_nil_of_length_eq_zero Hl.out
    subst hL0
    clear HB Hr0 HBn HBm
    go_wp2_with fail
    go_loopw [11, 12] (fun v i wx => v = .slice none 0 0 ∧ i = .int .i64 0 ∧ Hid (Below w.heap.size w wx)) (fun _ _ _ => 0)
    case atStart => exact ⟨rfl, rfl, Hlow.out⟩
    case round =>
      obtain ⟨rfl, rfl, hlow⟩ := hrel
      go_wp2_with fail
      refine bodyPost_ret (results_tmp2 rfl _ _ _) rfl ?_
      exact ⟨none, 0, rfl, ⟨Nat.le_refl _, fun _ => rfl, fun h => absurd h (Nat.lt_irrefl 0)⟩, hlow.out⟩
end Go.Proofs.YtgkmbamoffolgaaDoor.Cha
