/- DERIVED. The contract of the reference's Block of layer 3. Written by mkrefblock.py. -/
import Derived.Test.YtdkfofnkacmliaaDoorRefChaRound
import Derived.Test.YtdkfofnkacmliaaDoorChaBlock
import Derived.Deep.DeepCutAuto
namespace Go.Proofs.YtdkfofnkacmliaaDoor.Cha
open Go.RowKit
/-- what the first loop keeps. -/
structure RB (S L : List Int) (gS gL : Nat) (w wx : World) : Prop where
  src : Wds wx gS S
  mix : Wds wx gL L
  res : wx.heap[w.heap.size + 1 + 1]? = some (.cells (u8s zeros64) 31 (0, 0))
  low : Below w.heap.size w wx
theorem RB.next {S L L' : List Int} {gS gL g' : Nat} {w wx wy : World} (h : RB S L gS gL w wx) (hb : Below wx.heap.size wx wy) (hw : Wds wy g' L') : RB S L' gS g' w wy := by
  have h1 := (Array.getElem?_eq_some_iff.1 h.res).1
  exact ⟨h.src.below hb h.src.1, hw, (hb.block _ h1).trans h.res, h.low.trans (hb.mono (by omega))⟩
/-- what the second loop keeps. -/
structure RO (S M : List Int) (gS gM G j : Nat) (w wx : World) : Prop where
  src : Wds wx gS S
  mix : Wds wx gM M
  res : wx.heap[w.heap.size + 1 + 1]? = some (.cells (u8s zeros64) 31 (0, 0))
  row : ∃ C : Array Value, HoldsB C 64 j (outF M S) ∧ wx.heap[G]? = some (.cells C 31 (0, 0))
  sep : gS < G ∧ gM < G ∧ w.heap.size + 1 + 1 < G
  low : Below w.heap.size w wx
theorem RO.set {S M : List Int} {gS gM G j : Nat} {w wx : World} (h : RO S M gS gM G j w wx) (hj : j < 64) (v : Int) (hv : v = outF M S j) : RO S M gS gM G (j + 1) w (wx.setCell ⟨G, j, none⟩ (.int .u8 v)) := by
  obtain ⟨C, hC, hr⟩ := h.row
  obtain ⟨s1, s2, s3⟩ := h.sep
  have e1 : (wx.setCell ⟨G, j, none⟩ (.int .u8 v)).heap[gS]? = wx.heap[gS]? := heap_setCell_other _ _ _ _ (by simp; omega)
  have e2 : (wx.setCell ⟨G, j, none⟩ (.int .u8 v)).heap[gM]? = wx.heap[gM]? := heap_setCell_other _ _ _ _ (by simp; omega)
  refine ⟨⟨by simpa using h.src.1, fun i hi => (World.cell?_of_block e1).trans (h.src.2 i hi)⟩, ⟨by simpa using h.mix.1, fun i hi => (World.cell?_of_block e2).trans (h.mix.2 i hi)⟩, ?_, ⟨_, hC.set hj v hv, heap_setCell_same _ _ _ _ _ _ hr⟩, h.sep, h.low.setCell (by simp; omega) _⟩
  rw [heap_setCell_other _ _ _ _ (by simp; omega)]
  exact h.res
theorem RO.drewN {S M : List Int} {gS gM G j : Nat} {w wx : World} (h : RO S M gS gM G j w wx) (n : Nat) : RO S M gS gM G j w (wx.drewN n) :=
  ⟨h.src, h.mix, h.res, h.row, h.sep, Below.drewN h.low n⟩
theorem outF_step (M S : List Int) (k j : Nat) (hj : j < 4) (x : Int) (hx : x = (M.getD k 0 + S.getD k 0) % 4294967296) : x / 256 ^ j % 256 = outF M S (4 * k + j) := by
  obtain ⟨h0, h1, h2, h3⟩ := outF_at M S k x hx
  obtain rfl | rfl | rfl | rfl : j = 0 ∨ j = 1 ∨ j = 2 ∨ j = 3 := by omega
  · rw [Nat.add_zero, h0, show (256 : Int) ^ 0 = 1 from rfl, Int.ediv_one]
  · rw [h1]; rfl
  · rw [h2]; rfl
  · rw [h3]; rfl
theorem pow_step (x : Int) (j : Nat) : x / 256 ^ j / 256 = x / 256 ^ (j + 1) := by
  rw [Int.ediv_ediv_of_nonneg (Int.pow_nonneg (by decide)), Int.pow_succ]
set_option maxRecDepth 100000 in
set_option maxHeartbeats 4000000 in
theorem rblock_any (K Nn : List Int) (c : Int) (hK : K.length = 32) (hN : Nn.length = 12) (bK : InB K) (bN : InB Nn) (w : World) :
    Calls Tryd.prog 10 #[.agg (u8s K), .int .u32 c, .agg (u8s Nn)] w fun e' w' => e' = .returned (.agg (u8s (blockL K c Nn))) ∧ Below w.heap.size w w' := by
  have h3 := Lib.hid (three_new w)
  have b3 := Lib.hid (below3 w)
  have Hf := Lib.hid (rfirst_any K Nn c hK hN bK bN)
  have HsK : Hid ((Tryd.prog.info? 25).map (·.size) = some (u8s K).size) := by show _ = _; rw [u8s_size, hK]; kernel_rfl
  have HsN : Hid ((Tryd.prog.info? 26).map (·.size) = some (u8s Nn).size) := by show _ = _; rw [u8s_size, hN]; kernel_rfl
  obtain ⟨S, hS⟩ : ∃ S, S = stL K c Nn := ⟨_, rfl⟩
  have HS := Lib.hid hS
  have Hl : Hid (S.length = 16) := by show _ = _; rw [hS, stL_length]
  clear hK hN bK bN hS
  go_enter Tryd.func10, Tryd.ntmps10
  go_wp2_with (first
    | (with_reducible refine wpList_load_row rfl 25 (.tmp 3) rfl w.heap.size rfl 25 (u8s K) (0, 0) _ (h3.out _ _ _).1 Tryd.underlying25 rfl HsK.out ?_)
    | (with_reducible refine wpList_load_row rfl 26 (.tmp 5) rfl (w.heap.size + 1) rfl 26 (u8s Nn) (0, 0) _ (h3.out _ _ _).2.1 Tryd.underlying26 rfl HsN.out ?_)
    | (go_at_call 19; refine (Hf.out _).mono ?_; rintro e w1 ⟨gS, cS, rfl, -, hwS, low1⟩; rw [← HS.out] at hwS; have HwS := Lib.hid hwS; have Low1 := Lib.hid low1; clear hwS low1))
  have hr0 : RB S (drs S 0) gS gS w w1 := ⟨HwS.out, HwS.out, (Low1.out.block _ (by simp)).trans (h3.out _ _ _).2.2, (b3.out _ _ _).trans (Low1.out.mono (by simp; omega))⟩
  have Hr0 := Lib.hid hr0
  clear hr0 HwS Low1 h3 b3 Hf HsK HsN
  go_loopw [8, 9] (fun v i wr => ∃ k : Nat, k ≤ 10 ∧ i = .int .i64 k ∧ ∃ g cap, v = .slice (some ⟨g, 0, none⟩) 16 cap ∧ Hid (RB S (drs S k) gS g w wr)) (fun _ i _ => 10 - (intOf i).toNat)
  case atStart => exact ⟨0, Nat.zero_le _, rfl, gS, cS, rfl, Hr0.out⟩
  case round =>
    clear Hr0
    obtain ⟨k, hk, rfl, g0, c0, rfl, R0⟩ := hrel
    by_cases hlt10 : k < 10
    · have hlt' : (k : Int) < 10 := by omega
      obtain ⟨L0, e0⟩ : ∃ L0, L0 = drs S k := ⟨_, rfl⟩
      obtain ⟨L1, e1⟩ : ∃ L1, L1 = qstep L0 0 4 8 12 := ⟨_, rfl⟩
      obtain ⟨L2, e2⟩ : ∃ L2, L2 = qstep L1 1 5 9 13 := ⟨_, rfl⟩
      obtain ⟨L3, e3⟩ : ∃ L3, L3 = qstep L2 2 6 10 14 := ⟨_, rfl⟩
      obtain ⟨L4, e4⟩ : ∃ L4, L4 = qstep L3 3 7 11 15 := ⟨_, rfl⟩
      obtain ⟨L5, e5⟩ : ∃ L5, L5 = qstep L4 0 5 10 15 := ⟨_, rfl⟩
      obtain ⟨L6, e6⟩ : ∃ L6, L6 = qstep L5 1 6 11 12 := ⟨_, rfl⟩
      obtain ⟨L7, e7⟩ : ∃ L7, L7 = qstep L6 2 7 8 13 := ⟨_, rfl⟩
      obtain ⟨L8, e8⟩ : ∃ L8, L8 = qstep L7 3 4 9 14 := ⟨_, rfl⟩
      have E1 := Lib.hid e1
      have E2 := Lib.hid e2
      have E3 := Lib.hid e3
      have E4 := Lib.hid e4
      have E5 := Lib.hid e5
      have E6 := Lib.hid e6
      have E7 := Lib.hid e7
      have E8 := Lib.hid e8
      have HD : Hid (drs S (k + 1) = L8) := by show _ = _; rw [e8, e7, e6, e5, e4, e3, e2, e1, e0]; rfl
      have n0 : Hid (L0.length = 16) := by show _ = _; rw [e0, drs_length, Hl.out]
      have n1 : Hid (L1.length = 16) := by show _ = _; rw [e1, qstep_length, n0.out]
      have n2 : Hid (L2.length = 16) := by show _ = _; rw [e2, qstep_length, n1.out]
      have n3 : Hid (L3.length = 16) := by show _ = _; rw [e3, qstep_length, n2.out]
      have n4 : Hid (L4.length = 16) := by show _ = _; rw [e4, qstep_length, n3.out]
      have n5 : Hid (L5.length = 16) := by show _ = _; rw [e5, qstep_length, n4.out]
      have n6 : Hid (L6.length = 16) := by show _ = _; rw [e6, qstep_length, n5.out]
      have n7 : Hid (L7.length = 16) := by show _ = _; rw [e7, qstep_length, n6.out]
      rw [← e0] at R0
      clear e0 e1 e2 e3 e4 e5 e6 e7 e8
      go_wp2_with (first
        | (go_at_call 20; refine (rround_any L7 n7.out g7 c7 3 4 9 14 _ _ _ _ rfl rfl rfl rfl (by decide) (by decide) (by decide) (by decide) _ R7.out.mix).mono ?_; rintro e x8 ⟨g8, c8, rfl, -, hw8, low8⟩; rw [← E8.out] at hw8; have R8 := Lib.hid (R7.out.next low8 hw8); clear hw8 low8)
        | (go_at_call 20; refine (rround_any L6 n6.out g6 c6 2 7 8 13 _ _ _ _ rfl rfl rfl rfl (by decide) (by decide) (by decide) (by decide) _ R6.out.mix).mono ?_; rintro e x7 ⟨g7, c7, rfl, -, hw7, low7⟩; rw [← E7.out] at hw7; have R7 := Lib.hid (R6.out.next low7 hw7); clear hw7 low7)
        | (go_at_call 20; refine (rround_any L5 n5.out g5 c5 1 6 11 12 _ _ _ _ rfl rfl rfl rfl (by decide) (by decide) (by decide) (by decide) _ R5.out.mix).mono ?_; rintro e x6 ⟨g6, c6, rfl, -, hw6, low6⟩; rw [← E6.out] at hw6; have R6 := Lib.hid (R5.out.next low6 hw6); clear hw6 low6)
        | (go_at_call 20; refine (rround_any L4 n4.out g4 c4 0 5 10 15 _ _ _ _ rfl rfl rfl rfl (by decide) (by decide) (by decide) (by decide) _ R4.out.mix).mono ?_; rintro e x5 ⟨g5, c5, rfl, -, hw5, low5⟩; rw [← E5.out] at hw5; have R5 := Lib.hid (R4.out.next low5 hw5); clear hw5 low5)
        | (go_at_call 20; refine (rround_any L3 n3.out g3 c3 3 7 11 15 _ _ _ _ rfl rfl rfl rfl (by decide) (by decide) (by decide) (by decide) _ R3.out.mix).mono ?_; rintro e x4 ⟨g4, c4, rfl, -, hw4, low4⟩; rw [← E4.out] at hw4; have R4 := Lib.hid (R3.out.next low4 hw4); clear hw4 low4)
        | (go_at_call 20; refine (rround_any L2 n2.out g2 c2 2 6 10 14 _ _ _ _ rfl rfl rfl rfl (by decide) (by decide) (by decide) (by decide) _ R2.out.mix).mono ?_; rintro e x3 ⟨g3, c3, rfl, -, hw3, low3⟩; rw [← E3.out] at hw3; have R3 := Lib.hid (R2.out.next low3 hw3); clear hw3 low3)
        | (go_at_call 20; refine (rround_any L1 n1.out g1 c1 1 5 9 13 _ _ _ _ rfl rfl rfl rfl (by decide) (by decide) (by decide) (by decide) _ R1.out.mix).mono ?_; rintro e x2 ⟨g2, c2, rfl, -, hw2, low2⟩; rw [← E2.out] at hw2; have R2 := Lib.hid (R1.out.next low2 hw2); clear hw2 low2)
        | (go_at_call 20; refine (rround_any L0 n0.out g0 c0 0 4 8 12 _ _ _ _ rfl rfl rfl rfl (by decide) (by decide) (by decide) (by decide) _ R0.out.mix).mono ?_; rintro e x1 ⟨g1, c1, rfl, -, hw1, low1⟩; rw [← E1.out] at hw1; have R1 := Lib.hid (R0.out.next low1 hw1); clear hw1 low1))
      go_roundw
      case rel => exact ⟨k + 1, by omega, by go_num, g8, c8, rfl, by rw [HD.out]; exact R8.out⟩
      case measure => simp [intOf]; omega
    · have e10 : k = 10 := by omega
      rw [e10] at R0
      clear e10 hk
      obtain ⟨M, hM⟩ : ∃ M, M = drs S 10 := ⟨_, rfl⟩
      rw [← hM] at R0
      have HM := Lib.hid hM
      have HMl : Hid (M.length = 16) := by show _ = _; rw [hM, drs_length, Hl.out]
      have hb9 : Below wr.heap.size wr (wr.alloc (.cells (u8s zeros64) 31)) := (Below.refl _ _).alloc (Nat.le_refl _) _
      have ho9 : RO S M gS g0 wr.heap.size 0 w (wr.alloc (.cells (u8s zeros64) 31)) := by
        have s2 := (Array.getElem?_eq_some_iff.1 R0.out.res).1
        exact ⟨R0.out.src.below hb9 R0.out.src.1, R0.out.mix.below hb9 R0.out.mix.1, (hb9.block _ s2).trans R0.out.res, ⟨_, HoldsB.nil _ _ _ rfl, Go.heap_alloc_new _ _⟩, ⟨R0.out.src.1, R0.out.mix.1, s2⟩, R0.out.low.trans (hb9.mono (by omega))⟩
      have Ho9 := Lib.hid ho9
      clear hM hb9 ho9 R0
      go_wp2_with fail
      go_loopw [11] (fun i wx => ∃ k : Nat, k ≤ 16 ∧ i = .int .i64 k ∧ Hid (RO S M gS g0 wr.heap.size (4 * k) w wx)) (fun i _ => 16 - (intOf i).toNat)
      case atStart => exact ⟨0, Nat.zero_le _, rfl, Ho9.out⟩
      case round =>
        clear Ho9
        rename World => wx
        obtain ⟨k, hk, rfl, hinv⟩ := hrel
        by_cases hlt16 : k < 16
        · have hlt16' : (k : Int) < 16 := by omega
          obtain ⟨mk, hmk⟩ : ∃ mk, mk = M.getD k 0 := ⟨_, rfl⟩
          obtain ⟨sk, hsk⟩ : ∃ sk, sk = S.getD k 0 := ⟨_, rfl⟩
          have cm : wx.cell? ⟨g0, k, none⟩ = some (.int .u32 mk) := by rw [hmk]; exact hinv.out.mix.2 k (by rw [HMl.out]; exact hlt16)
          have cs : wx.cell? ⟨gS, k, none⟩ = some (.int .u32 sk) := by rw [hsk]; exact hinv.out.src.2 k (by rw [Hl.out]; exact hlt16)
          have Hmk := Lib.hid hmk
          have Hsk := Lib.hid hsk
          clear hmk hsk
          go_wp2
          go_quiet (fail)
          generalize hx : (mk + sk) % 4294967296 = x
          have x0 : 0 ≤ x := by omega
          have x1 : x < 4294967296 := by omega
          have Hx : Hid (x = (M.getD k 0 + S.getD k 0) % 4294967296) := by show _ = _; rw [← Hmk.out, ← Hsk.out, hx]
          have Hinv := Lib.hid (hinv.out.drewN nq)
          clear hx cm cs hinv
          go_wp2
          go_loopw [12, 13] (fun v i wy => ∃ j : Nat, j ≤ 4 ∧ i = .int .i64 j ∧ v = .int .u32 (x / 256 ^ j) ∧ Hid (RO S M gS g0 wr.heap.size (4 * k + j) w wy)) (fun _ i _ => 4 - (intOf i).toNat)
          case atStart => exact ⟨0, Nat.zero_le _, rfl, by rw [show (256 : Int) ^ 0 = 1 from rfl, Int.ediv_one], Hinv.out⟩
          case round =>
            clear Hinv
            rename World => wy
            obtain ⟨j, hj, rfl, rfl, hq⟩ := hrel
            by_cases hlt4 : j < 4
            · have hlt4' : (j : Int) < 4 := by omega
              obtain ⟨y, hy⟩ : ∃ y, y = x / 256 ^ j := ⟨_, rfl⟩
              rw [← hy]
              have y0 : 0 ≤ y := by rw [hy]; exact Int.ediv_nonneg x0 (Int.pow_nonneg (by decide))
              have y1 : y < 4294967296 := by
                have : y ≤ x := by rw [hy]; exact Int.ediv_le_self _ x0
                omega
              obtain ⟨C, hC, hr⟩ := hq.out.row
              obtain ⟨v0, hv0⟩ : ∃ v0, wy.cell? ⟨wr.heap.size, 4 * k + j, none⟩ = some v0 := by
                rw [cell_row hr, Array.getElem?_eq_getElem (by rw [hC.1]; omega)]; exact ⟨_, rfl⟩
              have f0 := free_row hr (4 * k + j)
              have hset := hq.out.set (by omega) (y % 256) (by rw [hy]; exact outF_step M S k j hlt4 x Hx.out)
              have hnext : y / 256 = x / 256 ^ (j + 1) := by rw [hy, pow_step]
              have Hset := Lib.hid hset
              have Hnext := Lib.hid hnext
              have tn : (4 * (k : Int) + (j : Int)).toNat = 4 * k + j := by omega
              have t64 : 4 * (k : Int) + (j : Int) < 64 := by omega
              have t0 : 0 ≤ 4 * (k : Int) + (j : Int) := by omega
              clear hy hset hnext hr hC hq
              go_wp2
              go_roundw
              case rel => exact ⟨j + 1, by omega, by go_num, by rw [Hnext.out], Hset.out⟩
              case measure => simp [intOf]; omega
            · have e4 : j = 4 := by omega
              rw [e4] at hq
              clear e4 hj
              go_wp2
              go_roundw
              case rel => exact ⟨k + 1, by omega, by go_num, hq.out⟩
              case measure => simp [intOf]; omega
        · have e16 : k = 16 := by omega
          rw [e16] at hinv
          clear e16 hk
          obtain ⟨C, hC, hr⟩ := hinv.out.row
          have hCe : C = u8s (blockL K c Nn) := hC.whole (blockL_length _ _ _) (fun j hj => by rw [HM.out, HS.out]; exact outL_getD _ _ j hj)
          rw [hCe] at hr
          have hrow := setRow_heap wx _ _ (u8s (blockL K c Nn)) _ _ hinv.out.res
          have hlow : Below w.heap.size w (wx.setRow (w.heap.size + 1 + 1) (u8s (blockL K c Nn))) := below_setRow hinv.out.low (by omega) _
          have Hsz : Hid ((Tryd.prog.info? 31).map (·.size) = some (u8s (blockL K c Nn)).size) := by show _ = _; rw [u8s_size, blockL_length]; exact info64
          have Hzz : Hid ((u8s zeros64).size = (u8s (blockL K c Nn)).size) := by show _ = _; rw [u8s_size, u8s_size, blockL_length]; rfl
          have Hr := Lib.hid hr
          have Hz := Lib.hid hinv.out.res
          have Hrow := Lib.hid hrow
          clear hCe hC hr hrow hinv
          go_wp2_with (first | (with_reducible refine wpList_load_row rfl 31 (.tmp 10) rfl wr.heap.size rfl 31 (u8s (blockL K c Nn)) (0, 0) _ Hr.out Tryd.underlying31 rfl Hsz.out ?_) | (with_reducible refine wpList_store_row rfl 31 (.tmp 6) (.tmp 66) rfl (w.heap.size + 1 + 1) (u8s (blockL K c Nn)) rfl rfl 31 (u8s zeros64) Hz.out Hsz.out Hzz.out (u8s_one _) ?_))
          exact bodyPost_ret (v := .agg (u8s (blockL K c Nn))) (results_cell_row rfl _ _ (w.heap.size + 1 + 1) 31 _ (0, 0) _ rfl Hrow.out Tryd.underlying31 rfl Hsz.out) rfl ⟨rfl, hlow⟩
end Go.Proofs.YtdkfofnkacmliaaDoor.Cha
