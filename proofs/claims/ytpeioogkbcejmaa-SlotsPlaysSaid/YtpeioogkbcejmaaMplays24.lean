/- DERIVED. Texts of ours, merged: XRef9Plays. -/
import Derived.Test.YtpeioogkbcejmaaMplays16
import Derived.Test.YtpeioogkbcejmaaMplays18
import Derived.Test.YtpeioogkbcejmaaMplays21
import Derived.Test.YtpeioogkbcejmaaMplays23
import Derived.Test.YtpeioogkbcejmaaMplays19
import Derived.Test.YtpeioogkbcejmaaMplays5
import Derived.Deep.CutBlock
/- DERIVED. Layer 9's law: SlotsPlays (written by a program). -/
namespace Go.Proofs.Ytpeioogkbcejmaa.Slt
open Go.RowKit Dsk
set_option maxRecDepth 100000 in
set_option maxHeartbeats 8000000 in
theorem plays_walk {x0 x1 x2 : Int} (hx0 : -9223372036854775808 ≤ x0 ∧ x0 ≤ 9223372036854775807) (hx1 : -9223372036854775808 ≤ x1 ∧ x1 ≤ 9223372036854775807) (hx2 : -9223372036854775808 ≤ x2 ∧ x2 ≤ 9223372036854775807) {A : Option Addr} {c : Nat} {xs : List Aw} {w : World} (h : Acts w A c xs) (ok : ∀ x ∈ xs, x.Ok ∧ Byt w x.A x.cap x.L) (hm : xs.length ≤ maxLen) :
    Calls Try.prog 3 #[.agg #[.int .i64 x0, .int .i64 x1, .int .i64 x2], .slice A xs.length c] w fun e w' => e = .returned (.bool true) ∧ Below w.heap.size w w' := by
  have hrow := Go.heap_alloc_new w (.cells #[.int .i64 x0, .int .i64 x1, .int .i64 x2] 23)
  have hb1 : Below w.heap.size w (w.alloc (.cells #[.int .i64 x0, .int .i64 x1, .int .i64 x2] 23)) := (Below.refl _ _).alloc (Nat.le_refl _) _
  obtain ⟨w1, hw1⟩ : ∃ w1, w1 = w.alloc (.cells #[.int .i64 x0, .int .i64 x1, .int .i64 x2] 23) := ⟨_, rfl⟩
  rw [← hw1] at hrow hb1
  have Hw1 := Lib.hid hw1.symm
  have Hrow := Lib.hid hrow
  have Hb1 := Lib.hid hb1
  have H := Lib.hid h
  have HO := Lib.hid ok
  have Hl := Lib.hid (large_any (x0 := x0) (x1 := x1) (x2 := x2) (h.below hb1 (Nat.le_refl _)) (fun x hx => (ok x hx).1) hm)
  obtain ⟨n, hn⟩ : ∃ n, n = xs.length := ⟨_, rfl⟩
  rw [← hn] at hm Hl ⊢
  have Hn := Lib.hid hn
  have hm2 : n ≤ 9223372036854775807 := Nat.le_trans hm (by decide)
  have C0 : Hid (w1.cell? ⟨w.heap.size, 0, none⟩ = some (.int .i64 x0)) := cell_row Hrow.out 0
  have C1 : Hid (w1.cell? ⟨w.heap.size, 1, none⟩ = some (.int .i64 x1)) := cell_row Hrow.out 1
  have C2 : Hid (w1.cell? ⟨w.heap.size, 2, none⟩ = some (.int .i64 x2)) := cell_row Hrow.out 2
  have Hx := Lib.hid (And.intro hx0 (And.intro hx1 hx2))
  clear hw1 hrow hb1 h ok hn hm hx0 hx1 hx2
  go_enter Try.func3, Try.ntmps3
  go_upto_region 1 with (fail)
  rw [Hw1.out]
  have c0 := C0.out
  have c1 := C1.out
  have c2 := C2.out
  go_cut [11] from 9 to 11 (fun s11 wx => ∃ b, s11 = .bool b ∧ LargeQ w1 x0 n xs (.returned (.bool b)) wx)
  case first =>
    go_wp2_with (go_at_call 6; refine Hl.out.mono ?_; rintro e w2 ⟨hb2, b, rfl, hq⟩; have Hb2 := Lib.hid hb2; have Hq := Lib.hid hq; clear hb2 hq)
    go_meet
    exact ⟨_, rfl, Hb2.out, _, rfl, Hq.out⟩
  case rest =>
  obtain ⟨b, rfl, hb2, b', hbe, hq⟩ := hcut
  cases hbe
  rename World => w2
  have Hb2 := Lib.hid hb2
  have Hq := Lib.hid hq
  have hlow2 := Hb1.out.trans (hb2.mono Hb1.out.size)
  have Low2 := Lib.hid hlow2
  have D0 : Hid (w2.cell? ⟨w.heap.size, 0, none⟩ = some (.int .i64 x0)) := (World.cell?_of_block (hb2.block _ (World.block_lt_of_cell? _ _ c0))).trans c0
  have D1 : Hid (w2.cell? ⟨w.heap.size, 1, none⟩ = some (.int .i64 x1)) := (World.cell?_of_block (hb2.block _ (World.block_lt_of_cell? _ _ c1))).trans c1
  have D2 : Hid (w2.cell? ⟨w.heap.size, 2, none⟩ = some (.int .i64 x2)) := (World.cell?_of_block (hb2.block _ (World.block_lt_of_cell? _ _ c2))).trans c2
  clear hb2 hq hlow2 c0 c1 c2
  cases b with
  | true =>
    go_wp2_with (go_at_call 7; refine (awake_any _).mono ?_; rintro e w9 ⟨rfl, hb9⟩; have L9 := Lib.hid hb9; clear hb9)
    go_ret
    exact ⟨rfl, Low2.out.trans (L9.out.mono Low2.out.size)⟩
  | false =>
    obtain ⟨hn30, hx60, hxl⟩ := Hq.out rfl
    have HXL := Lib.hid hxl
    clear hxl
    have d0 := D0.out
    by_cases h1 : x0 < 1
    · go_wp2_with (first
        | (go_at_call 8; refine (new_no x0 _ (.inl h1)).mono ?_; rintro e w' ⟨rfl, rfl⟩)
        | (go_at_call 7; refine (awake_any _).mono ?_; rintro e w9 ⟨rfl, hb9⟩; have L9 := Lib.hid hb9; clear hb9))
      go_ret
      exact ⟨rfl, Low2.out.trans (L9.out.mono Low2.out.size)⟩
    · obtain ⟨k, hk⟩ : ∃ k : Nat, x0 = k := ⟨x0.toNat, by omega⟩
      subst hk
      have hk1 : 1 ≤ k := by omega
      have hk2 : k ≤ 60 := by omega
      have Hnew := Lib.hid (new_ok k w2 hk1 (by omega))
      unfold DK.ptr at Hnew
      clear h1 hx60
      go_upto_region 6 with (go_at_call 8; refine Hnew.out.mono ?_; rintro e w3 ⟨K, rfl, hd3, hb3, hg3, hh3⟩; have Hd3 := Lib.hid hd3; have Hb3 := Lib.hid hb3; have Hk3 := Lib.hid (And.intro hg3 hh3); clear hd3 hb3 hg3 hh3)
      clear d0
      have Low3 := Lib.hid (Low2.out.trans (Hb3.out.mono Low2.out.size))
      have E0 : Hid (w3.cell? ⟨w.heap.size, 0, none⟩ = some (.int .i64 (k : Nat))) := (World.cell?_of_block (Hb3.out.block _ (World.block_lt_of_cell? _ _ D0.out))).trans D0.out
      have E1 : Hid (w3.cell? ⟨w.heap.size, 1, none⟩ = some (.int .i64 x1)) := (World.cell?_of_block (Hb3.out.block _ (World.block_lt_of_cell? _ _ D1.out))).trans D1.out
      have E2 : Hid (w3.cell? ⟨w.heap.size, 2, none⟩ = some (.int .i64 x2)) := (World.cell?_of_block (Hb3.out.block _ (World.block_lt_of_cell? _ _ D2.out))).trans D2.out
      obtain ⟨m, hm⟩ : ∃ m, m = k * 128 := ⟨_, rfl⟩
      have hmk := mk_any m (by omega)
      have hwr : IntKind.i64.wrap ((128 : Int) * (k : Int)) = (m : Int) := by rw [IntKind.wrap_i64]; omega
      have Hm := Lib.hid hm
      clear hm
      go_cut [7] from 27 to 36 (fun s7 wx => N9 w3.heap.size k K ⟨(k : Nat), x1, x2⟩ s7 wx ∧ Below w3.heap.size w3 wx)
      case first =>
        have apx : apartB [27, 28, 29, 30, 31, 32, 33, 34, 35, 36, 7] = true := by decide
        refine wp_region_any (by kernel_rfl) ?_
        change wpAny _ _ _ _ _ _ _ (World.drew _)
        refine wpAny_inv (fun ll aa wx => Hid (ll.size = 11 ∧ Below w3.heap.size w3 wx) ∧ ∃ (z : Nat → Value), Hid (aa = ⟨#[.agg #[.int .i64 (k : Nat), .int .i64 x1, .int .i64 x2], .slice A n c, .pointer (some ⟨w.heap.size, 0, none⟩), undef, .bool false, .pointer (some ⟨K.g, 0, none⟩), .int .i64 0, z 7, undef, u9, u10, .bool false, undef, .tuple #[.pointer (some ⟨K.g, 0, none⟩), .int .i64 0], .pointer (some ⟨w.heap.size, 0, none⟩), .int .i64 (k : Nat), .tuple #[.pointer (some ⟨K.g, 0, none⟩), .int .i64 0], .pointer (some ⟨K.g, 0, none⟩), .int .i64 0, .int .i64 0, .bool false, undef, undef, undef, undef, undef, undef, z 27, z 28, z 29, z 30, z 31, z 32, z 33, z 34, z 35, z 36, undef, undef, undef, undef, undef, undef, undef, undef, undef, undef, undef, undef, undef, undef, undef, undef, undef, undef, undef, undef, undef, undef, undef, undef, undef, undef, undef, undef, undef, undef, undef, undef, undef, undef, undef, undef, undef, undef, undef, undef, undef, undef, undef, undef, undef, undef, undef, undef, undef, undef, undef, undef, undef, undef, undef, undef, undef, undef, undef, undef, undef, undef, undef, undef, undef, undef, undef, undef, undef, undef, undef, undef, undef, undef, undef, undef, undef, undef, undef, undef, undef, undef, undef], []⟩) ∧ Holding [27, 28, 29, 30, 31, 32, 33, 34, 35, 36, 7] [some (.pointer (some ⟨K.g, 0, none⟩)), some (.pointer (some ⟨w.heap.size, 0, none⟩)), some (.int .i64 (k : Nat)), some (.int .i64 (m : Nat)), none, none, none, some (.agg #[.int .i64 (k : Nat), .int .i64 x1, .int .i64 x2]), none, none, none] ll z ∧ Whn ll 4 (N4 w3.heap.size k) (z 31) wx ∧ Whn ll 5 (N5 w3.heap.size k) (z 32) wx ∧ Whn ll 6 (N6 w3.heap.size k) (z 33) wx ∧ Whn ll 8 (N8 w3.heap.size k K ⟨(k : Nat), x1, x2⟩) (z 35) wx ∧ Whn ll 9 (N9 w3.heap.size k K ⟨(k : Nat), x1, x2⟩) (z 36) wx ∧ Whn ll 10 (N9 w3.heap.size k K ⟨(k : Nat), x1, x2⟩) (z 7) wx) ?_ (by kernel_rfl) ?_ ?_ _ _ _ _ (unlisted_none _) ?_
        · rintro ll aa wx ⟨hI, _⟩
          exact hI.out.1
        · rintro ll aa wx ⟨hI, z, ha, hz, hp4, hp5, hp6, hp8, hp9, hp10⟩ hall
          have hx := Lib.hid hI.out.2
          have e0 : z 27 = .pointer (some ⟨K.g, 0, none⟩) := hz 0 _ (hall 0 (by decide)) rfl
          have e1 : z 28 = .pointer (some ⟨w.heap.size, 0, none⟩) := hz 1 _ (hall 1 (by decide)) rfl
          have e2 : z 29 = .int .i64 (k : Nat) := hz 2 _ (hall 2 (by decide)) rfl
          have e3 : z 30 = .int .i64 (m : Nat) := hz 3 _ (hall 3 (by decide)) rfl
          have e7 : z 34 = .agg #[.int .i64 (k : Nat), .int .i64 x1, .int .i64 x2] := hz 7 _ (hall 7 (by decide)) rfl
          have p4 := hp4.get (hall 4 (by decide))
          have p5 := hp5.get (hall 5 (by decide))
          have p6 := hp6.get (hall 6 (by decide))
          have p8 := hp8.get (hall 8 (by decide))
          have p9 := hp9.get (hall 9 (by decide))
          have p10 := hp10.get (hall 10 (by decide))
          clear hall hz hI hp4 hp5 hp6 hp8 hp9 hp10
          obtain rfl := ha.out
          clear ha
          clear apx
          clear e0 e1 e2 e3 e7
          go_wp2
          go_meet
          exact ⟨p10, hx.out⟩
        · rintro ll aa wx i ⟨hI, z, ha, hz, hp4, hp5, hp6, hp8, hp9, hp10⟩ hi hu hw
          obtain rfl := ha.out
          have hsz := Lib.hid hI.out.1
          have hx := Lib.hid hI.out.2
          clear ha hI
          have hin : i < 11 := hi
          obtain rfl | rfl | rfl | rfl | rfl | rfl | rfl | rfl | rfl | rfl | rfl : i = 0 ∨ i = 1 ∨ i = 2 ∨ i = 3 ∨ i = 4 ∨ i = 5 ∨ i = 6 ∨ i = 7 ∨ i = 8 ∨ i = 9 ∨ i = 10 := by omega
          · refine wpOp_plain rfl rfl ?_
            go_simp
            exact ⟨⟨by simp [hsz.out], hx.out⟩, upd z 27 (.pointer (some ⟨K.g, 0, none⟩)), (by unfold Hid; simp [upd]), hz.next apx hsz.out 0 (by decide) _ (fun _ h => Option.some.inj h), hp4.keep (by decide), hp5.keep (by decide), hp6.keep (by decide), hp8.keep (by decide), hp9.keep (by decide), hp10.keep (by decide)⟩
          · refine wpOp_plain rfl rfl ?_
            go_simp
            exact ⟨⟨by simp [hsz.out], hx.out⟩, upd z 28 (.pointer (some ⟨w.heap.size, 0, none⟩)), (by unfold Hid; simp [upd]), hz.next apx hsz.out 1 (by decide) _ (fun _ h => Option.some.inj h), hp4.keep (by decide), hp5.keep (by decide), hp6.keep (by decide), hp8.keep (by decide), hp9.keep (by decide), hp10.keep (by decide)⟩
          · have e1 : z 28 = .pointer (some ⟨w.heap.size, 0, none⟩) := hz 1 _ (hw 1 (by kernel_rfl)) rfl
            have cl : wx.cell? ⟨w.heap.size, 0, none⟩ = some (.int .i64 (k : Nat)) := (hx.out.cell (p := ⟨w.heap.size, 0, none⟩) (World.block_lt_of_cell? _ _ E0.out)).trans E0.out
            refine wpOp_plain rfl rfl ?_
            go_simp
            exact ⟨⟨by simp [hsz.out], hx.out⟩, upd z 29 (.int .i64 (k : Nat)), (by unfold Hid; simp [upd, e1]), hz.next apx hsz.out 2 (by decide) _ (fun _ h => Option.some.inj h), hp4.keep (by decide), hp5.keep (by decide), hp6.keep (by decide), hp8.keep (by decide), hp9.keep (by decide), hp10.keep (by decide)⟩
          · have e2 : z 29 = .int .i64 (k : Nat) := hz 2 _ (hw 2 (by kernel_rfl)) rfl
            refine wpOp_plain rfl rfl ?_
            go_simp
            exact ⟨⟨by simp [hsz.out], hx.out⟩, upd z 30 (.int .i64 (m : Nat)), (by unfold Hid; simp [upd, e2]), hz.next apx hsz.out 3 (by decide) _ (fun _ h => Option.some.inj h), hp4.keep (by decide), hp5.keep (by decide), hp6.keep (by decide), hp8.keep (by decide), hp9.keep (by decide), hp10.keep (by decide)⟩
          · have e3 : z 30 = .int .i64 (m : Nat) := hz 3 _ (hw 3 (by kernel_rfl)) rfl
            refine wpOp_plain rfl rfl ?_
            go_simp
            obtain ⟨vr, hvr⟩ : ∃ vr, vr = Value.slice (some ⟨wx.heap.size, 0, none⟩) m m := ⟨_, rfl⟩
            have low := alloc_low (w := wx) (.cells (u8s (List.replicate m 0)) 5)
            have q4 : N4 w3.heap.size k vr (wx.alloc (.cells (u8s (List.replicate m 0)) 5)) := ⟨_, by rw [hvr, Hm.out], hx.out.size, by rw [← Hm.out]; exact Go.heap_alloc_new wx _⟩
            exact ⟨⟨by simp [hsz.out], hx.out.trans (low.mono hx.out.size)⟩, upd z 31 (vr), (by unfold Hid; simp [upd, e3, hvr]), hz.next apx hsz.out 4 (by decide) _ (fun _ h => by cases h), Whn.done (q4), (hp5.keep (by decide)).map (fun h => h.later low), (hp6.keep (by decide)).map (fun h => h.later low), (hp8.keep (by decide)).map (fun h => h.later low), (hp9.keep (by decide)).map (fun h => h.later low), (hp10.keep (by decide)).map (fun h => h.later low)⟩
          · have p4 := hp4.get (hw 4 (by kernel_rfl))
            obtain ⟨b, e4, g4, r4⟩ := p4
            refine wpOp_plain rfl rfl ?_
            go_simp
            obtain ⟨vr, hvr⟩ : ∃ vr, vr = Value.agg (rowR b (k * 128) false false 0 z16) := ⟨_, rfl⟩
            exact ⟨⟨by simp [hsz.out], hx.out⟩, upd z 32 (vr), (by unfold Hid; simp [upd, e4, hvr, rowR, vals, z16]), hz.next apx hsz.out 5 (by decide) _ (fun _ h => by cases h), hp4.keep (by decide), Whn.done (⟨b, hvr, g4, r4⟩), hp6.keep (by decide), hp8.keep (by decide), hp9.keep (by decide), hp10.keep (by decide)⟩
          · have p5 := hp5.get (hw 5 (by kernel_rfl))
            obtain ⟨b, e5, g5, r5⟩ := p5
            refine wpOp_plain rfl rfl ?_
            go_simp
            obtain ⟨vr, hvr⟩ : ∃ vr, vr = Value.pointer (some ⟨wx.heap.size, 0, none⟩) := ⟨_, rfl⟩
            have low := alloc_low (w := wx) (.cells (rowR b (k * 128) false false 0 z16) 36)
            exact ⟨⟨by simp [hsz.out], hx.out.trans (low.mono hx.out.size)⟩, upd z 33 (vr), (by unfold Hid; simp [upd, e5, hvr]), hz.next apx hsz.out 6 (by decide) _ (fun _ h => by cases h), (hp4.keep (by decide)).map (fun h => h.later low), (hp5.keep (by decide)).map (fun h => h.later low), Whn.done (⟨⟨wx.heap.size, b⟩, hvr, nm_box hx.out.size g5 r5⟩), (hp8.keep (by decide)).map (fun h => h.later low), (hp9.keep (by decide)).map (fun h => h.later low), (hp10.keep (by decide)).map (fun h => h.later low)⟩
          · have cl0 := hx.out.cell (World.block_lt_of_cell? _ _ E0.out) |>.trans E0.out
            have cl1 := hx.out.cell (World.block_lt_of_cell? _ _ E1.out) |>.trans E1.out
            have cl2 := hx.out.cell (World.block_lt_of_cell? _ _ E2.out) |>.trans E2.out
            refine wpOp_plain rfl rfl ?_
            go_simp
            exact ⟨⟨by simp [hsz.out], hx.out⟩, upd z 34 (.agg #[.int .i64 (k : Nat), .int .i64 x1, .int .i64 x2]), (by unfold Hid; simp [upd]), hz.next apx hsz.out 7 (by decide) _ (fun _ h => Option.some.inj h), hp4.keep (by decide), hp5.keep (by decide), hp6.keep (by decide), hp8.keep (by decide), hp9.keep (by decide), hp10.keep (by decide)⟩
          · have e0 : z 27 = .pointer (some ⟨K.g, 0, none⟩) := hz 0 _ (hw 0 (by kernel_rfl)) rfl
            have e7 : z 34 = .agg #[.int .i64 (k : Nat), .int .i64 x1, .int .i64 x2] := hz 7 _ (hw 7 (by kernel_rfl)) rfl
            have p6 := hp6.get (hw 6 (by kernel_rfl))
            obtain ⟨M, e6, h6⟩ := p6
            refine wpOp_plain rfl rfl ?_
            go_simp
            obtain ⟨vr, hvr⟩ : ∃ vr, vr = Value.agg (rowP K M (.pointer none) (.pointer none) ⟨(k : Nat), x1, x2⟩) := ⟨_, rfl⟩
            exact ⟨⟨by simp [hsz.out], hx.out⟩, upd z 35 (vr), (by unfold Hid; simp [upd, e0, e7, e6, hvr, rowP]), hz.next apx hsz.out 8 (by decide) _ (fun _ h => by cases h), hp4.keep (by decide), hp5.keep (by decide), hp6.keep (by decide), Whn.done (⟨M, hvr, h6⟩), hp9.keep (by decide), hp10.keep (by decide)⟩
          · have p8 := hp8.get (hw 8 (by kernel_rfl))
            obtain ⟨M, e8, h8⟩ := p8
            refine wpOp_plain rfl rfl ?_
            go_simp
            obtain ⟨vr, hvr⟩ : ∃ vr, vr = Value.pointer (some ⟨wx.heap.size, 0, none⟩) := ⟨_, rfl⟩
            have low := alloc_low (w := wx) (.cells (rowP K M (.pointer none) (.pointer none) ⟨(k : Nat), x1, x2⟩) 40)
            have q9 := n9_box (K := K) (x := ⟨(k : Nat), x1, x2⟩) hx.out.size h8
            rw [← hvr] at q9
            exact ⟨⟨by simp [hsz.out], hx.out.trans (low.mono hx.out.size)⟩, upd z 36 (vr), (by unfold Hid; simp [upd, e8, hvr]), hz.next apx hsz.out 9 (by decide) _ (fun _ h => by cases h), (hp4.keep (by decide)).map (fun h => h.later low), (hp5.keep (by decide)).map (fun h => h.later low), (hp6.keep (by decide)).map (fun h => h.later low), (hp8.keep (by decide)).map (fun h => h.later low), Whn.done (q9), (hp10.keep (by decide)).map (fun h => h.later low)⟩
          · have p9 := hp9.get (hw 9 (by kernel_rfl))
            obtain ⟨M, pg, e9, h9⟩ := p9
            refine wpOp_plain rfl rfl ?_
            go_simp
            obtain ⟨vr, hvr⟩ : ∃ vr, vr = Value.pointer (some ⟨pg, 0, none⟩) := ⟨_, rfl⟩
            exact ⟨⟨by simp [hsz.out], hx.out⟩, upd z 7 (vr), (by unfold Hid; simp [upd, e9, hvr]), hz.next apx hsz.out 10 (by decide) _ (fun _ h => by cases h), hp4.keep (by decide), hp5.keep (by decide), hp6.keep (by decide), hp8.keep (by decide), hp9.keep (by decide), Whn.done (⟨M, pg, hvr, h9⟩)⟩
        · exact ⟨⟨rfl, (Below.refl _ _).drew⟩, fun xx => (#[.agg #[.int .i64 (k : Nat), .int .i64 x1, .int .i64 x2], .slice A n c, .pointer (some ⟨w.heap.size, 0, none⟩), undef, .bool false, .pointer (some ⟨K.g, 0, none⟩), .int .i64 0, undef, undef, u9, u10, .bool false, undef, .tuple #[.pointer (some ⟨K.g, 0, none⟩), .int .i64 0], .pointer (some ⟨w.heap.size, 0, none⟩), .int .i64 (k : Nat), .tuple #[.pointer (some ⟨K.g, 0, none⟩), .int .i64 0], .pointer (some ⟨K.g, 0, none⟩), .int .i64 0, .int .i64 0, .bool false, undef, undef, undef, undef, undef, undef, undef, undef, undef, undef, undef, undef, undef, undef, undef, undef, undef, undef, undef, undef, undef, undef, undef, undef, undef, undef, undef, undef, undef, undef, undef, undef, undef, undef, undef, undef, undef, undef, undef, undef, undef, undef, undef, undef, undef, undef, undef, undef, undef, undef, undef, undef, undef, undef, undef, undef, undef, undef, undef, undef, undef, undef, undef, undef, undef, undef, undef, undef, undef, undef, undef, undef, undef, undef, undef, undef, undef, undef, undef, undef, undef, undef, undef, undef, undef, undef, undef, undef, undef, undef, undef, undef, undef, undef, undef, undef, undef, undef, undef] : Array Value).getD xx undef, rfl, Holding.start, Whn.none (by decide), Whn.none (by decide), Whn.none (by decide), Whn.none (by decide), Whn.none (by decide), Whn.none (by decide)⟩
      case rest =>
      obtain ⟨hn9, hb4⟩ := hcut
      rename World => w4
      have hsz2 := Low2.out.size
      obtain ⟨M, pg, rfl, hpd⟩ := n9_pd hn9 rfl Hd3.out ⟨Nat.le_trans hsz2 Hk3.out.1, Nat.le_trans hsz2 Hk3.out.2⟩ Low3.out hb4
      have Hpd := Lib.hid hpd
      have Low4 := Lib.hid hpd.low
      have f1 : w4.cell? ⟨w.heap.size, 1, none⟩ = some (.int .i64 x1) := (World.cell?_of_block (hb4.block _ (World.block_lt_of_cell? _ _ E1.out))).trans E1.out
      have f2 : w4.cell? ⟨w.heap.size, 2, none⟩ = some (.int .i64 x2) := (World.cell?_of_block (hb4.block _ (World.block_lt_of_cell? _ _ E2.out))).trans E2.out
      clear hn9 hb4 hpd hsz2 hmk hwr Hl Hnew C0 D0 E0
      by_cases g1 : 1000 < x1
      · go_wp2_with (go_at_call 7; refine (awake_any _).mono ?_; rintro e w9 ⟨rfl, hb9⟩; have L9 := Lib.hid hb9; clear hb9)
        go_ret
        exact ⟨rfl, Low4.out.trans (L9.out.mono Low4.out.size)⟩
      · by_cases g2 : 1000 < x2
        · go_wp2_with (go_at_call 7; refine (awake_any _).mono ?_; rintro e w9 ⟨rfl, hb9⟩; have L9 := Lib.hid hb9; clear hb9)
          go_ret
          exact ⟨rfl, Low4.out.trans (L9.out.mono Low4.out.size)⟩
        · by_cases g3 : x1 < -1000
          · go_wp2_with (go_at_call 7; refine (awake_any _).mono ?_; rintro e w9 ⟨rfl, hb9⟩; have L9 := Lib.hid hb9; clear hb9)
            go_ret
            exact ⟨rfl, Low4.out.trans (L9.out.mono Low4.out.size)⟩
          · have Hop := Lib.hid (play_open Hpd.out (x := ⟨(k : Nat), x1, x2⟩) ⟨by show -1000 ≤ x1; omega, by show x1 ≤ 1000; omega⟩ ⟨Hx.out.2.2.1, by show x2 ≤ 1000; omega⟩)
            have Hxx : Hid ((-1000 ≤ x1 ∧ x1 ≤ 1000) ∧ (-9223372036854775808 ≤ x2 ∧ x2 ≤ 1000)) := ⟨⟨by omega, by omega⟩, Hx.out.2.2.1, by omega⟩
            go_wp2_with (go_at_call 9; refine Hop.out.mono ?_; rintro e w5 ⟨rfl, hps⟩; have Hps := Lib.hid hps; clear hps)
            clear f1 f2 g1 g2 g3
            go_loopw [8] (fun v wr => ∃ i : Nat, i ≤ n ∧ v = .int .i64 i ∧ Hid (∃ D, PS w wr pg K M D ⟨(k : Nat), x1, x2⟩ ∧ D.writes ≤ 20 * i)) (fun v _ => n - (intOf v).toNat)
            case atStart => exact ⟨0, Nat.zero_le _, rfl, _, Hps.out, by show (0 : Int) ≤ _; omega⟩
            case round =>
              obtain ⟨i, hi, rfl, hrel⟩ := hrel
              have Hrel := hrel
              clear hrel Hps Hop
              by_cases hlt : i < n
              · have hltI : (i : Int) < (n : Int) := by omega
                obtain ⟨b, off, rfl, hg, hc⟩ := H.out.2.2 (by rw [← Hn.out]; omega)
                have hix : i < xs.length := by rw [← Hn.out]; exact hlt
                have hx : xs[i]? = some xs[i] := List.getElem?_eq_getElem hix
                obtain ⟨y, hy⟩ : ∃ y, y = xs[i] := ⟨_, rfl⟩
                rw [← hy] at hx
                have hmem : y ∈ xs := by rw [hy]; exact List.getElem_mem hix
                have hyo := HO.out y hmem
                obtain ⟨cs, hcs⟩ : ∃ cs, cs = y.c.toList := ⟨_, rfl⟩
                have hcap : n ≤ c := by rw [Hn.out]; exact H.out.1
                obtain ⟨D0, hps0, hw0⟩ := Hrel.out
                have hlow0 : Below w.heap.size w wr := by obtain ⟨_, _, hp, _⟩ := hps0; exact hp.low
                have CR : Hid (wr.rangeAt b (off + i * 20) cs) := fun j v hv => by
                  rw [hcs] at hv
                  have h0 := hc i y hx j v hv
                  exact (hlow0.cell (p := ⟨b, off + i * 20 + j, none⟩) hg).trans h0
                have Hcl : Hid ((Try.prog.info? 43).map (·.size) = some cs.length) := by
                  show _ = _
                  rw [infoAct, hcs, Array.length_toList, Aw.c]
                  simp [vals_length, hyo.1.mlen]
                have hca : cs.toArray = y.c := by rw [hcs]
                have HDo : Hid (∀ wx, Below wr.heap.size wr wx → Calls Try.prog 10 #[.pointer (some ⟨pg, 0, none⟩), .agg cs.toArray] wx fun e w' => e = .returned (.bool true) ∧ ∃ D, PS w w' pg K M D ⟨(k : Nat), x1, x2⟩ ∧ D.writes ≤ 20 * ((i : Int) + 1)) := fun wx hb => by
                  rw [hca]
                  refine (do_any (hps0.later hb) y hyo.1 Hxx.out.1 Hxx.out.2 hyo.2 (HXL.out y hmem) (by omega)).mono ?_
                  rintro e w' ⟨rfl, D', hp, hw⟩
                  exact ⟨rfl, D', hp, by omega⟩
                clear hg hc hix hx hy hmem hyo hcs hps0 hw0 hlow0 hca
                go_upto_region 12 with (fail)
                go_cut [97] from 77 to 97 (fun s97 wx => s97 = .bool false ∧ ∃ D, PS w wx pg K M D ⟨(k : Nat), x1, x2⟩ ∧ D.writes ≤ 20 * ((i : Int) + 1))
                case first =>
                  have apx : apartB [77, 78, 79, 80, 81, 82, 83, 84, 85, 86, 87, 88, 89, 90, 91, 92, 93, 94, 95, 96, 97] = true := by decide
                  refine wp_region_any (by kernel_rfl) ?_
                  change wpAny _ _ _ _ _ _ _ (World.drew _)
                  refine wpAny_inv2 (fun ll aa wx => Hid (ll.size = 21 ∧ R12 w wr pg K M ⟨(k : Nat), x1, x2⟩ (20 * ((i : Int) + 1)) 5 ll wx) ∧ ∃ (z : Nat → Value), Hid (aa = ⟨#[.agg #[.int .i64 (k : Nat), .int .i64 x1, .int .i64 x2], .slice (some ⟨b, off, none⟩) n c, .pointer (some ⟨w.heap.size, 0, none⟩), undef, u4, .pointer (some ⟨K.g, 0, none⟩), .int .i64 0, .pointer (some ⟨pg, 0, none⟩), .int .i64 (i : Nat), u9, u10, .bool false, undef, .tuple #[.pointer (some ⟨K.g, 0, none⟩), .int .i64 0], .pointer (some ⟨w.heap.size, 0, none⟩), .int .i64 (k : Nat), .tuple #[.pointer (some ⟨K.g, 0, none⟩), .int .i64 0], .pointer (some ⟨K.g, 0, none⟩), .int .i64 0, .int .i64 0, .bool false, undef, undef, undef, undef, undef, undef, u27, u28, u29, u30, u31, u32, u33, u34, u35, u36, .pointer (some ⟨w.heap.size, 1, none⟩), .int .i64 x1, .bool false, .bool false, .pointer (some ⟨w.heap.size, 2, none⟩), .int .i64 x2, .bool false, .bool false, .bool false, .pointer (some ⟨w.heap.size, 1, none⟩), .int .i64 x1, .bool false, .bool false, .bool false, .pointer (some ⟨pg, 0, none⟩), .bool true, .bool false, .bool false, undef, undef, undef, undef, undef, undef, undef, undef, undef, undef, undef, undef, undef, undef, undef, undef, .int .i64 (i : Nat), .slice (some ⟨b, off, none⟩) n c, .int .i64 (n : Nat), .bool true, u75, u76, z 77, z 78, z 79, z 80, z 81, z 82, z 83, z 84, z 85, z 86, z 87, z 88, z 89, z 90, z 91, z 92, z 93, z 94, z 95, z 96, z 97, u98, u99, u100, u101, u102, u103, u104, u105, u106, u107, u108, u109, u110, u111, u112, u113, u114, u115, u116, u117, u118, undef], []⟩) ∧ Holding [77, 78, 79, 80, 81, 82, 83, 84, 85, 86, 87, 88, 89, 90, 91, 92, 93, 94, 95, 96, 97] [some (.pointer (some ⟨pg, 0, none⟩)), some (.slice (some ⟨b, off, none⟩) n c), some (.int .i64 (i : Nat)), some (.pointer (some ⟨b, off + i * 20, none⟩)), some (.agg cs.toArray), some (.bool true), some (.bool false), some (.bool false), some (.pointer (some ⟨K.g, 0, none⟩)), none, none, some (.pointer (some ⟨pg, 0, none⟩)), some (.pointer (some ⟨pg, 0, none⟩)), some (.pointer (some ⟨pg, 1, none⟩)), some (.pointer (some ⟨M.g, 0, none⟩)), some (.pointer (some ⟨M.g, 0, none⟩)), some (.pointer (some ⟨M.g, 0, none⟩)), none, none, some (.bool false), some (.bool false)] ll z ∧ Whn ll 9 (Y12 w pg K M ⟨(k : Nat), x1, x2⟩) (z 86) wx ∧ Whn ll 10 (T12 w pg K M ⟨(k : Nat), x1, x2⟩) (z 87) wx ∧ Whn ll 17 (Y12 w pg K M ⟨(k : Nat), x1, x2⟩) (z 94) wx ∧ Whn ll 18 (T12 w pg K M ⟨(k : Nat), x1, x2⟩) (z 95) wx) ?_ (by kernel_rfl) ?_ ?_ _ rfl _ _ ?_
                  · rintro ll aa wx ⟨hI, _⟩
                    exact hI.out.1
                  · rintro ll aa wx ⟨hI, z, ha, hz, hp9, hp10, hp17, hp18⟩ hall
                    have hx := Lib.hid hI.out.2
                    have e0 : z 77 = .pointer (some ⟨pg, 0, none⟩) := hz 0 _ (hall 0 (by decide)) rfl
                    have e1 : z 78 = .slice (some ⟨b, off, none⟩) n c := hz 1 _ (hall 1 (by decide)) rfl
                    have e2 : z 79 = .int .i64 (i : Nat) := hz 2 _ (hall 2 (by decide)) rfl
                    have e3 : z 80 = .pointer (some ⟨b, off + i * 20, none⟩) := hz 3 _ (hall 3 (by decide)) rfl
                    have e4 : z 81 = .agg cs.toArray := hz 4 _ (hall 4 (by decide)) rfl
                    have e5 : z 82 = .bool true := hz 5 _ (hall 5 (by decide)) rfl
                    have e6 : z 83 = .bool false := hz 6 _ (hall 6 (by decide)) rfl
                    have e7 : z 84 = .bool false := hz 7 _ (hall 7 (by decide)) rfl
                    have e8 : z 85 = .pointer (some ⟨K.g, 0, none⟩) := hz 8 _ (hall 8 (by decide)) rfl
                    have e11 : z 88 = .pointer (some ⟨pg, 0, none⟩) := hz 11 _ (hall 11 (by decide)) rfl
                    have e12 : z 89 = .pointer (some ⟨pg, 0, none⟩) := hz 12 _ (hall 12 (by decide)) rfl
                    have e13 : z 90 = .pointer (some ⟨pg, 1, none⟩) := hz 13 _ (hall 13 (by decide)) rfl
                    have e14 : z 91 = .pointer (some ⟨M.g, 0, none⟩) := hz 14 _ (hall 14 (by decide)) rfl
                    have e15 : z 92 = .pointer (some ⟨M.g, 0, none⟩) := hz 15 _ (hall 15 (by decide)) rfl
                    have e16 : z 93 = .pointer (some ⟨M.g, 0, none⟩) := hz 16 _ (hall 16 (by decide)) rfl
                    have e19 : z 96 = .bool false := hz 19 _ (hall 19 (by decide)) rfl
                    have e20 : z 97 = .bool false := hz 20 _ (hall 20 (by decide)) rfl
                    have p9 := hp9.get (hall 9 (by decide))
                    have p10 := hp10.get (hall 10 (by decide))
                    have p17 := hp17.get (hall 17 (by decide))
                    have p18 := hp18.get (hall 18 (by decide))
                    have h5all := hall 5 (by decide)
                    clear hall hz hI hp9 hp10 hp17 hp18
                    obtain rfl := ha.out
                    clear ha
                    clear apx
                    clear e0 e1 e2 e3 e4 e5 e6 e7 e8 e11 e12 e13 e14 e15 e16 e19 p9 p10 p17 p18
                    have h5 := hx.out.aft h5all
                    go_wp2
                    go_meet
                    exact ⟨e20, h5⟩
                  · rintro ll aa wx i ⟨hI, z, ha, hz, hp9, hp10, hp17, hp18⟩ hcl hi hu hw
                    obtain rfl := ha.out
                    have hsz := Lib.hid hI.out.1
                    have hx := Lib.hid hI.out.2
                    clear ha hI
                    have hin : i < 21 := hi
                    obtain rfl | rfl | rfl | rfl | rfl | rfl | rfl | rfl | rfl | rfl | rfl | rfl | rfl | rfl | rfl | rfl | rfl | rfl | rfl | rfl | rfl : i = 0 ∨ i = 1 ∨ i = 2 ∨ i = 3 ∨ i = 4 ∨ i = 5 ∨ i = 6 ∨ i = 7 ∨ i = 8 ∨ i = 9 ∨ i = 10 ∨ i = 11 ∨ i = 12 ∨ i = 13 ∨ i = 14 ∨ i = 15 ∨ i = 16 ∨ i = 17 ∨ i = 18 ∨ i = 19 ∨ i = 20 := by omega
                    · refine wpOp_plain rfl rfl ?_
                      go_simp
                      exact ⟨⟨by simp [hsz.out], hx.out.same (by decide)⟩, upd z 77 (.pointer (some ⟨pg, 0, none⟩)), (by unfold Hid; simp [upd]), hz.next apx hsz.out 0 (by decide) _ (fun _ h => Option.some.inj h), hp9.keep (by decide), hp10.keep (by decide), hp17.keep (by decide), hp18.keep (by decide)⟩
                    · refine wpOp_plain rfl rfl ?_
                      go_simp
                      exact ⟨⟨by simp [hsz.out], hx.out.same (by decide)⟩, upd z 78 (.slice (some ⟨b, off, none⟩) n c), (by unfold Hid; simp [upd]), hz.next apx hsz.out 1 (by decide) _ (fun _ h => Option.some.inj h), hp9.keep (by decide), hp10.keep (by decide), hp17.keep (by decide), hp18.keep (by decide)⟩
                    · refine wpOp_plain rfl rfl ?_
                      go_simp
                      exact ⟨⟨by simp [hsz.out], hx.out.same (by decide)⟩, upd z 79 (.int .i64 (i : Nat)), (by unfold Hid; simp [upd]), hz.next apx hsz.out 2 (by decide) _ (fun _ h => Option.some.inj h), hp9.keep (by decide), hp10.keep (by decide), hp17.keep (by decide), hp18.keep (by decide)⟩
                    · have e1 : z 78 = .slice (some ⟨b, off, none⟩) n c := hz 1 _ (hw 1 (by kernel_rfl)) rfl
                      have e2 : z 79 = .int .i64 (i : Nat) := hz 2 _ (hw 2 (by kernel_rfl)) rfl
                      refine wpOp_plain rfl rfl ?_
                      go_simp
                      exact ⟨⟨by simp [hsz.out], hx.out.same (by decide)⟩, upd z 80 (.pointer (some ⟨b, off + i * 20, none⟩)), (by unfold Hid; simp [upd, e1, e2]), hz.next apx hsz.out 3 (by decide) _ (fun _ h => Option.some.inj h), hp9.keep (by decide), hp10.keep (by decide), hp17.keep (by decide), hp18.keep (by decide)⟩
                    · have e3 : z 80 = .pointer (some ⟨b, off + i * 20, none⟩) := hz 3 _ (hw 3 (by kernel_rfl)) rfl
                      have n5 : ll.getD 5 false = false := (by cases e : ll.getD 5 false with | false => rfl | true => (have h9 := hcl 5 4 e (by kernel_rfl); rw [h9] at hu; cases hu))
                      have hb5 := hx.out.bef n5
                      have hrg : wx.rangeAt b (off + i * 20) cs := fun j v hv => (hb5.cell (World.block_lt_of_cell? _ _ (CR.out j v hv))).trans (CR.out j v hv)
                      refine wpOp_plain rfl rfl (wp_load_mid 43 (.tmp 80) rfl b (off + i * 20) (by show z 80 = _; exact e3) cs _ hrg Try.underlying43 rfl Hcl.out ?_)
                      go_simp
                      exact ⟨⟨by simp [hsz.out], hx.out.same (by decide)⟩, upd z 81 (.agg cs.toArray), (by unfold Hid; simp [upd, e3]), hz.next apx hsz.out 4 (by decide) _ (fun _ h => Option.some.inj h), hp9.keep (by decide), hp10.keep (by decide), hp17.keep (by decide), hp18.keep (by decide)⟩
                    · have e0 : z 77 = .pointer (some ⟨pg, 0, none⟩) := hz 0 _ (hw 0 (by kernel_rfl)) rfl
                      have e4 : z 81 = .agg cs.toArray := hz 4 _ (hw 4 (by kernel_rfl)) rfl
                      have hb5 := hx.out.bef hu
                      refine wpOp_plain rfl rfl ?_
                      go_simp
                      go_at_call 10
                      refine (HDo.out wx hb5).mono ?_
                      rintro e w' ⟨rfl, hps9⟩
                      exact ⟨⟨by simp [hsz.out], hx.out.done (by rw [hsz.out]; decide) hps9⟩, upd z 82 (.bool true), (by unfold Hid; simp [upd, e0, e4]), hz.next apx hsz.out 5 (by decide) _ (fun _ h => Option.some.inj h), Whn.never (by decide) (fun hl => hcl 6 5 (hcl 7 6 (hcl 9 7 hl (by kernel_rfl)) (by kernel_rfl)) (by kernel_rfl)) hu, Whn.never (by decide) (fun hl => hcl 6 5 (hcl 7 6 (hcl 10 7 hl (by kernel_rfl)) (by kernel_rfl)) (by kernel_rfl)) hu, Whn.never (by decide) (fun hl => hcl 6 5 (hcl 7 6 (hcl 17 7 hl (by kernel_rfl)) (by kernel_rfl)) (by kernel_rfl)) hu, Whn.never (by decide) (fun hl => hcl 6 5 (hcl 7 6 (hcl 18 7 hl (by kernel_rfl)) (by kernel_rfl)) (by kernel_rfl)) hu⟩
                    · have e5 : z 82 = .bool true := hz 5 _ (hw 5 (by kernel_rfl)) rfl
                      refine wpOp_plain rfl rfl ?_
                      go_simp
                      exact ⟨⟨by simp [hsz.out], hx.out.same (by decide)⟩, upd z 83 (.bool false), (by unfold Hid; simp [upd, e5]), hz.next apx hsz.out 6 (by decide) _ (fun _ h => Option.some.inj h), hp9.keep (by decide), hp10.keep (by decide), hp17.keep (by decide), hp18.keep (by decide)⟩
                    · have e6 : z 83 = .bool false := hz 6 _ (hw 6 (by kernel_rfl)) rfl
                      refine wpOp_plain rfl rfl ?_
                      go_simp
                      exact ⟨⟨by simp [hsz.out], hx.out.same (by decide)⟩, upd z 84 (.bool false), (by unfold Hid; simp [upd, e6]), hz.next apx hsz.out 7 (by decide) _ (fun _ h => Option.some.inj h), hp9.keep (by decide), hp10.keep (by decide), hp17.keep (by decide), hp18.keep (by decide)⟩
                    · have e7 : z 84 = .bool false := hz 7 _ (hw 7 (by kernel_rfl)) rfl
                      refine wpOp_want rfl (by simp [Region.wanted, yielded, e7]) ?_
                      go_simp
                      exact ⟨⟨by simp [hsz.out], hx.out.same (by decide)⟩, upd z 85 (.pointer (some ⟨K.g, 0, none⟩)), (by unfold Hid; simp [upd, e7]), hz.next apx hsz.out 8 (by decide) _ (fun _ h => Option.some.inj h), hp9.keep (by decide), hp10.keep (by decide), hp17.keep (by decide), hp18.keep (by decide)⟩
                    · have e7 : z 84 = .bool false := hz 7 _ (hw 7 (by kernel_rfl)) rfl
                      have e8 : z 85 = .pointer (some ⟨K.g, 0, none⟩) := hz 8 _ (hw 8 (by kernel_rfl)) rfl
                      have h5 := hcl 6 5 (hcl 7 6 (hw 7 (by kernel_rfl)) (by kernel_rfl)) (by kernel_rfl)
                      obtain ⟨D9, hps9, _⟩ := hx.out.aft h5
                      obtain ⟨vl9, vr9, hpd9, hl9⟩ := hps9
                      refine wpOp_want rfl (by simp [Region.wanted, yielded, e7]) ?_
                      go_simp
                      go_at_call 11
                      refine (bytes_any hpd9.dsk).mono ?_
                      rintro e w' ⟨vr, rfl, hown, low⟩
                      exact ⟨⟨by simp [hsz.out], hx.out.call (by decide) low⟩, upd z 86 (vr), (by unfold Hid; simp [upd, e7, e8]), hz.next apx hsz.out 9 (by decide) _ (fun _ h => by cases h), Whn.done (y12_own ⟨vl9, vr9, hpd9, hl9⟩ hown low), (hp10.keep (by decide)).map (fun h => h.later low), (hp17.keep (by decide)).map (fun h => h.later low), (hp18.keep (by decide)).map (fun h => h.later low)⟩
                    · have e7 : z 84 = .bool false := hz 7 _ (hw 7 (by kernel_rfl)) rfl
                      have p9 := hp9.get (hw 9 (by kernel_rfl))
                      obtain ⟨D9, A9, c9, hps9, e9, hB9⟩ := p9
                      have kc := Str.conv_any hB9 rfl
                      refine wpOp_want rfl (by simp [Region.wanted, yielded, e7]) ?_
                      go_simp
                      obtain ⟨vr, hvr⟩ : ∃ vr, vr = Value.string (strOfNums D9.data) := ⟨_, rfl⟩
                      exact ⟨⟨by simp [hsz.out], hx.out.same (by decide)⟩, upd z 87 (vr), (by unfold Hid; simp [upd, e7, e9, hvr]), hz.next apx hsz.out 10 (by decide) _ (fun _ h => by cases h), hp9.keep (by decide), Whn.done (⟨D9, hps9, hvr⟩), hp17.keep (by decide), hp18.keep (by decide)⟩
                    · have e7 : z 84 = .bool false := hz 7 _ (hw 7 (by kernel_rfl)) rfl
                      refine wpOp_want rfl (by simp [Region.wanted, yielded, e7]) ?_
                      go_simp
                      exact ⟨⟨by simp [hsz.out], hx.out.same (by decide)⟩, upd z 88 (.pointer (some ⟨pg, 0, none⟩)), (by unfold Hid; simp [upd, e7]), hz.next apx hsz.out 11 (by decide) _ (fun _ h => Option.some.inj h), hp9.keep (by decide), hp10.keep (by decide), hp17.keep (by decide), hp18.keep (by decide)⟩
                    · have e7 : z 84 = .bool false := hz 7 _ (hw 7 (by kernel_rfl)) rfl
                      have e11 : z 88 = .pointer (some ⟨pg, 0, none⟩) := hz 11 _ (hw 11 (by kernel_rfl)) rfl
                      refine wpOp_want rfl (by simp [Region.wanted, yielded, e7]) ?_
                      go_simp
                      exact ⟨⟨by simp [hsz.out], hx.out.same (by decide)⟩, upd z 89 (.pointer (some ⟨pg, 0, none⟩)), (by unfold Hid; simp [upd, e7, e11]), hz.next apx hsz.out 12 (by decide) _ (fun _ h => Option.some.inj h), hp9.keep (by decide), hp10.keep (by decide), hp17.keep (by decide), hp18.keep (by decide)⟩
                    · have e7 : z 84 = .bool false := hz 7 _ (hw 7 (by kernel_rfl)) rfl
                      have e12 : z 89 = .pointer (some ⟨pg, 0, none⟩) := hz 12 _ (hw 12 (by kernel_rfl)) rfl
                      refine wpOp_want rfl (by simp [Region.wanted, yielded, e7]) ?_
                      go_simp
                      exact ⟨⟨by simp [hsz.out], hx.out.same (by decide)⟩, upd z 90 (.pointer (some ⟨pg, 1, none⟩)), (by unfold Hid; simp [upd, e7, e12]), hz.next apx hsz.out 13 (by decide) _ (fun _ h => Option.some.inj h), hp9.keep (by decide), hp10.keep (by decide), hp17.keep (by decide), hp18.keep (by decide)⟩
                    · have e7 : z 84 = .bool false := hz 7 _ (hw 7 (by kernel_rfl)) rfl
                      have e13 : z 90 = .pointer (some ⟨pg, 1, none⟩) := hz 13 _ (hw 13 (by kernel_rfl)) rfl
                      have h5 := hcl 6 5 (hcl 7 6 (hw 7 (by kernel_rfl)) (by kernel_rfl)) (by kernel_rfl)
                      obtain ⟨D9, ⟨vl9, vr9, hpd9, hl9⟩, _⟩ := hx.out.aft h5
                      have cl := hpd9.cells.2.1
                      clear hpd9 hl9
                      refine wpOp_want rfl (by simp [Region.wanted, yielded, e7]) ?_
                      go_simp
                      exact ⟨⟨by simp [hsz.out], hx.out.same (by decide)⟩, upd z 91 (.pointer (some ⟨M.g, 0, none⟩)), (by unfold Hid; simp [upd, e7, e13]), hz.next apx hsz.out 14 (by decide) _ (fun _ h => Option.some.inj h), hp9.keep (by decide), hp10.keep (by decide), hp17.keep (by decide), hp18.keep (by decide)⟩
                    · have e7 : z 84 = .bool false := hz 7 _ (hw 7 (by kernel_rfl)) rfl
                      have e14 : z 91 = .pointer (some ⟨M.g, 0, none⟩) := hz 14 _ (hw 14 (by kernel_rfl)) rfl
                      refine wpOp_want rfl (by simp [Region.wanted, yielded, e7]) ?_
                      go_simp
                      exact ⟨⟨by simp [hsz.out], hx.out.same (by decide)⟩, upd z 92 (.pointer (some ⟨M.g, 0, none⟩)), (by unfold Hid; simp [upd, e7, e14]), hz.next apx hsz.out 15 (by decide) _ (fun _ h => Option.some.inj h), hp9.keep (by decide), hp10.keep (by decide), hp17.keep (by decide), hp18.keep (by decide)⟩
                    · have e7 : z 84 = .bool false := hz 7 _ (hw 7 (by kernel_rfl)) rfl
                      have e15 : z 92 = .pointer (some ⟨M.g, 0, none⟩) := hz 15 _ (hw 15 (by kernel_rfl)) rfl
                      refine wpOp_want rfl (by simp [Region.wanted, yielded, e7]) ?_
                      go_simp
                      exact ⟨⟨by simp [hsz.out], hx.out.same (by decide)⟩, upd z 93 (.pointer (some ⟨M.g, 0, none⟩)), (by unfold Hid; simp [upd, e7, e15]), hz.next apx hsz.out 16 (by decide) _ (fun _ h => Option.some.inj h), hp9.keep (by decide), hp10.keep (by decide), hp17.keep (by decide), hp18.keep (by decide)⟩
                    · have e7 : z 84 = .bool false := hz 7 _ (hw 7 (by kernel_rfl)) rfl
                      have e16 : z 93 = .pointer (some ⟨M.g, 0, none⟩) := hz 16 _ (hw 16 (by kernel_rfl)) rfl
                      have h5 := hcl 6 5 (hcl 7 6 (hw 7 (by kernel_rfl)) (by kernel_rfl)) (by kernel_rfl)
                      obtain ⟨D9, hps9, _⟩ := hx.out.aft h5
                      have y9 := y12_ref hps9
                      obtain ⟨vl9, vr9, hpd9, hl9⟩ := hps9
                      obtain ⟨wh9, m9, hr9, _⟩ := hpd9.rd.row
                      have cl := cell_row hr9 0
                      rw [show ∀ (q N : Nat) (a b : Bool) (e : Int) (f : List Int), (rowR q N a b e f)[0]? = some (.slice (some ⟨q, 0, none⟩) N N) from fun _ _ _ _ _ _ => rfl] at cl
                      clear hpd9 hl9 hr9
                      refine wpOp_want rfl (by simp [Region.wanted, yielded, e7]) ?_
                      go_simp
                      obtain ⟨vr, hvr⟩ : ∃ vr, vr = Value.slice (some ⟨M.b, 0, none⟩) D9.data.length D9.data.length := ⟨_, rfl⟩
                      rw [← hvr] at y9
                      exact ⟨⟨by simp [hsz.out], hx.out.same (by decide)⟩, upd z 94 (vr), (by unfold Hid; simp [upd, e7, e16, hvr]), hz.next apx hsz.out 17 (by decide) _ (fun _ h => by cases h), hp9.keep (by decide), hp10.keep (by decide), Whn.done (y9), hp18.keep (by decide)⟩
                    · have e7 : z 84 = .bool false := hz 7 _ (hw 7 (by kernel_rfl)) rfl
                      have p17 := hp17.get (hw 17 (by kernel_rfl))
                      obtain ⟨D9, A9, c9, hps9, e17, hB9⟩ := p17
                      have kc := Str.conv_any hB9 rfl
                      refine wpOp_want rfl (by simp [Region.wanted, yielded, e7]) ?_
                      go_simp
                      obtain ⟨vr, hvr⟩ : ∃ vr, vr = Value.string (strOfNums D9.data) := ⟨_, rfl⟩
                      exact ⟨⟨by simp [hsz.out], hx.out.same (by decide)⟩, upd z 95 (vr), (by unfold Hid; simp [upd, e7, e17, hvr]), hz.next apx hsz.out 18 (by decide) _ (fun _ h => by cases h), hp9.keep (by decide), hp10.keep (by decide), hp17.keep (by decide), Whn.done (⟨D9, hps9, hvr⟩)⟩
                    · have e7 : z 84 = .bool false := hz 7 _ (hw 7 (by kernel_rfl)) rfl
                      have p10 := hp10.get (hw 10 (by kernel_rfl))
                      have p18 := hp18.get (hw 18 (by kernel_rfl))
                      obtain ⟨D9, hps9, e10⟩ := p10
                      obtain ⟨D8, hps8, e18⟩ := p18
                      rw [ps_data hps8 hps9] at e18
                      refine wpOp_want rfl (by simp [Region.wanted, yielded, e7]) ?_
                      go_simp
                      exact ⟨⟨by simp [hsz.out], hx.out.same (by decide)⟩, upd z 96 (.bool false), (by unfold Hid; simp [upd, e7, e10, e18]), hz.next apx hsz.out 19 (by decide) _ (fun _ h => Option.some.inj h), hp9.keep (by decide), hp10.keep (by decide), hp17.keep (by decide), hp18.keep (by decide)⟩
                    · have e7 : z 84 = .bool false := hz 7 _ (hw 7 (by kernel_rfl)) rfl
                      have e19 : z 96 = .bool false := hz 19 _ (hw 19 (by kernel_rfl)) rfl
                      refine wpOp_plain rfl rfl ?_
                      go_simp
                      exact ⟨⟨by simp [hsz.out], hx.out.same (by decide)⟩, upd z 97 (.bool false), (by unfold Hid; simp [upd, e7, e19]), hz.next apx hsz.out 20 (by decide) _ (fun _ h => Option.some.inj h), hp9.keep (by decide), hp10.keep (by decide), hp17.keep (by decide), hp18.keep (by decide)⟩
                  · exact ⟨⟨rfl, R12.start⟩, fun xx => (#[.agg #[.int .i64 (k : Nat), .int .i64 x1, .int .i64 x2], .slice (some ⟨b, off, none⟩) n c, .pointer (some ⟨w.heap.size, 0, none⟩), undef, u4, .pointer (some ⟨K.g, 0, none⟩), .int .i64 0, .pointer (some ⟨pg, 0, none⟩), .int .i64 (i : Nat), u9, u10, .bool false, undef, .tuple #[.pointer (some ⟨K.g, 0, none⟩), .int .i64 0], .pointer (some ⟨w.heap.size, 0, none⟩), .int .i64 (k : Nat), .tuple #[.pointer (some ⟨K.g, 0, none⟩), .int .i64 0], .pointer (some ⟨K.g, 0, none⟩), .int .i64 0, .int .i64 0, .bool false, undef, undef, undef, undef, undef, undef, u27, u28, u29, u30, u31, u32, u33, u34, u35, u36, .pointer (some ⟨w.heap.size, 1, none⟩), .int .i64 x1, .bool false, .bool false, .pointer (some ⟨w.heap.size, 2, none⟩), .int .i64 x2, .bool false, .bool false, .bool false, .pointer (some ⟨w.heap.size, 1, none⟩), .int .i64 x1, .bool false, .bool false, .bool false, .pointer (some ⟨pg, 0, none⟩), .bool true, .bool false, .bool false, undef, undef, undef, undef, undef, undef, undef, undef, undef, undef, undef, undef, undef, undef, undef, undef, .int .i64 (i : Nat), .slice (some ⟨b, off, none⟩) n c, .int .i64 (n : Nat), .bool true, u75, u76, u77, u78, u79, u80, u81, u82, u83, u84, u85, u86, u87, u88, u89, u90, u91, u92, u93, u94, u95, u96, u97, u98, u99, u100, u101, u102, u103, u104, u105, u106, u107, u108, u109, u110, u111, u112, u113, u114, u115, u116, u117, u118, undef] : Array Value).getD xx undef, rfl, Holding.start, Whn.none (by decide), Whn.none (by decide), Whn.none (by decide), Whn.none (by decide)⟩
                case rest =>
                  obtain ⟨rfl, D, hps, hwr⟩ := hcut
                  have Hps := Lib.hid hps
                  have Hwr : Hid (D.writes ≤ 20 * (((i + 1 : Nat)) : Int)) := by show _ ≤ _; omega
                  clear hps hwr CR Hcl HDo Hrel
                  go_upto_region 14 with (fail)
                  go_cut [118] from 98 to 118 (fun s118 wx => s118 = .bool false ∧ Below wc.heap.size wc wx)
                  case first =>
                    obtain ⟨vl, vr, hpd, hcase⟩ := Hps.out
                    have C3q : Hid (wc.cell? ⟨pg, 3, none⟩ = some vr) := hpd.cells.2.2.2.1
                    have C2q : Hid (wc.cell? ⟨pg, 2, none⟩ = some vl) := hpd.cells.2.2.1
                    clear hpd Hps Hwr
                    rcases hcase with ⟨rfl, rfl⟩ | ⟨J, I, S, rfl, rfl, hlog⟩
                    · skip
                      have apx : apartB [98, 99, 100, 101, 102, 103, 104, 105, 106, 107, 108, 109, 110, 111, 112, 113, 114, 115, 116, 117, 118] = true := by decide
                      refine wp_region_any (by kernel_rfl) ?_
                      change wpAny _ _ _ _ _ _ _ (World.drew _)
                      refine wpAny_inv (fun ll aa wx => Hid (ll.size = 21 ∧ Below wc.heap.size wc wx) ∧ ∃ (z : Nat → Value), Hid (aa = ⟨#[.agg #[.int .i64 (k : Nat), .int .i64 x1, .int .i64 x2], .slice (some ⟨b, off, none⟩) n c, .pointer (some ⟨w.heap.size, 0, none⟩), undef, u4, .pointer (some ⟨K.g, 0, none⟩), .int .i64 0, .pointer (some ⟨pg, 0, none⟩), .int .i64 (i : Nat), u9, u10, .bool false, undef, .tuple #[.pointer (some ⟨K.g, 0, none⟩), .int .i64 0], .pointer (some ⟨w.heap.size, 0, none⟩), .int .i64 (k : Nat), .tuple #[.pointer (some ⟨K.g, 0, none⟩), .int .i64 0], .pointer (some ⟨K.g, 0, none⟩), .int .i64 0, .int .i64 0, .bool false, undef, undef, undef, undef, undef, undef, u27, u28, u29, u30, u31, u32, u33, u34, u35, u36, .pointer (some ⟨w.heap.size, 1, none⟩), .int .i64 x1, .bool false, .bool false, .pointer (some ⟨w.heap.size, 2, none⟩), .int .i64 x2, .bool false, .bool false, .bool false, .pointer (some ⟨w.heap.size, 1, none⟩), .int .i64 x1, .bool false, .bool false, .bool false, .pointer (some ⟨pg, 0, none⟩), .bool true, .bool false, .bool false, undef, undef, undef, undef, undef, undef, undef, undef, undef, undef, undef, undef, undef, undef, undef, undef, .int .i64 (i : Nat), .slice (some ⟨b, off, none⟩) n c, .int .i64 (n : Nat), .bool true, u75, u76, u77, u78, u79, u80, u81, u82, u83, u84, u85, u86, u87, u88, u89, u90, u91, u92, u93, u94, u95, u96, .bool false, z 98, z 99, z 100, z 101, z 102, z 103, z 104, z 105, z 106, z 107, z 108, z 109, z 110, z 111, z 112, z 113, z 114, z 115, z 116, z 117, z 118, undef], []⟩) ∧ Holding [98, 99, 100, 101, 102, 103, 104, 105, 106, 107, 108, 109, 110, 111, 112, 113, 114, 115, 116, 117, 118] [some (.pointer (some ⟨pg, 0, none⟩)), some (.pointer (some ⟨pg, 0, none⟩)), some (.pointer (some ⟨pg, 3, none⟩)), some (.pointer none), some (.bool false), some (.bool false), none, none, none, none, none, none, none, none, none, none, none, none, none, none, some (.bool false)] ll z) ?_ (by kernel_rfl) ?_ ?_ _ _ _ _ (unlisted_none _) ?_
                      · rintro ll aa wx ⟨hI, _⟩
                        exact hI.out.1
                      · rintro ll aa wx ⟨hI, z, ha, hz⟩ hall
                        have hx := Lib.hid hI.out.2
                        have e0 : z 98 = .pointer (some ⟨pg, 0, none⟩) := hz 0 _ (hall 0 (by decide)) rfl
                        have e1 : z 99 = .pointer (some ⟨pg, 0, none⟩) := hz 1 _ (hall 1 (by decide)) rfl
                        have e2 : z 100 = .pointer (some ⟨pg, 3, none⟩) := hz 2 _ (hall 2 (by decide)) rfl
                        have e3 : z 101 = .pointer none := hz 3 _ (hall 3 (by decide)) rfl
                        have e4 : z 102 = .bool false := hz 4 _ (hall 4 (by decide)) rfl
                        have e5 : z 103 = .bool false := hz 5 _ (hall 5 (by decide)) rfl
                        have e20 : z 118 = .bool false := hz 20 _ (hall 20 (by decide)) rfl
                        clear hall hz hI 
                        obtain rfl := ha.out
                        clear ha
                        clear apx
                        clear e0 e1 e2 e3 e4 e5
                        have E := Lib.hid e20
                        have HX := Lib.hid hx.out
                        clear e20 hx
                        go_wp2
                        go_meet
                        exact ⟨E.out, HX.out⟩
                      · rintro ll aa wx i ⟨hI, z, ha, hz⟩ hi hu hw
                        obtain rfl := ha.out
                        have hsz := Lib.hid hI.out.1
                        have hx := Lib.hid hI.out.2
                        clear ha hI
                        have hin : i < 21 := hi
                        obtain rfl | rfl | rfl | rfl | rfl | rfl | rfl | rfl | rfl | rfl | rfl | rfl | rfl | rfl | rfl | rfl | rfl | rfl | rfl | rfl | rfl : i = 0 ∨ i = 1 ∨ i = 2 ∨ i = 3 ∨ i = 4 ∨ i = 5 ∨ i = 6 ∨ i = 7 ∨ i = 8 ∨ i = 9 ∨ i = 10 ∨ i = 11 ∨ i = 12 ∨ i = 13 ∨ i = 14 ∨ i = 15 ∨ i = 16 ∨ i = 17 ∨ i = 18 ∨ i = 19 ∨ i = 20 := by omega
                        · refine wpOp_plain rfl rfl ?_
                          go_simp
                          exact ⟨⟨by simp [hsz.out], hx.out⟩, upd z 98 (.pointer (some ⟨pg, 0, none⟩)), (by unfold Hid; simp [upd]), hz.next apx hsz.out 0 (by decide) _ (fun _ h => Option.some.inj h)⟩
                        · have e0 : z 98 = .pointer (some ⟨pg, 0, none⟩) := hz 0 _ (hw 0 (by kernel_rfl)) rfl
                          refine wpOp_plain rfl rfl ?_
                          go_simp
                          exact ⟨⟨by simp [hsz.out], hx.out⟩, upd z 99 (.pointer (some ⟨pg, 0, none⟩)), (by unfold Hid; simp [upd, e0]), hz.next apx hsz.out 1 (by decide) _ (fun _ h => Option.some.inj h)⟩
                        · have e1 : z 99 = .pointer (some ⟨pg, 0, none⟩) := hz 1 _ (hw 1 (by kernel_rfl)) rfl
                          refine wpOp_plain rfl rfl ?_
                          go_simp
                          exact ⟨⟨by simp [hsz.out], hx.out⟩, upd z 100 (.pointer (some ⟨pg, 3, none⟩)), (by unfold Hid; simp [upd, e1]), hz.next apx hsz.out 2 (by decide) _ (fun _ h => Option.some.inj h)⟩
                        · have e2 : z 100 = .pointer (some ⟨pg, 3, none⟩) := hz 2 _ (hw 2 (by kernel_rfl)) rfl
                          have cl : wx.cell? ⟨pg, 3, none⟩ = some (.pointer none) := (hx.out.cell (p := ⟨pg, 3, none⟩) (World.block_lt_of_cell? _ _ C3q.out)).trans C3q.out
                          refine wpOp_plain rfl rfl ?_
                          go_simp
                          exact ⟨⟨by simp [hsz.out], hx.out⟩, upd z 101 (.pointer none), (by unfold Hid; simp [upd, e2]), hz.next apx hsz.out 3 (by decide) _ (fun _ h => Option.some.inj h)⟩
                        · have e3 : z 101 = .pointer none := hz 3 _ (hw 3 (by kernel_rfl)) rfl
                          refine wpOp_plain rfl rfl ?_
                          go_simp
                          exact ⟨⟨by simp [hsz.out], hx.out⟩, upd z 102 (.bool false), (by unfold Hid; simp [upd, e3]), hz.next apx hsz.out 4 (by decide) _ (fun _ h => Option.some.inj h)⟩
                        · have e4 : z 102 = .bool false := hz 4 _ (hw 4 (by kernel_rfl)) rfl
                          refine wpOp_plain rfl rfl ?_
                          go_simp
                          exact ⟨⟨by simp [hsz.out], hx.out⟩, upd z 103 (.bool false), (by unfold Hid; simp [upd, e4]), hz.next apx hsz.out 5 (by decide) _ (fun _ h => Option.some.inj h)⟩
                        · have e5 : z 103 = .bool false := hz 5 _ (hw 5 (by kernel_rfl)) rfl
                          refine wpOp_skip rfl (by simp [Region.wanted, yielded, e5]) ?_
                          go_simp
                          exact ⟨⟨by simp [hsz.out], hx.out⟩, upd z 104 (undef), (by unfold Hid; simp [upd, e5]), hz.next apx hsz.out 6 (by decide) _ (fun _ h => by cases h)⟩
                        · have e5 : z 103 = .bool false := hz 5 _ (hw 5 (by kernel_rfl)) rfl
                          refine wpOp_skip rfl (by simp [Region.wanted, yielded, e5]) ?_
                          go_simp
                          exact ⟨⟨by simp [hsz.out], hx.out⟩, upd z 105 (undef), (by unfold Hid; simp [upd, e5]), hz.next apx hsz.out 7 (by decide) _ (fun _ h => by cases h)⟩
                        · have e5 : z 103 = .bool false := hz 5 _ (hw 5 (by kernel_rfl)) rfl
                          refine wpOp_skip rfl (by simp [Region.wanted, yielded, e5]) ?_
                          go_simp
                          exact ⟨⟨by simp [hsz.out], hx.out⟩, upd z 106 (undef), (by unfold Hid; simp [upd, e5]), hz.next apx hsz.out 8 (by decide) _ (fun _ h => by cases h)⟩
                        · have e5 : z 103 = .bool false := hz 5 _ (hw 5 (by kernel_rfl)) rfl
                          refine wpOp_skip rfl (by simp [Region.wanted, yielded, e5]) ?_
                          go_simp
                          exact ⟨⟨by simp [hsz.out], hx.out⟩, upd z 107 (undef), (by unfold Hid; simp [upd, e5]), hz.next apx hsz.out 9 (by decide) _ (fun _ h => by cases h)⟩
                        · have e5 : z 103 = .bool false := hz 5 _ (hw 5 (by kernel_rfl)) rfl
                          refine wpOp_skip rfl (by simp [Region.wanted, yielded, e5]) ?_
                          go_simp
                          exact ⟨⟨by simp [hsz.out], hx.out⟩, upd z 108 (undef), (by unfold Hid; simp [upd, e5]), hz.next apx hsz.out 10 (by decide) _ (fun _ h => by cases h)⟩
                        · have e5 : z 103 = .bool false := hz 5 _ (hw 5 (by kernel_rfl)) rfl
                          refine wpOp_skip rfl (by simp [Region.wanted, yielded, e5]) ?_
                          go_simp
                          exact ⟨⟨by simp [hsz.out], hx.out⟩, upd z 109 (undef), (by unfold Hid; simp [upd, e5]), hz.next apx hsz.out 11 (by decide) _ (fun _ h => by cases h)⟩
                        · have e5 : z 103 = .bool false := hz 5 _ (hw 5 (by kernel_rfl)) rfl
                          refine wpOp_skip rfl (by simp [Region.wanted, yielded, e5]) ?_
                          go_simp
                          exact ⟨⟨by simp [hsz.out], hx.out⟩, upd z 110 (undef), (by unfold Hid; simp [upd, e5]), hz.next apx hsz.out 12 (by decide) _ (fun _ h => by cases h)⟩
                        · have e5 : z 103 = .bool false := hz 5 _ (hw 5 (by kernel_rfl)) rfl
                          refine wpOp_skip rfl (by simp [Region.wanted, yielded, e5]) ?_
                          go_simp
                          exact ⟨⟨by simp [hsz.out], hx.out⟩, upd z 111 (undef), (by unfold Hid; simp [upd, e5]), hz.next apx hsz.out 13 (by decide) _ (fun _ h => by cases h)⟩
                        · have e5 : z 103 = .bool false := hz 5 _ (hw 5 (by kernel_rfl)) rfl
                          refine wpOp_skip rfl (by simp [Region.wanted, yielded, e5]) ?_
                          go_simp
                          exact ⟨⟨by simp [hsz.out], hx.out⟩, upd z 112 (undef), (by unfold Hid; simp [upd, e5]), hz.next apx hsz.out 14 (by decide) _ (fun _ h => by cases h)⟩
                        · have e5 : z 103 = .bool false := hz 5 _ (hw 5 (by kernel_rfl)) rfl
                          refine wpOp_skip rfl (by simp [Region.wanted, yielded, e5]) ?_
                          go_simp
                          exact ⟨⟨by simp [hsz.out], hx.out⟩, upd z 113 (undef), (by unfold Hid; simp [upd, e5]), hz.next apx hsz.out 15 (by decide) _ (fun _ h => by cases h)⟩
                        · have e5 : z 103 = .bool false := hz 5 _ (hw 5 (by kernel_rfl)) rfl
                          refine wpOp_skip rfl (by simp [Region.wanted, yielded, e5]) ?_
                          go_simp
                          exact ⟨⟨by simp [hsz.out], hx.out⟩, upd z 114 (undef), (by unfold Hid; simp [upd, e5]), hz.next apx hsz.out 16 (by decide) _ (fun _ h => by cases h)⟩
                        · have e5 : z 103 = .bool false := hz 5 _ (hw 5 (by kernel_rfl)) rfl
                          refine wpOp_skip rfl (by simp [Region.wanted, yielded, e5]) ?_
                          go_simp
                          exact ⟨⟨by simp [hsz.out], hx.out⟩, upd z 115 (undef), (by unfold Hid; simp [upd, e5]), hz.next apx hsz.out 17 (by decide) _ (fun _ h => by cases h)⟩
                        · have e5 : z 103 = .bool false := hz 5 _ (hw 5 (by kernel_rfl)) rfl
                          refine wpOp_skip rfl (by simp [Region.wanted, yielded, e5]) ?_
                          go_simp
                          exact ⟨⟨by simp [hsz.out], hx.out⟩, upd z 116 (undef), (by unfold Hid; simp [upd, e5]), hz.next apx hsz.out 18 (by decide) _ (fun _ h => by cases h)⟩
                        · have e5 : z 103 = .bool false := hz 5 _ (hw 5 (by kernel_rfl)) rfl
                          refine wpOp_skip rfl (by simp [Region.wanted, yielded, e5]) ?_
                          go_simp
                          exact ⟨⟨by simp [hsz.out], hx.out⟩, upd z 117 (undef), (by unfold Hid; simp [upd, e5]), hz.next apx hsz.out 19 (by decide) _ (fun _ h => by cases h)⟩
                        · have e5 : z 103 = .bool false := hz 5 _ (hw 5 (by kernel_rfl)) rfl
                          refine wpOp_plain rfl rfl ?_
                          go_simp
                          exact ⟨⟨by simp [hsz.out], hx.out⟩, upd z 118 (.bool false), (by unfold Hid; simp [upd, e5]), hz.next apx hsz.out 20 (by decide) _ (fun _ h => Option.some.inj h)⟩
                      · exact ⟨⟨rfl, (Below.refl _ _).drew⟩, fun xx => (#[.agg #[.int .i64 (k : Nat), .int .i64 x1, .int .i64 x2], .slice (some ⟨b, off, none⟩) n c, .pointer (some ⟨w.heap.size, 0, none⟩), undef, u4, .pointer (some ⟨K.g, 0, none⟩), .int .i64 0, .pointer (some ⟨pg, 0, none⟩), .int .i64 (i : Nat), u9, u10, .bool false, undef, .tuple #[.pointer (some ⟨K.g, 0, none⟩), .int .i64 0], .pointer (some ⟨w.heap.size, 0, none⟩), .int .i64 (k : Nat), .tuple #[.pointer (some ⟨K.g, 0, none⟩), .int .i64 0], .pointer (some ⟨K.g, 0, none⟩), .int .i64 0, .int .i64 0, .bool false, undef, undef, undef, undef, undef, undef, u27, u28, u29, u30, u31, u32, u33, u34, u35, u36, .pointer (some ⟨w.heap.size, 1, none⟩), .int .i64 x1, .bool false, .bool false, .pointer (some ⟨w.heap.size, 2, none⟩), .int .i64 x2, .bool false, .bool false, .bool false, .pointer (some ⟨w.heap.size, 1, none⟩), .int .i64 x1, .bool false, .bool false, .bool false, .pointer (some ⟨pg, 0, none⟩), .bool true, .bool false, .bool false, undef, undef, undef, undef, undef, undef, undef, undef, undef, undef, undef, undef, undef, undef, undef, undef, .int .i64 (i : Nat), .slice (some ⟨b, off, none⟩) n c, .int .i64 (n : Nat), .bool true, u75, u76, u77, u78, u79, u80, u81, u82, u83, u84, u85, u86, u87, u88, u89, u90, u91, u92, u93, u94, u95, u96, .bool false, u98, u99, u100, u101, u102, u103, u104, u105, u106, u107, u108, u109, u110, u111, u112, u113, u114, u115, u116, u117, u118, undef] : Array Value).getD xx undef, (by rfl), Holding.start⟩
                    · obtain ⟨AI, cI, hv, hti⟩ := rl_tx hlog.rl
                      have CIq : Hid (wc.cell? ⟨I.g, 3, none⟩ = some (.slice AI S.texts.length cI)) := by rw [← hv]; exact rl_cell hlog.rl
                      have HTI := Lib.hid hti
                      have HFew := Lib.hid (rl_few hlog.rl)
                      have HIn : Hid (∀ t ∈ S.texts, InB t) := fun t ht => (hlog.rl.inb t ht).1
                      have Hlog := Lib.hid hlog
                      clear hv hti hlog
                      have apx : apartB [98, 99, 100, 101, 102, 103, 104, 105, 106, 107, 108, 109, 110, 111, 112, 113, 114, 115, 116, 117, 118] = true := by decide
                      refine wp_region_any (by kernel_rfl) ?_
                      change wpAny _ _ _ _ _ _ _ (World.drew _)
                      refine wpAny_inv (fun ll aa wx => Hid (ll.size = 21 ∧ Below wc.heap.size wc wx) ∧ ∃ (z : Nat → Value), Hid (aa = ⟨#[.agg #[.int .i64 (k : Nat), .int .i64 x1, .int .i64 x2], .slice (some ⟨b, off, none⟩) n c, .pointer (some ⟨w.heap.size, 0, none⟩), undef, u4, .pointer (some ⟨K.g, 0, none⟩), .int .i64 0, .pointer (some ⟨pg, 0, none⟩), .int .i64 (i : Nat), u9, u10, .bool false, undef, .tuple #[.pointer (some ⟨K.g, 0, none⟩), .int .i64 0], .pointer (some ⟨w.heap.size, 0, none⟩), .int .i64 (k : Nat), .tuple #[.pointer (some ⟨K.g, 0, none⟩), .int .i64 0], .pointer (some ⟨K.g, 0, none⟩), .int .i64 0, .int .i64 0, .bool false, undef, undef, undef, undef, undef, undef, u27, u28, u29, u30, u31, u32, u33, u34, u35, u36, .pointer (some ⟨w.heap.size, 1, none⟩), .int .i64 x1, .bool false, .bool false, .pointer (some ⟨w.heap.size, 2, none⟩), .int .i64 x2, .bool false, .bool false, .bool false, .pointer (some ⟨w.heap.size, 1, none⟩), .int .i64 x1, .bool false, .bool false, .bool false, .pointer (some ⟨pg, 0, none⟩), .bool true, .bool false, .bool false, undef, undef, undef, undef, undef, undef, undef, undef, undef, undef, undef, undef, undef, undef, undef, undef, .int .i64 (i : Nat), .slice (some ⟨b, off, none⟩) n c, .int .i64 (n : Nat), .bool true, u75, u76, u77, u78, u79, u80, u81, u82, u83, u84, u85, u86, u87, u88, u89, u90, u91, u92, u93, u94, u95, u96, .bool false, z 98, z 99, z 100, z 101, z 102, z 103, z 104, z 105, z 106, z 107, z 108, z 109, z 110, z 111, z 112, z 113, z 114, z 115, z 116, z 117, z 118, undef], []⟩) ∧ Holding [98, 99, 100, 101, 102, 103, 104, 105, 106, 107, 108, 109, 110, 111, 112, 113, 114, 115, 116, 117, 118] [some (.pointer (some ⟨pg, 0, none⟩)), some (.pointer (some ⟨pg, 0, none⟩)), some (.pointer (some ⟨pg, 3, none⟩)), some (.pointer (some ⟨I.g, 0, none⟩)), some (.bool true), some (.bool true), some (.pointer (some ⟨pg, 0, none⟩)), some (.pointer (some ⟨pg, 0, none⟩)), some (.pointer (some ⟨pg, 2, none⟩)), some (.pointer (some ⟨J.g, 0, none⟩)), none, some (.pointer (some ⟨pg, 0, none⟩)), some (.pointer (some ⟨pg, 0, none⟩)), some (.pointer (some ⟨pg, 3, none⟩)), some (.pointer (some ⟨I.g, 0, none⟩)), some (.pointer (some ⟨I.g, 0, none⟩)), some (.pointer (some ⟨I.g, 3, none⟩)), some (.slice AI S.texts.length cI), some (.bool true), some (.bool false), some (.bool false)] ll z ∧ Whn ll 10 (TxS S.texts) (z 108) wx) ?_ (by kernel_rfl) ?_ ?_ _ _ _ _ (unlisted_none _) ?_
                      · rintro ll aa wx ⟨hI, _⟩
                        exact hI.out.1
                      · rintro ll aa wx ⟨hI, z, ha, hz, hp10⟩ hall
                        have hx := Lib.hid hI.out.2
                        have e0 : z 98 = .pointer (some ⟨pg, 0, none⟩) := hz 0 _ (hall 0 (by decide)) rfl
                        have e1 : z 99 = .pointer (some ⟨pg, 0, none⟩) := hz 1 _ (hall 1 (by decide)) rfl
                        have e2 : z 100 = .pointer (some ⟨pg, 3, none⟩) := hz 2 _ (hall 2 (by decide)) rfl
                        have e3 : z 101 = .pointer (some ⟨I.g, 0, none⟩) := hz 3 _ (hall 3 (by decide)) rfl
                        have e4 : z 102 = .bool true := hz 4 _ (hall 4 (by decide)) rfl
                        have e5 : z 103 = .bool true := hz 5 _ (hall 5 (by decide)) rfl
                        have e6 : z 104 = .pointer (some ⟨pg, 0, none⟩) := hz 6 _ (hall 6 (by decide)) rfl
                        have e7 : z 105 = .pointer (some ⟨pg, 0, none⟩) := hz 7 _ (hall 7 (by decide)) rfl
                        have e8 : z 106 = .pointer (some ⟨pg, 2, none⟩) := hz 8 _ (hall 8 (by decide)) rfl
                        have e9 : z 107 = .pointer (some ⟨J.g, 0, none⟩) := hz 9 _ (hall 9 (by decide)) rfl
                        have e11 : z 109 = .pointer (some ⟨pg, 0, none⟩) := hz 11 _ (hall 11 (by decide)) rfl
                        have e12 : z 110 = .pointer (some ⟨pg, 0, none⟩) := hz 12 _ (hall 12 (by decide)) rfl
                        have e13 : z 111 = .pointer (some ⟨pg, 3, none⟩) := hz 13 _ (hall 13 (by decide)) rfl
                        have e14 : z 112 = .pointer (some ⟨I.g, 0, none⟩) := hz 14 _ (hall 14 (by decide)) rfl
                        have e15 : z 113 = .pointer (some ⟨I.g, 0, none⟩) := hz 15 _ (hall 15 (by decide)) rfl
                        have e16 : z 114 = .pointer (some ⟨I.g, 3, none⟩) := hz 16 _ (hall 16 (by decide)) rfl
                        have e17 : z 115 = .slice AI S.texts.length cI := hz 17 _ (hall 17 (by decide)) rfl
                        have e18 : z 116 = .bool true := hz 18 _ (hall 18 (by decide)) rfl
                        have e19 : z 117 = .bool false := hz 19 _ (hall 19 (by decide)) rfl
                        have e20 : z 118 = .bool false := hz 20 _ (hall 20 (by decide)) rfl
                        have p10 := hp10.get (hall 10 (by decide))
                        clear hall hz hI hp10 p10
                        obtain rfl := ha.out
                        clear ha
                        clear apx
                        clear e0 e1 e2 e3 e4 e5 e6 e7 e8 e9 e11 e12 e13 e14 e15 e16 e17 e18 e19
                        have E := Lib.hid e20
                        have HX := Lib.hid hx.out
                        clear e20 hx
                        go_wp2
                        go_meet
                        exact ⟨E.out, HX.out⟩
                      · rintro ll aa wx i ⟨hI, z, ha, hz, hp10⟩ hi hu hw
                        obtain rfl := ha.out
                        have hsz := Lib.hid hI.out.1
                        have hx := Lib.hid hI.out.2
                        clear ha hI
                        have hin : i < 21 := hi
                        obtain rfl | rfl | rfl | rfl | rfl | rfl | rfl | rfl | rfl | rfl | rfl | rfl | rfl | rfl | rfl | rfl | rfl | rfl | rfl | rfl | rfl : i = 0 ∨ i = 1 ∨ i = 2 ∨ i = 3 ∨ i = 4 ∨ i = 5 ∨ i = 6 ∨ i = 7 ∨ i = 8 ∨ i = 9 ∨ i = 10 ∨ i = 11 ∨ i = 12 ∨ i = 13 ∨ i = 14 ∨ i = 15 ∨ i = 16 ∨ i = 17 ∨ i = 18 ∨ i = 19 ∨ i = 20 := by omega
                        · refine wpOp_plain rfl rfl ?_
                          go_simp
                          exact ⟨⟨by simp [hsz.out], hx.out⟩, upd z 98 (.pointer (some ⟨pg, 0, none⟩)), (by unfold Hid; simp [upd]), hz.next apx hsz.out 0 (by decide) _ (fun _ h => Option.some.inj h), hp10.keep (by decide)⟩
                        · have e0 : z 98 = .pointer (some ⟨pg, 0, none⟩) := hz 0 _ (hw 0 (by kernel_rfl)) rfl
                          refine wpOp_plain rfl rfl ?_
                          go_simp
                          exact ⟨⟨by simp [hsz.out], hx.out⟩, upd z 99 (.pointer (some ⟨pg, 0, none⟩)), (by unfold Hid; simp [upd, e0]), hz.next apx hsz.out 1 (by decide) _ (fun _ h => Option.some.inj h), hp10.keep (by decide)⟩
                        · have e1 : z 99 = .pointer (some ⟨pg, 0, none⟩) := hz 1 _ (hw 1 (by kernel_rfl)) rfl
                          refine wpOp_plain rfl rfl ?_
                          go_simp
                          exact ⟨⟨by simp [hsz.out], hx.out⟩, upd z 100 (.pointer (some ⟨pg, 3, none⟩)), (by unfold Hid; simp [upd, e1]), hz.next apx hsz.out 2 (by decide) _ (fun _ h => Option.some.inj h), hp10.keep (by decide)⟩
                        · have e2 : z 100 = .pointer (some ⟨pg, 3, none⟩) := hz 2 _ (hw 2 (by kernel_rfl)) rfl
                          have cl : wx.cell? ⟨pg, 3, none⟩ = some (.pointer (some ⟨I.g, 0, none⟩)) := (hx.out.cell (p := ⟨pg, 3, none⟩) (World.block_lt_of_cell? _ _ C3q.out)).trans C3q.out
                          refine wpOp_plain rfl rfl ?_
                          go_simp
                          exact ⟨⟨by simp [hsz.out], hx.out⟩, upd z 101 (.pointer (some ⟨I.g, 0, none⟩)), (by unfold Hid; simp [upd, e2]), hz.next apx hsz.out 3 (by decide) _ (fun _ h => Option.some.inj h), hp10.keep (by decide)⟩
                        · have e3 : z 101 = .pointer (some ⟨I.g, 0, none⟩) := hz 3 _ (hw 3 (by kernel_rfl)) rfl
                          refine wpOp_plain rfl rfl ?_
                          go_simp
                          exact ⟨⟨by simp [hsz.out], hx.out⟩, upd z 102 (.bool true), (by unfold Hid; simp [upd, e3]), hz.next apx hsz.out 4 (by decide) _ (fun _ h => Option.some.inj h), hp10.keep (by decide)⟩
                        · have e4 : z 102 = .bool true := hz 4 _ (hw 4 (by kernel_rfl)) rfl
                          refine wpOp_plain rfl rfl ?_
                          go_simp
                          exact ⟨⟨by simp [hsz.out], hx.out⟩, upd z 103 (.bool true), (by unfold Hid; simp [upd, e4]), hz.next apx hsz.out 5 (by decide) _ (fun _ h => Option.some.inj h), hp10.keep (by decide)⟩
                        · have e5 : z 103 = .bool true := hz 5 _ (hw 5 (by kernel_rfl)) rfl
                          refine wpOp_want rfl (by simp [Region.wanted, yielded, e5]) ?_
                          go_simp
                          exact ⟨⟨by simp [hsz.out], hx.out⟩, upd z 104 (.pointer (some ⟨pg, 0, none⟩)), (by unfold Hid; simp [upd, e5]), hz.next apx hsz.out 6 (by decide) _ (fun _ h => Option.some.inj h), hp10.keep (by decide)⟩
                        · have e5 : z 103 = .bool true := hz 5 _ (hw 5 (by kernel_rfl)) rfl
                          have e6 : z 104 = .pointer (some ⟨pg, 0, none⟩) := hz 6 _ (hw 6 (by kernel_rfl)) rfl
                          refine wpOp_want rfl (by simp [Region.wanted, yielded, e5]) ?_
                          go_simp
                          exact ⟨⟨by simp [hsz.out], hx.out⟩, upd z 105 (.pointer (some ⟨pg, 0, none⟩)), (by unfold Hid; simp [upd, e5, e6]), hz.next apx hsz.out 7 (by decide) _ (fun _ h => Option.some.inj h), hp10.keep (by decide)⟩
                        · have e5 : z 103 = .bool true := hz 5 _ (hw 5 (by kernel_rfl)) rfl
                          have e7 : z 105 = .pointer (some ⟨pg, 0, none⟩) := hz 7 _ (hw 7 (by kernel_rfl)) rfl
                          refine wpOp_want rfl (by simp [Region.wanted, yielded, e5]) ?_
                          go_simp
                          exact ⟨⟨by simp [hsz.out], hx.out⟩, upd z 106 (.pointer (some ⟨pg, 2, none⟩)), (by unfold Hid; simp [upd, e5, e7]), hz.next apx hsz.out 8 (by decide) _ (fun _ h => Option.some.inj h), hp10.keep (by decide)⟩
                        · have e5 : z 103 = .bool true := hz 5 _ (hw 5 (by kernel_rfl)) rfl
                          have e8 : z 106 = .pointer (some ⟨pg, 2, none⟩) := hz 8 _ (hw 8 (by kernel_rfl)) rfl
                          have cl : wx.cell? ⟨pg, 2, none⟩ = some (.pointer (some ⟨J.g, 0, none⟩)) := (hx.out.cell (p := ⟨pg, 2, none⟩) (World.block_lt_of_cell? _ _ C2q.out)).trans C2q.out
                          refine wpOp_want rfl (by simp [Region.wanted, yielded, e5]) ?_
                          go_simp
                          exact ⟨⟨by simp [hsz.out], hx.out⟩, upd z 107 (.pointer (some ⟨J.g, 0, none⟩)), (by unfold Hid; simp [upd, e5, e8]), hz.next apx hsz.out 9 (by decide) _ (fun _ h => Option.some.inj h), hp10.keep (by decide)⟩
                        · have e5 : z 103 = .bool true := hz 5 _ (hw 5 (by kernel_rfl)) rfl
                          have e9 : z 107 = .pointer (some ⟨J.g, 0, none⟩) := hz 9 _ (hw 9 (by kernel_rfl)) rfl
                          refine wpOp_want rfl (by simp [Region.wanted, yielded, e5]) ?_
                          go_simp
                          go_at_call 13
                          refine (all_ptr (Hlog.out.lg.later hx.out) HIn.out).mono ?_
                          rintro e w8 ⟨vr, rfl, hsb, low⟩
                          exact ⟨⟨by simp [hsz.out], hx.out.trans (low.mono hx.out.size)⟩, upd z 108 (vr), (by unfold Hid; simp [upd, e5, e9]), hz.next apx hsz.out 10 (by decide) _ (fun _ h => by cases h), Whn.done (hsb)⟩
                        · have e5 : z 103 = .bool true := hz 5 _ (hw 5 (by kernel_rfl)) rfl
                          refine wpOp_want rfl (by simp [Region.wanted, yielded, e5]) ?_
                          go_simp
                          exact ⟨⟨by simp [hsz.out], hx.out⟩, upd z 109 (.pointer (some ⟨pg, 0, none⟩)), (by unfold Hid; simp [upd, e5]), hz.next apx hsz.out 11 (by decide) _ (fun _ h => Option.some.inj h), hp10.keep (by decide)⟩
                        · have e5 : z 103 = .bool true := hz 5 _ (hw 5 (by kernel_rfl)) rfl
                          have e11 : z 109 = .pointer (some ⟨pg, 0, none⟩) := hz 11 _ (hw 11 (by kernel_rfl)) rfl
                          refine wpOp_want rfl (by simp [Region.wanted, yielded, e5]) ?_
                          go_simp
                          exact ⟨⟨by simp [hsz.out], hx.out⟩, upd z 110 (.pointer (some ⟨pg, 0, none⟩)), (by unfold Hid; simp [upd, e5, e11]), hz.next apx hsz.out 12 (by decide) _ (fun _ h => Option.some.inj h), hp10.keep (by decide)⟩
                        · have e5 : z 103 = .bool true := hz 5 _ (hw 5 (by kernel_rfl)) rfl
                          have e12 : z 110 = .pointer (some ⟨pg, 0, none⟩) := hz 12 _ (hw 12 (by kernel_rfl)) rfl
                          refine wpOp_want rfl (by simp [Region.wanted, yielded, e5]) ?_
                          go_simp
                          exact ⟨⟨by simp [hsz.out], hx.out⟩, upd z 111 (.pointer (some ⟨pg, 3, none⟩)), (by unfold Hid; simp [upd, e5, e12]), hz.next apx hsz.out 13 (by decide) _ (fun _ h => Option.some.inj h), hp10.keep (by decide)⟩
                        · have e5 : z 103 = .bool true := hz 5 _ (hw 5 (by kernel_rfl)) rfl
                          have e13 : z 111 = .pointer (some ⟨pg, 3, none⟩) := hz 13 _ (hw 13 (by kernel_rfl)) rfl
                          have cl : wx.cell? ⟨pg, 3, none⟩ = some (.pointer (some ⟨I.g, 0, none⟩)) := (hx.out.cell (p := ⟨pg, 3, none⟩) (World.block_lt_of_cell? _ _ C3q.out)).trans C3q.out
                          refine wpOp_want rfl (by simp [Region.wanted, yielded, e5]) ?_
                          go_simp
                          exact ⟨⟨by simp [hsz.out], hx.out⟩, upd z 112 (.pointer (some ⟨I.g, 0, none⟩)), (by unfold Hid; simp [upd, e5, e13]), hz.next apx hsz.out 14 (by decide) _ (fun _ h => Option.some.inj h), hp10.keep (by decide)⟩
                        · have e5 : z 103 = .bool true := hz 5 _ (hw 5 (by kernel_rfl)) rfl
                          have e14 : z 112 = .pointer (some ⟨I.g, 0, none⟩) := hz 14 _ (hw 14 (by kernel_rfl)) rfl
                          refine wpOp_want rfl (by simp [Region.wanted, yielded, e5]) ?_
                          go_simp
                          exact ⟨⟨by simp [hsz.out], hx.out⟩, upd z 113 (.pointer (some ⟨I.g, 0, none⟩)), (by unfold Hid; simp [upd, e5, e14]), hz.next apx hsz.out 15 (by decide) _ (fun _ h => Option.some.inj h), hp10.keep (by decide)⟩
                        · have e5 : z 103 = .bool true := hz 5 _ (hw 5 (by kernel_rfl)) rfl
                          have e15 : z 113 = .pointer (some ⟨I.g, 0, none⟩) := hz 15 _ (hw 15 (by kernel_rfl)) rfl
                          refine wpOp_want rfl (by simp [Region.wanted, yielded, e5]) ?_
                          go_simp
                          exact ⟨⟨by simp [hsz.out], hx.out⟩, upd z 114 (.pointer (some ⟨I.g, 3, none⟩)), (by unfold Hid; simp [upd, e5, e15]), hz.next apx hsz.out 16 (by decide) _ (fun _ h => Option.some.inj h), hp10.keep (by decide)⟩
                        · have e5 : z 103 = .bool true := hz 5 _ (hw 5 (by kernel_rfl)) rfl
                          have e16 : z 114 = .pointer (some ⟨I.g, 3, none⟩) := hz 16 _ (hw 16 (by kernel_rfl)) rfl
                          have cl : wx.cell? ⟨I.g, 3, none⟩ = some (.slice AI S.texts.length cI) := (hx.out.cell (p := ⟨I.g, 3, none⟩) (World.block_lt_of_cell? _ _ CIq.out)).trans CIq.out
                          refine wpOp_want rfl (by simp [Region.wanted, yielded, e5]) ?_
                          go_simp
                          exact ⟨⟨by simp [hsz.out], hx.out⟩, upd z 115 (.slice AI S.texts.length cI), (by unfold Hid; simp [upd, e5, e16]), hz.next apx hsz.out 17 (by decide) _ (fun _ h => Option.some.inj h), hp10.keep (by decide)⟩
                        · have e5 : z 103 = .bool true := hz 5 _ (hw 5 (by kernel_rfl)) rfl
                          have e17 : z 115 = .slice AI S.texts.length cI := hz 17 _ (hw 17 (by kernel_rfl)) rfl
                          have p10 := hp10.get (hw 10 (by kernel_rfl))
                          obtain ⟨A9, c9, e10, t9⟩ := p10
                          have hs9 := same_ptr (c := c9) (c2 := cI) rfl t9 (HTI.out.later hx.out) HFew.out
                          refine wpOp_want rfl (by simp [Region.wanted, yielded, e5]) ?_
                          go_simp
                          go_at_call 12
                          refine hs9.mono ?_
                          rintro e w8 ⟨rfl, low⟩
                          exact ⟨⟨by simp [hsz.out], hx.out.trans (low.mono hx.out.size)⟩, upd z 116 (.bool true), (by unfold Hid; simp [upd, e5, e17, e10]), hz.next apx hsz.out 18 (by decide) _ (fun _ h => Option.some.inj h), (hp10.keep (by decide)).map (fun h => h.later low)⟩
                        · have e5 : z 103 = .bool true := hz 5 _ (hw 5 (by kernel_rfl)) rfl
                          have e18 : z 116 = .bool true := hz 18 _ (hw 18 (by kernel_rfl)) rfl
                          refine wpOp_want rfl (by simp [Region.wanted, yielded, e5]) ?_
                          go_simp
                          exact ⟨⟨by simp [hsz.out], hx.out⟩, upd z 117 (.bool false), (by unfold Hid; simp [upd, e5, e18]), hz.next apx hsz.out 19 (by decide) _ (fun _ h => Option.some.inj h), hp10.keep (by decide)⟩
                        · have e5 : z 103 = .bool true := hz 5 _ (hw 5 (by kernel_rfl)) rfl
                          have e19 : z 117 = .bool false := hz 19 _ (hw 19 (by kernel_rfl)) rfl
                          refine wpOp_plain rfl rfl ?_
                          go_simp
                          exact ⟨⟨by simp [hsz.out], hx.out⟩, upd z 118 (.bool false), (by unfold Hid; simp [upd, e5, e19]), hz.next apx hsz.out 20 (by decide) _ (fun _ h => Option.some.inj h), hp10.keep (by decide)⟩
                      · exact ⟨⟨rfl, (Below.refl _ _).drew⟩, fun xx => (#[.agg #[.int .i64 (k : Nat), .int .i64 x1, .int .i64 x2], .slice (some ⟨b, off, none⟩) n c, .pointer (some ⟨w.heap.size, 0, none⟩), undef, u4, .pointer (some ⟨K.g, 0, none⟩), .int .i64 0, .pointer (some ⟨pg, 0, none⟩), .int .i64 (i : Nat), u9, u10, .bool false, undef, .tuple #[.pointer (some ⟨K.g, 0, none⟩), .int .i64 0], .pointer (some ⟨w.heap.size, 0, none⟩), .int .i64 (k : Nat), .tuple #[.pointer (some ⟨K.g, 0, none⟩), .int .i64 0], .pointer (some ⟨K.g, 0, none⟩), .int .i64 0, .int .i64 0, .bool false, undef, undef, undef, undef, undef, undef, u27, u28, u29, u30, u31, u32, u33, u34, u35, u36, .pointer (some ⟨w.heap.size, 1, none⟩), .int .i64 x1, .bool false, .bool false, .pointer (some ⟨w.heap.size, 2, none⟩), .int .i64 x2, .bool false, .bool false, .bool false, .pointer (some ⟨w.heap.size, 1, none⟩), .int .i64 x1, .bool false, .bool false, .bool false, .pointer (some ⟨pg, 0, none⟩), .bool true, .bool false, .bool false, undef, undef, undef, undef, undef, undef, undef, undef, undef, undef, undef, undef, undef, undef, undef, undef, .int .i64 (i : Nat), .slice (some ⟨b, off, none⟩) n c, .int .i64 (n : Nat), .bool true, u75, u76, u77, u78, u79, u80, u81, u82, u83, u84, u85, u86, u87, u88, u89, u90, u91, u92, u93, u94, u95, u96, .bool false, u98, u99, u100, u101, u102, u103, u104, u105, u106, u107, u108, u109, u110, u111, u112, u113, u114, u115, u116, u117, u118, undef] : Array Value).getD xx undef, (by rfl), Holding.start, Whn.none (by decide)⟩
                  case rest =>
                    obtain ⟨rfl, hlow⟩ := hcut
                    have Hlow := Lib.hid hlow
                    clear hlow
                    go_wp2
                    exact ⟨⟨i + 1, by omega, by go_num, D, Hps.out.later Hlow.out, Hwr.out⟩, by simp [intOf]; omega⟩
              · have hltI : ¬ (i : Int) < (n : Int) := by omega
                obtain ⟨D, ⟨vl, vr, hp, _⟩, _⟩ := Hrel.out
                have Lowr := Lib.hid hp.low
                clear hp
                go_wp2_with (go_at_call 7; refine (awake_any _).mono ?_; rintro e w9 ⟨rfl, hb9⟩; have L9 := Lib.hid hb9; clear hb9)
                go_ret
                exact ⟨rfl, Lowr.out.trans (L9.out.mono Lowr.out.size)⟩
end Go.Proofs.Ytpeioogkbcejmaa.Slt
