/- DERIVED. The walk of the law CodecApart. Written by mkapart.py. -/
import Derived.Test.YtdoklhbjbokcmaaCodEq
namespace Go.Proofs.Ytdoklhbjbokcmaa.Cod
open Go.RowKit Str
set_option maxRecDepth 100000 in
set_option maxHeartbeats 2000000 in
theorem apart_long (x y : Val) (hx : 300 < x.s.size ∨ (x.s.size ≤ 300 ∧ 300 < y.s.size)) (w : World) : Calls Try.prog 7 #[.agg x.cells, .agg y.cells] w fun e w' => e = .returned (.bool true) ∧ Below w.heap.size w w' := by
  have h2 := two_new w (.cells x.cells 34) (.cells y.cells 34)
  have k2 : Below w.heap.size w ((w.alloc (.cells x.cells 34)).alloc (.cells y.cells 34)) := ((Below.refl _ _).alloc (Nat.le_refl _) _).alloc (by simp) _
  obtain ⟨w2, hw2⟩ : ∃ w2, w2 = (w.alloc (.cells x.cells 34)).alloc (.cells y.cells 34) := ⟨_, rfl⟩
  rw [← hw2] at h2 k2
  have a2 : w2.cell? ⟨w.heap.size, 2, none⟩ = some (.string x.s) := (cell_row h2.1 2).trans x.c2
  have b2 : w2.cell? ⟨w.heap.size + 1, 2, none⟩ = some (.string y.s) := (cell_row h2.2 2).trans y.c2
  have Hk2 := Lib.hid k2
  have Hw2 := Lib.hid hw2
  clear h2 k2 hw2
  go_enter Try.func7, Try.ntmps7
  go_upto_region 1 with (fail)
  rw [← Hw2.out]
  rcases hx with hx | ⟨hx, hy⟩
  · have hx' : (300 : Int) < (x.s.size : Int) := by omega
    go_wp2_with (go_at_call 10; refine (works_any _).mono ?_; rintro e w3 ⟨rfl, low3⟩; have Low3 := Lib.hid low3; clear low3)
    go_ret
    exact ⟨rfl, Hk2.out.trans (Low3.out.mono Hk2.out.size)⟩
  · have hx' : ¬ (300 : Int) < (x.s.size : Int) := by omega
    have hy' : (300 : Int) < (y.s.size : Int) := by omega
    go_wp2_with (go_at_call 10; refine (works_any _).mono ?_; rintro e w3 ⟨rfl, low3⟩; have Low3 := Lib.hid low3; clear low3)
    go_ret
    exact ⟨rfl, Hk2.out.trans (Low3.out.mono Hk2.out.size)⟩
set_option maxRecDepth 100000 in
set_option maxHeartbeats 2000000 in
theorem apart_short (x y : Val) (ox : x.Ok) (oy : y.Ok) (hx : x.s.size ≤ 300) (hy : y.s.size ≤ 300) (w : World) : Calls Try.prog 7 #[.agg x.cells, .agg y.cells] w fun e w' => e = .returned (.bool true) ∧ Below w.heap.size w w' := by
  have h2 := two_new w (.cells x.cells 34) (.cells y.cells 34)
  have k2 : Below w.heap.size w ((w.alloc (.cells x.cells 34)).alloc (.cells y.cells 34)) := ((Below.refl _ _).alloc (Nat.le_refl _) _).alloc (by simp) _
  obtain ⟨w2, hw2⟩ : ∃ w2, w2 = (w.alloc (.cells x.cells 34)).alloc (.cells y.cells 34) := ⟨_, rfl⟩
  rw [← hw2] at h2 k2
  have a2 : w2.cell? ⟨w.heap.size, 2, none⟩ = some (.string x.s) := (cell_row h2.1 2).trans x.c2
  have b2 : w2.cell? ⟨w.heap.size + 1, 2, none⟩ = some (.string y.s) := (cell_row h2.2 2).trans y.c2
  have a35 : w2.cell? ⟨w.heap.size, 35, none⟩ = some (.int .i64 x.lv) := (cell_row h2.1 35).trans (x.ct ox.hl 0)
  have b35 : w2.cell? ⟨w.heap.size + 1, 35, none⟩ = some (.int .i64 y.lv) := (cell_row h2.2 35).trans (y.ct oy.hl 0)
  have fa := free_row h2.1 35
  have fb := free_row h2.2 35
  have Hk2 := Lib.hid k2
  have Hh2 := Lib.hid h2
  have Hw2 := Lib.hid hw2
  have hx' : ¬ (300 : Int) < (x.s.size : Int) := by omega
  have hy' : ¬ (300 : Int) < (y.s.size : Int) := by omega
  clear h2 k2 hw2
  go_enter Try.func7, Try.ntmps7
  go_upto_region 1 with (fail)
  rw [← Hw2.out]
  go_upto_region 5 with (fail)
  obtain ⟨a, ha⟩ : ∃ a, a = bits .and .i64 x.lv 15 := ⟨_, rfl⟩
  obtain ⟨b, hb⟩ : ∃ b, b = bits .and .i64 y.lv 15 := ⟨_, rfl⟩
  rw [← ha, ← hb]
  rw [i64_and15] at ha hb
  obtain ⟨X, hX⟩ : ∃ X, X = x.setLv a := ⟨_, rfl⟩
  obtain ⟨Y, hY⟩ : ∃ Y, Y = y.setLv b := ⟨_, rfl⟩
  have OX : X.Ok := by rw [hX]; exact ⟨ox.k0, ox.num, ox.s, ox.hl, ox.hb, (show -9223372036854775808 ≤ a ∧ a ≤ 9223372036854775807 by omega), ox.cp, ox.n, ox.mo⟩
  have OY : Y.Ok := by rw [hY]; exact ⟨oy.k0, oy.num, oy.s, oy.hl, oy.hb, (show -9223372036854775808 ≤ b ∧ b ≤ 9223372036854775807 by omega), oy.cp, oy.n, oy.mo⟩
  have HXl : Hid (0 ≤ X.lv ∧ X.lv < 16) := by rw [hX]; exact (show 0 ≤ a ∧ a < 16 by omega)
  have HYl : Hid (0 ≤ Y.lv ∧ Y.lv < 16) := by rw [hY]; exact (show 0 ≤ b ∧ b < 16 by omega)
  have HXs : Hid (X.s.size ≤ 300) := by rw [hX]; exact hx
  have HYs : Hid (Y.s.size ≤ 300) := by rw [hY]; exact hy
  obtain ⟨w3, hw3⟩ : ∃ w3, w3 = (w2.setCell ⟨w.heap.size, 35, none⟩ (.int .i64 a)).setCell ⟨w.heap.size + 1, 35, none⟩ (.int .i64 b) := ⟨_, rfl⟩
  have hAX0 : AX X Y w w3 := by
    have e1 : (w2.setCell ⟨w.heap.size, 35, none⟩ (.int .i64 a)).heap[w.heap.size]? = some (.cells X.cells 34 (0, 0)) := by rw [heap_setCell_same _ _ _ _ _ _ Hh2.out.1, x.set35 ox.hl, hX]
    have e2 : (w2.setCell ⟨w.heap.size, 35, none⟩ (.int .i64 a)).heap[w.heap.size + 1]? = some (.cells y.cells 34 (0, 0)) := by rw [heap_setCell_other _ _ _ _ (by simp)]; exact Hh2.out.2
    rw [hw3]
    exact ⟨by rw [heap_setCell_other _ _ _ _ (by simp)]; exact e1, by rw [heap_setCell_same _ _ _ _ _ _ e2, y.set35 oy.hl, hY], (Hk2.out.setCell (Nat.le_refl _) _).setCell (by simp) _⟩
  have HAX0 := Lib.hid hAX0
  rw [← hw3]
  clear hw3 hAX0 ha hb hX hY ox oy hx hy Hh2 Hk2 Hw2 a2 b2 a35 b35 fa fb hx' hy'
  go_cut [5, 6] (fun s5 s6 wx => SlB (encN X.num) s5 wx ∧ SlB (encN Y.num) s6 wx ∧ AX X Y w wx)
  case first =>
    obtain ⟨wc, hwc⟩ : ∃ wc, wc = w3 := ⟨_, rfl⟩
    rw [← hwc] at HAX0 ⊢
    clear hwc
    have hAX := HAX0
    have CX1 : Hid (wc.cell? ⟨w.heap.size, 1, none⟩ = some (.int .u64 (X.num : Nat))) := (cell_row hAX.out.xr 1).trans X.c1
    have CY1 : Hid (wc.cell? ⟨w.heap.size + 1, 1, none⟩ = some (.int .u64 (Y.num : Nat))) := (cell_row hAX.out.yr 1).trans Y.c1
    have apx : apartB [34, 35, 36, 37, 38, 39, 5, 6] = true := by decide
    refine wp_region_any (by kernel_rfl) ?_
    change wpAny _ _ _ _ _ _ _ (World.drew _)
    refine wpAny_inv (fun ll aa wx => Hid (ll.size = 8 ∧ Below wc.heap.size wc wx) ∧ ∃ (z : Nat → Value), Hid (aa = ⟨#[.agg x.cells, .agg y.cells, .pointer (some ⟨w.heap.size, 0, none⟩), .pointer (some ⟨w.heap.size + 1, 0, none⟩), .bool false, z 5, z 6, undef, undef, undef, undef, .pointer (some ⟨w.heap.size, 2, none⟩), .string x.s, .int .i64 (x.s.size : Nat), .bool false, .bool false, .pointer (some ⟨w.heap.size + 1, 2, none⟩), .string y.s, .int .i64 (y.s.size : Nat), .bool false, .bool false, undef, .pointer (some ⟨w.heap.size, 35, none⟩), .pointer (some ⟨w.heap.size, 35, none⟩), .int .i64 x.lv, .int .i64 a, .pointer (some ⟨w.heap.size, 35, none⟩), .pointer (some ⟨w.heap.size, 35, none⟩), .pointer (some ⟨w.heap.size + 1, 35, none⟩), .pointer (some ⟨w.heap.size + 1, 35, none⟩), .int .i64 y.lv, .int .i64 b, .pointer (some ⟨w.heap.size + 1, 35, none⟩), .pointer (some ⟨w.heap.size + 1, 35, none⟩), z 34, z 35, z 36, z 37, z 38, z 39, undef, undef, undef, undef, undef, undef, undef, undef, undef, undef, undef, undef, undef, undef, undef, undef, undef, undef, undef, undef, undef, undef, undef, undef, undef, undef, undef, undef, undef, undef, undef, undef, undef, undef, undef, undef, undef, undef, undef, undef, undef, undef, undef, undef, undef, undef], []⟩) ∧ Holding [34, 35, 36, 37, 38, 39, 5, 6] [some (.pointer (some ⟨w.heap.size, 1, none⟩)), some (.int .u64 (X.num : Nat)), none, some (.pointer (some ⟨w.heap.size + 1, 1, none⟩)), some (.int .u64 (Y.num : Nat)), none, none, none] ll z ∧ Whn ll 2 (SlB (encN X.num)) (z 36) wx ∧ Whn ll 5 (SlB (encN Y.num)) (z 39) wx ∧ Whn ll 6 (SlB (encN X.num)) (z 5) wx ∧ Whn ll 7 (SlB (encN Y.num)) (z 6) wx) ?_ (by kernel_rfl) ?_ ?_ _ _ _ _ (unlisted_none _) ?_
    · rintro ll aa wx ⟨h, _⟩
      exact h.out.1
    · rintro ll aa wx ⟨h, z, ha, hz, hp2, hp5, hp6, hp7⟩ hall
      have hx := Lib.hid h.out.2
      have e0 : z 34 = .pointer (some ⟨w.heap.size, 1, none⟩) := hz 0 _ (hall 0 (by decide)) rfl
      have e1 : z 35 = .int .u64 (X.num : Nat) := hz 1 _ (hall 1 (by decide)) rfl
      have e3 : z 37 = .pointer (some ⟨w.heap.size + 1, 1, none⟩) := hz 3 _ (hall 3 (by decide)) rfl
      have e4 : z 38 = .int .u64 (Y.num : Nat) := hz 4 _ (hall 4 (by decide)) rfl
      have p2 := hp2.get (hall 2 (by decide))
      have p5 := hp5.get (hall 5 (by decide))
      have p6 := hp6.get (hall 6 (by decide))
      have p7 := hp7.get (hall 7 (by decide))
      clear hall hz h hp2 hp5 hp6 hp7
      obtain rfl := ha.out
      clear ha
      clear apx
      clear e0 e1 e3 e4 p2 p5
      have P6 := Lib.hid p6
      have P7 := Lib.hid p7
      clear p6 p7
      go_wp2
      go_meet
      exact ⟨P6.out, P7.out, hAX.out.later hx.out⟩
    · rintro ll aa wx i ⟨h, z, ha, hz, hp2, hp5, hp6, hp7⟩ hi hu hw
      obtain rfl := ha.out
      have hsz := Lib.hid h.out.1
      have hx := Lib.hid h.out.2
      clear ha h
      have hin : i < 8 := hi
      obtain rfl | rfl | rfl | rfl | rfl | rfl | rfl | rfl : i = 0 ∨ i = 1 ∨ i = 2 ∨ i = 3 ∨ i = 4 ∨ i = 5 ∨ i = 6 ∨ i = 7 := by omega
      · refine wpOp_plain rfl rfl ?_
        go_simp
        exact ⟨⟨by simp [hsz.out], hx.out⟩, upd z 34 (.pointer (some ⟨w.heap.size, 1, none⟩)), (by unfold Hid; simp [upd]), hz.next apx hsz.out 0 (by decide) _ (fun _ h => Option.some.inj h), hp2.keep (by decide), hp5.keep (by decide), hp6.keep (by decide), hp7.keep (by decide)⟩
      · have e0 : z 34 = .pointer (some ⟨w.heap.size, 1, none⟩) := hz 0 _ (hw 0 (by kernel_rfl)) rfl
        have cl : wx.cell? ⟨w.heap.size, 1, none⟩ = some (.int .u64 (X.num : Nat)) := (hx.out.cell (p := ⟨w.heap.size, 1, none⟩) (World.block_lt_of_cell? _ _ CX1.out)).trans CX1.out
        refine wpOp_plain rfl rfl ?_
        go_simp
        exact ⟨⟨by simp [hsz.out], hx.out⟩, upd z 35 (.int .u64 (X.num : Nat)), (by unfold Hid; simp [upd, e0]), hz.next apx hsz.out 1 (by decide) _ (fun _ h => Option.some.inj h), hp2.keep (by decide), hp5.keep (by decide), hp6.keep (by decide), hp7.keep (by decide)⟩
      · have e1 : z 35 = .int .u64 (X.num : Nat) := hz 1 _ (hw 1 (by kernel_rfl)) rfl
        refine wpOp_plain rfl rfl ?_
        go_simp
        go_at_call 18
        refine (num_nil X.num OX.num _).mono ?_
        rintro e w' ⟨vr, rfl, sl, low⟩
        exact ⟨⟨by simp [hsz.out], hx.out.trans (low.mono hx.out.size)⟩, upd z 36 (vr), (by unfold Hid; simp [upd, e1]), hz.next apx hsz.out 2 (by decide) _ (fun _ h => by cases h), Whn.done (sl), (hp5.keep (by decide)).map (fun h => h.later low), (hp6.keep (by decide)).map (fun h => h.later low), (hp7.keep (by decide)).map (fun h => h.later low)⟩
      · refine wpOp_plain rfl rfl ?_
        go_simp
        exact ⟨⟨by simp [hsz.out], hx.out⟩, upd z 37 (.pointer (some ⟨w.heap.size + 1, 1, none⟩)), (by unfold Hid; simp [upd]), hz.next apx hsz.out 3 (by decide) _ (fun _ h => Option.some.inj h), hp2.keep (by decide), hp5.keep (by decide), hp6.keep (by decide), hp7.keep (by decide)⟩
      · have e3 : z 37 = .pointer (some ⟨w.heap.size + 1, 1, none⟩) := hz 3 _ (hw 3 (by kernel_rfl)) rfl
        have cl : wx.cell? ⟨w.heap.size + 1, 1, none⟩ = some (.int .u64 (Y.num : Nat)) := (hx.out.cell (p := ⟨w.heap.size + 1, 1, none⟩) (World.block_lt_of_cell? _ _ CY1.out)).trans CY1.out
        refine wpOp_plain rfl rfl ?_
        go_simp
        exact ⟨⟨by simp [hsz.out], hx.out⟩, upd z 38 (.int .u64 (Y.num : Nat)), (by unfold Hid; simp [upd, e3]), hz.next apx hsz.out 4 (by decide) _ (fun _ h => Option.some.inj h), hp2.keep (by decide), hp5.keep (by decide), hp6.keep (by decide), hp7.keep (by decide)⟩
      · have e4 : z 38 = .int .u64 (Y.num : Nat) := hz 4 _ (hw 4 (by kernel_rfl)) rfl
        refine wpOp_plain rfl rfl ?_
        go_simp
        go_at_call 18
        refine (num_nil Y.num OY.num _).mono ?_
        rintro e w' ⟨vr, rfl, sl, low⟩
        exact ⟨⟨by simp [hsz.out], hx.out.trans (low.mono hx.out.size)⟩, upd z 39 (vr), (by unfold Hid; simp [upd, e4]), hz.next apx hsz.out 5 (by decide) _ (fun _ h => by cases h), (hp2.keep (by decide)).map (fun h => h.later low), Whn.done (sl), (hp6.keep (by decide)).map (fun h => h.later low), (hp7.keep (by decide)).map (fun h => h.later low)⟩
      · have p2 := hp2.get (hw 2 (by kernel_rfl))
        refine wpOp_plain rfl rfl ?_
        go_simp
        exact ⟨⟨by simp [hsz.out], hx.out⟩, upd z 5 (z 36), (by unfold Hid; simp [upd]), hz.next apx hsz.out 6 (by decide) _ (fun _ h => by cases h), hp2.keep (by decide), hp5.keep (by decide), Whn.done (p2), hp7.keep (by decide)⟩
      · have p5 := hp5.get (hw 5 (by kernel_rfl))
        refine wpOp_plain rfl rfl ?_
        go_simp
        exact ⟨⟨by simp [hsz.out], hx.out⟩, upd z 6 (z 39), (by unfold Hid; simp [upd]), hz.next apx hsz.out 7 (by decide) _ (fun _ h => by cases h), hp2.keep (by decide), hp5.keep (by decide), hp6.keep (by decide), Whn.done (p5)⟩
    · exact ⟨⟨rfl, (Below.refl _ _).drew⟩, fun xx => (#[.agg x.cells, .agg y.cells, .pointer (some ⟨w.heap.size, 0, none⟩), .pointer (some ⟨w.heap.size + 1, 0, none⟩), .bool false, undef, undef, undef, undef, undef, undef, .pointer (some ⟨w.heap.size, 2, none⟩), .string x.s, .int .i64 (x.s.size : Nat), .bool false, .bool false, .pointer (some ⟨w.heap.size + 1, 2, none⟩), .string y.s, .int .i64 (y.s.size : Nat), .bool false, .bool false, undef, .pointer (some ⟨w.heap.size, 35, none⟩), .pointer (some ⟨w.heap.size, 35, none⟩), .int .i64 x.lv, .int .i64 a, .pointer (some ⟨w.heap.size, 35, none⟩), .pointer (some ⟨w.heap.size, 35, none⟩), .pointer (some ⟨w.heap.size + 1, 35, none⟩), .pointer (some ⟨w.heap.size + 1, 35, none⟩), .int .i64 y.lv, .int .i64 b, .pointer (some ⟨w.heap.size + 1, 35, none⟩), .pointer (some ⟨w.heap.size + 1, 35, none⟩), undef, undef, undef, undef, undef, undef, undef, undef, undef, undef, undef, undef, undef, undef, undef, undef, undef, undef, undef, undef, undef, undef, undef, undef, undef, undef, undef, undef, undef, undef, undef, undef, undef, undef, undef, undef, undef, undef, undef, undef, undef, undef, undef, undef, undef, undef, undef, undef, undef, undef, undef, undef] : Array Value).getD xx undef, rfl, Holding.start, Whn.none (by decide), Whn.none (by decide), Whn.none (by decide), Whn.none (by decide)⟩
  case rest =>
    obtain ⟨h5, h6, hA⟩ := hcut
    have H5 := Lib.hid h5
    have H6 := Lib.hid h6
    have hAX := Lib.hid hA
    clear h5 h6 hA HAX0
    go_wp2
    go_cut [7, 8] (fun s7 s8 wx => SlB (textL X.s) s7 wx ∧ SlB (textL Y.s) s8 wx ∧ SlB (encN X.num) u5 wx ∧ SlB (encN Y.num) u6 wx ∧ AX X Y w wx)
    case first =>
      have CX1 : Hid (wc.cell? ⟨w.heap.size, 2, none⟩ = some (.string X.s)) := (cell_row hAX.out.xr 2).trans X.c2
      have CY1 : Hid (wc.cell? ⟨w.heap.size + 1, 2, none⟩ = some (.string Y.s)) := (cell_row hAX.out.yr 2).trans Y.c2
      have apx : apartB [40, 41, 42, 43, 44, 45, 7, 8] = true := by decide
      refine wp_region_any (by kernel_rfl) ?_
      change wpAny _ _ _ _ _ _ _ (World.drew _)
      refine wpAny_inv (fun ll aa wx => Hid (ll.size = 8 ∧ Below wc.heap.size wc wx) ∧ ∃ (z : Nat → Value), Hid (aa = ⟨#[.agg x.cells, .agg y.cells, .pointer (some ⟨w.heap.size, 0, none⟩), .pointer (some ⟨w.heap.size + 1, 0, none⟩), .bool false, u5, u6, z 7, z 8, undef, undef, u11, u12, u13, u14, u15, u16, u17, u18, u19, u20, u21, u22, u23, u24, u25, u26, u27, u28, u29, u30, u31, u32, u33, u34, u35, u36, u37, u38, u39, z 40, z 41, z 42, z 43, z 44, z 45, u46, u47, u48, u49, u50, u51, u52, u53, u54, u55, u56, u57, u58, u59, u60, u61, u62, u63, u64, u65, u66, u67, u68, u69, u70, u71, u72, u73, u74, u75, u76, u77, u78, u79, u80, u81, u82, u83, u84, u85], []⟩) ∧ Holding [40, 41, 42, 43, 44, 45, 7, 8] [some (.pointer (some ⟨w.heap.size, 2, none⟩)), some (.string X.s), none, some (.pointer (some ⟨w.heap.size + 1, 2, none⟩)), some (.string Y.s), none, none, none] ll z ∧ Whn ll 2 (SlB (textL X.s)) (z 42) wx ∧ Whn ll 5 (SlB (textL Y.s)) (z 45) wx ∧ Whn ll 6 (SlB (textL X.s)) (z 7) wx ∧ Whn ll 7 (SlB (textL Y.s)) (z 8) wx) ?_ (by kernel_rfl) ?_ ?_ _ _ _ _ (unlisted_none _) ?_
      · rintro ll aa wx ⟨h, _⟩
        exact h.out.1
      · rintro ll aa wx ⟨h, z, ha, hz, hp2, hp5, hp6, hp7⟩ hall
        have hx := Lib.hid h.out.2
        have e0 : z 40 = .pointer (some ⟨w.heap.size, 2, none⟩) := hz 0 _ (hall 0 (by decide)) rfl
        have e1 : z 41 = .string X.s := hz 1 _ (hall 1 (by decide)) rfl
        have e3 : z 43 = .pointer (some ⟨w.heap.size + 1, 2, none⟩) := hz 3 _ (hall 3 (by decide)) rfl
        have e4 : z 44 = .string Y.s := hz 4 _ (hall 4 (by decide)) rfl
        have p2 := hp2.get (hall 2 (by decide))
        have p5 := hp5.get (hall 5 (by decide))
        have p6 := hp6.get (hall 6 (by decide))
        have p7 := hp7.get (hall 7 (by decide))
        clear hall hz h hp2 hp5 hp6 hp7
        obtain rfl := ha.out
        clear ha
        clear apx
        clear e0 e1 e3 e4 p2 p5
        have P6 := Lib.hid p6
        have P7 := Lib.hid p7
        clear p6 p7
        go_wp2
        go_meet
        exact ⟨P6.out, P7.out, H5.out.later hx.out, H6.out.later hx.out, hAX.out.later hx.out⟩
      · rintro ll aa wx i ⟨h, z, ha, hz, hp2, hp5, hp6, hp7⟩ hi hu hw
        obtain rfl := ha.out
        have hsz := Lib.hid h.out.1
        have hx := Lib.hid h.out.2
        clear ha h
        have hin : i < 8 := hi
        obtain rfl | rfl | rfl | rfl | rfl | rfl | rfl | rfl : i = 0 ∨ i = 1 ∨ i = 2 ∨ i = 3 ∨ i = 4 ∨ i = 5 ∨ i = 6 ∨ i = 7 := by omega
        · refine wpOp_plain rfl rfl ?_
          go_simp
          exact ⟨⟨by simp [hsz.out], hx.out⟩, upd z 40 (.pointer (some ⟨w.heap.size, 2, none⟩)), (by unfold Hid; simp [upd]), hz.next apx hsz.out 0 (by decide) _ (fun _ h => Option.some.inj h), hp2.keep (by decide), hp5.keep (by decide), hp6.keep (by decide), hp7.keep (by decide)⟩
        · have e0 : z 40 = .pointer (some ⟨w.heap.size, 2, none⟩) := hz 0 _ (hw 0 (by kernel_rfl)) rfl
          have cl : wx.cell? ⟨w.heap.size, 2, none⟩ = some (.string X.s) := (hx.out.cell (p := ⟨w.heap.size, 2, none⟩) (World.block_lt_of_cell? _ _ CX1.out)).trans CX1.out
          refine wpOp_plain rfl rfl ?_
          go_simp
          exact ⟨⟨by simp [hsz.out], hx.out⟩, upd z 41 (.string X.s), (by unfold Hid; simp [upd, e0]), hz.next apx hsz.out 1 (by decide) _ (fun _ h => Option.some.inj h), hp2.keep (by decide), hp5.keep (by decide), hp6.keep (by decide), hp7.keep (by decide)⟩
        · have e1 : z 41 = .string X.s := hz 1 _ (hw 1 (by kernel_rfl)) rfl
          refine wpOp_plain rfl rfl ?_
          go_simp
          go_at_call 20
          refine (text_nil X.s (Nat.le_trans HXs.out (by decide)) _).mono ?_
          rintro e w' ⟨vr, rfl, sl, low⟩
          exact ⟨⟨by simp [hsz.out], hx.out.trans (low.mono hx.out.size)⟩, upd z 42 (vr), (by unfold Hid; simp [upd, e1]), hz.next apx hsz.out 2 (by decide) _ (fun _ h => by cases h), Whn.done (sl), (hp5.keep (by decide)).map (fun h => h.later low), (hp6.keep (by decide)).map (fun h => h.later low), (hp7.keep (by decide)).map (fun h => h.later low)⟩
        · refine wpOp_plain rfl rfl ?_
          go_simp
          exact ⟨⟨by simp [hsz.out], hx.out⟩, upd z 43 (.pointer (some ⟨w.heap.size + 1, 2, none⟩)), (by unfold Hid; simp [upd]), hz.next apx hsz.out 3 (by decide) _ (fun _ h => Option.some.inj h), hp2.keep (by decide), hp5.keep (by decide), hp6.keep (by decide), hp7.keep (by decide)⟩
        · have e3 : z 43 = .pointer (some ⟨w.heap.size + 1, 2, none⟩) := hz 3 _ (hw 3 (by kernel_rfl)) rfl
          have cl : wx.cell? ⟨w.heap.size + 1, 2, none⟩ = some (.string Y.s) := (hx.out.cell (p := ⟨w.heap.size + 1, 2, none⟩) (World.block_lt_of_cell? _ _ CY1.out)).trans CY1.out
          refine wpOp_plain rfl rfl ?_
          go_simp
          exact ⟨⟨by simp [hsz.out], hx.out⟩, upd z 44 (.string Y.s), (by unfold Hid; simp [upd, e3]), hz.next apx hsz.out 4 (by decide) _ (fun _ h => Option.some.inj h), hp2.keep (by decide), hp5.keep (by decide), hp6.keep (by decide), hp7.keep (by decide)⟩
        · have e4 : z 44 = .string Y.s := hz 4 _ (hw 4 (by kernel_rfl)) rfl
          refine wpOp_plain rfl rfl ?_
          go_simp
          go_at_call 20
          refine (text_nil Y.s (Nat.le_trans HYs.out (by decide)) _).mono ?_
          rintro e w' ⟨vr, rfl, sl, low⟩
          exact ⟨⟨by simp [hsz.out], hx.out.trans (low.mono hx.out.size)⟩, upd z 45 (vr), (by unfold Hid; simp [upd, e4]), hz.next apx hsz.out 5 (by decide) _ (fun _ h => by cases h), (hp2.keep (by decide)).map (fun h => h.later low), Whn.done (sl), (hp6.keep (by decide)).map (fun h => h.later low), (hp7.keep (by decide)).map (fun h => h.later low)⟩
        · have p2 := hp2.get (hw 2 (by kernel_rfl))
          refine wpOp_plain rfl rfl ?_
          go_simp
          exact ⟨⟨by simp [hsz.out], hx.out⟩, upd z 7 (z 42), (by unfold Hid; simp [upd]), hz.next apx hsz.out 6 (by decide) _ (fun _ h => by cases h), hp2.keep (by decide), hp5.keep (by decide), Whn.done (p2), hp7.keep (by decide)⟩
        · have p5 := hp5.get (hw 5 (by kernel_rfl))
          refine wpOp_plain rfl rfl ?_
          go_simp
          exact ⟨⟨by simp [hsz.out], hx.out⟩, upd z 8 (z 45), (by unfold Hid; simp [upd]), hz.next apx hsz.out 7 (by decide) _ (fun _ h => by cases h), hp2.keep (by decide), hp5.keep (by decide), hp6.keep (by decide), Whn.done (p5)⟩
      · exact ⟨⟨rfl, (Below.refl _ _).drew⟩, fun xx => (#[.agg x.cells, .agg y.cells, .pointer (some ⟨w.heap.size, 0, none⟩), .pointer (some ⟨w.heap.size + 1, 0, none⟩), .bool false, u5, u6, undef, undef, undef, undef, u11, u12, u13, u14, u15, u16, u17, u18, u19, u20, u21, u22, u23, u24, u25, u26, u27, u28, u29, u30, u31, u32, u33, u34, u35, u36, u37, u38, u39, u40, u41, u42, u43, u44, u45, u46, u47, u48, u49, u50, u51, u52, u53, u54, u55, u56, u57, u58, u59, u60, u61, u62, u63, u64, u65, u66, u67, u68, u69, u70, u71, u72, u73, u74, u75, u76, u77, u78, u79, u80, u81, u82, u83, u84, u85] : Array Value).getD xx undef, rfl, Holding.start, Whn.none (by decide), Whn.none (by decide), Whn.none (by decide), Whn.none (by decide)⟩
    case rest =>
      obtain ⟨h7, h8, h5, h6, hA⟩ := hcut
      have H7 := Lib.hid h7
      have H8 := Lib.hid h8
      have H5 := Lib.hid h5
      have H6 := Lib.hid h6
      have hAX := Lib.hid hA
      clear h5 h6 h7 h8 hA
      go_wp2
      go_cut [9, 10] (fun s9 s10 wx => SlB (labelL X.lv X.cp) s9 wx ∧ SlB (labelL Y.lv Y.cp) s10 wx ∧ SlB (textL X.s) u7 wx ∧ SlB (textL Y.s) u8 wx ∧ SlB (encN X.num) u5 wx ∧ SlB (encN Y.num) u6 wx ∧ AX X Y w wx)
      case first =>
        have CX1 : Hid (wc.cell? ⟨w.heap.size, 35, none⟩ = some (.int .i64 X.lv)) := (cell_row hAX.out.xr 35).trans (X.ct OX.hl 0)
        have CX2 : Hid (wc.cell? ⟨w.heap.size, 36, none⟩ = some (.int .u64 (X.cp : Nat))) := (cell_row hAX.out.xr 36).trans (X.ct OX.hl 1)
        have CY1 : Hid (wc.cell? ⟨w.heap.size + 1, 35, none⟩ = some (.int .i64 Y.lv)) := (cell_row hAX.out.yr 35).trans (Y.ct OY.hl 0)
        have CY2 : Hid (wc.cell? ⟨w.heap.size + 1, 36, none⟩ = some (.int .u64 (Y.cp : Nat))) := (cell_row hAX.out.yr 36).trans (Y.ct OY.hl 1)
        have apx : apartB [46, 47, 48, 49, 50, 51, 9, 10] = true := by decide
        refine wp_region_any (by kernel_rfl) ?_
        change wpAny _ _ _ _ _ _ _ (World.drew _)
        refine wpAny_inv (fun ll aa wx => Hid (ll.size = 8 ∧ Below wc.heap.size wc wx) ∧ ∃ (z : Nat → Value), Hid (aa = ⟨#[.agg x.cells, .agg y.cells, .pointer (some ⟨w.heap.size, 0, none⟩), .pointer (some ⟨w.heap.size + 1, 0, none⟩), .bool false, u5, u6, u7, u8, z 9, z 10, u11, u12, u13, u14, u15, u16, u17, u18, u19, u20, u21, u22, u23, u24, u25, u26, u27, u28, u29, u30, u31, u32, u33, u34, u35, u36, u37, u38, u39, u40, u41, u42, u43, u44, u45, z 46, z 47, z 48, z 49, z 50, z 51, u52, u53, u54, u55, u56, u57, u58, u59, u60, u61, u62, u63, u64, u65, u66, u67, u68, u69, u70, u71, u72, u73, u74, u75, u76, u77, u78, u79, u80, u81, u82, u83, u84, u85], []⟩) ∧ Holding [46, 47, 48, 49, 50, 51, 9, 10] [some (.pointer (some ⟨w.heap.size, 35, none⟩)), some (.agg #[.int .i64 X.lv, .int .u64 (X.cp : Nat)]), none, some (.pointer (some ⟨w.heap.size + 1, 35, none⟩)), some (.agg #[.int .i64 Y.lv, .int .u64 (Y.cp : Nat)]), none, none, none] ll z ∧ Whn ll 2 (SlB (labelL X.lv X.cp)) (z 48) wx ∧ Whn ll 5 (SlB (labelL Y.lv Y.cp)) (z 51) wx ∧ Whn ll 6 (SlB (labelL X.lv X.cp)) (z 9) wx ∧ Whn ll 7 (SlB (labelL Y.lv Y.cp)) (z 10) wx) ?_ (by kernel_rfl) ?_ ?_ _ _ _ _ (unlisted_none _) ?_
        · rintro ll aa wx ⟨h, _⟩
          exact h.out.1
        · rintro ll aa wx ⟨h, z, ha, hz, hp2, hp5, hp6, hp7⟩ hall
          have hx := Lib.hid h.out.2
          have e0 : z 46 = .pointer (some ⟨w.heap.size, 35, none⟩) := hz 0 _ (hall 0 (by decide)) rfl
          have e1 : z 47 = .agg #[.int .i64 X.lv, .int .u64 (X.cp : Nat)] := hz 1 _ (hall 1 (by decide)) rfl
          have e3 : z 49 = .pointer (some ⟨w.heap.size + 1, 35, none⟩) := hz 3 _ (hall 3 (by decide)) rfl
          have e4 : z 50 = .agg #[.int .i64 Y.lv, .int .u64 (Y.cp : Nat)] := hz 4 _ (hall 4 (by decide)) rfl
          have p2 := hp2.get (hall 2 (by decide))
          have p5 := hp5.get (hall 5 (by decide))
          have p6 := hp6.get (hall 6 (by decide))
          have p7 := hp7.get (hall 7 (by decide))
          clear hall hz h hp2 hp5 hp6 hp7
          obtain rfl := ha.out
          clear ha
          clear apx
          clear e0 e1 e3 e4 p2 p5
          have P6 := Lib.hid p6
          have P7 := Lib.hid p7
          clear p6 p7
          go_wp2
          go_meet
          exact ⟨P6.out, P7.out, H7.out.later hx.out, H8.out.later hx.out, H5.out.later hx.out, H6.out.later hx.out, hAX.out.later hx.out⟩
        · rintro ll aa wx i ⟨h, z, ha, hz, hp2, hp5, hp6, hp7⟩ hi hu hw
          obtain rfl := ha.out
          have hsz := Lib.hid h.out.1
          have hx := Lib.hid h.out.2
          clear ha h
          have hin : i < 8 := hi
          obtain rfl | rfl | rfl | rfl | rfl | rfl | rfl | rfl : i = 0 ∨ i = 1 ∨ i = 2 ∨ i = 3 ∨ i = 4 ∨ i = 5 ∨ i = 6 ∨ i = 7 := by omega
          · refine wpOp_plain rfl rfl ?_
            go_simp
            exact ⟨⟨by simp [hsz.out], hx.out⟩, upd z 46 (.pointer (some ⟨w.heap.size, 35, none⟩)), (by unfold Hid; simp [upd]), hz.next apx hsz.out 0 (by decide) _ (fun _ h => Option.some.inj h), hp2.keep (by decide), hp5.keep (by decide), hp6.keep (by decide), hp7.keep (by decide)⟩
          · have e0 : z 46 = .pointer (some ⟨w.heap.size, 35, none⟩) := hz 0 _ (hw 0 (by kernel_rfl)) rfl
            have d1 := (hx.out.cell (p := ⟨w.heap.size, 35, none⟩) (World.block_lt_of_cell? _ _ CX1.out)).trans CX1.out
            have d2 := (hx.out.cell (p := ⟨w.heap.size, 36, none⟩) (World.block_lt_of_cell? _ _ CX2.out)).trans CX2.out
            refine wpOp_plain rfl rfl ?_
            go_simp
            exact ⟨⟨by simp [hsz.out], hx.out⟩, upd z 47 (.agg #[.int .i64 X.lv, .int .u64 (X.cp : Nat)]), (by unfold Hid; simp [upd, e0]), hz.next apx hsz.out 1 (by decide) _ (fun _ h => Option.some.inj h), hp2.keep (by decide), hp5.keep (by decide), hp6.keep (by decide), hp7.keep (by decide)⟩
          · have e1 : z 47 = .agg #[.int .i64 X.lv, .int .u64 (X.cp : Nat)] := hz 1 _ (hw 1 (by kernel_rfl)) rfl
            refine wpOp_plain rfl rfl ?_
            go_simp
            go_at_call 24
            refine (label_nil X.lv X.cp _).mono ?_
            rintro e w' ⟨vr, rfl, sl, low⟩
            exact ⟨⟨by simp [hsz.out], hx.out.trans (low.mono hx.out.size)⟩, upd z 48 (vr), (by unfold Hid; simp [upd, e1]), hz.next apx hsz.out 2 (by decide) _ (fun _ h => by cases h), Whn.done (sl), (hp5.keep (by decide)).map (fun h => h.later low), (hp6.keep (by decide)).map (fun h => h.later low), (hp7.keep (by decide)).map (fun h => h.later low)⟩
          · refine wpOp_plain rfl rfl ?_
            go_simp
            exact ⟨⟨by simp [hsz.out], hx.out⟩, upd z 49 (.pointer (some ⟨w.heap.size + 1, 35, none⟩)), (by unfold Hid; simp [upd]), hz.next apx hsz.out 3 (by decide) _ (fun _ h => Option.some.inj h), hp2.keep (by decide), hp5.keep (by decide), hp6.keep (by decide), hp7.keep (by decide)⟩
          · have e3 : z 49 = .pointer (some ⟨w.heap.size + 1, 35, none⟩) := hz 3 _ (hw 3 (by kernel_rfl)) rfl
            have d1 := (hx.out.cell (p := ⟨w.heap.size + 1, 35, none⟩) (World.block_lt_of_cell? _ _ CY1.out)).trans CY1.out
            have d2 := (hx.out.cell (p := ⟨w.heap.size + 1, 36, none⟩) (World.block_lt_of_cell? _ _ CY2.out)).trans CY2.out
            refine wpOp_plain rfl rfl ?_
            go_simp
            exact ⟨⟨by simp [hsz.out], hx.out⟩, upd z 50 (.agg #[.int .i64 Y.lv, .int .u64 (Y.cp : Nat)]), (by unfold Hid; simp [upd, e3]), hz.next apx hsz.out 4 (by decide) _ (fun _ h => Option.some.inj h), hp2.keep (by decide), hp5.keep (by decide), hp6.keep (by decide), hp7.keep (by decide)⟩
          · have e4 : z 50 = .agg #[.int .i64 Y.lv, .int .u64 (Y.cp : Nat)] := hz 4 _ (hw 4 (by kernel_rfl)) rfl
            refine wpOp_plain rfl rfl ?_
            go_simp
            go_at_call 24
            refine (label_nil Y.lv Y.cp _).mono ?_
            rintro e w' ⟨vr, rfl, sl, low⟩
            exact ⟨⟨by simp [hsz.out], hx.out.trans (low.mono hx.out.size)⟩, upd z 51 (vr), (by unfold Hid; simp [upd, e4]), hz.next apx hsz.out 5 (by decide) _ (fun _ h => by cases h), (hp2.keep (by decide)).map (fun h => h.later low), Whn.done (sl), (hp6.keep (by decide)).map (fun h => h.later low), (hp7.keep (by decide)).map (fun h => h.later low)⟩
          · have p2 := hp2.get (hw 2 (by kernel_rfl))
            refine wpOp_plain rfl rfl ?_
            go_simp
            exact ⟨⟨by simp [hsz.out], hx.out⟩, upd z 9 (z 48), (by unfold Hid; simp [upd]), hz.next apx hsz.out 6 (by decide) _ (fun _ h => by cases h), hp2.keep (by decide), hp5.keep (by decide), Whn.done (p2), hp7.keep (by decide)⟩
          · have p5 := hp5.get (hw 5 (by kernel_rfl))
            refine wpOp_plain rfl rfl ?_
            go_simp
            exact ⟨⟨by simp [hsz.out], hx.out⟩, upd z 10 (z 51), (by unfold Hid; simp [upd]), hz.next apx hsz.out 7 (by decide) _ (fun _ h => by cases h), hp2.keep (by decide), hp5.keep (by decide), hp6.keep (by decide), Whn.done (p5)⟩
        · exact ⟨⟨rfl, (Below.refl _ _).drew⟩, fun xx => (#[.agg x.cells, .agg y.cells, .pointer (some ⟨w.heap.size, 0, none⟩), .pointer (some ⟨w.heap.size + 1, 0, none⟩), .bool false, u5, u6, u7, u8, undef, undef, u11, u12, u13, u14, u15, u16, u17, u18, u19, u20, u21, u22, u23, u24, u25, u26, u27, u28, u29, u30, u31, u32, u33, u34, u35, u36, u37, u38, u39, u40, u41, u42, u43, u44, u45, u46, u47, u48, u49, u50, u51, u52, u53, u54, u55, u56, u57, u58, u59, u60, u61, u62, u63, u64, u65, u66, u67, u68, u69, u70, u71, u72, u73, u74, u75, u76, u77, u78, u79, u80, u81, u82, u83, u84, u85] : Array Value).getD xx undef, rfl, Holding.start, Whn.none (by decide), Whn.none (by decide), Whn.none (by decide), Whn.none (by decide)⟩
      case rest =>
        obtain ⟨h9, h10, h7, h8, h5, h6, hA⟩ := hcut
        have H9 := Lib.hid h9
        have H10 := Lib.hid h10
        have H7 := Lib.hid h7
        have H8 := Lib.hid h8
        have H5 := Lib.hid h5
        have H6 := Lib.hid h6
        have hAX := Lib.hid hA
        clear h5 h6 h7 h8 h9 h10 hA
        go_wp2
        have CX1 : Hid (wc.cell? ⟨w.heap.size, 1, none⟩ = some (.int .u64 (X.num : Nat))) := (cell_row hAX.out.xr 1).trans X.c1
        have CY1 : Hid (wc.cell? ⟨w.heap.size + 1, 1, none⟩ = some (.int .u64 (Y.num : Nat))) := (cell_row hAX.out.yr 1).trans Y.c1
        have CX2 : Hid (wc.cell? ⟨w.heap.size, 2, none⟩ = some (.string X.s)) := (cell_row hAX.out.xr 2).trans X.c2
        have CY2 : Hid (wc.cell? ⟨w.heap.size + 1, 2, none⟩ = some (.string Y.s)) := (cell_row hAX.out.yr 2).trans Y.c2
        have CX3 : Hid (wc.cell? ⟨w.heap.size, 35, none⟩ = some (.int .i64 X.lv)) := (cell_row hAX.out.xr 35).trans (X.ct OX.hl 0)
        have CX4 : Hid (wc.cell? ⟨w.heap.size, 36, none⟩ = some (.int .u64 (X.cp : Nat))) := (cell_row hAX.out.xr 36).trans (X.ct OX.hl 1)
        have CY3 : Hid (wc.cell? ⟨w.heap.size + 1, 35, none⟩ = some (.int .i64 Y.lv)) := (cell_row hAX.out.yr 35).trans (Y.ct OY.hl 0)
        have CY4 : Hid (wc.cell? ⟨w.heap.size + 1, 36, none⟩ = some (.int .u64 (Y.cp : Nat))) := (cell_row hAX.out.yr 36).trans (Y.ct OY.hl 1)
        obtain ⟨b1, hb1⟩ : ∃ b, b = decide (X.num = Y.num) := ⟨_, rfl⟩
        obtain ⟨b2, hb2⟩ : ∃ b, b = decide (X.s = Y.s) := ⟨_, rfl⟩
        obtain ⟨b3, hb3⟩ : ∃ b, b = decide (X.lv = Y.lv ∧ X.cp = Y.cp) := ⟨_, rfl⟩
        have G1 := Lib.hid ((beg_num OX.num OY.num).trans hb1.symm)
        have G2 := Lib.hid ((beg_text HXs.out HYs.out).trans hb2.symm)
        have G3 := Lib.hid ((beg_label HXl.out HYl.out OX.cp OY.cp).trans hb3.symm)
        have Q1 : Hid (((X.num : Int) == (Y.num : Int)) = b1) := by show _ = _; rw [hb1, Bool.eq_iff_iff]; simp; omega
        have Q2 : Hid ((X.s.toList == Y.s.toList) = b2) := by
          show _ = _
          rw [hb2, Bool.eq_iff_iff]
          simp only [beq_iff_eq, decide_eq_true_eq]
          exact ⟨toList_inj, fun h => by rw [h]⟩
        have Q3 : Hid (∀ W : World, (binOp .eql 32 (.agg #[.int .i64 X.lv, .int .u64 (X.cp : Nat)]) (.agg #[.int .i64 Y.lv, .int .u64 (Y.cp : Nat)])).run Try.prog W = .ok (.bool b3) W) := fun W => by rw [hb3]; exact eql_label _ _ _ _ W
        clear hb1 hb2 hb3
        have apx : apartB [52, 53, 54, 55, 56, 57, 58, 59, 60, 61, 62, 63, 64, 65, 66, 67, 68, 69, 70, 71, 72, 73, 74, 75, 76, 77, 78, 79, 80, 81, 82, 83, 84, 85, 4] = true := by decide
        refine wp_region_any (by kernel_rfl) ?_
        change wpAny _ _ _ _ _ _ _ (World.drew _)
        refine wpAny_inv (fun ll aa wx => Hid (ll.size = 35 ∧ Below wc.heap.size wc wx) ∧ ∃ (z : Nat → Value), Hid (aa = ⟨#[.agg x.cells, .agg y.cells, .pointer (some ⟨w.heap.size, 0, none⟩), .pointer (some ⟨w.heap.size + 1, 0, none⟩), z 4, u5, u6, u7, u8, u9, u10, u11, u12, u13, u14, u15, u16, u17, u18, u19, u20, u21, u22, u23, u24, u25, u26, u27, u28, u29, u30, u31, u32, u33, u34, u35, u36, u37, u38, u39, u40, u41, u42, u43, u44, u45, u46, u47, u48, u49, u50, u51, z 52, z 53, z 54, z 55, z 56, z 57, z 58, z 59, z 60, z 61, z 62, z 63, z 64, z 65, z 66, z 67, z 68, z 69, z 70, z 71, z 72, z 73, z 74, z 75, z 76, z 77, z 78, z 79, z 80, z 81, z 82, z 83, z 84, z 85], []⟩) ∧ Holding [52, 53, 54, 55, 56, 57, 58, 59, 60, 61, 62, 63, 64, 65, 66, 67, 68, 69, 70, 71, 72, 73, 74, 75, 76, 77, 78, 79, 80, 81, 82, 83, 84, 85, 4] [some (u5), some (u6), some (.bool b1), some (.pointer (some ⟨w.heap.size, 1, none⟩)), some (.int .u64 (X.num : Nat)), some (.pointer (some ⟨w.heap.size + 1, 1, none⟩)), some (.int .u64 (Y.num : Nat)), some (.bool b1), some (.bool true), some (.bool true), some (u7), some (u8), some (.bool b2), some (.pointer (some ⟨w.heap.size, 2, none⟩)), some (.string X.s), some (.pointer (some ⟨w.heap.size + 1, 2, none⟩)), some (.string Y.s), some (.bool b2), some (.bool true), some (.bool true), some (.bool true), some (u9), some (u10), some (.bool b3), some (.pointer (some ⟨w.heap.size, 35, none⟩)), some (.agg #[.int .i64 X.lv, .int .u64 (X.cp : Nat)]), some (.pointer (some ⟨w.heap.size + 1, 35, none⟩)), some (.agg #[.int .i64 Y.lv, .int .u64 (Y.cp : Nat)]), some (.bool b3), some (.bool true), some (.bool true), some (.bool true), some (.bool true), some (.bool true), some (.bool true)] ll z) ?_ (by kernel_rfl) ?_ ?_ _ _ _ _ (unlisted_none _) ?_
        · rintro ll aa wx ⟨h, _⟩
          exact h.out.1
        · rintro ll aa wx ⟨h, z, ha, hz⟩ hall
          have hx := Lib.hid h.out.2
          have e0 : z 52 = u5 := hz 0 _ (hall 0 (by decide)) rfl
          have e1 : z 53 = u6 := hz 1 _ (hall 1 (by decide)) rfl
          have e2 : z 54 = .bool b1 := hz 2 _ (hall 2 (by decide)) rfl
          have e3 : z 55 = .pointer (some ⟨w.heap.size, 1, none⟩) := hz 3 _ (hall 3 (by decide)) rfl
          have e4 : z 56 = .int .u64 (X.num : Nat) := hz 4 _ (hall 4 (by decide)) rfl
          have e5 : z 57 = .pointer (some ⟨w.heap.size + 1, 1, none⟩) := hz 5 _ (hall 5 (by decide)) rfl
          have e6 : z 58 = .int .u64 (Y.num : Nat) := hz 6 _ (hall 6 (by decide)) rfl
          have e7 : z 59 = .bool b1 := hz 7 _ (hall 7 (by decide)) rfl
          have e8 : z 60 = .bool true := hz 8 _ (hall 8 (by decide)) rfl
          have e9 : z 61 = .bool true := hz 9 _ (hall 9 (by decide)) rfl
          have e10 : z 62 = u7 := hz 10 _ (hall 10 (by decide)) rfl
          have e11 : z 63 = u8 := hz 11 _ (hall 11 (by decide)) rfl
          have e12 : z 64 = .bool b2 := hz 12 _ (hall 12 (by decide)) rfl
          have e13 : z 65 = .pointer (some ⟨w.heap.size, 2, none⟩) := hz 13 _ (hall 13 (by decide)) rfl
          have e14 : z 66 = .string X.s := hz 14 _ (hall 14 (by decide)) rfl
          have e15 : z 67 = .pointer (some ⟨w.heap.size + 1, 2, none⟩) := hz 15 _ (hall 15 (by decide)) rfl
          have e16 : z 68 = .string Y.s := hz 16 _ (hall 16 (by decide)) rfl
          have e17 : z 69 = .bool b2 := hz 17 _ (hall 17 (by decide)) rfl
          have e18 : z 70 = .bool true := hz 18 _ (hall 18 (by decide)) rfl
          have e19 : z 71 = .bool true := hz 19 _ (hall 19 (by decide)) rfl
          have e20 : z 72 = .bool true := hz 20 _ (hall 20 (by decide)) rfl
          have e21 : z 73 = u9 := hz 21 _ (hall 21 (by decide)) rfl
          have e22 : z 74 = u10 := hz 22 _ (hall 22 (by decide)) rfl
          have e23 : z 75 = .bool b3 := hz 23 _ (hall 23 (by decide)) rfl
          have e24 : z 76 = .pointer (some ⟨w.heap.size, 35, none⟩) := hz 24 _ (hall 24 (by decide)) rfl
          have e25 : z 77 = .agg #[.int .i64 X.lv, .int .u64 (X.cp : Nat)] := hz 25 _ (hall 25 (by decide)) rfl
          have e26 : z 78 = .pointer (some ⟨w.heap.size + 1, 35, none⟩) := hz 26 _ (hall 26 (by decide)) rfl
          have e27 : z 79 = .agg #[.int .i64 Y.lv, .int .u64 (Y.cp : Nat)] := hz 27 _ (hall 27 (by decide)) rfl
          have e28 : z 80 = .bool b3 := hz 28 _ (hall 28 (by decide)) rfl
          have e29 : z 81 = .bool true := hz 29 _ (hall 29 (by decide)) rfl
          have e30 : z 82 = .bool true := hz 30 _ (hall 30 (by decide)) rfl
          have e31 : z 83 = .bool true := hz 31 _ (hall 31 (by decide)) rfl
          have e32 : z 84 = .bool true := hz 32 _ (hall 32 (by decide)) rfl
          have e33 : z 85 = .bool true := hz 33 _ (hall 33 (by decide)) rfl
          have e34 : z 4 = .bool true := hz 34 _ (hall 34 (by decide)) rfl
          clear hall hz h 
          obtain rfl := ha.out
          clear ha
          clear apx
          clear e0 e1 e2 e3 e4 e5 e6 e7 e8 e9 e10 e11 e12 e13 e14 e15 e16 e17 e18 e19 e20 e21 e22 e23 e24 e25 e26 e27 e28 e29 e30 e31 e32 e33
          have Hlow := Lib.hid (hAX.out.low.trans (hx.out.mono hAX.out.low.size))
          go_wp2
          go_ret
          exact ⟨by simp [e34], Hlow.out⟩
        · rintro ll aa wx i ⟨h, z, ha, hz⟩ hi hu hw
          obtain rfl := ha.out
          have hsz := Lib.hid h.out.1
          have hx := Lib.hid h.out.2
          clear ha h
          have hin : i < 35 := hi
          obtain rfl | rfl | rfl | rfl | rfl | rfl | rfl | rfl | rfl | rfl | rfl | rfl | rfl | rfl | rfl | rfl | rfl | rfl | rfl | rfl | rfl | rfl | rfl | rfl | rfl | rfl | rfl | rfl | rfl | rfl | rfl | rfl | rfl | rfl | rfl : i = 0 ∨ i = 1 ∨ i = 2 ∨ i = 3 ∨ i = 4 ∨ i = 5 ∨ i = 6 ∨ i = 7 ∨ i = 8 ∨ i = 9 ∨ i = 10 ∨ i = 11 ∨ i = 12 ∨ i = 13 ∨ i = 14 ∨ i = 15 ∨ i = 16 ∨ i = 17 ∨ i = 18 ∨ i = 19 ∨ i = 20 ∨ i = 21 ∨ i = 22 ∨ i = 23 ∨ i = 24 ∨ i = 25 ∨ i = 26 ∨ i = 27 ∨ i = 28 ∨ i = 29 ∨ i = 30 ∨ i = 31 ∨ i = 32 ∨ i = 33 ∨ i = 34 := by omega
          · refine wpOp_plain rfl rfl ?_
            go_simp
            exact ⟨⟨by simp [hsz.out], hx.out⟩, upd z 52 (u5), (by unfold Hid; simp [upd]), hz.next apx hsz.out 0 (by decide) _ (fun _ h => Option.some.inj h)⟩
          · refine wpOp_plain rfl rfl ?_
            go_simp
            exact ⟨⟨by simp [hsz.out], hx.out⟩, upd z 53 (u6), (by unfold Hid; simp [upd]), hz.next apx hsz.out 1 (by decide) _ (fun _ h => Option.some.inj h)⟩
          · have e0 : z 52 = u5 := hz 0 _ (hw 0 (by kernel_rfl)) rfl
            have e1 : z 53 = u6 := hz 1 _ (hw 1 (by kernel_rfl)) rfl
            refine wpOp_plain rfl rfl ?_
            go_simp
            go_at_call 28
            refine (begins_any b1 G1.out (encN_small OX.num).1 (encN_small OY.num).1 (H5.out.later hx.out) (H6.out.later hx.out) (encN_small OX.num).2 (encN_small OY.num).2).mono ?_
            rintro e w' ⟨rfl, low⟩
            exact ⟨⟨by simp [hsz.out], hx.out.trans (low.mono hx.out.size)⟩, upd z 54 (.bool b1), (by unfold Hid; simp [upd, e0, e1]), hz.next apx hsz.out 2 (by decide) _ (fun _ h => Option.some.inj h)⟩
          · refine wpOp_plain rfl rfl ?_
            go_simp
            exact ⟨⟨by simp [hsz.out], hx.out⟩, upd z 55 (.pointer (some ⟨w.heap.size, 1, none⟩)), (by unfold Hid; simp [upd]), hz.next apx hsz.out 3 (by decide) _ (fun _ h => Option.some.inj h)⟩
          · have e3 : z 55 = .pointer (some ⟨w.heap.size, 1, none⟩) := hz 3 _ (hw 3 (by kernel_rfl)) rfl
            have cl : wx.cell? ⟨w.heap.size, 1, none⟩ = some (.int .u64 (X.num : Nat)) := (hx.out.cell (p := ⟨w.heap.size, 1, none⟩) (World.block_lt_of_cell? _ _ CX1.out)).trans CX1.out
            refine wpOp_plain rfl rfl ?_
            go_simp
            exact ⟨⟨by simp [hsz.out], hx.out⟩, upd z 56 (.int .u64 (X.num : Nat)), (by unfold Hid; simp [upd, e3]), hz.next apx hsz.out 4 (by decide) _ (fun _ h => Option.some.inj h)⟩
          · refine wpOp_plain rfl rfl ?_
            go_simp
            exact ⟨⟨by simp [hsz.out], hx.out⟩, upd z 57 (.pointer (some ⟨w.heap.size + 1, 1, none⟩)), (by unfold Hid; simp [upd]), hz.next apx hsz.out 5 (by decide) _ (fun _ h => Option.some.inj h)⟩
          · have e5 : z 57 = .pointer (some ⟨w.heap.size + 1, 1, none⟩) := hz 5 _ (hw 5 (by kernel_rfl)) rfl
            have cl : wx.cell? ⟨w.heap.size + 1, 1, none⟩ = some (.int .u64 (Y.num : Nat)) := (hx.out.cell (p := ⟨w.heap.size + 1, 1, none⟩) (World.block_lt_of_cell? _ _ CY1.out)).trans CY1.out
            refine wpOp_plain rfl rfl ?_
            go_simp
            exact ⟨⟨by simp [hsz.out], hx.out⟩, upd z 58 (.int .u64 (Y.num : Nat)), (by unfold Hid; simp [upd, e5]), hz.next apx hsz.out 6 (by decide) _ (fun _ h => Option.some.inj h)⟩
          · have e4 : z 56 = .int .u64 (X.num : Nat) := hz 4 _ (hw 4 (by kernel_rfl)) rfl
            have e6 : z 58 = .int .u64 (Y.num : Nat) := hz 6 _ (hw 6 (by kernel_rfl)) rfl
            have q1 := Q1.out
            refine wpOp_plain rfl rfl ?_
            go_simp
            exact ⟨⟨by simp [hsz.out], hx.out⟩, upd z 59 (.bool b1), (by unfold Hid; simp [upd, e4, e6]), hz.next apx hsz.out 7 (by decide) _ (fun _ h => Option.some.inj h)⟩
          · have e2 : z 54 = .bool b1 := hz 2 _ (hw 2 (by kernel_rfl)) rfl
            have e7 : z 59 = .bool b1 := hz 7 _ (hw 7 (by kernel_rfl)) rfl
            refine wpOp_plain rfl rfl ?_
            go_simp
            exact ⟨⟨by simp [hsz.out], hx.out⟩, upd z 60 (.bool true), (by unfold Hid; simp [upd, e2, e7]), hz.next apx hsz.out 8 (by decide) _ (fun _ h => Option.some.inj h)⟩
          · have e8 : z 60 = .bool true := hz 8 _ (hw 8 (by kernel_rfl)) rfl
            refine wpOp_plain rfl rfl ?_
            go_simp
            exact ⟨⟨by simp [hsz.out], hx.out⟩, upd z 61 (.bool true), (by unfold Hid; simp [upd, e8]), hz.next apx hsz.out 9 (by decide) _ (fun _ h => Option.some.inj h)⟩
          · have e9 : z 61 = .bool true := hz 9 _ (hw 9 (by kernel_rfl)) rfl
            refine wpOp_want rfl (by simp [Region.wanted, yielded, e9]) ?_
            go_simp
            exact ⟨⟨by simp [hsz.out], hx.out⟩, upd z 62 (u7), (by unfold Hid; simp [upd, e9]), hz.next apx hsz.out 10 (by decide) _ (fun _ h => Option.some.inj h)⟩
          · have e9 : z 61 = .bool true := hz 9 _ (hw 9 (by kernel_rfl)) rfl
            refine wpOp_want rfl (by simp [Region.wanted, yielded, e9]) ?_
            go_simp
            exact ⟨⟨by simp [hsz.out], hx.out⟩, upd z 63 (u8), (by unfold Hid; simp [upd, e9]), hz.next apx hsz.out 11 (by decide) _ (fun _ h => Option.some.inj h)⟩
          · have e9 : z 61 = .bool true := hz 9 _ (hw 9 (by kernel_rfl)) rfl
            have e10 : z 62 = u7 := hz 10 _ (hw 10 (by kernel_rfl)) rfl
            have e11 : z 63 = u8 := hz 11 _ (hw 11 (by kernel_rfl)) rfl
            refine wpOp_want rfl (by simp [Region.wanted, yielded, e9]) ?_
            go_simp
            go_at_call 28
            refine (begins_any b2 G2.out (textL_small (Nat.le_trans HXs.out (by decide))).1 (textL_small (Nat.le_trans HYs.out (by decide))).1 (H7.out.later hx.out) (H8.out.later hx.out) (textL_small (Nat.le_trans HXs.out (by decide))).2 (textL_small (Nat.le_trans HYs.out (by decide))).2).mono ?_
            rintro e w' ⟨rfl, low⟩
            exact ⟨⟨by simp [hsz.out], hx.out.trans (low.mono hx.out.size)⟩, upd z 64 (.bool b2), (by unfold Hid; simp [upd, e9, e10, e11]), hz.next apx hsz.out 12 (by decide) _ (fun _ h => Option.some.inj h)⟩
          · have e9 : z 61 = .bool true := hz 9 _ (hw 9 (by kernel_rfl)) rfl
            refine wpOp_want rfl (by simp [Region.wanted, yielded, e9]) ?_
            go_simp
            exact ⟨⟨by simp [hsz.out], hx.out⟩, upd z 65 (.pointer (some ⟨w.heap.size, 2, none⟩)), (by unfold Hid; simp [upd, e9]), hz.next apx hsz.out 13 (by decide) _ (fun _ h => Option.some.inj h)⟩
          · have e9 : z 61 = .bool true := hz 9 _ (hw 9 (by kernel_rfl)) rfl
            have e13 : z 65 = .pointer (some ⟨w.heap.size, 2, none⟩) := hz 13 _ (hw 13 (by kernel_rfl)) rfl
            have cl : wx.cell? ⟨w.heap.size, 2, none⟩ = some (.string X.s) := (hx.out.cell (p := ⟨w.heap.size, 2, none⟩) (World.block_lt_of_cell? _ _ CX2.out)).trans CX2.out
            refine wpOp_want rfl (by simp [Region.wanted, yielded, e9]) ?_
            go_simp
            exact ⟨⟨by simp [hsz.out], hx.out⟩, upd z 66 (.string X.s), (by unfold Hid; simp [upd, e9, e13]), hz.next apx hsz.out 14 (by decide) _ (fun _ h => Option.some.inj h)⟩
          · have e9 : z 61 = .bool true := hz 9 _ (hw 9 (by kernel_rfl)) rfl
            refine wpOp_want rfl (by simp [Region.wanted, yielded, e9]) ?_
            go_simp
            exact ⟨⟨by simp [hsz.out], hx.out⟩, upd z 67 (.pointer (some ⟨w.heap.size + 1, 2, none⟩)), (by unfold Hid; simp [upd, e9]), hz.next apx hsz.out 15 (by decide) _ (fun _ h => Option.some.inj h)⟩
          · have e9 : z 61 = .bool true := hz 9 _ (hw 9 (by kernel_rfl)) rfl
            have e15 : z 67 = .pointer (some ⟨w.heap.size + 1, 2, none⟩) := hz 15 _ (hw 15 (by kernel_rfl)) rfl
            have cl : wx.cell? ⟨w.heap.size + 1, 2, none⟩ = some (.string Y.s) := (hx.out.cell (p := ⟨w.heap.size + 1, 2, none⟩) (World.block_lt_of_cell? _ _ CY2.out)).trans CY2.out
            refine wpOp_want rfl (by simp [Region.wanted, yielded, e9]) ?_
            go_simp
            exact ⟨⟨by simp [hsz.out], hx.out⟩, upd z 68 (.string Y.s), (by unfold Hid; simp [upd, e9, e15]), hz.next apx hsz.out 16 (by decide) _ (fun _ h => Option.some.inj h)⟩
          · have e9 : z 61 = .bool true := hz 9 _ (hw 9 (by kernel_rfl)) rfl
            have e14 : z 66 = .string X.s := hz 14 _ (hw 14 (by kernel_rfl)) rfl
            have e16 : z 68 = .string Y.s := hz 16 _ (hw 16 (by kernel_rfl)) rfl
            have q2 := Q2.out
            refine wpOp_want rfl (by simp [Region.wanted, yielded, e9]) ?_
            go_simp
            exact ⟨⟨by simp [hsz.out], hx.out⟩, upd z 69 (.bool b2), (by unfold Hid; simp [upd, e9, e14, e16]), hz.next apx hsz.out 17 (by decide) _ (fun _ h => Option.some.inj h)⟩
          · have e9 : z 61 = .bool true := hz 9 _ (hw 9 (by kernel_rfl)) rfl
            have e12 : z 64 = .bool b2 := hz 12 _ (hw 12 (by kernel_rfl)) rfl
            have e17 : z 69 = .bool b2 := hz 17 _ (hw 17 (by kernel_rfl)) rfl
            refine wpOp_want rfl (by simp [Region.wanted, yielded, e9]) ?_
            go_simp
            exact ⟨⟨by simp [hsz.out], hx.out⟩, upd z 70 (.bool true), (by unfold Hid; simp [upd, e9, e12, e17]), hz.next apx hsz.out 18 (by decide) _ (fun _ h => Option.some.inj h)⟩
          · have e9 : z 61 = .bool true := hz 9 _ (hw 9 (by kernel_rfl)) rfl
            have e18 : z 70 = .bool true := hz 18 _ (hw 18 (by kernel_rfl)) rfl
            refine wpOp_plain rfl rfl ?_
            go_simp
            exact ⟨⟨by simp [hsz.out], hx.out⟩, upd z 71 (.bool true), (by unfold Hid; simp [upd, e9, e18]), hz.next apx hsz.out 19 (by decide) _ (fun _ h => Option.some.inj h)⟩
          · have e19 : z 71 = .bool true := hz 19 _ (hw 19 (by kernel_rfl)) rfl
            refine wpOp_plain rfl rfl ?_
            go_simp
            exact ⟨⟨by simp [hsz.out], hx.out⟩, upd z 72 (.bool true), (by unfold Hid; simp [upd, e19]), hz.next apx hsz.out 20 (by decide) _ (fun _ h => Option.some.inj h)⟩
          · have e20 : z 72 = .bool true := hz 20 _ (hw 20 (by kernel_rfl)) rfl
            refine wpOp_want rfl (by simp [Region.wanted, yielded, e20]) ?_
            go_simp
            exact ⟨⟨by simp [hsz.out], hx.out⟩, upd z 73 (u9), (by unfold Hid; simp [upd, e20]), hz.next apx hsz.out 21 (by decide) _ (fun _ h => Option.some.inj h)⟩
          · have e20 : z 72 = .bool true := hz 20 _ (hw 20 (by kernel_rfl)) rfl
            refine wpOp_want rfl (by simp [Region.wanted, yielded, e20]) ?_
            go_simp
            exact ⟨⟨by simp [hsz.out], hx.out⟩, upd z 74 (u10), (by unfold Hid; simp [upd, e20]), hz.next apx hsz.out 22 (by decide) _ (fun _ h => Option.some.inj h)⟩
          · have e20 : z 72 = .bool true := hz 20 _ (hw 20 (by kernel_rfl)) rfl
            have e21 : z 73 = u9 := hz 21 _ (hw 21 (by kernel_rfl)) rfl
            have e22 : z 74 = u10 := hz 22 _ (hw 22 (by kernel_rfl)) rfl
            refine wpOp_want rfl (by simp [Region.wanted, yielded, e20]) ?_
            go_simp
            go_at_call 28
            refine (begins_any b3 G3.out (labelL_small X.lv X.cp).1 (labelL_small Y.lv Y.cp).1 (H9.out.later hx.out) (H10.out.later hx.out) (labelL_small X.lv X.cp).2 (labelL_small Y.lv Y.cp).2).mono ?_
            rintro e w' ⟨rfl, low⟩
            exact ⟨⟨by simp [hsz.out], hx.out.trans (low.mono hx.out.size)⟩, upd z 75 (.bool b3), (by unfold Hid; simp [upd, e20, e21, e22]), hz.next apx hsz.out 23 (by decide) _ (fun _ h => Option.some.inj h)⟩
          · have e20 : z 72 = .bool true := hz 20 _ (hw 20 (by kernel_rfl)) rfl
            refine wpOp_want rfl (by simp [Region.wanted, yielded, e20]) ?_
            go_simp
            exact ⟨⟨by simp [hsz.out], hx.out⟩, upd z 76 (.pointer (some ⟨w.heap.size, 35, none⟩)), (by unfold Hid; simp [upd, e20]), hz.next apx hsz.out 24 (by decide) _ (fun _ h => Option.some.inj h)⟩
          · have e20 : z 72 = .bool true := hz 20 _ (hw 20 (by kernel_rfl)) rfl
            have e24 : z 76 = .pointer (some ⟨w.heap.size, 35, none⟩) := hz 24 _ (hw 24 (by kernel_rfl)) rfl
            have d1 := (hx.out.cell (p := ⟨w.heap.size, 35, none⟩) (World.block_lt_of_cell? _ _ CX3.out)).trans CX3.out
            have d2 := (hx.out.cell (p := ⟨w.heap.size, 36, none⟩) (World.block_lt_of_cell? _ _ CX4.out)).trans CX4.out
            refine wpOp_want rfl (by simp [Region.wanted, yielded, e20]) ?_
            go_simp
            exact ⟨⟨by simp [hsz.out], hx.out⟩, upd z 77 (.agg #[.int .i64 X.lv, .int .u64 (X.cp : Nat)]), (by unfold Hid; simp [upd, e20, e24]), hz.next apx hsz.out 25 (by decide) _ (fun _ h => Option.some.inj h)⟩
          · have e20 : z 72 = .bool true := hz 20 _ (hw 20 (by kernel_rfl)) rfl
            refine wpOp_want rfl (by simp [Region.wanted, yielded, e20]) ?_
            go_simp
            exact ⟨⟨by simp [hsz.out], hx.out⟩, upd z 78 (.pointer (some ⟨w.heap.size + 1, 35, none⟩)), (by unfold Hid; simp [upd, e20]), hz.next apx hsz.out 26 (by decide) _ (fun _ h => Option.some.inj h)⟩
          · have e20 : z 72 = .bool true := hz 20 _ (hw 20 (by kernel_rfl)) rfl
            have e26 : z 78 = .pointer (some ⟨w.heap.size + 1, 35, none⟩) := hz 26 _ (hw 26 (by kernel_rfl)) rfl
            have d1 := (hx.out.cell (p := ⟨w.heap.size + 1, 35, none⟩) (World.block_lt_of_cell? _ _ CY3.out)).trans CY3.out
            have d2 := (hx.out.cell (p := ⟨w.heap.size + 1, 36, none⟩) (World.block_lt_of_cell? _ _ CY4.out)).trans CY4.out
            refine wpOp_want rfl (by simp [Region.wanted, yielded, e20]) ?_
            go_simp
            exact ⟨⟨by simp [hsz.out], hx.out⟩, upd z 79 (.agg #[.int .i64 Y.lv, .int .u64 (Y.cp : Nat)]), (by unfold Hid; simp [upd, e20, e26]), hz.next apx hsz.out 27 (by decide) _ (fun _ h => Option.some.inj h)⟩
          · have e20 : z 72 = .bool true := hz 20 _ (hw 20 (by kernel_rfl)) rfl
            have e25 : z 77 = .agg #[.int .i64 X.lv, .int .u64 (X.cp : Nat)] := hz 25 _ (hw 25 (by kernel_rfl)) rfl
            have e27 : z 79 = .agg #[.int .i64 Y.lv, .int .u64 (Y.cp : Nat)] := hz 27 _ (hw 27 (by kernel_rfl)) rfl
            have q3 := Q3.out
            refine wpOp_want rfl (by simp [Region.wanted, yielded, e20]) ?_
            go_simp
            exact ⟨⟨by simp [hsz.out], hx.out⟩, upd z 80 (.bool b3), (by unfold Hid; simp [upd, e20, e25, e27]), hz.next apx hsz.out 28 (by decide) _ (fun _ h => Option.some.inj h)⟩
          · have e20 : z 72 = .bool true := hz 20 _ (hw 20 (by kernel_rfl)) rfl
            have e23 : z 75 = .bool b3 := hz 23 _ (hw 23 (by kernel_rfl)) rfl
            have e28 : z 80 = .bool b3 := hz 28 _ (hw 28 (by kernel_rfl)) rfl
            refine wpOp_want rfl (by simp [Region.wanted, yielded, e20]) ?_
            go_simp
            exact ⟨⟨by simp [hsz.out], hx.out⟩, upd z 81 (.bool true), (by unfold Hid; simp [upd, e20, e23, e28]), hz.next apx hsz.out 29 (by decide) _ (fun _ h => Option.some.inj h)⟩
          · have e20 : z 72 = .bool true := hz 20 _ (hw 20 (by kernel_rfl)) rfl
            have e29 : z 81 = .bool true := hz 29 _ (hw 29 (by kernel_rfl)) rfl
            refine wpOp_plain rfl rfl ?_
            go_simp
            exact ⟨⟨by simp [hsz.out], hx.out⟩, upd z 82 (.bool true), (by unfold Hid; simp [upd, e20, e29]), hz.next apx hsz.out 30 (by decide) _ (fun _ h => Option.some.inj h)⟩
          · have e30 : z 82 = .bool true := hz 30 _ (hw 30 (by kernel_rfl)) rfl
            refine wpOp_plain rfl rfl ?_
            go_simp
            exact ⟨⟨by simp [hsz.out], hx.out⟩, upd z 83 (.bool true), (by unfold Hid; simp [upd, e30]), hz.next apx hsz.out 31 (by decide) _ (fun _ h => Option.some.inj h)⟩
          · have e31 : z 83 = .bool true := hz 31 _ (hw 31 (by kernel_rfl)) rfl
            refine wpOp_want rfl (by simp [Region.wanted, yielded, e31]) ?_
            go_simp
            go_at_call 10
            refine (works_any _).mono ?_
            rintro e w' ⟨rfl, low⟩
            exact ⟨⟨by simp [hsz.out], hx.out.trans (low.mono hx.out.size)⟩, upd z 84 (.bool true), (by unfold Hid; simp [upd, e31]), hz.next apx hsz.out 32 (by decide) _ (fun _ h => Option.some.inj h)⟩
          · have e31 : z 83 = .bool true := hz 31 _ (hw 31 (by kernel_rfl)) rfl
            have e32 : z 84 = .bool true := hz 32 _ (hw 32 (by kernel_rfl)) rfl
            refine wpOp_plain rfl rfl ?_
            go_simp
            exact ⟨⟨by simp [hsz.out], hx.out⟩, upd z 85 (.bool true), (by unfold Hid; simp [upd, e31, e32]), hz.next apx hsz.out 33 (by decide) _ (fun _ h => Option.some.inj h)⟩
          · have e33 : z 85 = .bool true := hz 33 _ (hw 33 (by kernel_rfl)) rfl
            refine wpOp_plain rfl rfl ?_
            go_simp
            exact ⟨⟨by simp [hsz.out], hx.out⟩, upd z 4 (.bool true), (by unfold Hid; simp [upd, e33]), hz.next apx hsz.out 34 (by decide) _ (fun _ h => Option.some.inj h)⟩
        · exact ⟨⟨rfl, (Below.refl _ _).drew⟩, fun xx => (#[.agg x.cells, .agg y.cells, .pointer (some ⟨w.heap.size, 0, none⟩), .pointer (some ⟨w.heap.size + 1, 0, none⟩), .bool false, u5, u6, u7, u8, u9, u10, u11, u12, u13, u14, u15, u16, u17, u18, u19, u20, u21, u22, u23, u24, u25, u26, u27, u28, u29, u30, u31, u32, u33, u34, u35, u36, u37, u38, u39, u40, u41, u42, u43, u44, u45, u46, u47, u48, u49, u50, u51, u52, u53, u54, u55, u56, u57, u58, u59, u60, u61, u62, u63, u64, u65, u66, u67, u68, u69, u70, u71, u72, u73, u74, u75, u76, u77, u78, u79, u80, u81, u82, u83, u84, u85] : Array Value).getD xx undef, rfl, Holding.start⟩
end Go.Proofs.Ytdoklhbjbokcmaa.Cod
