/- DERIVED. The contract of the laws' written. Written by mkwritten.py. -/
import Derived.Test.YtigfcmnknijobaaCodPair
import Derived.Great.BuildSlice
namespace Go.Proofs.Ytigfcmnknijobaa.Cod
open Go.RowKit Str
theorem hpos {L : List Int} {n : Nat} (h : 0 < n) (e : L.length = n) : 0 < L.length := by omega
set_option maxRecDepth 100000 in
set_option maxHeartbeats 4000000 in
theorem written0 {L M : List Int} {vb vc : Value} {base : Nat} (x : Val) (ox : x.Ok) (hs : x.s.size ≤ 300) (hk : x.k % 5 = 0) (w : World) (hb : SlB L vb w) (hc : NewB base M vc w) (hap : Ap vb vc) (hbase : base ≤ w.heap.size) (hL : L.length ≤ 39000) (hM : M.length ≤ 39000) :
    Calls Try.prog 11 #[vb, vc, .agg x.cells] w fun e w' => ∃ v1 v2, e = .returned (.tuple #[v1, v2]) ∧ NewB w.heap.size (L ++ encN x.num) v1 w' ∧ NewB base (M ++ encN x.num) v2 w' ∧ Ap v1 v2 ∧ w.grownBy w' vc.ownBlock := by
  have HE : Hid (0 < (encN x.num).length ∧ (encN x.num).length ≤ 5000) := by
    show _ ∧ _
    have := encN_le x.num
    have := encN_pos x.num
    omega
  have h0 := Go.heap_alloc_new w (.cells x.cells 36)
  have k0 : Below w.heap.size w (w.alloc (.cells x.cells 36)) := (Below.refl _ _).alloc (Nat.le_refl _) _
  obtain ⟨w2, hw2⟩ : ∃ w2, w2 = w.alloc (.cells x.cells 36) := ⟨_, rfl⟩
  rw [← hw2] at h0 k0
  have a0 : w2.cell? ⟨w.heap.size, 0, none⟩ = some (.int .u8 x.k) := (cell_row h0 0).trans x.c0
  have hk0 := ox.k0
  have hn1 : ¬ x.k % 5 = 1 := by omega
  have hn2 : ¬ x.k % 5 = 2 := by omega
  have hn3 : ¬ x.k % 5 = 3 := by omega
  have HB := Lib.hid (hb.at k0 (Nat.le_refl _))
  have HC := Lib.hid (hc.later k0)
  have Hlow := Lib.hid k0
  have H0 := Lib.hid h0
  have Hap := Lib.hid hap
  have Hvc : Hid (∀ k, vc.ownBlock = some k → k < w2.heap.size) := fun k hk => Nat.lt_of_lt_of_le (World.ownsRow.lt hc k hk).2 k0.size
  have HNe : Hid (some w.heap.size ≠ vc.ownBlock) := fun e => by have := (World.ownsRow.lt hc _ e.symm).2; omega
  have Hw2 := Lib.hid hw2
  have Ox := Lib.hid ox
  have Hs := Lib.hid hs
  have Hbs := Lib.hid (Nat.le_trans hbase k0.size)
  have HI : Hid ((Try.prog.info? 32).map (·.size) = some (x.h.map (Value.int .u8)).length) := by show _ = _; rw [List.length_map, ox.hl]; exact infoH32
  clear hb hc hap h0 k0 hw2 ox hs
  go_enter Try.func11, Try.ntmps11
  go_upto_region 1 with (fail)
  rw [← Hw2.out]
  clear Hw2
  go_upto_region 3 with (fail)
  have apx : apartB [14, 15, 16, 17, 18, 19, 20, 21, 22, 6, 7] = true := by decide
  refine wp_region_any (by kernel_rfl) ?_
  change wpAny _ _ _ _ _ _ _ (World.drew _)
  refine wpAny_inv2 (fun ll aa wx => Hid (ll.size = 11 ∧ RelU 8 vc.ownBlock w2 ll wx) ∧ ∃ (z : Nat → Value), Hid (aa = ⟨#[vb, vc, .agg x.cells, undef, undef, .pointer (some ⟨w.heap.size, 0, none⟩), z 6, z 7, undef, .pointer (some ⟨w.heap.size, 0, none⟩), .int .u8 x.k, .int .u8 (x.k % 5), .bool true, .bool true, z 14, z 15, z 16, z 17, z 18, z 19, z 20, z 21, z 22, undef, undef, undef, undef, undef, undef, undef, undef, undef, undef, undef, undef, undef, undef, undef, undef, undef, undef, undef, undef, undef, undef, undef, undef, undef, undef, undef, undef, undef, undef, undef, undef, undef, undef, undef, undef, undef, undef, undef, undef, undef, undef, undef, undef, undef], []⟩) ∧ Holding [14, 15, 16, 17, 18, 19, 20, 21, 22, 6, 7] [some (vb), some (.pointer (some ⟨w.heap.size, 1, none⟩)), some (.int .u64 (x.num : Nat)), none, some (vc), some (.pointer (some ⟨w.heap.size, 1, none⟩)), some (.int .u64 (x.num : Nat)), none, none, none, none] ll z ∧ Whn ll 3 (NewE w2.heap.size (L ++ encN x.num) (z 17)) (z 17) wx ∧ Whu ll 7 8 (SlB (encN x.num)) (z 21) wx ∧ Whn ll 8 (NewE base (M ++ encN x.num) (z 22)) (z 22) wx ∧ Whn ll 9 (NewE w2.heap.size (L ++ encN x.num) (z 17)) (z 6) wx ∧ Whn ll 10 (NewE base (M ++ encN x.num) (z 22)) (z 7) wx ∧ Pair ll 3 8 (z 17) (z 22)) ?_ (by kernel_rfl) ?_ ?_ _ rfl _ _ ?_
  · rintro ll aa wx ⟨hI, _⟩
    exact hI.out.1
  · rintro ll aa wx ⟨hI, z, ha, hz, hp3, hp7, hp8, hp9, hp10, hpr⟩ hall
    have hx := Lib.hid hI.out.2
    have e0 : z 14 = vb := hz 0 _ (hall 0 (by decide)) rfl
    have e1 : z 15 = .pointer (some ⟨w.heap.size, 1, none⟩) := hz 1 _ (hall 1 (by decide)) rfl
    have e2 : z 16 = .int .u64 (x.num : Nat) := hz 2 _ (hall 2 (by decide)) rfl
    have e4 : z 18 = vc := hz 4 _ (hall 4 (by decide)) rfl
    have e5 : z 19 = .pointer (some ⟨w.heap.size, 1, none⟩) := hz 5 _ (hall 5 (by decide)) rfl
    have e6 : z 20 = .int .u64 (x.num : Nat) := hz 6 _ (hall 6 (by decide)) rfl
    have p3 := hp3.get (hall 3 (by decide))
    have p8 := hp8.get (hall 8 (by decide))
    have p9 := hp9.get (hall 9 (by decide))
    have p10 := hp10.get (hall 10 (by decide))
    have hpair := hpr (hall 3 (by decide)) (hall 8 (by decide))
    clear hall hz hI hp3 hp7 hp8 hp9 hp10 hpr
    obtain rfl := ha.out
    clear ha
    clear apx
    have HA : Hid (Ap (z 6) (z 7)) := by show Ap _ _; rw [p9.2, p10.2]; exact hpair
    have P9 := Lib.hid (p9.1.base Hlow.out.size)
    have P10 := Lib.hid p10.1
    have G := Lib.hid hx.out.1
    clear e0 e1 e2 e4 e5 e6 p3 p8 p9 p10 hpair hx
    go_wp2
    go_ret2
    exact ⟨_, _, rfl, P9.out, P10.out, HA.out, (grown_below Hlow.out).trans G.out⟩
  · rintro ll aa wx i ⟨hI, z, ha, hz, hp3, hp7, hp8, hp9, hp10, hpr⟩ hcl hi hu hw
    obtain rfl := ha.out
    have hsz := Lib.hid hI.out.1
    have hx := Lib.hid hI.out.2
    clear ha hI
    have hin : i < 11 := hi
    obtain rfl | rfl | rfl | rfl | rfl | rfl | rfl | rfl | rfl | rfl | rfl : i = 0 ∨ i = 1 ∨ i = 2 ∨ i = 3 ∨ i = 4 ∨ i = 5 ∨ i = 6 ∨ i = 7 ∨ i = 8 ∨ i = 9 ∨ i = 10 := by omega
    · refine wpOp_plain rfl rfl ?_
      go_simp
      exact ⟨⟨by simp [hsz.out], hx.out.same⟩, upd z 14 (vb), (by unfold Hid; simp [upd]), hz.next apx hsz.out 0 (by decide) _ (fun _ h => Option.some.inj h), hp3.keep (by decide), hp7.keep (by decide), hp8.keep (by decide), hp9.keep (by decide), hp10.keep (by decide), hpr.keep (by decide) (by decide)⟩
    · refine wpOp_plain rfl rfl ?_
      go_simp
      exact ⟨⟨by simp [hsz.out], hx.out.same⟩, upd z 15 (.pointer (some ⟨w.heap.size, 1, none⟩)), (by unfold Hid; simp [upd]), hz.next apx hsz.out 1 (by decide) _ (fun _ h => Option.some.inj h), hp3.keep (by decide), hp7.keep (by decide), hp8.keep (by decide), hp9.keep (by decide), hp10.keep (by decide), hpr.keep (by decide) (by decide)⟩
    · have e1 : z 15 = .pointer (some ⟨w.heap.size, 1, none⟩) := hz 1 _ (hw 1 (by kernel_rfl)) rfl
      have row := hx.out.at H0.out HNe.out
      have cl : wx.cell? ⟨w.heap.size, 1, none⟩ = some (.int .u64 (x.num : Nat)) := (cell_row row 1).trans x.c1
      refine wpOp_plain rfl rfl ?_
      go_simp
      exact ⟨⟨by simp [hsz.out], hx.out.same⟩, upd z 16 (.int .u64 (x.num : Nat)), (by unfold Hid; simp [upd, e1]), hz.next apx hsz.out 2 (by decide) _ (fun _ h => Option.some.inj h), hp3.keep (by decide), hp7.keep (by decide), hp8.keep (by decide), hp9.keep (by decide), hp10.keep (by decide), hpr.keep (by decide) (by decide)⟩
    · have e0 : z 14 = vb := hz 0 _ (hw 0 (by kernel_rfl)) rfl
      have e2 : z 16 = .int .u64 (x.num : Nat) := hz 2 _ (hw 2 (by kernel_rfl)) rfl
      refine wpOp_plain rfl rfl ?_
      go_simp
      go_at_call 25
      refine (num_v x.num Ox.out.num (SlB.off HB.out hx.out.1 Hap.out) (by omega)).mono ?_
      rintro e w' ⟨vr, rfl, own, low⟩
      exact ⟨⟨by simp [hsz.out], hx.out.call low⟩, upd z 17 (vr), (by unfold Hid; simp [upd, e0, e2]), hz.next apx hsz.out 3 (by decide) _ (fun _ h => by cases h), Whn.done (⟨own.base hx.out.1.size, rfl⟩), (hp7.keep (by decide)).map (fun h => h.later low), (hp8.keep (by decide)).map (fun h => h.later low), Whn.never (by decide) (fun hl => hcl 9 3 hl (by kernel_rfl)) hu, (hp10.keep (by decide)).map (fun h => h.later low), Pair.left (by decide) (fun hl => ap_new own (hp8.get hl).1 (Nat.le_refl _))⟩
    · refine wpOp_plain rfl rfl ?_
      go_simp
      exact ⟨⟨by simp [hsz.out], hx.out.same⟩, upd z 18 (vc), (by unfold Hid; simp [upd]), hz.next apx hsz.out 4 (by decide) _ (fun _ h => Option.some.inj h), hp3.keep (by decide), hp7.keep (by decide), hp8.keep (by decide), hp9.keep (by decide), hp10.keep (by decide), hpr.keep (by decide) (by decide)⟩
    · refine wpOp_plain rfl rfl ?_
      go_simp
      exact ⟨⟨by simp [hsz.out], hx.out.same⟩, upd z 19 (.pointer (some ⟨w.heap.size, 1, none⟩)), (by unfold Hid; simp [upd]), hz.next apx hsz.out 5 (by decide) _ (fun _ h => Option.some.inj h), hp3.keep (by decide), hp7.keep (by decide), hp8.keep (by decide), hp9.keep (by decide), hp10.keep (by decide), hpr.keep (by decide) (by decide)⟩
    · have e5 : z 19 = .pointer (some ⟨w.heap.size, 1, none⟩) := hz 5 _ (hw 5 (by kernel_rfl)) rfl
      have row := hx.out.at H0.out HNe.out
      have cl : wx.cell? ⟨w.heap.size, 1, none⟩ = some (.int .u64 (x.num : Nat)) := (cell_row row 1).trans x.c1
      refine wpOp_plain rfl rfl ?_
      go_simp
      exact ⟨⟨by simp [hsz.out], hx.out.same⟩, upd z 20 (.int .u64 (x.num : Nat)), (by unfold Hid; simp [upd, e5]), hz.next apx hsz.out 6 (by decide) _ (fun _ h => Option.some.inj h), hp3.keep (by decide), hp7.keep (by decide), hp8.keep (by decide), hp9.keep (by decide), hp10.keep (by decide), hpr.keep (by decide) (by decide)⟩
    · have e6 : z 20 = .int .u64 (x.num : Nat) := hz 6 _ (hw 6 (by kernel_rfl)) rfl
      refine wpOp_plain rfl rfl ?_
      go_simp
      go_at_call 26
      refine (rnum x.num Ox.out.num _).mono ?_
      rintro e w' ⟨vr, rfl, own, low⟩
      exact ⟨⟨by simp [hsz.out], hx.out.call low⟩, upd z 21 (vr), (by unfold Hid; simp [upd, e6]), hz.next apx hsz.out 7 (by decide) _ (fun _ h => by cases h), (hp3.keep (by decide)).map (fun h => h.later low), Whu.done (own.sl), (hp8.keep (by decide)).map (fun h => h.later low), (hp9.keep (by decide)).map (fun h => h.later low), (hp10.keep (by decide)).map (fun h => h.later low), hpr.keep (by decide) (by decide)⟩
    · have e4 : z 18 = vc := hz 4 _ (hw 4 (by kernel_rfl)) rfl
      have p7 := hp7.get (hw 7 (by kernel_rfl)) hu
      refine wpOp_plain rfl rfl (wp_app_at (.tmp 18) (.tmp 21) rfl base vc M e4 (HC.out.later (hx.out.2 hu)) (z 21) (encN x.num) rfl p7 HE.out.1 (by have := HE.out.2; omega) (Nat.le_trans Hbs.out hx.out.1.size) ?_)
      intro vr w' own gr hat
      go_simp
      exact ⟨⟨by simp [hsz.out], hx.out.app gr (by rw [hsz.out]; decide)⟩, upd z 22 (vr), (by unfold Hid; simp [upd, e4]), hz.next apx hsz.out 8 (by decide) _ (fun _ h => by cases h), (hp3.keep (by decide)).map (fun h => h.off gr Hvc.out), Whu.past (by rw [hsz.out]; decide), Whn.done (⟨own, rfl⟩), (hp9.keep (by decide)).map (fun h => h.off gr Hvc.out), Whn.never (by decide) (fun hl => hcl 10 8 hl (by kernel_rfl)) hu, Pair.right (by decide) (fun hl => ap_app (hp3.get hl).1 Hvc.out hat)⟩
    · have p3 := hp3.get (hw 3 (by kernel_rfl))
      refine wpOp_plain rfl rfl ?_
      go_simp
      exact ⟨⟨by simp [hsz.out], hx.out.same⟩, upd z 6 (z 17), (by unfold Hid; simp [upd]), hz.next apx hsz.out 9 (by decide) _ (fun _ h => by cases h), hp3.keep (by decide), hp7.keep (by decide), hp8.keep (by decide), Whn.done (p3), hp10.keep (by decide), hpr.keep (by decide) (by decide)⟩
    · have p8 := hp8.get (hw 8 (by kernel_rfl))
      refine wpOp_plain rfl rfl ?_
      go_simp
      exact ⟨⟨by simp [hsz.out], hx.out.same⟩, upd z 7 (z 22), (by unfold Hid; simp [upd]), hz.next apx hsz.out 10 (by decide) _ (fun _ h => by cases h), hp3.keep (by decide), hp7.keep (by decide), hp8.keep (by decide), hp9.keep (by decide), Whn.done (p8), hpr.keep (by decide) (by decide)⟩
  · exact ⟨⟨rfl, RelU.start⟩, fun xx => (#[vb, vc, .agg x.cells, undef, undef, .pointer (some ⟨w.heap.size, 0, none⟩), .slice none 0 0, .slice none 0 0, undef, .pointer (some ⟨w.heap.size, 0, none⟩), .int .u8 x.k, .int .u8 (x.k % 5), .bool true, .bool true, undef, undef, undef, undef, undef, undef, undef, undef, undef, undef, undef, undef, undef, undef, undef, undef, undef, undef, undef, undef, undef, undef, undef, undef, undef, undef, undef, undef, undef, undef, undef, undef, undef, undef, undef, undef, undef, undef, undef, undef, undef, undef, undef, undef, undef, undef, undef, undef, undef, undef, undef, undef, undef, undef] : Array Value).getD xx undef, rfl, Holding.start, Whn.none (by decide), Whu.none (by decide), Whn.none (by decide), Whn.none (by decide), Whn.none (by decide), Pair.start (by decide)⟩
set_option maxRecDepth 100000 in
set_option maxHeartbeats 4000000 in
theorem written1 {L M : List Int} {vb vc : Value} {base : Nat} (x : Val) (ox : x.Ok) (hs : x.s.size ≤ 300) (hk : x.k % 5 = 1) (w : World) (hb : SlB L vb w) (hc : NewB base M vc w) (hap : Ap vb vc) (hbase : base ≤ w.heap.size) (hL : L.length ≤ 39000) (hM : M.length ≤ 39000) :
    Calls Try.prog 11 #[vb, vc, .agg x.cells] w fun e w' => ∃ v1 v2, e = .returned (.tuple #[v1, v2]) ∧ NewB w.heap.size (L ++ textL x.s) v1 w' ∧ NewB base (M ++ textL x.s) v2 w' ∧ Ap v1 v2 ∧ w.grownBy w' vc.ownBlock := by
  have HE : Hid (0 < (textL x.s).length ∧ (textL x.s).length ≤ 5000) := by
    show _ ∧ _
    have := encN_le x.s.size
    have := encN_pos x.s.size
    have := bOf_length x.s
    unfold textL
    rw [List.length_append]
    omega
  have h0 := Go.heap_alloc_new w (.cells x.cells 36)
  have k0 : Below w.heap.size w (w.alloc (.cells x.cells 36)) := (Below.refl _ _).alloc (Nat.le_refl _) _
  obtain ⟨w2, hw2⟩ : ∃ w2, w2 = w.alloc (.cells x.cells 36) := ⟨_, rfl⟩
  rw [← hw2] at h0 k0
  have a0 : w2.cell? ⟨w.heap.size, 0, none⟩ = some (.int .u8 x.k) := (cell_row h0 0).trans x.c0
  have hk0 := ox.k0
  have hn0 : ¬ x.k % 5 = 0 := by omega
  have hn2 : ¬ x.k % 5 = 2 := by omega
  have hn3 : ¬ x.k % 5 = 3 := by omega
  have HB := Lib.hid (hb.at k0 (Nat.le_refl _))
  have HC := Lib.hid (hc.later k0)
  have Hlow := Lib.hid k0
  have H0 := Lib.hid h0
  have Hap := Lib.hid hap
  have Hvc : Hid (∀ k, vc.ownBlock = some k → k < w2.heap.size) := fun k hk => Nat.lt_of_lt_of_le (World.ownsRow.lt hc k hk).2 k0.size
  have HNe : Hid (some w.heap.size ≠ vc.ownBlock) := fun e => by have := (World.ownsRow.lt hc _ e.symm).2; omega
  have Hw2 := Lib.hid hw2
  have Ox := Lib.hid ox
  have Hs := Lib.hid hs
  have Hbs := Lib.hid (Nat.le_trans hbase k0.size)
  have HI : Hid ((Try.prog.info? 32).map (·.size) = some (x.h.map (Value.int .u8)).length) := by show _ = _; rw [List.length_map, ox.hl]; exact infoH32
  clear hb hc hap h0 k0 hw2 ox hs
  go_enter Try.func11, Try.ntmps11
  go_upto_region 1 with (fail)
  rw [← Hw2.out]
  clear Hw2
  go_upto_region 5 with (fail)
  have apx : apartB [25, 26, 27, 28, 29, 30, 31, 32, 33, 6, 7] = true := by decide
  refine wp_region_any (by kernel_rfl) ?_
  change wpAny _ _ _ _ _ _ _ (World.drew _)
  refine wpAny_inv2 (fun ll aa wx => Hid (ll.size = 11 ∧ RelU 8 vc.ownBlock w2 ll wx) ∧ ∃ (z : Nat → Value), Hid (aa = ⟨#[vb, vc, .agg x.cells, undef, undef, .pointer (some ⟨w.heap.size, 0, none⟩), z 6, z 7, undef, .pointer (some ⟨w.heap.size, 0, none⟩), .int .u8 x.k, .int .u8 (x.k % 5), .bool false, .bool false, undef, undef, undef, undef, undef, undef, undef, undef, undef, .bool true, .bool true, z 25, z 26, z 27, z 28, z 29, z 30, z 31, z 32, z 33, undef, undef, undef, undef, undef, undef, undef, undef, undef, undef, undef, undef, undef, undef, undef, undef, undef, undef, undef, undef, undef, undef, undef, undef, undef, undef, undef, undef, undef, undef, undef, undef, undef, undef], []⟩) ∧ Holding [25, 26, 27, 28, 29, 30, 31, 32, 33, 6, 7] [some (vb), some (.pointer (some ⟨w.heap.size, 2, none⟩)), some (.string x.s), none, some (vc), some (.pointer (some ⟨w.heap.size, 2, none⟩)), some (.string x.s), none, none, none, none] ll z ∧ Whn ll 3 (NewE w2.heap.size (L ++ textL x.s) (z 28)) (z 28) wx ∧ Whu ll 7 8 (SlB (textL x.s)) (z 32) wx ∧ Whn ll 8 (NewE base (M ++ textL x.s) (z 33)) (z 33) wx ∧ Whn ll 9 (NewE w2.heap.size (L ++ textL x.s) (z 28)) (z 6) wx ∧ Whn ll 10 (NewE base (M ++ textL x.s) (z 33)) (z 7) wx ∧ Pair ll 3 8 (z 28) (z 33)) ?_ (by kernel_rfl) ?_ ?_ _ rfl _ _ ?_
  · rintro ll aa wx ⟨hI, _⟩
    exact hI.out.1
  · rintro ll aa wx ⟨hI, z, ha, hz, hp3, hp7, hp8, hp9, hp10, hpr⟩ hall
    have hx := Lib.hid hI.out.2
    have e0 : z 25 = vb := hz 0 _ (hall 0 (by decide)) rfl
    have e1 : z 26 = .pointer (some ⟨w.heap.size, 2, none⟩) := hz 1 _ (hall 1 (by decide)) rfl
    have e2 : z 27 = .string x.s := hz 2 _ (hall 2 (by decide)) rfl
    have e4 : z 29 = vc := hz 4 _ (hall 4 (by decide)) rfl
    have e5 : z 30 = .pointer (some ⟨w.heap.size, 2, none⟩) := hz 5 _ (hall 5 (by decide)) rfl
    have e6 : z 31 = .string x.s := hz 6 _ (hall 6 (by decide)) rfl
    have p3 := hp3.get (hall 3 (by decide))
    have p8 := hp8.get (hall 8 (by decide))
    have p9 := hp9.get (hall 9 (by decide))
    have p10 := hp10.get (hall 10 (by decide))
    have hpair := hpr (hall 3 (by decide)) (hall 8 (by decide))
    clear hall hz hI hp3 hp7 hp8 hp9 hp10 hpr
    obtain rfl := ha.out
    clear ha
    clear apx
    have HA : Hid (Ap (z 6) (z 7)) := by show Ap _ _; rw [p9.2, p10.2]; exact hpair
    have P9 := Lib.hid (p9.1.base Hlow.out.size)
    have P10 := Lib.hid p10.1
    have G := Lib.hid hx.out.1
    clear e0 e1 e2 e4 e5 e6 p3 p8 p9 p10 hpair hx
    go_wp2
    go_ret2
    exact ⟨_, _, rfl, P9.out, P10.out, HA.out, (grown_below Hlow.out).trans G.out⟩
  · rintro ll aa wx i ⟨hI, z, ha, hz, hp3, hp7, hp8, hp9, hp10, hpr⟩ hcl hi hu hw
    obtain rfl := ha.out
    have hsz := Lib.hid hI.out.1
    have hx := Lib.hid hI.out.2
    clear ha hI
    have hin : i < 11 := hi
    obtain rfl | rfl | rfl | rfl | rfl | rfl | rfl | rfl | rfl | rfl | rfl : i = 0 ∨ i = 1 ∨ i = 2 ∨ i = 3 ∨ i = 4 ∨ i = 5 ∨ i = 6 ∨ i = 7 ∨ i = 8 ∨ i = 9 ∨ i = 10 := by omega
    · refine wpOp_plain rfl rfl ?_
      go_simp
      exact ⟨⟨by simp [hsz.out], hx.out.same⟩, upd z 25 (vb), (by unfold Hid; simp [upd]), hz.next apx hsz.out 0 (by decide) _ (fun _ h => Option.some.inj h), hp3.keep (by decide), hp7.keep (by decide), hp8.keep (by decide), hp9.keep (by decide), hp10.keep (by decide), hpr.keep (by decide) (by decide)⟩
    · refine wpOp_plain rfl rfl ?_
      go_simp
      exact ⟨⟨by simp [hsz.out], hx.out.same⟩, upd z 26 (.pointer (some ⟨w.heap.size, 2, none⟩)), (by unfold Hid; simp [upd]), hz.next apx hsz.out 1 (by decide) _ (fun _ h => Option.some.inj h), hp3.keep (by decide), hp7.keep (by decide), hp8.keep (by decide), hp9.keep (by decide), hp10.keep (by decide), hpr.keep (by decide) (by decide)⟩
    · have e1 : z 26 = .pointer (some ⟨w.heap.size, 2, none⟩) := hz 1 _ (hw 1 (by kernel_rfl)) rfl
      have row := hx.out.at H0.out HNe.out
      have cl : wx.cell? ⟨w.heap.size, 2, none⟩ = some (.string x.s) := (cell_row row 2).trans x.c2
      refine wpOp_plain rfl rfl ?_
      go_simp
      exact ⟨⟨by simp [hsz.out], hx.out.same⟩, upd z 27 (.string x.s), (by unfold Hid; simp [upd, e1]), hz.next apx hsz.out 2 (by decide) _ (fun _ h => Option.some.inj h), hp3.keep (by decide), hp7.keep (by decide), hp8.keep (by decide), hp9.keep (by decide), hp10.keep (by decide), hpr.keep (by decide) (by decide)⟩
    · have e0 : z 25 = vb := hz 0 _ (hw 0 (by kernel_rfl)) rfl
      have e2 : z 27 = .string x.s := hz 2 _ (hw 2 (by kernel_rfl)) rfl
      refine wpOp_plain rfl rfl ?_
      go_simp
      go_at_call 27
      refine (text_v x.s (Nat.le_trans Hs.out (by decide)) (SlB.off HB.out hx.out.1 Hap.out) (by omega)).mono ?_
      rintro e w' ⟨vr, rfl, own, low⟩
      exact ⟨⟨by simp [hsz.out], hx.out.call low⟩, upd z 28 (vr), (by unfold Hid; simp [upd, e0, e2]), hz.next apx hsz.out 3 (by decide) _ (fun _ h => by cases h), Whn.done (⟨own.base hx.out.1.size, rfl⟩), (hp7.keep (by decide)).map (fun h => h.later low), (hp8.keep (by decide)).map (fun h => h.later low), Whn.never (by decide) (fun hl => hcl 9 3 hl (by kernel_rfl)) hu, (hp10.keep (by decide)).map (fun h => h.later low), Pair.left (by decide) (fun hl => ap_new own (hp8.get hl).1 (Nat.le_refl _))⟩
    · refine wpOp_plain rfl rfl ?_
      go_simp
      exact ⟨⟨by simp [hsz.out], hx.out.same⟩, upd z 29 (vc), (by unfold Hid; simp [upd]), hz.next apx hsz.out 4 (by decide) _ (fun _ h => Option.some.inj h), hp3.keep (by decide), hp7.keep (by decide), hp8.keep (by decide), hp9.keep (by decide), hp10.keep (by decide), hpr.keep (by decide) (by decide)⟩
    · refine wpOp_plain rfl rfl ?_
      go_simp
      exact ⟨⟨by simp [hsz.out], hx.out.same⟩, upd z 30 (.pointer (some ⟨w.heap.size, 2, none⟩)), (by unfold Hid; simp [upd]), hz.next apx hsz.out 5 (by decide) _ (fun _ h => Option.some.inj h), hp3.keep (by decide), hp7.keep (by decide), hp8.keep (by decide), hp9.keep (by decide), hp10.keep (by decide), hpr.keep (by decide) (by decide)⟩
    · have e5 : z 30 = .pointer (some ⟨w.heap.size, 2, none⟩) := hz 5 _ (hw 5 (by kernel_rfl)) rfl
      have row := hx.out.at H0.out HNe.out
      have cl : wx.cell? ⟨w.heap.size, 2, none⟩ = some (.string x.s) := (cell_row row 2).trans x.c2
      refine wpOp_plain rfl rfl ?_
      go_simp
      exact ⟨⟨by simp [hsz.out], hx.out.same⟩, upd z 31 (.string x.s), (by unfold Hid; simp [upd, e5]), hz.next apx hsz.out 6 (by decide) _ (fun _ h => Option.some.inj h), hp3.keep (by decide), hp7.keep (by decide), hp8.keep (by decide), hp9.keep (by decide), hp10.keep (by decide), hpr.keep (by decide) (by decide)⟩
    · have e6 : z 31 = .string x.s := hz 6 _ (hw 6 (by kernel_rfl)) rfl
      refine wpOp_plain rfl rfl ?_
      go_simp
      go_at_call 28
      refine (rtext x.s (Nat.le_trans Hs.out (by decide)) _).mono ?_
      rintro e w' ⟨vr, rfl, own, low⟩
      exact ⟨⟨by simp [hsz.out], hx.out.call low⟩, upd z 32 (vr), (by unfold Hid; simp [upd, e6]), hz.next apx hsz.out 7 (by decide) _ (fun _ h => by cases h), (hp3.keep (by decide)).map (fun h => h.later low), Whu.done (own.sl), (hp8.keep (by decide)).map (fun h => h.later low), (hp9.keep (by decide)).map (fun h => h.later low), (hp10.keep (by decide)).map (fun h => h.later low), hpr.keep (by decide) (by decide)⟩
    · have e4 : z 29 = vc := hz 4 _ (hw 4 (by kernel_rfl)) rfl
      have p7 := hp7.get (hw 7 (by kernel_rfl)) hu
      refine wpOp_plain rfl rfl (wp_app_at (.tmp 29) (.tmp 32) rfl base vc M e4 (HC.out.later (hx.out.2 hu)) (z 32) (textL x.s) rfl p7 HE.out.1 (by have := HE.out.2; omega) (Nat.le_trans Hbs.out hx.out.1.size) ?_)
      intro vr w' own gr hat
      go_simp
      exact ⟨⟨by simp [hsz.out], hx.out.app gr (by rw [hsz.out]; decide)⟩, upd z 33 (vr), (by unfold Hid; simp [upd, e4]), hz.next apx hsz.out 8 (by decide) _ (fun _ h => by cases h), (hp3.keep (by decide)).map (fun h => h.off gr Hvc.out), Whu.past (by rw [hsz.out]; decide), Whn.done (⟨own, rfl⟩), (hp9.keep (by decide)).map (fun h => h.off gr Hvc.out), Whn.never (by decide) (fun hl => hcl 10 8 hl (by kernel_rfl)) hu, Pair.right (by decide) (fun hl => ap_app (hp3.get hl).1 Hvc.out hat)⟩
    · have p3 := hp3.get (hw 3 (by kernel_rfl))
      refine wpOp_plain rfl rfl ?_
      go_simp
      exact ⟨⟨by simp [hsz.out], hx.out.same⟩, upd z 6 (z 28), (by unfold Hid; simp [upd]), hz.next apx hsz.out 9 (by decide) _ (fun _ h => by cases h), hp3.keep (by decide), hp7.keep (by decide), hp8.keep (by decide), Whn.done (p3), hp10.keep (by decide), hpr.keep (by decide) (by decide)⟩
    · have p8 := hp8.get (hw 8 (by kernel_rfl))
      refine wpOp_plain rfl rfl ?_
      go_simp
      exact ⟨⟨by simp [hsz.out], hx.out.same⟩, upd z 7 (z 33), (by unfold Hid; simp [upd]), hz.next apx hsz.out 10 (by decide) _ (fun _ h => by cases h), hp3.keep (by decide), hp7.keep (by decide), hp8.keep (by decide), hp9.keep (by decide), Whn.done (p8), hpr.keep (by decide) (by decide)⟩
  · exact ⟨⟨rfl, RelU.start⟩, fun xx => (#[vb, vc, .agg x.cells, undef, undef, .pointer (some ⟨w.heap.size, 0, none⟩), .slice none 0 0, .slice none 0 0, undef, .pointer (some ⟨w.heap.size, 0, none⟩), .int .u8 x.k, .int .u8 (x.k % 5), .bool false, .bool false, undef, undef, undef, undef, undef, undef, undef, undef, undef, .bool true, .bool true, undef, undef, undef, undef, undef, undef, undef, undef, undef, undef, undef, undef, undef, undef, undef, undef, undef, undef, undef, undef, undef, undef, undef, undef, undef, undef, undef, undef, undef, undef, undef, undef, undef, undef, undef, undef, undef, undef, undef, undef, undef, undef, undef] : Array Value).getD xx undef, rfl, Holding.start, Whn.none (by decide), Whu.none (by decide), Whn.none (by decide), Whn.none (by decide), Whn.none (by decide), Pair.start (by decide)⟩
set_option maxRecDepth 100000 in
set_option maxHeartbeats 4000000 in
theorem written2 {L M : List Int} {vb vc : Value} {base : Nat} (x : Val) (ox : x.Ok) (hs : x.s.size ≤ 300) (hk : x.k % 5 = 2) (w : World) (hb : SlB L vb w) (hc : NewB base M vc w) (hap : Ap vb vc) (hbase : base ≤ w.heap.size) (hL : L.length ≤ 39000) (hM : M.length ≤ 39000) :
    Calls Try.prog 11 #[vb, vc, .agg x.cells] w fun e w' => ∃ v1 v2, e = .returned (.tuple #[v1, v2]) ∧ NewB w.heap.size (L ++ x.h) v1 w' ∧ NewB base (M ++ x.h) v2 w' ∧ Ap v1 v2 ∧ w.grownBy w' vc.ownBlock := by
  have HE : Hid (0 < (x.h).length ∧ (x.h).length ≤ 5000) := by
    show _ ∧ _
    have := ox.hl
    omega
  have h0 := Go.heap_alloc_new w (.cells x.cells 36)
  have k0 : Below w.heap.size w (w.alloc (.cells x.cells 36)) := (Below.refl _ _).alloc (Nat.le_refl _) _
  obtain ⟨w2, hw2⟩ : ∃ w2, w2 = w.alloc (.cells x.cells 36) := ⟨_, rfl⟩
  rw [← hw2] at h0 k0
  have a0 : w2.cell? ⟨w.heap.size, 0, none⟩ = some (.int .u8 x.k) := (cell_row h0 0).trans x.c0
  have hk0 := ox.k0
  have hn0 : ¬ x.k % 5 = 0 := by omega
  have hn1 : ¬ x.k % 5 = 1 := by omega
  have hn3 : ¬ x.k % 5 = 3 := by omega
  have HB := Lib.hid (hb.at k0 (Nat.le_refl _))
  have HC := Lib.hid (hc.later k0)
  have Hlow := Lib.hid k0
  have H0 := Lib.hid h0
  have Hap := Lib.hid hap
  have Hvc : Hid (∀ k, vc.ownBlock = some k → k < w2.heap.size) := fun k hk => Nat.lt_of_lt_of_le (World.ownsRow.lt hc k hk).2 k0.size
  have HNe : Hid (some w.heap.size ≠ vc.ownBlock) := fun e => by have := (World.ownsRow.lt hc _ e.symm).2; omega
  have Hw2 := Lib.hid hw2
  have Ox := Lib.hid ox
  have Hs := Lib.hid hs
  have Hbs := Lib.hid (Nat.le_trans hbase k0.size)
  have HI : Hid ((Try.prog.info? 32).map (·.size) = some (x.h.map (Value.int .u8)).length) := by show _ = _; rw [List.length_map, ox.hl]; exact infoH32
  clear hb hc hap h0 k0 hw2 ox hs
  go_enter Try.func11, Try.ntmps11
  go_upto_region 1 with (fail)
  rw [← Hw2.out]
  clear Hw2
  go_upto_region 7 with (fail)
  have apx : apartB [36, 37, 38, 39, 40, 41, 42, 43, 44, 6, 7] = true := by decide
  refine wp_region_any (by kernel_rfl) ?_
  change wpAny _ _ _ _ _ _ _ (World.drew _)
  refine wpAny_inv2 (fun ll aa wx => Hid (ll.size = 11 ∧ RelU 8 vc.ownBlock w2 ll wx) ∧ ∃ (z : Nat → Value), Hid (aa = ⟨#[vb, vc, .agg x.cells, undef, undef, .pointer (some ⟨w.heap.size, 0, none⟩), z 6, z 7, undef, .pointer (some ⟨w.heap.size, 0, none⟩), .int .u8 x.k, .int .u8 (x.k % 5), .bool false, .bool false, undef, undef, undef, undef, undef, undef, undef, undef, undef, .bool false, .bool false, undef, undef, undef, undef, undef, undef, undef, undef, undef, .bool true, .bool true, z 36, z 37, z 38, z 39, z 40, z 41, z 42, z 43, z 44, undef, undef, undef, undef, undef, undef, undef, undef, undef, undef, undef, undef, undef, undef, undef, undef, undef, undef, undef, undef, undef, undef, undef], []⟩) ∧ Holding [36, 37, 38, 39, 40, 41, 42, 43, 44, 6, 7] [some (vb), some (.pointer (some ⟨w.heap.size, 3, none⟩)), some (.agg (u8s x.h)), none, some (vc), some (.pointer (some ⟨w.heap.size, 3, none⟩)), some (.agg (u8s x.h)), none, none, none, none] ll z ∧ Whn ll 3 (NewE w2.heap.size (L ++ x.h) (z 39)) (z 39) wx ∧ Whu ll 7 8 (SlB (x.h)) (z 43) wx ∧ Whn ll 8 (NewE base (M ++ x.h) (z 44)) (z 44) wx ∧ Whn ll 9 (NewE w2.heap.size (L ++ x.h) (z 39)) (z 6) wx ∧ Whn ll 10 (NewE base (M ++ x.h) (z 44)) (z 7) wx ∧ Pair ll 3 8 (z 39) (z 44)) ?_ (by kernel_rfl) ?_ ?_ _ rfl _ _ ?_
  · rintro ll aa wx ⟨hI, _⟩
    exact hI.out.1
  · rintro ll aa wx ⟨hI, z, ha, hz, hp3, hp7, hp8, hp9, hp10, hpr⟩ hall
    have hx := Lib.hid hI.out.2
    have e0 : z 36 = vb := hz 0 _ (hall 0 (by decide)) rfl
    have e1 : z 37 = .pointer (some ⟨w.heap.size, 3, none⟩) := hz 1 _ (hall 1 (by decide)) rfl
    have e2 : z 38 = .agg (u8s x.h) := hz 2 _ (hall 2 (by decide)) rfl
    have e4 : z 40 = vc := hz 4 _ (hall 4 (by decide)) rfl
    have e5 : z 41 = .pointer (some ⟨w.heap.size, 3, none⟩) := hz 5 _ (hall 5 (by decide)) rfl
    have e6 : z 42 = .agg (u8s x.h) := hz 6 _ (hall 6 (by decide)) rfl
    have p3 := hp3.get (hall 3 (by decide))
    have p8 := hp8.get (hall 8 (by decide))
    have p9 := hp9.get (hall 9 (by decide))
    have p10 := hp10.get (hall 10 (by decide))
    have hpair := hpr (hall 3 (by decide)) (hall 8 (by decide))
    clear hall hz hI hp3 hp7 hp8 hp9 hp10 hpr
    obtain rfl := ha.out
    clear ha
    clear apx
    have HA : Hid (Ap (z 6) (z 7)) := by show Ap _ _; rw [p9.2, p10.2]; exact hpair
    have P9 := Lib.hid (p9.1.base Hlow.out.size)
    have P10 := Lib.hid p10.1
    have G := Lib.hid hx.out.1
    clear e0 e1 e2 e4 e5 e6 p3 p8 p9 p10 hpair hx
    go_wp2
    go_ret2
    exact ⟨_, _, rfl, P9.out, P10.out, HA.out, (grown_below Hlow.out).trans G.out⟩
  · rintro ll aa wx i ⟨hI, z, ha, hz, hp3, hp7, hp8, hp9, hp10, hpr⟩ hcl hi hu hw
    obtain rfl := ha.out
    have hsz := Lib.hid hI.out.1
    have hx := Lib.hid hI.out.2
    clear ha hI
    have hin : i < 11 := hi
    obtain rfl | rfl | rfl | rfl | rfl | rfl | rfl | rfl | rfl | rfl | rfl : i = 0 ∨ i = 1 ∨ i = 2 ∨ i = 3 ∨ i = 4 ∨ i = 5 ∨ i = 6 ∨ i = 7 ∨ i = 8 ∨ i = 9 ∨ i = 10 := by omega
    · refine wpOp_plain rfl rfl ?_
      go_simp
      exact ⟨⟨by simp [hsz.out], hx.out.same⟩, upd z 36 (vb), (by unfold Hid; simp [upd]), hz.next apx hsz.out 0 (by decide) _ (fun _ h => Option.some.inj h), hp3.keep (by decide), hp7.keep (by decide), hp8.keep (by decide), hp9.keep (by decide), hp10.keep (by decide), hpr.keep (by decide) (by decide)⟩
    · refine wpOp_plain rfl rfl ?_
      go_simp
      exact ⟨⟨by simp [hsz.out], hx.out.same⟩, upd z 37 (.pointer (some ⟨w.heap.size, 3, none⟩)), (by unfold Hid; simp [upd]), hz.next apx hsz.out 1 (by decide) _ (fun _ h => Option.some.inj h), hp3.keep (by decide), hp7.keep (by decide), hp8.keep (by decide), hp9.keep (by decide), hp10.keep (by decide), hpr.keep (by decide) (by decide)⟩
    · have e1 : z 37 = .pointer (some ⟨w.heap.size, 3, none⟩) := hz 1 _ (hw 1 (by kernel_rfl)) rfl
      have row := hx.out.at H0.out HNe.out
      have hcr : wx.rangeAt w.heap.size 3 (x.h.map (Value.int .u8)) := fun j v hv => by rw [cell_row row]; obtain ⟨hj, hv⟩ := vals_get hv; rw [hv]; exact x.ch j hj
      refine wpOp_plain rfl rfl (wp_load_mid 32 (.tmp 37) rfl w.heap.size 3 e1 (x.h.map (Value.int .u8)) _ hcr Try.underlying32 rfl HI.out ?_)
      go_simp
      exact ⟨⟨by simp [hsz.out], hx.out.same⟩, upd z 38 (.agg (u8s x.h)), (by unfold Hid; simp [upd, e1, u8s]), hz.next apx hsz.out 2 (by decide) _ (fun _ h => Option.some.inj h), hp3.keep (by decide), hp7.keep (by decide), hp8.keep (by decide), hp9.keep (by decide), hp10.keep (by decide), hpr.keep (by decide) (by decide)⟩
    · have e0 : z 36 = vb := hz 0 _ (hw 0 (by kernel_rfl)) rfl
      have e2 : z 38 = .agg (u8s x.h) := hz 2 _ (hw 2 (by kernel_rfl)) rfl
      refine wpOp_plain rfl rfl ?_
      go_simp
      go_at_call 29
      refine (hash_v Ox.out.hl (SlB.off HB.out hx.out.1 Hap.out) (by omega)).mono ?_
      rintro e w' ⟨vr, rfl, own, low⟩
      exact ⟨⟨by simp [hsz.out], hx.out.call low⟩, upd z 39 (vr), (by unfold Hid; simp [upd, e0, e2]), hz.next apx hsz.out 3 (by decide) _ (fun _ h => by cases h), Whn.done (⟨own.base hx.out.1.size, rfl⟩), (hp7.keep (by decide)).map (fun h => h.later low), (hp8.keep (by decide)).map (fun h => h.later low), Whn.never (by decide) (fun hl => hcl 9 3 hl (by kernel_rfl)) hu, (hp10.keep (by decide)).map (fun h => h.later low), Pair.left (by decide) (fun hl => ap_new own (hp8.get hl).1 (Nat.le_refl _))⟩
    · refine wpOp_plain rfl rfl ?_
      go_simp
      exact ⟨⟨by simp [hsz.out], hx.out.same⟩, upd z 40 (vc), (by unfold Hid; simp [upd]), hz.next apx hsz.out 4 (by decide) _ (fun _ h => Option.some.inj h), hp3.keep (by decide), hp7.keep (by decide), hp8.keep (by decide), hp9.keep (by decide), hp10.keep (by decide), hpr.keep (by decide) (by decide)⟩
    · refine wpOp_plain rfl rfl ?_
      go_simp
      exact ⟨⟨by simp [hsz.out], hx.out.same⟩, upd z 41 (.pointer (some ⟨w.heap.size, 3, none⟩)), (by unfold Hid; simp [upd]), hz.next apx hsz.out 5 (by decide) _ (fun _ h => Option.some.inj h), hp3.keep (by decide), hp7.keep (by decide), hp8.keep (by decide), hp9.keep (by decide), hp10.keep (by decide), hpr.keep (by decide) (by decide)⟩
    · have e5 : z 41 = .pointer (some ⟨w.heap.size, 3, none⟩) := hz 5 _ (hw 5 (by kernel_rfl)) rfl
      have row := hx.out.at H0.out HNe.out
      have hcr : wx.rangeAt w.heap.size 3 (x.h.map (Value.int .u8)) := fun j v hv => by rw [cell_row row]; obtain ⟨hj, hv⟩ := vals_get hv; rw [hv]; exact x.ch j hj
      refine wpOp_plain rfl rfl (wp_load_mid 32 (.tmp 41) rfl w.heap.size 3 e5 (x.h.map (Value.int .u8)) _ hcr Try.underlying32 rfl HI.out ?_)
      go_simp
      exact ⟨⟨by simp [hsz.out], hx.out.same⟩, upd z 42 (.agg (u8s x.h)), (by unfold Hid; simp [upd, e5, u8s]), hz.next apx hsz.out 6 (by decide) _ (fun _ h => Option.some.inj h), hp3.keep (by decide), hp7.keep (by decide), hp8.keep (by decide), hp9.keep (by decide), hp10.keep (by decide), hpr.keep (by decide) (by decide)⟩
    · have e6 : z 42 = .agg (u8s x.h) := hz 6 _ (hw 6 (by kernel_rfl)) rfl
      refine wpOp_plain rfl rfl ?_
      go_simp
      go_at_call 30
      refine (rhash x.h Ox.out.hl _).mono ?_
      rintro e w' ⟨vr, rfl, own, low⟩
      exact ⟨⟨by simp [hsz.out], hx.out.call low⟩, upd z 43 (vr), (by unfold Hid; simp [upd, e6]), hz.next apx hsz.out 7 (by decide) _ (fun _ h => by cases h), (hp3.keep (by decide)).map (fun h => h.later low), Whu.done (own.sl), (hp8.keep (by decide)).map (fun h => h.later low), (hp9.keep (by decide)).map (fun h => h.later low), (hp10.keep (by decide)).map (fun h => h.later low), hpr.keep (by decide) (by decide)⟩
    · have e4 : z 40 = vc := hz 4 _ (hw 4 (by kernel_rfl)) rfl
      have p7 := hp7.get (hw 7 (by kernel_rfl)) hu
      refine wpOp_plain rfl rfl (wp_app_at (.tmp 40) (.tmp 43) rfl base vc M e4 (HC.out.later (hx.out.2 hu)) (z 43) (x.h) rfl p7 HE.out.1 (by have := HE.out.2; omega) (Nat.le_trans Hbs.out hx.out.1.size) ?_)
      intro vr w' own gr hat
      go_simp
      exact ⟨⟨by simp [hsz.out], hx.out.app gr (by rw [hsz.out]; decide)⟩, upd z 44 (vr), (by unfold Hid; simp [upd, e4]), hz.next apx hsz.out 8 (by decide) _ (fun _ h => by cases h), (hp3.keep (by decide)).map (fun h => h.off gr Hvc.out), Whu.past (by rw [hsz.out]; decide), Whn.done (⟨own, rfl⟩), (hp9.keep (by decide)).map (fun h => h.off gr Hvc.out), Whn.never (by decide) (fun hl => hcl 10 8 hl (by kernel_rfl)) hu, Pair.right (by decide) (fun hl => ap_app (hp3.get hl).1 Hvc.out hat)⟩
    · have p3 := hp3.get (hw 3 (by kernel_rfl))
      refine wpOp_plain rfl rfl ?_
      go_simp
      exact ⟨⟨by simp [hsz.out], hx.out.same⟩, upd z 6 (z 39), (by unfold Hid; simp [upd]), hz.next apx hsz.out 9 (by decide) _ (fun _ h => by cases h), hp3.keep (by decide), hp7.keep (by decide), hp8.keep (by decide), Whn.done (p3), hp10.keep (by decide), hpr.keep (by decide) (by decide)⟩
    · have p8 := hp8.get (hw 8 (by kernel_rfl))
      refine wpOp_plain rfl rfl ?_
      go_simp
      exact ⟨⟨by simp [hsz.out], hx.out.same⟩, upd z 7 (z 44), (by unfold Hid; simp [upd]), hz.next apx hsz.out 10 (by decide) _ (fun _ h => by cases h), hp3.keep (by decide), hp7.keep (by decide), hp8.keep (by decide), hp9.keep (by decide), Whn.done (p8), hpr.keep (by decide) (by decide)⟩
  · exact ⟨⟨rfl, RelU.start⟩, fun xx => (#[vb, vc, .agg x.cells, undef, undef, .pointer (some ⟨w.heap.size, 0, none⟩), .slice none 0 0, .slice none 0 0, undef, .pointer (some ⟨w.heap.size, 0, none⟩), .int .u8 x.k, .int .u8 (x.k % 5), .bool false, .bool false, undef, undef, undef, undef, undef, undef, undef, undef, undef, .bool false, .bool false, undef, undef, undef, undef, undef, undef, undef, undef, undef, .bool true, .bool true, undef, undef, undef, undef, undef, undef, undef, undef, undef, undef, undef, undef, undef, undef, undef, undef, undef, undef, undef, undef, undef, undef, undef, undef, undef, undef, undef, undef, undef, undef, undef, undef] : Array Value).getD xx undef, rfl, Holding.start, Whn.none (by decide), Whu.none (by decide), Whn.none (by decide), Whn.none (by decide), Whn.none (by decide), Pair.start (by decide)⟩
set_option maxRecDepth 100000 in
set_option maxHeartbeats 4000000 in
theorem written3 {L M : List Int} {vb vc : Value} {base : Nat} (x : Val) (ox : x.Ok) (hs : x.s.size ≤ 300) (hk : x.k % 5 = 3) (w : World) (hb : SlB L vb w) (hc : NewB base M vc w) (hap : Ap vb vc) (hbase : base ≤ w.heap.size) (hL : L.length ≤ 39000) (hM : M.length ≤ 39000) :
    Calls Try.prog 11 #[vb, vc, .agg x.cells] w fun e w' => ∃ v1 v2, e = .returned (.tuple #[v1, v2]) ∧ NewB w.heap.size (L ++ labelL x.lv x.cp) v1 w' ∧ NewB base (M ++ labelL x.lv x.cp) v2 w' ∧ Ap v1 v2 ∧ w.grownBy w' vc.ownBlock := by
  have HE : Hid (0 < (labelL x.lv x.cp).length ∧ (labelL x.lv x.cp).length ≤ 5000) := by
    show _ ∧ _
    have := encN_le (uN x.lv)
    have := encN_pos (uN x.lv)
    have := compL_length x.cp
    unfold labelL
    rw [List.length_append]
    omega
  have h0 := Go.heap_alloc_new w (.cells x.cells 36)
  have k0 : Below w.heap.size w (w.alloc (.cells x.cells 36)) := (Below.refl _ _).alloc (Nat.le_refl _) _
  obtain ⟨w2, hw2⟩ : ∃ w2, w2 = w.alloc (.cells x.cells 36) := ⟨_, rfl⟩
  rw [← hw2] at h0 k0
  have a0 : w2.cell? ⟨w.heap.size, 0, none⟩ = some (.int .u8 x.k) := (cell_row h0 0).trans x.c0
  have hk0 := ox.k0
  have hn0 : ¬ x.k % 5 = 0 := by omega
  have hn1 : ¬ x.k % 5 = 1 := by omega
  have hn2 : ¬ x.k % 5 = 2 := by omega
  have HB := Lib.hid (hb.at k0 (Nat.le_refl _))
  have HC := Lib.hid (hc.later k0)
  have Hlow := Lib.hid k0
  have H0 := Lib.hid h0
  have Hap := Lib.hid hap
  have Hvc : Hid (∀ k, vc.ownBlock = some k → k < w2.heap.size) := fun k hk => Nat.lt_of_lt_of_le (World.ownsRow.lt hc k hk).2 k0.size
  have HNe : Hid (some w.heap.size ≠ vc.ownBlock) := fun e => by have := (World.ownsRow.lt hc _ e.symm).2; omega
  have Hw2 := Lib.hid hw2
  have Ox := Lib.hid ox
  have Hs := Lib.hid hs
  have Hbs := Lib.hid (Nat.le_trans hbase k0.size)
  have HI : Hid ((Try.prog.info? 32).map (·.size) = some (x.h.map (Value.int .u8)).length) := by show _ = _; rw [List.length_map, ox.hl]; exact infoH32
  clear hb hc hap h0 k0 hw2 ox hs
  go_enter Try.func11, Try.ntmps11
  go_upto_region 1 with (fail)
  rw [← Hw2.out]
  clear Hw2
  go_upto_region 9 with (fail)
  have apx : apartB [47, 48, 49, 50, 51, 52, 53, 54, 55, 6, 7] = true := by decide
  refine wp_region_any (by kernel_rfl) ?_
  change wpAny _ _ _ _ _ _ _ (World.drew _)
  refine wpAny_inv2 (fun ll aa wx => Hid (ll.size = 11 ∧ RelU 8 vc.ownBlock w2 ll wx) ∧ ∃ (z : Nat → Value), Hid (aa = ⟨#[vb, vc, .agg x.cells, undef, undef, .pointer (some ⟨w.heap.size, 0, none⟩), z 6, z 7, undef, .pointer (some ⟨w.heap.size, 0, none⟩), .int .u8 x.k, .int .u8 (x.k % 5), .bool false, .bool false, undef, undef, undef, undef, undef, undef, undef, undef, undef, .bool false, .bool false, undef, undef, undef, undef, undef, undef, undef, undef, undef, .bool false, .bool false, undef, undef, undef, undef, undef, undef, undef, undef, undef, .bool true, .bool true, z 47, z 48, z 49, z 50, z 51, z 52, z 53, z 54, z 55, undef, undef, undef, undef, undef, undef, undef, undef, undef, undef, undef, undef], []⟩) ∧ Holding [47, 48, 49, 50, 51, 52, 53, 54, 55, 6, 7] [some (vb), some (.pointer (some ⟨w.heap.size, 35, none⟩)), some (.agg #[.int .i64 x.lv, .int .u64 (x.cp : Nat)]), none, some (vc), some (.pointer (some ⟨w.heap.size, 35, none⟩)), some (.agg #[.int .i64 x.lv, .int .u64 (x.cp : Nat)]), none, none, none, none] ll z ∧ Whn ll 3 (NewE w2.heap.size (L ++ labelL x.lv x.cp) (z 50)) (z 50) wx ∧ Whu ll 7 8 (SlB (labelL x.lv x.cp)) (z 54) wx ∧ Whn ll 8 (NewE base (M ++ labelL x.lv x.cp) (z 55)) (z 55) wx ∧ Whn ll 9 (NewE w2.heap.size (L ++ labelL x.lv x.cp) (z 50)) (z 6) wx ∧ Whn ll 10 (NewE base (M ++ labelL x.lv x.cp) (z 55)) (z 7) wx ∧ Pair ll 3 8 (z 50) (z 55)) ?_ (by kernel_rfl) ?_ ?_ _ rfl _ _ ?_
  · rintro ll aa wx ⟨hI, _⟩
    exact hI.out.1
  · rintro ll aa wx ⟨hI, z, ha, hz, hp3, hp7, hp8, hp9, hp10, hpr⟩ hall
    have hx := Lib.hid hI.out.2
    have e0 : z 47 = vb := hz 0 _ (hall 0 (by decide)) rfl
    have e1 : z 48 = .pointer (some ⟨w.heap.size, 35, none⟩) := hz 1 _ (hall 1 (by decide)) rfl
    have e2 : z 49 = .agg #[.int .i64 x.lv, .int .u64 (x.cp : Nat)] := hz 2 _ (hall 2 (by decide)) rfl
    have e4 : z 51 = vc := hz 4 _ (hall 4 (by decide)) rfl
    have e5 : z 52 = .pointer (some ⟨w.heap.size, 35, none⟩) := hz 5 _ (hall 5 (by decide)) rfl
    have e6 : z 53 = .agg #[.int .i64 x.lv, .int .u64 (x.cp : Nat)] := hz 6 _ (hall 6 (by decide)) rfl
    have p3 := hp3.get (hall 3 (by decide))
    have p8 := hp8.get (hall 8 (by decide))
    have p9 := hp9.get (hall 9 (by decide))
    have p10 := hp10.get (hall 10 (by decide))
    have hpair := hpr (hall 3 (by decide)) (hall 8 (by decide))
    clear hall hz hI hp3 hp7 hp8 hp9 hp10 hpr
    obtain rfl := ha.out
    clear ha
    clear apx
    have HA : Hid (Ap (z 6) (z 7)) := by show Ap _ _; rw [p9.2, p10.2]; exact hpair
    have P9 := Lib.hid (p9.1.base Hlow.out.size)
    have P10 := Lib.hid p10.1
    have G := Lib.hid hx.out.1
    clear e0 e1 e2 e4 e5 e6 p3 p8 p9 p10 hpair hx
    go_wp2
    go_ret2
    exact ⟨_, _, rfl, P9.out, P10.out, HA.out, (grown_below Hlow.out).trans G.out⟩
  · rintro ll aa wx i ⟨hI, z, ha, hz, hp3, hp7, hp8, hp9, hp10, hpr⟩ hcl hi hu hw
    obtain rfl := ha.out
    have hsz := Lib.hid hI.out.1
    have hx := Lib.hid hI.out.2
    clear ha hI
    have hin : i < 11 := hi
    obtain rfl | rfl | rfl | rfl | rfl | rfl | rfl | rfl | rfl | rfl | rfl : i = 0 ∨ i = 1 ∨ i = 2 ∨ i = 3 ∨ i = 4 ∨ i = 5 ∨ i = 6 ∨ i = 7 ∨ i = 8 ∨ i = 9 ∨ i = 10 := by omega
    · refine wpOp_plain rfl rfl ?_
      go_simp
      exact ⟨⟨by simp [hsz.out], hx.out.same⟩, upd z 47 (vb), (by unfold Hid; simp [upd]), hz.next apx hsz.out 0 (by decide) _ (fun _ h => Option.some.inj h), hp3.keep (by decide), hp7.keep (by decide), hp8.keep (by decide), hp9.keep (by decide), hp10.keep (by decide), hpr.keep (by decide) (by decide)⟩
    · refine wpOp_plain rfl rfl ?_
      go_simp
      exact ⟨⟨by simp [hsz.out], hx.out.same⟩, upd z 48 (.pointer (some ⟨w.heap.size, 35, none⟩)), (by unfold Hid; simp [upd]), hz.next apx hsz.out 1 (by decide) _ (fun _ h => Option.some.inj h), hp3.keep (by decide), hp7.keep (by decide), hp8.keep (by decide), hp9.keep (by decide), hp10.keep (by decide), hpr.keep (by decide) (by decide)⟩
    · have e1 : z 48 = .pointer (some ⟨w.heap.size, 35, none⟩) := hz 1 _ (hw 1 (by kernel_rfl)) rfl
      have row := hx.out.at H0.out HNe.out
      have d1 : wx.cell? ⟨w.heap.size, 35, none⟩ = some (.int .i64 x.lv) := (cell_row row 35).trans (x.ct Ox.out.hl 0)
      have d2 : wx.cell? ⟨w.heap.size, 36, none⟩ = some (.int .u64 (x.cp : Nat)) := (cell_row row 36).trans (x.ct Ox.out.hl 1)
      refine wpOp_plain rfl rfl ?_
      go_simp
      exact ⟨⟨by simp [hsz.out], hx.out.same⟩, upd z 49 (.agg #[.int .i64 x.lv, .int .u64 (x.cp : Nat)]), (by unfold Hid; simp [upd, e1]), hz.next apx hsz.out 2 (by decide) _ (fun _ h => Option.some.inj h), hp3.keep (by decide), hp7.keep (by decide), hp8.keep (by decide), hp9.keep (by decide), hp10.keep (by decide), hpr.keep (by decide) (by decide)⟩
    · have e0 : z 47 = vb := hz 0 _ (hw 0 (by kernel_rfl)) rfl
      have e2 : z 49 = .agg #[.int .i64 x.lv, .int .u64 (x.cp : Nat)] := hz 2 _ (hw 2 (by kernel_rfl)) rfl
      refine wpOp_plain rfl rfl ?_
      go_simp
      go_at_call 31
      refine (label_v x.lv x.cp (SlB.off HB.out hx.out.1 Hap.out) (by omega)).mono ?_
      rintro e w' ⟨vr, rfl, own, low⟩
      exact ⟨⟨by simp [hsz.out], hx.out.call low⟩, upd z 50 (vr), (by unfold Hid; simp [upd, e0, e2]), hz.next apx hsz.out 3 (by decide) _ (fun _ h => by cases h), Whn.done (⟨own.base hx.out.1.size, rfl⟩), (hp7.keep (by decide)).map (fun h => h.later low), (hp8.keep (by decide)).map (fun h => h.later low), Whn.never (by decide) (fun hl => hcl 9 3 hl (by kernel_rfl)) hu, (hp10.keep (by decide)).map (fun h => h.later low), Pair.left (by decide) (fun hl => ap_new own (hp8.get hl).1 (Nat.le_refl _))⟩
    · refine wpOp_plain rfl rfl ?_
      go_simp
      exact ⟨⟨by simp [hsz.out], hx.out.same⟩, upd z 51 (vc), (by unfold Hid; simp [upd]), hz.next apx hsz.out 4 (by decide) _ (fun _ h => Option.some.inj h), hp3.keep (by decide), hp7.keep (by decide), hp8.keep (by decide), hp9.keep (by decide), hp10.keep (by decide), hpr.keep (by decide) (by decide)⟩
    · refine wpOp_plain rfl rfl ?_
      go_simp
      exact ⟨⟨by simp [hsz.out], hx.out.same⟩, upd z 52 (.pointer (some ⟨w.heap.size, 35, none⟩)), (by unfold Hid; simp [upd]), hz.next apx hsz.out 5 (by decide) _ (fun _ h => Option.some.inj h), hp3.keep (by decide), hp7.keep (by decide), hp8.keep (by decide), hp9.keep (by decide), hp10.keep (by decide), hpr.keep (by decide) (by decide)⟩
    · have e5 : z 52 = .pointer (some ⟨w.heap.size, 35, none⟩) := hz 5 _ (hw 5 (by kernel_rfl)) rfl
      have row := hx.out.at H0.out HNe.out
      have d1 : wx.cell? ⟨w.heap.size, 35, none⟩ = some (.int .i64 x.lv) := (cell_row row 35).trans (x.ct Ox.out.hl 0)
      have d2 : wx.cell? ⟨w.heap.size, 36, none⟩ = some (.int .u64 (x.cp : Nat)) := (cell_row row 36).trans (x.ct Ox.out.hl 1)
      refine wpOp_plain rfl rfl ?_
      go_simp
      exact ⟨⟨by simp [hsz.out], hx.out.same⟩, upd z 53 (.agg #[.int .i64 x.lv, .int .u64 (x.cp : Nat)]), (by unfold Hid; simp [upd, e5]), hz.next apx hsz.out 6 (by decide) _ (fun _ h => Option.some.inj h), hp3.keep (by decide), hp7.keep (by decide), hp8.keep (by decide), hp9.keep (by decide), hp10.keep (by decide), hpr.keep (by decide) (by decide)⟩
    · have e6 : z 53 = .agg #[.int .i64 x.lv, .int .u64 (x.cp : Nat)] := hz 6 _ (hw 6 (by kernel_rfl)) rfl
      refine wpOp_plain rfl rfl ?_
      go_simp
      go_at_call 32
      refine (rlabel x.lv x.cp Ox.out.cp _).mono ?_
      rintro e w' ⟨vr, rfl, own, low⟩
      exact ⟨⟨by simp [hsz.out], hx.out.call low⟩, upd z 54 (vr), (by unfold Hid; simp [upd, e6]), hz.next apx hsz.out 7 (by decide) _ (fun _ h => by cases h), (hp3.keep (by decide)).map (fun h => h.later low), Whu.done (own.sl), (hp8.keep (by decide)).map (fun h => h.later low), (hp9.keep (by decide)).map (fun h => h.later low), (hp10.keep (by decide)).map (fun h => h.later low), hpr.keep (by decide) (by decide)⟩
    · have e4 : z 51 = vc := hz 4 _ (hw 4 (by kernel_rfl)) rfl
      have p7 := hp7.get (hw 7 (by kernel_rfl)) hu
      refine wpOp_plain rfl rfl (wp_app_at (.tmp 51) (.tmp 54) rfl base vc M e4 (HC.out.later (hx.out.2 hu)) (z 54) (labelL x.lv x.cp) rfl p7 HE.out.1 (by have := HE.out.2; omega) (Nat.le_trans Hbs.out hx.out.1.size) ?_)
      intro vr w' own gr hat
      go_simp
      exact ⟨⟨by simp [hsz.out], hx.out.app gr (by rw [hsz.out]; decide)⟩, upd z 55 (vr), (by unfold Hid; simp [upd, e4]), hz.next apx hsz.out 8 (by decide) _ (fun _ h => by cases h), (hp3.keep (by decide)).map (fun h => h.off gr Hvc.out), Whu.past (by rw [hsz.out]; decide), Whn.done (⟨own, rfl⟩), (hp9.keep (by decide)).map (fun h => h.off gr Hvc.out), Whn.never (by decide) (fun hl => hcl 10 8 hl (by kernel_rfl)) hu, Pair.right (by decide) (fun hl => ap_app (hp3.get hl).1 Hvc.out hat)⟩
    · have p3 := hp3.get (hw 3 (by kernel_rfl))
      refine wpOp_plain rfl rfl ?_
      go_simp
      exact ⟨⟨by simp [hsz.out], hx.out.same⟩, upd z 6 (z 50), (by unfold Hid; simp [upd]), hz.next apx hsz.out 9 (by decide) _ (fun _ h => by cases h), hp3.keep (by decide), hp7.keep (by decide), hp8.keep (by decide), Whn.done (p3), hp10.keep (by decide), hpr.keep (by decide) (by decide)⟩
    · have p8 := hp8.get (hw 8 (by kernel_rfl))
      refine wpOp_plain rfl rfl ?_
      go_simp
      exact ⟨⟨by simp [hsz.out], hx.out.same⟩, upd z 7 (z 55), (by unfold Hid; simp [upd]), hz.next apx hsz.out 10 (by decide) _ (fun _ h => by cases h), hp3.keep (by decide), hp7.keep (by decide), hp8.keep (by decide), hp9.keep (by decide), Whn.done (p8), hpr.keep (by decide) (by decide)⟩
  · exact ⟨⟨rfl, RelU.start⟩, fun xx => (#[vb, vc, .agg x.cells, undef, undef, .pointer (some ⟨w.heap.size, 0, none⟩), .slice none 0 0, .slice none 0 0, undef, .pointer (some ⟨w.heap.size, 0, none⟩), .int .u8 x.k, .int .u8 (x.k % 5), .bool false, .bool false, undef, undef, undef, undef, undef, undef, undef, undef, undef, .bool false, .bool false, undef, undef, undef, undef, undef, undef, undef, undef, undef, .bool false, .bool false, undef, undef, undef, undef, undef, undef, undef, undef, undef, .bool true, .bool true, undef, undef, undef, undef, undef, undef, undef, undef, undef, undef, undef, undef, undef, undef, undef, undef, undef, undef, undef, undef, undef] : Array Value).getD xx undef, rfl, Holding.start, Whn.none (by decide), Whu.none (by decide), Whn.none (by decide), Whn.none (by decide), Whn.none (by decide), Pair.start (by decide)⟩
theorem built_vtx (h : List Int) (n : Int) (hl : h.length = 32) : Try.prog.built 55 [(0, .agg (u8s h)), (1, .int .i64 n)] = some (vtxC h n) := by
  obtain ⟨f, hf⟩ : ∃ f : Nat → Int, h = (List.range 32).map f := ⟨fun j => h.getD j 0, by
    apply List.ext_getElem
    · simp [hl]
    · intro i h1 h2
      simp [h1]⟩
  subst hf
  kernel_rfl
set_option maxRecDepth 100000 in
set_option maxHeartbeats 4000000 in
theorem written4 {L M : List Int} {vb vc : Value} {base : Nat} (x : Val) (ox : x.Ok) (hs : x.s.size ≤ 300) (hk : x.k % 5 = 4) (w : World) (hb : SlB L vb w) (hc : NewB base M vc w) (hap : Ap vb vc) (hbase : base ≤ w.heap.size) (hL : L.length ≤ 39000) (hM : M.length ≤ 39000) :
    Calls Try.prog 11 #[vb, vc, .agg x.cells] w fun e w' => ∃ v1 v2, e = .returned (.tuple #[v1, v2]) ∧ NewB w.heap.size (L ++ vertexL x.h x.n) v1 w' ∧ NewB base (M ++ vertexL x.h x.n) v2 w' ∧ Ap v1 v2 ∧ w.grownBy w' vc.ownBlock := by
  have HE : Hid (0 < (vertexL x.h x.n).length ∧ (vertexL x.h x.n).length ≤ 5000) := by
    show _ ∧ _
    have := ox.hl
    have := encN_le (uN (x.n + 2))
    unfold vertexL
    rw [List.length_append]
    omega
  have h0 := Go.heap_alloc_new w (.cells x.cells 36)
  have k0 : Below w.heap.size w (w.alloc (.cells x.cells 36)) := (Below.refl _ _).alloc (Nat.le_refl _) _
  obtain ⟨w2, hw2⟩ : ∃ w2, w2 = w.alloc (.cells x.cells 36) := ⟨_, rfl⟩
  rw [← hw2] at h0 k0
  have a0 : w2.cell? ⟨w.heap.size, 0, none⟩ = some (.int .u8 x.k) := (cell_row h0 0).trans x.c0
  have hk0 := ox.k0
  have hn0 : ¬ x.k % 5 = 0 := by omega
  have hn1 : ¬ x.k % 5 = 1 := by omega
  have hn2 : ¬ x.k % 5 = 2 := by omega
  have hn3 : ¬ x.k % 5 = 3 := by omega
  have HB := Lib.hid (hb.at k0 (Nat.le_refl _))
  have HC := Lib.hid (hc.later k0)
  have Hlow := Lib.hid k0
  have H0 := Lib.hid h0
  have Hap := Lib.hid hap
  have Hvc : Hid (∀ k, vc.ownBlock = some k → k < w2.heap.size) := fun k hk => Nat.lt_of_lt_of_le (World.ownsRow.lt hc k hk).2 k0.size
  have HNe : Hid (some w.heap.size ≠ vc.ownBlock) := fun e => by have := (World.ownsRow.lt hc _ e.symm).2; omega
  have Hw2 := Lib.hid hw2
  have Ox := Lib.hid ox
  have Hs := Lib.hid hs
  have Hbs := Lib.hid (Nat.le_trans hbase k0.size)
  have HI : Hid ((Try.prog.info? 32).map (·.size) = some (x.h.map (Value.int .u8)).length) := by show _ = _; rw [List.length_map, ox.hl]; exact infoH32
  clear hb hc hap h0 k0 hw2 ox hs
  go_enter Try.func11, Try.ntmps11
  go_upto_region 1 with (fail)
  rw [← Hw2.out]
  clear Hw2
  have Hcr : Hid (w2.rangeAt w.heap.size 3 (x.h.map (Value.int .u8))) := fun j v hv => by rw [cell_row H0.out]; obtain ⟨hj, hv⟩ := vals_get hv; rw [hv]; exact x.ch j hj
  have a37 : w2.cell? ⟨w.heap.size, 37, none⟩ = some (.int .i64 x.n) := (cell_row H0.out 37).trans (x.ct Ox.out.hl 2)
  have HV : Hid ((Try.prog.info? 55).map (·.size) = some (vtxC x.h x.n).size) := by show _ = _; rw [vtxC_size _ _ Ox.out.hl]; exact infoV33
  go_upto_region 10 with (fail)
  refine wp_region_lit ?_
  refine wpList_plain rfl (fun K hK => ?_)
  go_simp
  refine hK _ _ ?_
  clear hK
  clear K
  refine wpList_load_mid rfl 32 (.tmp 56) rfl w.heap.size 3 rfl (x.h.map (Value.int .u8)) _ Hcr.out Try.underlying32 rfl HI.out ?_
  refine wpList_plain rfl (fun K hK => ?_)
  go_simp
  refine hK _ _ ?_
  clear hK
  clear K
  refine wpList_plain rfl (fun K hK => ?_)
  go_simp
  refine hK _ _ ?_
  clear hK
  clear K
  refine wpList_buildTo rfl 55 #[(0, .tmp 57), (1, .tmp 59)] rfl (some 60) rfl (vtxC x.h x.n) (by simp only [List.map_toArray, List.map_cons, List.map_nil]; exact built_vtx x.h x.n Ox.out.hl) ?_
  refine wpList_plain rfl (fun K hK => ?_)
  go_simp
  refine hK _ _ ?_
  clear hK
  clear K
  refine wpList_store_row rfl 55 (.tmp 8) (.tmp 60) rfl w2.heap.size (vtxC x.h x.n) rfl rfl 55 _ (Go.heap_alloc_new w2 _) HV.out (by rw [vtxC_size _ _ Ox.out.hl]; rfl) (vtxC_one _ _) ?_
  rw [World.setRow_alloc_new]
  refine wpList_nil ?_
  go_simp
  obtain ⟨w3, hw3⟩ : ∃ w3, w3 = w2.alloc (.cells (vtxC x.h x.n) 55) := ⟨_, rfl⟩
  have hxo : Below w2.heap.size w2 w3 := by rw [hw3]; exact (Below.refl _ _).alloc (Nat.le_refl _) _
  have hrow : w3.heap[w2.heap.size]? = some (.cells (vtxC x.h x.n) 55 (0, 0)) := by rw [hw3]; exact Go.heap_alloc_new w2 _
  rw [← hw3]
  clear hw3 a37 a0 Hcr
  have HB3 := Lib.hid (HB.out.at hxo (Nat.le_refl _))
  have HC3 := Lib.hid (HC.out.later hxo)
  have HR := Lib.hid hrow
  have HNg : Hid (some w2.heap.size ≠ vc.ownBlock) := fun e => by have := Hvc.out _ e.symm; omega
  have Hvc3 : Hid (∀ k, vc.ownBlock = some k → k < w3.heap.size) := fun k hk => Nat.lt_of_lt_of_le (Hvc.out k hk) hxo.size
  have Hbs3 := Lib.hid (Nat.le_trans Hbs.out hxo.size)
  have Hlow3 := Lib.hid (Hlow.out.trans (hxo.mono Hlow.out.size))
  clear hxo hrow
  obtain ⟨GV, hGV⟩ : ∃ g, g = w2.heap.size := ⟨_, rfl⟩
  rw [← hGV] at HR HNg ⊢
  clear hGV
  go_upto_region 11 with (fail)
  have apx : apartB [61, 62, 63, 64, 65, 66, 67, 6, 7] = true := by decide
  refine wp_region_any (by kernel_rfl) ?_
  change wpAny _ _ _ _ _ _ _ (World.drew _)
  refine wpAny_inv2 (fun ll aa wx => Hid (ll.size = 9 ∧ RelU 6 vc.ownBlock w3 ll wx) ∧ ∃ (z : Nat → Value), Hid (aa = ⟨#[vb, vc, .agg x.cells, undef, undef, .pointer (some ⟨w.heap.size, 0, none⟩), z 6, z 7, .pointer (some ⟨GV, 0, none⟩), .pointer (some ⟨w.heap.size, 0, none⟩), .int .u8 x.k, .int .u8 4, .bool false, .bool false, undef, undef, undef, undef, undef, undef, undef, undef, undef, .bool false, .bool false, undef, undef, undef, undef, undef, undef, undef, undef, undef, .bool false, .bool false, undef, undef, undef, undef, undef, undef, undef, undef, undef, .bool false, .bool false, undef, undef, undef, undef, undef, undef, undef, undef, undef, .pointer (some ⟨w.heap.size, 3, none⟩), .agg (u8s x.h), .pointer (some ⟨w.heap.size, 37, none⟩), .int .i64 x.n, .agg (vtxC x.h x.n), z 61, z 62, z 63, z 64, z 65, z 66, z 67], []⟩) ∧ Holding [61, 62, 63, 64, 65, 66, 67, 6, 7] [some (vb), some (.agg (vtxC x.h x.n)), none, some (vc), some (.agg (vtxC x.h x.n)), none, none, none, none] ll z ∧ Whn ll 2 (NewE w3.heap.size (L ++ vertexL x.h x.n) (z 63)) (z 63) wx ∧ Whu ll 5 6 (SlB (vertexL x.h x.n)) (z 66) wx ∧ Whn ll 6 (NewE base (M ++ vertexL x.h x.n) (z 67)) (z 67) wx ∧ Whn ll 7 (NewE w3.heap.size (L ++ vertexL x.h x.n) (z 63)) (z 6) wx ∧ Whn ll 8 (NewE base (M ++ vertexL x.h x.n) (z 67)) (z 7) wx ∧ Pair ll 2 6 (z 63) (z 67)) ?_ (by kernel_rfl) ?_ ?_ _ rfl _ _ ?_
  · rintro ll aa wx ⟨hI, _⟩
    exact hI.out.1
  · rintro ll aa wx ⟨hI, z, ha, hz, hp2, hp5, hp6, hp7, hp8, hpr⟩ hall
    have hx := Lib.hid hI.out.2
    have e0 : z 61 = vb := hz 0 _ (hall 0 (by decide)) rfl
    have e1 : z 62 = .agg (vtxC x.h x.n) := hz 1 _ (hall 1 (by decide)) rfl
    have e3 : z 64 = vc := hz 3 _ (hall 3 (by decide)) rfl
    have e4 : z 65 = .agg (vtxC x.h x.n) := hz 4 _ (hall 4 (by decide)) rfl
    have p2 := hp2.get (hall 2 (by decide))
    have p6 := hp6.get (hall 6 (by decide))
    have p7 := hp7.get (hall 7 (by decide))
    have p8 := hp8.get (hall 8 (by decide))
    have hpair := hpr (hall 2 (by decide)) (hall 6 (by decide))
    clear hall hz hI hp2 hp5 hp6 hp7 hp8 hpr
    obtain rfl := ha.out
    clear ha
    clear apx
    have HA : Hid (Ap (z 6) (z 7)) := by show Ap _ _; rw [p7.2, p8.2]; exact hpair
    have P9 := Lib.hid (p7.1.base Hlow3.out.size)
    have P10 := Lib.hid p8.1
    have G := Lib.hid hx.out.1
    clear e0 e1 e3 e4 p2 p6 p7 p8 hpair hx
    go_wp2
    go_ret2
    exact ⟨_, _, rfl, P9.out, P10.out, HA.out, (grown_below Hlow3.out).trans G.out⟩
  · rintro ll aa wx i ⟨hI, z, ha, hz, hp2, hp5, hp6, hp7, hp8, hpr⟩ hcl hi hu hw
    obtain rfl := ha.out
    have hsz := Lib.hid hI.out.1
    have hx := Lib.hid hI.out.2
    clear ha hI
    have hin : i < 9 := hi
    obtain rfl | rfl | rfl | rfl | rfl | rfl | rfl | rfl | rfl : i = 0 ∨ i = 1 ∨ i = 2 ∨ i = 3 ∨ i = 4 ∨ i = 5 ∨ i = 6 ∨ i = 7 ∨ i = 8 := by omega
    · refine wpOp_plain rfl rfl ?_
      go_simp
      exact ⟨⟨by simp [hsz.out], hx.out.same⟩, upd z 61 (vb), (by unfold Hid; simp [upd]), hz.next apx hsz.out 0 (by decide) _ (fun _ h => Option.some.inj h), hp2.keep (by decide), hp5.keep (by decide), hp6.keep (by decide), hp7.keep (by decide), hp8.keep (by decide), hpr.keep (by decide) (by decide)⟩
    · have row := hx.out.at HR.out HNg.out
      refine wpOp_plain rfl rfl (wp_load_row 55 (.tmp 8) rfl (GV) rfl 55 (vtxC x.h x.n) (0, 0) _ row Try.underlying55 rfl HV.out ?_)
      go_simp
      exact ⟨⟨by simp [hsz.out], hx.out.same⟩, upd z 62 (.agg (vtxC x.h x.n)), (by unfold Hid; simp [upd]), hz.next apx hsz.out 1 (by decide) _ (fun _ h => Option.some.inj h), hp2.keep (by decide), hp5.keep (by decide), hp6.keep (by decide), hp7.keep (by decide), hp8.keep (by decide), hpr.keep (by decide) (by decide)⟩
    · have e0 : z 61 = vb := hz 0 _ (hw 0 (by kernel_rfl)) rfl
      have e1 : z 62 = .agg (vtxC x.h x.n) := hz 1 _ (hw 1 (by kernel_rfl)) rfl
      refine wpOp_plain rfl rfl ?_
      go_simp
      go_at_call 33
      refine (vertex_v x.n Ox.out.hl (SlB.off HB3.out hx.out.1 Hap.out) (by omega)).mono ?_
      rintro e w' ⟨vr, rfl, own, low⟩
      exact ⟨⟨by simp [hsz.out], hx.out.call low⟩, upd z 63 (vr), (by unfold Hid; simp [upd, e0, e1]), hz.next apx hsz.out 2 (by decide) _ (fun _ h => by cases h), Whn.done (⟨own.base hx.out.1.size, rfl⟩), (hp5.keep (by decide)).map (fun h => h.later low), (hp6.keep (by decide)).map (fun h => h.later low), Whn.never (by decide) (fun hl => hcl 7 2 hl (by kernel_rfl)) hu, (hp8.keep (by decide)).map (fun h => h.later low), Pair.left (by decide) (fun hl => ap_new own (hp6.get hl).1 (Nat.le_refl _))⟩
    · refine wpOp_plain rfl rfl ?_
      go_simp
      exact ⟨⟨by simp [hsz.out], hx.out.same⟩, upd z 64 (vc), (by unfold Hid; simp [upd]), hz.next apx hsz.out 3 (by decide) _ (fun _ h => Option.some.inj h), hp2.keep (by decide), hp5.keep (by decide), hp6.keep (by decide), hp7.keep (by decide), hp8.keep (by decide), hpr.keep (by decide) (by decide)⟩
    · have row := hx.out.at HR.out HNg.out
      refine wpOp_plain rfl rfl (wp_load_row 55 (.tmp 8) rfl (GV) rfl 55 (vtxC x.h x.n) (0, 0) _ row Try.underlying55 rfl HV.out ?_)
      go_simp
      exact ⟨⟨by simp [hsz.out], hx.out.same⟩, upd z 65 (.agg (vtxC x.h x.n)), (by unfold Hid; simp [upd]), hz.next apx hsz.out 4 (by decide) _ (fun _ h => Option.some.inj h), hp2.keep (by decide), hp5.keep (by decide), hp6.keep (by decide), hp7.keep (by decide), hp8.keep (by decide), hpr.keep (by decide) (by decide)⟩
    · have e4 : z 65 = .agg (vtxC x.h x.n) := hz 4 _ (hw 4 (by kernel_rfl)) rfl
      refine wpOp_plain rfl rfl ?_
      go_simp
      go_at_call 34
      refine (rvertex x.h x.n Ox.out.hl _).mono ?_
      rintro e w' ⟨vr, rfl, own, low⟩
      exact ⟨⟨by simp [hsz.out], hx.out.call low⟩, upd z 66 (vr), (by unfold Hid; simp [upd, e4]), hz.next apx hsz.out 5 (by decide) _ (fun _ h => by cases h), (hp2.keep (by decide)).map (fun h => h.later low), Whu.done (own.sl), (hp6.keep (by decide)).map (fun h => h.later low), (hp7.keep (by decide)).map (fun h => h.later low), (hp8.keep (by decide)).map (fun h => h.later low), hpr.keep (by decide) (by decide)⟩
    · have e3 : z 64 = vc := hz 3 _ (hw 3 (by kernel_rfl)) rfl
      have p5 := hp5.get (hw 5 (by kernel_rfl)) hu
      refine wpOp_plain rfl rfl (wp_app_at (.tmp 64) (.tmp 66) rfl base vc M e3 (HC3.out.later (hx.out.2 hu)) (z 66) (vertexL x.h x.n) rfl p5 HE.out.1 (by have := HE.out.2; omega) (Nat.le_trans Hbs3.out hx.out.1.size) ?_)
      intro vr w' own gr hat
      go_simp
      exact ⟨⟨by simp [hsz.out], hx.out.app gr (by rw [hsz.out]; decide)⟩, upd z 67 (vr), (by unfold Hid; simp [upd, e3]), hz.next apx hsz.out 6 (by decide) _ (fun _ h => by cases h), (hp2.keep (by decide)).map (fun h => h.off gr Hvc3.out), Whu.past (by rw [hsz.out]; decide), Whn.done (⟨own, rfl⟩), (hp7.keep (by decide)).map (fun h => h.off gr Hvc3.out), Whn.never (by decide) (fun hl => hcl 8 6 hl (by kernel_rfl)) hu, Pair.right (by decide) (fun hl => ap_app (hp2.get hl).1 Hvc3.out hat)⟩
    · have p2 := hp2.get (hw 2 (by kernel_rfl))
      refine wpOp_plain rfl rfl ?_
      go_simp
      exact ⟨⟨by simp [hsz.out], hx.out.same⟩, upd z 6 (z 63), (by unfold Hid; simp [upd]), hz.next apx hsz.out 7 (by decide) _ (fun _ h => by cases h), hp2.keep (by decide), hp5.keep (by decide), hp6.keep (by decide), Whn.done (p2), hp8.keep (by decide), hpr.keep (by decide) (by decide)⟩
    · have p6 := hp6.get (hw 6 (by kernel_rfl))
      refine wpOp_plain rfl rfl ?_
      go_simp
      exact ⟨⟨by simp [hsz.out], hx.out.same⟩, upd z 7 (z 67), (by unfold Hid; simp [upd]), hz.next apx hsz.out 8 (by decide) _ (fun _ h => by cases h), hp2.keep (by decide), hp5.keep (by decide), hp6.keep (by decide), hp7.keep (by decide), Whn.done (p6), hpr.keep (by decide) (by decide)⟩
  · exact ⟨⟨rfl, RelU.start⟩, fun xx => (#[vb, vc, .agg x.cells, undef, undef, .pointer (some ⟨w.heap.size, 0, none⟩), .slice none 0 0, .slice none 0 0, .pointer (some ⟨GV, 0, none⟩), .pointer (some ⟨w.heap.size, 0, none⟩), .int .u8 x.k, .int .u8 4, .bool false, .bool false, undef, undef, undef, undef, undef, undef, undef, undef, undef, .bool false, .bool false, undef, undef, undef, undef, undef, undef, undef, undef, undef, .bool false, .bool false, undef, undef, undef, undef, undef, undef, undef, undef, undef, .bool false, .bool false, undef, undef, undef, undef, undef, undef, undef, undef, undef, .pointer (some ⟨w.heap.size, 3, none⟩), .agg (u8s x.h), .pointer (some ⟨w.heap.size, 37, none⟩), .int .i64 x.n, .agg (vtxC x.h x.n), undef, undef, undef, undef, undef, undef, undef] : Array Value).getD xx undef, rfl, Holding.start, Whn.none (by decide), Whu.none (by decide), Whn.none (by decide), Whn.none (by decide), Whn.none (by decide), Pair.start (by decide)⟩
/-- a Value's bytes. -/
def encV (x : Val) : List Int := if x.k % 5 = 0 then encN x.num else if x.k % 5 = 1 then textL x.s else if x.k % 5 = 2 then x.h else if x.k % 5 = 3 then labelL x.lv x.cp else vertexL x.h x.n
theorem encV_in {x : Val} (ox : x.Ok) (hs : x.s.size ≤ 300) : InB (encV x) ∧ (encV x).length ≤ 320 := by
  have hl := ox.hl
  have k1 := encN_le x.num
  have k2 := encN_le x.s.size
  have k3 := bOf_length x.s
  have k4 := encN_le (uN x.lv)
  have k5 := compL_length x.cp
  have k6 := encN_le (uN (x.n + 2))
  unfold encV
  split
  · exact ⟨encN_in ox.num, by omega⟩
  · split
    · exact ⟨(textL_small (Nat.le_trans hs (by decide))).1, by unfold textL; rw [List.length_append]; omega⟩
    · split
      · exact ⟨ox.hb, by omega⟩
      · split
        · exact ⟨(labelL_small x.lv x.cp).1, by unfold labelL; rw [List.length_append]; omega⟩
        · exact ⟨ox.hb.append (encN_in (uN_lt _)), by unfold vertexL; rw [List.length_append]; omega⟩
theorem written_any {L M : List Int} {vb vc : Value} {base : Nat} (x : Val) (ox : x.Ok) (hs : x.s.size ≤ 300) (w : World) (hb : SlB L vb w) (hc : NewB base M vc w) (hap : Ap vb vc) (hbase : base ≤ w.heap.size) (hL : L.length ≤ 39000) (hM : M.length ≤ 39000) :
    Calls Try.prog 11 #[vb, vc, .agg x.cells] w fun e w' => ∃ v1 v2, e = .returned (.tuple #[v1, v2]) ∧ NewB w.heap.size (L ++ encV x) v1 w' ∧ NewB base (M ++ encV x) v2 w' ∧ Ap v1 v2 ∧ w.grownBy w' vc.ownBlock := by
  have h5 := ox.k0
  unfold encV
  by_cases k0 : x.k % 5 = 0
  · rw [if_pos k0]; exact written0 x ox hs k0 w hb hc hap hbase hL hM
  · rw [if_neg k0]
    by_cases k1 : x.k % 5 = 1
    · rw [if_pos k1]; exact written1 x ox hs k1 w hb hc hap hbase hL hM
    · rw [if_neg k1]
      by_cases k2 : x.k % 5 = 2
      · rw [if_pos k2]; exact written2 x ox hs k2 w hb hc hap hbase hL hM
      · rw [if_neg k2]
        by_cases k3 : x.k % 5 = 3
        · rw [if_pos k3]; exact written3 x ox hs k3 w hb hc hap hbase hL hM
        · rw [if_neg k3]; exact written4 x ox hs (by omega) w hb hc hap hbase hL hM
end Go.Proofs.Ytigfcmnknijobaa.Cod
