/- DERIVED. Texts of ours, merged: XGrfOrder XGrfHeap XGrfEdg. -/
import Derived.Test.YtnjeppmpnaemlaaDoorMrk9
import Derived.Test.YtnjeppmpnaemlaaDoorMrk2
/- DERIVED. Order: by the hash, then by the number. Written by mkorder.py. -/
set_option maxRecDepth 100000
namespace Go.Proofs.YtnjeppmpnaemlaaDoor.Grf
open Go.RowKit Str Go.Maps
attribute [local go_sem ↓ high] loadAtVx loadAtHs
/-- two numbers in a row of their own. -/
def TwoI (x y : Int) (z : Value) (w : World) : Prop := ∃ q, z = .slice (some ⟨q, 0, none⟩) 2 2 ∧ w.cell? ⟨q, 0, none⟩ = some (.int .i64 x) ∧ w.cell? ⟨q, 1, none⟩ = some (.int .i64 y)
theorem TwoI.later {x y : Int} {z : Value} {w w' : World} (h : TwoI x y z w) (hb : Below w.heap.size w w') : TwoI x y z w' := by
  obtain ⟨q, h1, h2, h3⟩ := h
  exact ⟨q, h1, (hb.cell (World.block_lt_of_cell? _ _ h2)).trans h2, (hb.cell (World.block_lt_of_cell? _ _ h3)).trans h3⟩
theorem hs_box {w : World} {b : Nat} {v : Vx} (h : w.heap[b]? = some (.cells v.c 27 (0, 0))) : w.rangeAt b 0 (hsC v.h).toList :=
  hs_range (row_range h [] v.c.toList [] (by simp) 0 rfl)
theorem n_box {w : World} {b : Nat} {v : Vx} (h : w.heap[b]? = some (.cells v.c 27 (0, 0))) : w.cell? ⟨b, 32, none⟩ = some (.int .i64 v.n) := by
  have := row_range h [] v.c.toList [] (by simp) 0 rfl 32 (.int .i64 v.n) (by rw [Vx.c_list, List.getElem?_append_right (by simp [v.len])]; simp [v.len])
  simpa using this
set_option maxHeartbeats 4000000 in
theorem order_any (a b : Vx) (w : World) :
    Calls Tryd.prog 142 #[.agg a.c, .agg b.c] w fun e w' => e = .returned (.int .i64 (ordV a b)) ∧ Below w.heap.size w w' := by
  have h2 := two_new w (.cells a.c 27) (.cells b.c 27)
  have k2 : Below w.heap.size w ((w.alloc (.cells a.c 27)).alloc (.cells b.c 27)) := ((Below.refl _ _).alloc (Nat.le_refl _) _).alloc (by rw [World.size_alloc]; omega) _
  obtain ⟨W, hW⟩ : ∃ W, W = (w.alloc (.cells a.c 27)).alloc (.cells b.c 27) := ⟨_, rfl⟩
  rw [← hW] at h2 k2
  have HW := Lib.hid hW.symm
  have HA : Hid (W.heap[w.heap.size]? = some (.cells a.c 27 (0, 0))) := h2.1
  have HB : Hid (W.heap[w.heap.size + 1]? = some (.cells b.c 27 (0, 0))) := h2.2
  have K2 := Lib.hid k2
  obtain ⟨p, hp⟩ : ∃ p, p = w.heap.size := ⟨_, rfl⟩
  have HP := Lib.hid hp.symm
  clear h2 k2 hW hp
  go_enter Tryd.func142, Tryd.ntmps142
  go_upto_region 1 with (fail)
  rw [HW.out]
  rw [HP.out] at HA HB ⊢
  obtain ⟨q, hq⟩ : ∃ q, q = p + 1 := ⟨_, rfl⟩
  rw [← hq] at HB ⊢
  clear hq
  have HAn : Hid (W.cell? ⟨p, 32, none⟩ = some (.int .i64 a.n)) := n_box HA.out
  have HBn : Hid (W.cell? ⟨q, 32, none⟩ = some (.int .i64 b.n)) := n_box HB.out
  have apx : apartB [5, 6, 7, 8, 9, 10, 11, 12, 13, 14, 15, 16, 4] = true := by decide
  refine wp_region_any (by kernel_rfl) ?_
  change wpAny _ _ _ _ _ _ _ (World.drew _)
  refine wpAny_inv (fun ll aa wx => Hid (ll.size = 13 ∧ Below W.heap.size W wx) ∧ ∃ (z : Nat → Value), Hid (aa = ⟨#[.agg a.c, .agg b.c, ptr p, ptr q, z 4, z 5, z 6, z 7, z 8, z 9, z 10, z 11, z 12, z 13, z 14, z 15, z 16], []⟩) ∧ Holding [5, 6, 7, 8, 9, 10, 11, 12, 13, 14, 15, 16, 4] [some (.pointer (some ⟨p, 0, none⟩)), some (.slice (some ⟨p, 0, none⟩) 32 32), some (.pointer (some ⟨q, 0, none⟩)), some (.slice (some ⟨q, 0, none⟩) 32 32), some (.int .i64 (cmpL a.h b.h)), some (.pointer (some ⟨p, 32, none⟩)), some (.int .i64 a.n), some (.pointer (some ⟨q, 32, none⟩)), some (.int .i64 b.n), some (.int .i64 (cmpI a.n b.n)), none, some (.int .i64 (ordV a b)), some (.int .i64 (ordV a b))] ll z ∧ Whn ll 10 (TwoI (cmpL a.h b.h) (cmpI a.n b.n)) (z 15) wx) ?_ (by kernel_rfl) ?_ ?_ _ _ _ _ (unlisted_none _) ?_
  · rintro ll aa wx ⟨hI, _⟩
    exact hI.out.1
  · rintro ll aa wx ⟨hI, z, ha, hz, hp10⟩ hall
    have hx := Lib.hid hI.out.2
    have e0 : z 5 = .pointer (some ⟨p, 0, none⟩) := hz 0 _ (hall 0 (by decide)) rfl
    have e1 : z 6 = .slice (some ⟨p, 0, none⟩) 32 32 := hz 1 _ (hall 1 (by decide)) rfl
    have e2 : z 7 = .pointer (some ⟨q, 0, none⟩) := hz 2 _ (hall 2 (by decide)) rfl
    have e3 : z 8 = .slice (some ⟨q, 0, none⟩) 32 32 := hz 3 _ (hall 3 (by decide)) rfl
    have e4 : z 9 = .int .i64 (cmpL a.h b.h) := hz 4 _ (hall 4 (by decide)) rfl
    have e5 : z 10 = .pointer (some ⟨p, 32, none⟩) := hz 5 _ (hall 5 (by decide)) rfl
    have e6 : z 11 = .int .i64 a.n := hz 6 _ (hall 6 (by decide)) rfl
    have e7 : z 12 = .pointer (some ⟨q, 32, none⟩) := hz 7 _ (hall 7 (by decide)) rfl
    have e8 : z 13 = .int .i64 b.n := hz 8 _ (hall 8 (by decide)) rfl
    have e9 : z 14 = .int .i64 (cmpI a.n b.n) := hz 9 _ (hall 9 (by decide)) rfl
    have e11 : z 16 = .int .i64 (ordV a b) := hz 11 _ (hall 11 (by decide)) rfl
    have e12 : z 4 = .int .i64 (ordV a b) := hz 12 _ (hall 12 (by decide)) rfl
    have p10 := hp10.get (hall 10 (by decide))
    clear hall hz hI hp10
    obtain rfl := ha.out
    clear ha
    clear apx
    have HX := Lib.hid hx.out
    clear p10 hx
    rw [e12]
    go_wp2
    go_ret
    exact ⟨rfl, K2.out.trans (HX.out.mono K2.out.size)⟩
  · rintro ll aa wx i ⟨hI, z, ha, hz, hp10⟩ hi hu hw
    obtain rfl := ha.out
    have hsz := Lib.hid hI.out.1
    have hx := Lib.hid hI.out.2
    clear ha hI
    have hin : i < 13 := hi
    obtain rfl | rfl | rfl | rfl | rfl | rfl | rfl | rfl | rfl | rfl | rfl | rfl | rfl : i = 0 ∨ i = 1 ∨ i = 2 ∨ i = 3 ∨ i = 4 ∨ i = 5 ∨ i = 6 ∨ i = 7 ∨ i = 8 ∨ i = 9 ∨ i = 10 ∨ i = 11 ∨ i = 12 := by omega
    · refine wpOp_plain rfl rfl ?_
      go_simp
      exact ⟨⟨by simp [hsz.out], hx.out⟩, upd z 5 (.pointer (some ⟨p, 0, none⟩)), (by unfold Hid; simp [upd]), hz.next apx hsz.out 0 (by decide) _ (fun _ h => Option.some.inj h), hp10.keep (by decide)⟩
    · have e0 : z 5 = .pointer (some ⟨p, 0, none⟩) := hz 0 _ (hw 0 (by kernel_rfl)) rfl
      refine wpOp_plain rfl rfl ?_
      go_simp
      exact ⟨⟨by simp [hsz.out], hx.out⟩, upd z 6 (.slice (some ⟨p, 0, none⟩) 32 32), (by unfold Hid; simp [upd, e0]), hz.next apx hsz.out 1 (by decide) _ (fun _ h => Option.some.inj h), hp10.keep (by decide)⟩
    · refine wpOp_plain rfl rfl ?_
      go_simp
      exact ⟨⟨by simp [hsz.out], hx.out⟩, upd z 7 (.pointer (some ⟨q, 0, none⟩)), (by unfold Hid; simp [upd]), hz.next apx hsz.out 2 (by decide) _ (fun _ h => Option.some.inj h), hp10.keep (by decide)⟩
    · have e2 : z 7 = .pointer (some ⟨q, 0, none⟩) := hz 2 _ (hw 2 (by kernel_rfl)) rfl
      refine wpOp_plain rfl rfl ?_
      go_simp
      exact ⟨⟨by simp [hsz.out], hx.out⟩, upd z 8 (.slice (some ⟨q, 0, none⟩) 32 32), (by unfold Hid; simp [upd, e2]), hz.next apx hsz.out 3 (by decide) _ (fun _ h => Option.some.inj h), hp10.keep (by decide)⟩
    · have e1 : z 6 = .slice (some ⟨p, 0, none⟩) 32 32 := hz 1 _ (hw 1 (by kernel_rfl)) rfl
      have e3 : z 8 = .slice (some ⟨q, 0, none⟩) 32 32 := hz 3 _ (hw 3 (by kernel_rfl)) rfl
      refine wpOp_plain rfl rfl ?_
      go_simp
      go_at_call 144
      refine (bcmp_any (w := wx) (hs_box (at_below HA.out hx.out)) (hs_box (at_below HB.out hx.out))).mono ?_
      rintro e w8 ⟨rfl, hw8⟩
      rw [hw8]
      exact ⟨⟨by simp [hsz.out], hx.out⟩, upd z 9 (.int .i64 (cmpL a.h b.h)), (by unfold Hid; simp [upd, e1, e3]), hz.next apx hsz.out 4 (by decide) _ (fun _ h => Option.some.inj h), hp10.keep (by decide)⟩
    · refine wpOp_plain rfl rfl ?_
      go_simp
      exact ⟨⟨by simp [hsz.out], hx.out⟩, upd z 10 (.pointer (some ⟨p, 32, none⟩)), (by unfold Hid; simp [upd]), hz.next apx hsz.out 5 (by decide) _ (fun _ h => Option.some.inj h), hp10.keep (by decide)⟩
    · have e5 : z 10 = .pointer (some ⟨p, 32, none⟩) := hz 5 _ (hw 5 (by kernel_rfl)) rfl
      have cl : wx.cell? ⟨p, 32, none⟩ = some (.int .i64 a.n) := (hx.out.cell (p := ⟨p, 32, none⟩) (World.block_lt_of_cell? _ _ HAn.out)).trans HAn.out
      refine wpOp_plain rfl rfl ?_
      go_simp
      exact ⟨⟨by simp [hsz.out], hx.out⟩, upd z 11 (.int .i64 a.n), (by unfold Hid; simp [upd, e5]), hz.next apx hsz.out 6 (by decide) _ (fun _ h => Option.some.inj h), hp10.keep (by decide)⟩
    · refine wpOp_plain rfl rfl ?_
      go_simp
      exact ⟨⟨by simp [hsz.out], hx.out⟩, upd z 12 (.pointer (some ⟨q, 32, none⟩)), (by unfold Hid; simp [upd]), hz.next apx hsz.out 7 (by decide) _ (fun _ h => Option.some.inj h), hp10.keep (by decide)⟩
    · have e7 : z 12 = .pointer (some ⟨q, 32, none⟩) := hz 7 _ (hw 7 (by kernel_rfl)) rfl
      have cl : wx.cell? ⟨q, 32, none⟩ = some (.int .i64 b.n) := (hx.out.cell (p := ⟨q, 32, none⟩) (World.block_lt_of_cell? _ _ HBn.out)).trans HBn.out
      refine wpOp_plain rfl rfl ?_
      go_simp
      exact ⟨⟨by simp [hsz.out], hx.out⟩, upd z 13 (.int .i64 b.n), (by unfold Hid; simp [upd, e7]), hz.next apx hsz.out 8 (by decide) _ (fun _ h => Option.some.inj h), hp10.keep (by decide)⟩
    · have e6 : z 11 = .int .i64 a.n := hz 6 _ (hw 6 (by kernel_rfl)) rfl
      have e8 : z 13 = .int .i64 b.n := hz 8 _ (hw 8 (by kernel_rfl)) rfl
      refine wpOp_plain rfl rfl ?_
      go_simp
      go_at_call 82
      refine (cmpI_any a.n b.n wx).mono ?_
      rintro e w8 ⟨rfl, hw8⟩
      rw [hw8]
      exact ⟨⟨by simp [hsz.out], hx.out⟩, upd z 14 (.int .i64 (cmpI a.n b.n)), (by unfold Hid; simp [upd, e6, e8]), hz.next apx hsz.out 9 (by decide) _ (fun _ h => Option.some.inj h), hp10.keep (by decide)⟩
    · have e4 : z 9 = .int .i64 (cmpL a.h b.h) := hz 4 _ (hw 4 (by kernel_rfl)) rfl
      have e9 : z 14 = .int .i64 (cmpI a.n b.n) := hz 9 _ (hw 9 (by kernel_rfl)) rfl
      refine wpOp_plain rfl rfl ?_
      go_simp
      have lown : Below wx.heap.size wx (wx.alloc (.cells #[.int .i64 (cmpL a.h b.h), .int .i64 (cmpI a.n b.n)] 3)) := (Below.refl _ _).alloc (Nat.le_refl _) _
      exact ⟨⟨by simp [hsz.out], hx.out.trans (lown.mono hx.out.size)⟩, upd z 15 (.slice (some ⟨wx.heap.size, 0, none⟩) 2 2), (by unfold Hid; simp [upd, e4, e9]), hz.next apx hsz.out 10 (by decide) _ (fun _ h => by cases h), Whn.done (⟨wx.heap.size, rfl, cell_row (Go.heap_alloc_new wx _) 0, cell_row (Go.heap_alloc_new wx _) 1⟩)⟩
    · have p10 := hp10.get (hw 10 (by kernel_rfl))
      obtain ⟨g, hg, hc0, hc1⟩ := p10
      refine wpOp_plain rfl rfl ?_
      rw [hg]
      go_simp
      go_at_call 143
      refine (orI_any g _ _ wx hc0 hc1).mono ?_
      rintro e w8 ⟨rfl, hw8⟩
      rw [hw8]
      exact ⟨⟨by simp [hsz.out], hx.out⟩, upd z 16 (.int .i64 (ordV a b)), (by unfold Hid; simp [upd, hg, ordV]), hz.next apx hsz.out 11 (by decide) _ (fun _ h => Option.some.inj h), hp10.keep (by decide)⟩
    · have e11 : z 16 = .int .i64 (ordV a b) := hz 11 _ (hw 11 (by kernel_rfl)) rfl
      refine wpOp_plain rfl rfl ?_
      go_simp
      exact ⟨⟨by simp [hsz.out], hx.out⟩, upd z 4 (.int .i64 (ordV a b)), (by unfold Hid; simp [upd, e11]), hz.next apx hsz.out 12 (by decide) _ (fun _ h => Option.some.inj h), hp10.keep (by decide)⟩
  · exact ⟨⟨rfl, (Below.refl _ _).drew⟩, fun xx => (#[.agg a.c, .agg b.c, ptr p, ptr q, .int .i64 0, undef, undef, undef, undef, undef, undef, undef, undef, undef, undef, undef, undef] : Array Value).getD xx undef, (by rfl), Holding.start, Whn.none (by decide)⟩
end Go.Proofs.YtnjeppmpnaemlaaDoor.Grf
/- DERIVED. PLAIN MATHEMATICS: a heap of vertices: two swapped, one moved down, one moved up; the least is at its top. No program. -/
set_option maxRecDepth 100000
namespace Go.Proofs.YtnjeppmpnaemlaaDoor.Grf
open Go.RowKit Str
/-- where what stands at k came from, when i and j change places. -/
def sw (i j k : Nat) : Nat := if k = i then j else if k = j then i else k
def swf (f : Nat → Vx) (i j : Nat) : Nat → Vx := fun k => f (sw i j k)
def HP (f : Nat → Vx) (n : Nat) : Prop := ∀ k, 0 < k → k < n → ordV (f ((k - 1) / 2)) (f k) ≤ 0
def HD (f : Nat → Vx) (n i : Nat) : Prop := (∀ k, 0 < k → k < n → (k - 1) / 2 ≠ i → ordV (f ((k - 1) / 2)) (f k) ≤ 0) ∧ (0 < i → ∀ k, 0 < k → k < n → (k - 1) / 2 = i → ordV (f ((i - 1) / 2)) (f k) ≤ 0)
def HU (f : Nat → Vx) (n j : Nat) : Prop := (∀ k, 0 < k → k < n → k ≠ j → ordV (f ((k - 1) / 2)) (f k) ≤ 0) ∧ (0 < j → ∀ k, 0 < k → k < n → (k - 1) / 2 = j → ordV (f ((j - 1) / 2)) (f k) ≤ 0)
theorem swf_i (f : Nat → Vx) (i j : Nat) : swf f i j i = f j := by simp [swf, sw]
theorem swf_j (f : Nat → Vx) (i j : Nat) : swf f i j j = f i := by
  unfold swf sw
  by_cases h : j = i
  · rw [if_pos h, h]
  · rw [if_neg h, if_pos rfl]
theorem swf_o (f : Nat → Vx) {i j k : Nat} (h : k ≠ i) (h2 : k ≠ j) : swf f i j k = f k := by simp [swf, sw, h, h2]
theorem HP.min {f : Nat → Vx} {n : Nat} (h : HP f n) : ∀ k, k < n → ordV (f 0) (f k) ≤ 0 := by
  intro k
  induction k using Nat.strongRecOn with
  | ind k ih =>
    intro hk
    by_cases h0 : k = 0
    · rw [h0, ordV_self]; omega
    · exact ordV_trans (ih ((k - 1) / 2) (by omega) (by omega)) (h k (by omega) hk)
theorem HD.leaf {f : Nat → Vx} {n i : Nat} (h : HD f n i) (hl : n ≤ 2 * i + 1) : HP f n := fun k h0 hk => h.1 k h0 hk (by omega)
theorem HD.stop {f : Nat → Vx} {n i j : Nat} (h : HD f n i) (hmin : ∀ k, 0 < k → k < n → (k - 1) / 2 = i → ordV (f j) (f k) ≤ 0) (hle : ordV (f i) (f j) ≤ 0) : HP f n := fun k h0 hk => by
  by_cases e : (k - 1) / 2 = i
  · rw [e]; exact ordV_trans hle (hmin k h0 hk e)
  · exact h.1 k h0 hk e
theorem HD.step {f : Nat → Vx} {n i j : Nat} (h : HD f n i) (hj : j = 2 * i + 1 ∨ j = 2 * i + 2) (hjn : j < n) (hmin : ∀ k, 0 < k → k < n → (k - 1) / 2 = i → ordV (f j) (f k) ≤ 0) (hlt : ordV (f j) (f i) < 0) : HD (swf f i j) n j := by
  refine ⟨fun k h0 hk hne => ?_, fun _ k h0 hk e => ?_⟩
  · by_cases k1 : k = j
    · rw [k1, swf_j, show (j - 1) / 2 = i by omega, swf_i]; omega
    · by_cases k2 : k = i
      · rw [k2, swf_i, swf_o f (by omega) (by omega)]
        exact h.2 (by omega) j (by omega) hjn (by omega)
      · rw [swf_o f k2 k1]
        by_cases k3 : (k - 1) / 2 = i
        · rw [k3, swf_i]; exact hmin k h0 hk k3
        · rw [swf_o f k3 hne]; exact h.1 k h0 hk k3
  · rw [show (j - 1) / 2 = i by omega, swf_i, swf_o f (by omega) (by omega)]
    have := h.1 k h0 hk (by omega)
    rw [e] at this
    exact this
theorem HU.top {f : Nat → Vx} {n : Nat} (h : HU f n 0) : HP f n := fun k h0 hk => h.1 k h0 hk (by omega)
theorem HU.stop {f : Nat → Vx} {n j : Nat} (h : HU f n j) (hle : ordV (f ((j - 1) / 2)) (f j) ≤ 0) : HP f n := fun k h0 hk => by
  by_cases e : k = j
  · rw [e]; exact hle
  · exact h.1 k h0 hk e
theorem HU.step {f : Nat → Vx} {n j : Nat} (h : HU f n j) (h0j : 0 < j) (hjn : j < n) (hlt : ordV (f j) (f ((j - 1) / 2)) < 0) : HU (swf f ((j - 1) / 2) j) n ((j - 1) / 2) := by
  obtain ⟨i, hi⟩ : ∃ i, i = (j - 1) / 2 := ⟨_, rfl⟩
  rw [← hi] at hlt ⊢
  have up : 0 < i → ordV (f ((i - 1) / 2)) (f i) ≤ 0 := fun h0 => h.1 i h0 (by omega) (by omega)
  refine ⟨fun k h0 hk hne => ?_, fun h0i k h0 hk e => ?_⟩
  · by_cases k1 : k = j
    · rw [k1, swf_j, ← hi, swf_i]; omega
    · rw [swf_o f hne k1]
      by_cases k3 : (k - 1) / 2 = i
      · rw [k3, swf_i]
        have := h.1 k h0 hk k1
        rw [k3] at this
        exact ordV_trans (by omega) this
      · by_cases k4 : (k - 1) / 2 = j
        · rw [k4, swf_j]
          have := h.2 h0j k h0 hk k4
          rw [← hi] at this
          exact this
        · rw [swf_o f k3 k4]; exact h.1 k h0 hk k1
  · rw [swf_o f (by omega) (by omega)]
    by_cases k1 : k = j
    · rw [k1, swf_j]; exact up h0i
    · rw [swf_o f (by omega) k1]
      have := h.1 k h0 hk k1
      rw [e] at this
      exact ordV_trans (up h0i) this
/-- one more at the end: a heap but for that one. -/
theorem HP.push {f g : Nat → Vx} {n : Nat} (h : HP f n) (e : ∀ k, k < n → g k = f k) : HU g (n + 1) n :=
  ⟨fun k h0 hk hne => by rw [e _ (by omega), e _ (by omega)]; exact h k h0 (by omega), fun _ k h0 hk e => by omega⟩
/-- the first and the last swapped: a heap but for the first, of one less. -/
theorem HP.pop {f : Nat → Vx} {n : Nat} (h : HP f (n + 1)) : HD (swf f 0 n) n 0 :=
  ⟨fun k h0 hk hne => by rw [swf_o f (by omega) (by omega), swf_o f (by omega) (by omega)]; exact h k h0 (by omega), fun h => absurd h (by omega)⟩
theorem HP.of {f g : Nat → Vx} {n m : Nat} (h : HP f n) (hm : m ≤ n) (e : ∀ k, k < n → g k = f k) : HP g m := fun k h0 hk => by rw [e _ (by omega), e _ (by omega)]; exact h k h0 (by omega)
/-! lists -/
def at0 (R : List Vx) (k : Nat) : Vx := (R[k]?).getD root
def swp (R : List Vx) (i j : Nat) : List Vx := (List.range R.length).map fun k => at0 R (sw i j k)
theorem swp_len (R : List Vx) (i j : Nat) : (swp R i j).length = R.length := by simp [swp]
theorem at0_lt {R : List Vx} {k : Nat} (h : k < R.length) : R[k]? = some (at0 R k) := by
  unfold at0; rw [List.getElem?_eq_getElem h]; rfl
theorem at0_of {R : List Vx} {k : Nat} {v : Vx} (h : R[k]? = some v) : at0 R k = v := by unfold at0; rw [h]; rfl
theorem sw_lt {i j k n : Nat} (hi : i < n) (hj : j < n) (hk : k < n) : sw i j k < n := by
  unfold sw
  split
  · omega
  · split <;> omega
theorem sw_sw (i j k : Nat) : sw i j (sw i j k) = k := by
  unfold sw
  by_cases h1 : k = i
  · rw [if_pos h1]
    by_cases h2 : j = i
    · rw [if_pos h2]; omega
    · rw [if_neg h2, if_pos rfl]; exact h1.symm
  · rw [if_neg h1]
    by_cases h2 : k = j
    · rw [if_pos h2, if_pos rfl]; exact h2.symm
    · rw [if_neg h2, if_neg h1, if_neg h2]
theorem swp_get {R : List Vx} {i j k : Nat} (hk : k < R.length) : (swp R i j)[k]? = some (at0 R (sw i j k)) := by
  simp [swp, hk]
theorem at0_swp {R : List Vx} {i j : Nat} (hi : i < R.length) (hj : j < R.length) : at0 (swp R i j) = swf (at0 R) i j := by
  funext k
  by_cases hk : k < R.length
  · exact at0_of (swp_get hk)
  · have h1 : (swp R i j)[k]? = none := List.getElem?_eq_none (by rw [swp_len]; omega)
    have h2 : sw i j k = k := by unfold sw; rw [if_neg (by omega), if_neg (by omega)]
    unfold swf at0
    rw [h1, h2, List.getElem?_eq_none (by omega)]
/-- the same ones, in another order. -/
structure Sm (R R' : List Vx) : Prop where
  len : R'.length = R.length
  mem : ∀ v, v ∈ R' ↔ v ∈ R
  nd : R.Nodup → R'.Nodup
theorem Sm.refl (R : List Vx) : Sm R R := ⟨rfl, fun _ => Iff.rfl, id⟩
theorem Sm.trans {R R' R'' : List Vx} (h : Sm R R') (k : Sm R' R'') : Sm R R'' := ⟨k.len.trans h.len, fun v => (k.mem v).trans (h.mem v), fun x => k.nd (h.nd x)⟩
theorem swp_sm {R : List Vx} {i j : Nat} (hi : i < R.length) (hj : j < R.length) : Sm R (swp R i j) := by
  refine ⟨swp_len R i j, fun v => ⟨fun h => ?_, fun h => ?_⟩, fun h => ?_⟩
  · obtain ⟨k, hk, e⟩ := List.getElem_of_mem h
    rw [swp_len] at hk
    have e1 : (swp R i j)[k]? = some v := List.getElem?_eq_some_iff.2 ⟨by rw [swp_len]; exact hk, e⟩
    rw [swp_get hk, ← at0_lt (sw_lt hi hj hk)] at e1
    exact List.mem_of_getElem? e1
  · obtain ⟨k, hk, e⟩ := List.getElem_of_mem h
    have h2 := swp_get (i := i) (j := j) (sw_lt hi hj hk)
    rw [sw_sw, at0_of (List.getElem?_eq_some_iff.2 ⟨hk, e⟩)] at h2
    exact List.mem_of_getElem? h2
  · rw [List.nodup_iff_pairwise_ne, List.pairwise_iff_getElem]
    intro a b ha hb hab e
    rw [swp_len] at ha hb
    have e1 : (swp R i j)[a]? = (swp R i j)[b]? := by rw [List.getElem?_eq_getElem (by rw [swp_len]; exact ha), List.getElem?_eq_getElem (by rw [swp_len]; exact hb), e]
    rw [swp_get ha, swp_get hb, ← at0_lt (sw_lt hi hj ha), ← at0_lt (sw_lt hi hj hb)] at e1
    have ha2 := sw_lt hi hj ha
    have hb2 := sw_lt hi hj hb
    rw [List.getElem?_eq_getElem ha2, List.getElem?_eq_getElem hb2] at e1
    have e2 := nd_inj h ha2 hb2 (Option.some.inj e1)
    have := sw_sw i j a
    rw [e2, sw_sw] at this
    omega
end Go.Proofs.YtnjeppmpnaemlaaDoor.Grf
/- DERIVED. PLAIN MATHEMATICS: edges counted; who may come next, told by numbers. No program. -/
set_option maxRecDepth 100000
namespace Go.Proofs.YtnjeppmpnaemlaaDoor.Grf
open Go.RowKit Str
/-- where edges lead to from v, in their order. -/
def outs (E : List (Vx × Vx)) (v : Vx) : List Vx := (E.filter fun e => decide (e.1 = v)).map (·.2)
/-- how many edges lead to v from vertices that are not in L. -/
def cntE (E : List (Vx × Vx)) (L : List Vx) (v : Vx) : Nat := (E.filter fun e => decide (e.2 = v ∧ e.1 ∉ L)).length
theorem mem_outs {E : List (Vx × Vx)} {u v : Vx} : v ∈ outs E u ↔ (u, v) ∈ E := by
  unfold outs
  simp only [List.mem_map, List.mem_filter, decide_eq_true_eq]
  constructor
  · rintro ⟨⟨a, b⟩, ⟨h1, h2⟩, h3⟩
    simp only at h2 h3
    rw [← h2, ← h3]; exact h1
  · intro h; exact ⟨(u, v), ⟨h, rfl⟩, rfl⟩
theorem outs_snoc (E : List (Vx × Vx)) (a b v : Vx) : outs (E ++ [(a, b)]) v = if v = a then outs E v ++ [b] else outs E v := by
  unfold outs
  rw [List.filter_append, List.map_append]
  by_cases h : v = a
  · subst h; simp
  · rw [if_neg h]; simp [Ne.symm h]
theorem cntE_snoc (E : List (Vx × Vx)) (a b v : Vx) (L : List Vx) (ha : a ∉ L) : cntE (E ++ [(a, b)]) L v = if v = b then cntE E L v + 1 else cntE E L v := by
  unfold cntE
  rw [List.filter_append, List.length_append]
  by_cases h : v = b
  · subst h; simp [ha]
  · rw [if_neg h]; simp [Ne.symm h]
theorem cntE_zero {E : List (Vx × Vx)} {L : List Vx} {v : Vx} : cntE E L v = 0 ↔ ∀ u, (u, v) ∈ E → u ∈ L := by
  unfold cntE
  rw [List.length_eq_zero_iff, List.filter_eq_nil_iff]
  constructor
  · intro h u hu
    have := h (u, v) hu
    simp only [decide_eq_true_eq, true_and] at this
    exact Classical.not_not.1 this
  · rintro h ⟨a, b⟩ he
    simp only [decide_eq_true_eq]
    rintro ⟨rfl, h2⟩
    exact h2 (h a he)
theorem cntE_one (E : List (Vx × Vx)) (L : List Vx) (l v : Vx) (hl : l ∉ L) : cntE E L v = cntE E (L ++ [l]) v + (outs E l).count v := by
  unfold cntE outs
  induction E with
  | nil => rfl
  | cons e t ih =>
    obtain ⟨a, b⟩ := e
    by_cases hb : b = v <;> by_cases ha : a = l <;> by_cases hL : a ∈ L
    all_goals simp only [List.filter_cons, hb, ha, hL, List.mem_append, List.mem_singleton, true_and, false_and, not_true, not_false_iff, or_true, or_false, decide_true, decide_false, if_true, if_false, List.length_cons, List.map_cons, List.count_cons, beq_self_eq_true, and_true, and_false, Bool.false_eq_true] at ih ⊢
    all_goals first
      | omega
      | (exfalso; exact hl (ha ▸ hL))
      | (simp [hl, hb] at ih ⊢; omega)
theorem cntE_le (E : List (Vx × Vx)) (L : List Vx) (v : Vx) : cntE E L v ≤ E.length := List.length_filter_le _ _
theorem outs_le (E : List (Vx × Vx)) (v : Vx) : (outs E v).length ≤ E.length := by
  unfold outs; rw [List.length_map]; exact List.length_filter_le _ _
/-- how many edges still lead to v, when the first k of those from l are done. -/
def dlt (E : List (Vx × Vx)) (L : List Vx) (l : Vx) (k : Nat) (v : Vx) : Nat := cntE E (L ++ [l]) v + ((outs E l).drop k).count v
theorem dlt_zero {E : List (Vx × Vx)} {L : List Vx} {l : Vx} (hl : l ∉ L) (v : Vx) : dlt E L l 0 v = cntE E L v := by
  unfold dlt; rw [List.drop_zero, ← cntE_one E L l v hl]
theorem dlt_end {E : List (Vx × Vx)} {L : List Vx} {l : Vx} {k : Nat} (hk : (outs E l).length ≤ k) (v : Vx) : dlt E L l k v = cntE E (L ++ [l]) v := by
  unfold dlt; rw [List.drop_eq_nil_of_le hk]; rfl
theorem dlt_next {E : List (Vx × Vx)} {L : List Vx} {l x : Vx} {k : Nat} (hx : (outs E l)[k]? = some x) (v : Vx) : dlt E L l k v = if v = x then dlt E L l (k + 1) v + 1 else dlt E L l (k + 1) v := by
  obtain ⟨hk, rfl⟩ := List.getElem?_eq_some_iff.1 hx
  unfold dlt
  rw [List.drop_eq_getElem_cons hk, List.count_cons]
  by_cases h : v = (outs E l)[k]
  · rw [if_pos h, if_pos (by rw [h]; exact beq_self_eq_true _)]; omega
  · rw [if_neg h, if_neg (by simpa using fun e => h e.symm)]; rfl
theorem dlt_le (E : List (Vx × Vx)) (L : List Vx) (l : Vx) (k : Nat) (v : Vx) : dlt E L l k v ≤ 2 * E.length := by
  unfold dlt
  have h1 := cntE_le E (L ++ [l]) v
  have h2 := List.count_le_length (a := v) (l := (outs E l).drop k)
  have h3 := outs_le E l
  have h4 : ((outs E l).drop k).length ≤ (outs E l).length := by rw [List.length_drop]; omega
  omega
/-- what is listed came behind all that leads to it. -/
theorem steps_closed {V : List Vx} {E : List (Vx × Vx)} {L : List Vx} (h : Steps V E L) {u v : Vx} (hv : v ∈ L) (he : (u, v) ∈ E) : u ∈ L := by
  obtain ⟨k, hk, rfl⟩ := List.getElem_of_mem hv
  exact List.mem_of_mem_take ((h.at (List.getElem?_eq_getElem hk)).1.2.2 u he)
/-- just who may come next. -/
def RS (V : List Vx) (L : List Vx) (c : Vx → Nat) (R : List Vx) : Prop := ∀ v, v ∈ R ↔ v ∈ V ∧ v ∉ L ∧ c v = 0
theorem RS.ready {V : List Vx} {E : List (Vx × Vx)} {L R : List Vx} (h : RS V L (cntE E L) R) {v : Vx} : v ∈ R ↔ Ready V E L v := by
  rw [h v, cntE_zero]; exact Iff.rfl
theorem RS.popped {V : List Vx} {E : List (Vx × Vx)} {L R R' : List Vx} (h : RS V L (cntE E L) R) {l : Vx} (hl : l ∉ L) (hR : ∀ v, v ∈ R' ↔ v ∈ R ∧ v ≠ l) : RS V (L ++ [l]) (dlt E L l 0) R' := fun v => by
  rw [hR, h v, dlt_zero hl]
  simp only [List.mem_append, List.mem_singleton, not_or]
  constructor
  · rintro ⟨⟨a, b, c⟩, d⟩; exact ⟨a, ⟨b, d⟩, c⟩
  · rintro ⟨a, ⟨b, d⟩, c⟩; exact ⟨⟨a, b, c⟩, d⟩
theorem RS.same {V : List Vx} {E : List (Vx × Vx)} {L R : List Vx} {l x : Vx} {k : Nat} (h : RS V (L ++ [l]) (dlt E L l k) R) (hx : (outs E l)[k]? = some x) (hne : dlt E L l (k + 1) x ≠ 0) : RS V (L ++ [l]) (dlt E L l (k + 1)) R := fun v => by
  rw [h v, dlt_next hx v]
  by_cases e : v = x
  · rw [if_pos e, e]
    constructor
    · rintro ⟨_, _, c⟩; omega
    · rintro ⟨_, _, c⟩; exact absurd c hne
  · rw [if_neg e]
theorem RS.more {V : List Vx} {E : List (Vx × Vx)} {L R R' : List Vx} {l x : Vx} {k : Nat} (h : RS V (L ++ [l]) (dlt E L l k) R) (hx : (outs E l)[k]? = some x) (h0 : dlt E L l (k + 1) x = 0) (hV : x ∈ V) (hL : x ∉ L ++ [l]) (hR : ∀ v, v ∈ R' ↔ v ∈ R ∨ v = x) : RS V (L ++ [l]) (dlt E L l (k + 1)) R' := fun v => by
  rw [hR, h v, dlt_next hx v]
  by_cases e : v = x
  · rw [if_pos e, e]
    exact ⟨fun _ => ⟨hV, hL, h0⟩, fun _ => .inr rfl⟩
  · rw [if_neg e]
    exact ⟨fun k => k.resolve_right e, .inl⟩
theorem RS.new {V : List Vx} {E : List (Vx × Vx)} {L R : List Vx} {l x : Vx} {k : Nat} (h : RS V (L ++ [l]) (dlt E L l k) R) (hx : (outs E l)[k]? = some x) : x ∉ R := fun hm => by
  have := ((h x).1 hm).2.2
  rw [dlt_next hx x, if_pos rfl] at this
  omega
theorem RS.ended {V : List Vx} {E : List (Vx × Vx)} {L R : List Vx} {l : Vx} {k : Nat} (h : RS V (L ++ [l]) (dlt E L l k) R) (hk : (outs E l).length ≤ k) : RS V (L ++ [l]) (cntE E (L ++ [l])) R := fun v => by
  rw [h v, dlt_end hk]
/-- where an edge from l leads is neither listed nor l. -/
theorem out_new {ps : List PD} (ha : Adm ps) {L : List Vx} (hs : Steps (verts ps) (edges ps) L) {E : List (Vx × Vx)} (hE : ∀ e, e ∈ E ↔ e ∈ edges ps) {l x : Vx} (hl : l ∉ L) (hx : x ∈ outs E l) : x ∈ verts ps ∧ x ∉ L ++ [l] := by
  have he := (hE _).1 (mem_outs.1 hx)
  obtain ⟨_, h2, _, h4⟩ := edge_le ha he
  refine ⟨h2, fun hm => ?_⟩
  rcases List.mem_append.1 hm with hm | hm
  · exact hl (steps_closed hs hm he)
  · exact h4 (List.mem_singleton.1 hm).symm
/-- at first the root alone may come. -/
theorem ready_root {ps : List PD} (ha : Adm ps) (v : Vx) : Ready (verts ps) (edges ps) [] v ↔ v = root := by
  constructor
  · rintro ⟨h1, _, h3⟩
    have hle := (root_le ha h1).1
    have hp := le_path ha (root_in ps) h1 hle
    cases hp with
    | refl => rfl
    | step _ e => exact absurd (h3 _ e) (by simp)
  · rintro rfl
    refine ⟨root_in ps, by simp, fun u hu => ?_⟩
    obtain ⟨h1, _, h3, h4⟩ := edge_le ha hu
    exact absurd (le_anti ha h1 (root_in ps) h3 (root_le ha h1).1) h4
/-- all listed: the root is the first, the end the last. -/
theorem steps_ends {ps : List PD} (ha : Adm ps) {L : List Vx} (h : Steps (verts ps) (edges ps) L) (hall : ∀ v ∈ verts ps, v ∈ L) : ∃ M, L = root :: (M ++ [fin]) := by
  obtain ⟨i, hi, hir⟩ := List.getElem_of_mem (hall _ (root_in ps))
  obtain ⟨j, hj, hjf⟩ := List.getElem_of_mem (hall _ (fin_in ps))
  have hi' : L[i]? = some root := List.getElem?_eq_some_iff.2 ⟨hi, hir⟩
  have hj' : L[j]? = some fin := List.getElem?_eq_some_iff.2 ⟨hj, hjf⟩
  have mem : ∀ {k : Nat} {x : Vx}, L[k]? = some x → x ∈ verts ps := fun hx => h.nodup.2 _ (List.mem_of_getElem? hx)
  have h0 : i = 0 := by
    obtain ⟨x, hx⟩ : ∃ x, L[0]? = some x := ⟨_, List.getElem?_eq_getElem (by omega)⟩
    have := steps_le ha h hi' hx (root_le ha (mem hx)).1
    omega
  have hn : j = L.length - 1 := by
    obtain ⟨x, hx⟩ : ∃ x, L[L.length - 1]? = some x := ⟨_, List.getElem?_eq_getElem (by omega)⟩
    have := steps_le ha h hx hj' (root_le ha (mem hx)).2
    omega
  cases L with
  | nil => simp at hi
  | cons a t =>
    rw [h0] at hi'
    obtain rfl : a = root := by simpa using hi'
    refine ⟨t.dropLast, ?_⟩
    have ht : t ≠ [] := fun e => by
      subst e
      have : j = 0 := by simpa using hn
      rw [this] at hj'
      exact root_ne (by simpa using hj')
    have hl : t.getLast ht = fin := by
      have e1 : (root :: t)[j]? = some fin := hj'
      rw [hn] at e1
      have hp : 0 < t.length := List.length_pos_iff.2 ht
      rw [show (root :: t).length - 1 = (t.length - 1) + 1 by simp; omega] at e1
      rw [List.getLast_eq_getElem]
      have e2 : t[t.length - 1]? = some fin := by simpa using e1
      rw [List.getElem?_eq_getElem (by omega)] at e2
      exact Option.some.inj e2
    rw [← hl, List.dropLast_concat_getLast ht]
end Go.Proofs.YtnjeppmpnaemlaaDoor.Grf
