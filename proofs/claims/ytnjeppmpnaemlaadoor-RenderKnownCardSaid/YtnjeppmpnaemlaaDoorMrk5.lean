/- DERIVED. Texts of ours, merged: XGrfNew XGrfBefore. -/
import Derived.Test.YtnjeppmpnaemlaaDoorMrk4
import Derived.Deep.RegionHeld
import Derived.Test.YtnjeppmpnaemlaaDoorMrk3
/- DERIVED. New: a graph without parts (the walk). Written by mknew.py. -/
set_option maxRecDepth 100000
namespace Go.Proofs.YtnjeppmpnaemlaaDoor.Grf
open Go.RowKit Str Go.Maps
attribute [local go_sem ↓ high] loadAtVx
set_option maxHeartbeats 4000000 in
theorem new_any (w : World) (hL : Laid w) :
    Calls Tryd.prog 21 #[] w fun e w' => ∃ S, e = .returned (ptr S.g) ∧ S.ps = [] ∧ S.added = 0 ∧ S.nv = 2 ∧ GM w' S (fun _ => 0) (fun _ => 0) ∧ Below w.heap.size w w' := by
  have HL := Lib.hid hL
  have hv1 := loadVx_eq hL.r
  have hv2 := loadVx_eq hL.e
  clear hL
  have hmm := @run_makeMap Tryd.prog
  go_enter Tryd.func21, Tryd.ntmps21
  go_upto_region 2 with (fail)
  have h4 := four_new w (.cells Tryd.zeroCells90 90) (.map #[] 0) (.map #[] 0) (.cells #[.pointer none, ptr w.heap.size, .map (some (w.heap.size + 1)), .map (some (w.heap.size + 1 + 1)), .int .i64 0] 38)
  have k4 := below4 w (.cells Tryd.zeroCells90 90) (.map #[] 0) (.map #[] 0) (.cells #[.pointer none, ptr w.heap.size, .map (some (w.heap.size + 1)), .map (some (w.heap.size + 1 + 1)), .int .i64 0] 38)
  obtain ⟨W, hW⟩ : ∃ W, W = (((w.alloc (.cells Tryd.zeroCells90 90)).alloc (.map #[] 0)).alloc (.map #[] 0)).alloc (.cells #[.pointer none, ptr w.heap.size, .map (some (w.heap.size + 1)), .map (some (w.heap.size + 1 + 1)), .int .i64 0] 38) := ⟨_, rfl⟩
  rw [← hW] at h4 k4 ⊢
  obtain ⟨F, hF⟩ : ∃ F, F = w.heap.size := ⟨_, rfl⟩
  rw [← hF] at h4 ⊢
  have HF := Lib.hid hF
  have hL2 := HL.out.below k4 (Nat.le_refl _)
  have hu1 := loadVx_eq hL2.r
  have hu2 := loadVx_eq hL2.e
  have NI0 : Hid (NI w F (F + 1) (F + 1 + 1) (F + 1 + 1 + 1) 0 W) := by
    refine ⟨h4.2.2.2, ?_, k4, nils, [], ?_, OwnP.nil _ _, rfl, fun j b h => by simp at h, ?_⟩
    · exact MapF.empty _ h4.2.1
    · show W.heap[F]? = _; rw [h4.1, zero_part]
    · have := MapF.empty 27 h4.2.2.1
      have e : (fun v => (fk [] v).map ptr) = fun _ : Vx => (none : Option Value) := by
        funext v
        unfold fk
        split
        · rfl
        · split <;> rfl
      rw [e]; exact this
  clear hv1 hv2 hmm k4 hW h4 hF hL2
  go_upto_region 3 with (fail)
  rw [fold_two]
  clear h
  clear hu1 hu2
  go_loopw [13] (fun i wr => ∃ k : Nat, k ≤ 2 ∧ i = .int .i64 k ∧ Hid (NI w F (F + 1) (F + 1 + 1) (F + 1 + 1 + 1) k wr)) (fun i _ => 2 - (intOf i).toNat)
  case atStart => exact ⟨0, by omega, rfl, NI0.out⟩
  case round =>
    obtain ⟨k, hk, rfl, hI⟩ := hrel
    clear NI0
    by_cases hlt : k < 2
    · have hltI : (k : Int) < 2 := by omega
      have hix : (Instr.index 91 (.agg (root.c.toList ++ fin.c.toList).toArray) (.int .i64 k)).run Tryd.prog wr = .ok (.agg (vk k).c) wr := by
        rw [idx_at _ k hlt wr]
        rcases (show k = 0 ∨ k = 1 by omega) with rfl | rfl
        · rw [show vk 0 = root from rfl, (two_at root fin).1]
        · rw [show vk 1 = fin from rfl, (two_at root fin).2]
      have hk0 : 0 ≤ (k : Int) := by omega
      have HI := hI
      clear hI
      go_upto_region 5 with (refine wpList_store_row rfl 27 (.tmp 3) (.tmp 15) rfl wr.heap.size (vk k).c rfl rfl 27 _ (Go.heap_alloc_new wr _) (infoVxA _) (by simp [Vx.c_size]) (Vx.one _) ?_; rw [World.setRow_alloc_new])
      clear hix
      obtain ⟨w4, hw4⟩ : ∃ w4, w4 = wr.alloc (.cells (vk k).c 27) := ⟨_, rfl⟩
      have h4 : w4.heap[wr.heap.size]? = some (.cells (vk k).c 27 (0, 0)) := by rw [hw4]; exact Go.heap_alloc_new wr _
      have l4 : Below wr.heap.size wr w4 := by rw [hw4]; exact (Below.refl _ _).alloc (Nat.le_refl _) _
      rw [← hw4]
      clear hw4
      obtain ⟨bx, hbx⟩ : ∃ bx, bx = wr.heap.size := ⟨_, rfl⟩
      rw [← hbx] at h4 ⊢
      obtain ⟨G, hG⟩ : ∃ G, G = F + 1 + 1 + 1 := ⟨_, rfl⟩
      obtain ⟨V, hV⟩ : ∃ V, V = F + 1 + 1 := ⟨_, rfl⟩
      rw [← hG, ← hV] at HI ⊢
      obtain ⟨cv, L, hP, hO, hLk, hls, hm⟩ := HI.out.rest
      have g4 := at_below HI.out.gr l4
      have HGr := Lib.hid g4
      have HP4 : Hid (PRow w4 F pd0 nils nils 0 cv 0) := at_below hP l4
      have HO4 := Lib.hid (hO.below l4)
      have HM4 : Hid (MapF 27 w4 V k (fun v => (fk L v).map ptr)) := hm.stay (l4.block _ hm.lt)
      have H4 := Lib.hid h4
      have HLk := Lib.hid hLk
      have Hls := Lib.hid hls
      have HL4 := Lib.hid l4
      have e3 : w4.cell? ⟨G, 3, none⟩ = some (.map (some V)) := cell_row g4 3
      have e1 : w4.cell? ⟨G, 1, none⟩ = some (ptr F) := cell_row g4 1
      have HE3 := Lib.hid e3
      have HE1 := Lib.hid e1
      have HFl : Hid (w.heap.size ≤ F ∧ F + 3 = G ∧ F + 2 = V ∧ k ≤ 2) := ⟨by rw [HF.out]; exact Nat.le_refl _, by rw [hG], by rw [hV], hk⟩
      have HEx : Hid (∀ wx, Below w4.heap.size w4 wx → Calls Tryd.prog 43 #[ptr F, .agg (vk k).c, .string ByteArray.empty] wx fun e w' => ∃ lb cv', e = .returned (ptr lb) ∧ ExQ w.heap.size F pd0 nils nils 0 0 L cv (vk k) ByteArray.empty wx lb cv' w') := fun wx hx =>
        extend_any w.heap.size F pd0 nils nils 0 0 L cv (vk k) ByteArray.empty wx (at_below HP4.out hx) (HO4.out.below hx) (by rw [hLk]; omega) (Nat.le_trans HI.out.low.size (Nat.le_trans l4.size hx.size))
      obtain ⟨K, hK⟩ : ∃ K : List Nat, K = F :: V :: cv.ownBlock.toList := ⟨_, rfl⟩
      have HKF : Hid (F ∈ K) := by show F ∈ K; rw [hK]; simp
      have HKV : Hid (V ∈ K) := by show V ∈ K; rw [hK]; simp
      have HKo : Hid (∀ b, cv.ownBlock = some b → b ∈ K) := by intro b hb; rw [hK, hb]; simp
      have nk : ∀ {b T : Nat} {C : Array Value}, w4.heap[b]? = some (.cells C T (0, 0)) → T ≠ 90 → T ≠ 87 → b ∉ K := fun hb h1 h2 hm => by
        rw [hK] at hm
        simp only [List.mem_cons, Option.mem_toList] at hm
        rcases hm with h | h | h
        · exact ne_ty hb HP4.out h1 h
        · exact HM4.out.ne hb h
        · exact Lib.ownBlock_ne HO4.out hb h2 h
      have HKG : Hid (G ∉ K) := nk HGr.out (by decide) (by decide)
      have HKb : Hid (bx ∉ K) := nk H4.out (by decide) (by decide)
      have HNx : Hid (∀ (wc w5 w6 : World) (lb : Nat) (cv' : Value), Below w4.heap.size w4 wc → ExQ w.heap.size F pd0 nils nils 0 0 L cv (vk k) ByteArray.empty wc lb cv' w5 → MapF 27 w6 V (if ((fk L (vk k)).map ptr).isSome = true then k else k + 1) (upd1 (fun v => (fk L v).map ptr) (vk k) (some (ptr lb))) → Chg [V] w5 w6 → NI w F (F + 1) V G (k + 1) w6) := fun wc w5 w6 lb cv' hb hx hm hc =>
        NI.next HI.out (l4.trans (hb.mono l4.size)) hLk hls hlt (at_below HP4.out hb) (HO4.out.below hb) (HM4.out.stay (hb.block _ HM4.out.lt)) hx hm hc HFl.out.1 (by have := HFl.out; omega) (by have := HFl.out; omega)
      clear hP hO hLk hls hm g4 h4 l4 hbx e3 e1 hK nk
      clear hG hV
      have apx : apartB [16, 17, 18, 19, 20, 21, 22, 23, 24, 25, 26, 1011] = true := by decide
      refine wp_region_any (by kernel_rfl) ?_
      change wpAny _ _ _ _ _ _ _ (World.drew _)
      refine wpAny_inv2 (fun ll aa wx => Hid (ll.size = 12 ∧ RelC 10 K w4 ll wx) ∧ ∃ (z : Nat → Value), Hid (aa = ⟨#[.pointer none, .pointer (some ⟨G, 0, none⟩), undef, .pointer (some ⟨bx, 0, none⟩), .agg Tryd.zeroCells90, .pointer (some ⟨F, 0, none⟩), .map (some (F + 1)), .map (some V), .agg #[.pointer none, .pointer (some ⟨F, 0, none⟩), .map (some (F + 1)), .map (some V), .int .i64 0], .pointer (some ⟨G, 0, none⟩), .agg root.c, .agg fin.c, .agg (root.c.toList ++ fin.c.toList).toArray, .int .i64 (k : Nat), .bool true, .agg (vk k).c, z 16, z 17, z 18, z 19, z 20, z 21, z 22, z 23, z 24, z 25, z 26, u27, undef, undef, undef, undef, undef], []⟩) ∧ Holding [16, 17, 18, 19, 20, 21, 22, 23, 24, 25, 26, 1011] [some (ptr G), some (.pointer (some ⟨G, 0, none⟩)), some (.pointer (some ⟨G, 3, none⟩)), some (.map (some V)), some (.agg (vk k).c), some (ptr G), some (.pointer (some ⟨G, 0, none⟩)), some (.pointer (some ⟨G, 1, none⟩)), some (ptr F), some (.agg (vk k).c), none, none] ll z ∧ Whu ll 10 11 (EV w.heap.size F L cv (vk k) w4) (z 26) wx ∧ Whn ll 11 (fun _ ww => NI w F (F + 1) V G (k + 1) ww) (z 1011) wx) ?_ (by kernel_rfl) ?_ ?_ _ rfl _ _ ?_
      · rintro ll aa wx ⟨hI, _⟩
        exact hI.out.1
      · rintro ll aa wx ⟨hI, z, ha, hz, hp10, hp11⟩ hall
        have hx := Lib.hid hI.out.2
        have e0 : z 16 = ptr G := hz 0 _ (hall 0 (by decide)) rfl
        have e1 : z 17 = .pointer (some ⟨G, 0, none⟩) := hz 1 _ (hall 1 (by decide)) rfl
        have e2 : z 18 = .pointer (some ⟨G, 3, none⟩) := hz 2 _ (hall 2 (by decide)) rfl
        have e3 : z 19 = .map (some V) := hz 3 _ (hall 3 (by decide)) rfl
        have e4 : z 20 = .agg (vk k).c := hz 4 _ (hall 4 (by decide)) rfl
        have e5 : z 21 = ptr G := hz 5 _ (hall 5 (by decide)) rfl
        have e6 : z 22 = .pointer (some ⟨G, 0, none⟩) := hz 6 _ (hall 6 (by decide)) rfl
        have e7 : z 23 = .pointer (some ⟨G, 1, none⟩) := hz 7 _ (hall 7 (by decide)) rfl
        have e8 : z 24 = ptr F := hz 8 _ (hall 8 (by decide)) rfl
        have e9 : z 25 = .agg (vk k).c := hz 9 _ (hall 9 (by decide)) rfl
        have p11 := hp11.get (hall 11 (by decide))
        clear hall hz hI hp10 hp11
        obtain rfl := ha.out
        clear ha
        clear apx
        have HN := Lib.hid p11
        clear e0 e1 e2 e3 e4 e5 e6 e7 e8 e9 hx p11
        rename World => w9
        
        generalize z 16 = y16
        generalize z 17 = y17
        generalize z 18 = y18
        generalize z 19 = y19
        generalize z 20 = y20
        generalize z 21 = y21
        generalize z 22 = y22
        generalize z 23 = y23
        generalize z 24 = y24
        generalize z 25 = y25
        generalize z 26 = y26
        go_wp2
        go_roundw
        case rel =>
          have hV : V = F + 1 + 1 := by have e := HFl.out; omega
          have hG : G = F + 1 + 1 + 1 := by have e := HFl.out; omega
          subst hV
          subst hG
          exact ⟨_, _, _, _, _, _, _, _, _, _, _, _, _, _, _, _, ⟨k + 1, by omega, by go_num, HN.out⟩, rfl⟩
        case measure => simp [intOf]; omega
      · rintro ll aa wx i ⟨hI, z, ha, hz, hp10, hp11⟩ hcl hi hu hw
        obtain rfl := ha.out
        have hsz := Lib.hid hI.out.1
        have hx := Lib.hid hI.out.2
        clear ha hI
        have hin : i < 12 := hi
        obtain rfl | rfl | rfl | rfl | rfl | rfl | rfl | rfl | rfl | rfl | rfl | rfl : i = 0 ∨ i = 1 ∨ i = 2 ∨ i = 3 ∨ i = 4 ∨ i = 5 ∨ i = 6 ∨ i = 7 ∨ i = 8 ∨ i = 9 ∨ i = 10 ∨ i = 11 := by omega
        · refine wpOp_plain rfl rfl ?_
          go_simp
          exact ⟨⟨by simp [hsz.out], hx.out.same⟩, upd z 16 (ptr G), (by unfold Hid; simp [upd]), hz.next apx hsz.out 0 (by decide) _ (fun _ h => Option.some.inj h), hp10.keep (by decide), hp11.keep (by decide)⟩
        · have e0 : z 16 = ptr G := hz 0 _ (hw 0 (by kernel_rfl)) rfl
          refine wpOp_plain rfl rfl ?_
          go_simp
          exact ⟨⟨by simp [hsz.out], hx.out.same⟩, upd z 17 (.pointer (some ⟨G, 0, none⟩)), (by unfold Hid; simp [upd, e0]), hz.next apx hsz.out 1 (by decide) _ (fun _ h => Option.some.inj h), hp10.keep (by decide), hp11.keep (by decide)⟩
        · have e1 : z 17 = .pointer (some ⟨G, 0, none⟩) := hz 1 _ (hw 1 (by kernel_rfl)) rfl
          refine wpOp_plain rfl rfl ?_
          go_simp
          exact ⟨⟨by simp [hsz.out], hx.out.same⟩, upd z 18 (.pointer (some ⟨G, 3, none⟩)), (by unfold Hid; simp [upd, e1]), hz.next apx hsz.out 2 (by decide) _ (fun _ h => Option.some.inj h), hp10.keep (by decide), hp11.keep (by decide)⟩
        · have e2 : z 18 = .pointer (some ⟨G, 3, none⟩) := hz 2 _ (hw 2 (by kernel_rfl)) rfl
          have cl := hx.out.cell HE3.out HKG.out
          refine wpOp_plain rfl rfl ?_
          go_simp
          exact ⟨⟨by simp [hsz.out], hx.out.same⟩, upd z 19 (.map (some V)), (by unfold Hid; simp [upd, e2]), hz.next apx hsz.out 3 (by decide) _ (fun _ h => Option.some.inj h), hp10.keep (by decide), hp11.keep (by decide)⟩
        · have cl := box_vx (hx.out.at H4.out HKb.out)
          refine wpOp_plain rfl rfl ?_
          go_simp
          exact ⟨⟨by simp [hsz.out], hx.out.same⟩, upd z 20 (.agg (vk k).c), (by unfold Hid; simp [upd]), hz.next apx hsz.out 4 (by decide) _ (fun _ h => Option.some.inj h), hp10.keep (by decide), hp11.keep (by decide)⟩
        · refine wpOp_plain rfl rfl ?_
          go_simp
          exact ⟨⟨by simp [hsz.out], hx.out.same⟩, upd z 21 (ptr G), (by unfold Hid; simp [upd]), hz.next apx hsz.out 5 (by decide) _ (fun _ h => Option.some.inj h), hp10.keep (by decide), hp11.keep (by decide)⟩
        · have e5 : z 21 = ptr G := hz 5 _ (hw 5 (by kernel_rfl)) rfl
          refine wpOp_plain rfl rfl ?_
          go_simp
          exact ⟨⟨by simp [hsz.out], hx.out.same⟩, upd z 22 (.pointer (some ⟨G, 0, none⟩)), (by unfold Hid; simp [upd, e5]), hz.next apx hsz.out 6 (by decide) _ (fun _ h => Option.some.inj h), hp10.keep (by decide), hp11.keep (by decide)⟩
        · have e6 : z 22 = .pointer (some ⟨G, 0, none⟩) := hz 6 _ (hw 6 (by kernel_rfl)) rfl
          refine wpOp_plain rfl rfl ?_
          go_simp
          exact ⟨⟨by simp [hsz.out], hx.out.same⟩, upd z 23 (.pointer (some ⟨G, 1, none⟩)), (by unfold Hid; simp [upd, e6]), hz.next apx hsz.out 7 (by decide) _ (fun _ h => Option.some.inj h), hp10.keep (by decide), hp11.keep (by decide)⟩
        · have e7 : z 23 = .pointer (some ⟨G, 1, none⟩) := hz 7 _ (hw 7 (by kernel_rfl)) rfl
          have cl := hx.out.cell HE1.out HKG.out
          refine wpOp_plain rfl rfl ?_
          go_simp
          exact ⟨⟨by simp [hsz.out], hx.out.same⟩, upd z 24 (ptr F), (by unfold Hid; simp [upd, e7]), hz.next apx hsz.out 8 (by decide) _ (fun _ h => Option.some.inj h), hp10.keep (by decide), hp11.keep (by decide)⟩
        · have cl := box_vx (hx.out.at H4.out HKb.out)
          refine wpOp_plain rfl rfl ?_
          go_simp
          exact ⟨⟨by simp [hsz.out], hx.out.same⟩, upd z 25 (.agg (vk k).c), (by unfold Hid; simp [upd]), hz.next apx hsz.out 9 (by decide) _ (fun _ h => Option.some.inj h), hp10.keep (by decide), hp11.keep (by decide)⟩
        · have e8 : z 24 = ptr F := hz 8 _ (hw 8 (by kernel_rfl)) rfl
          have e9 : z 25 = .agg (vk k).c := hz 9 _ (hw 9 (by kernel_rfl)) rfl
          refine wpOp_plain rfl rfl ?_
          go_simp
          go_at_call 43
          have hlow := hx.out.2 hu
          refine (HEx.out wx hlow).mono ?_
          rintro e w8 ⟨lb, cv8, rfl, hq⟩
          exact ⟨⟨by simp [hsz.out], hx.out.wr (ex_chg hq K HKF.out HKo.out) (by rw [hsz.out]; decide)⟩, upd z 26 (ptr lb), (by unfold Hid; simp [upd, e8, e9]), hz.next apx hsz.out 10 (by decide) _ (fun _ h => by cases h), Whu.done (⟨lb, cv8, wx, rfl, hlow, hq⟩), Whn.never (by decide) (fun hl => hcl 11 10 hl (by kernel_rfl)) hu⟩
        · have e3 : z 19 = .map (some V) := hz 3 _ (hw 3 (by kernel_rfl)) rfl
          have e4 : z 20 = .agg (vk k).c := hz 4 _ (hw 4 (by kernel_rfl)) rfl
          have p10 := hp10.get (hw 10 (by kernel_rfl)) hu
          obtain ⟨lb, cv8, wc, hv10, hbw, hq⟩ := p10
          have hm5 : MapF 27 wx V k (fun v => (fk L v).map ptr) := (HM4.out.stay (hbw.block _ HM4.out.lt)).stay (map_ex hq (HM4.out.stay (hbw.block _ HM4.out.lt)) (at_below HP4.out hbw) (HO4.out.below hbw))
          obtain ⟨w6, kr, hm6, hc6⟩ := hm5.put kbV Tryd.underlying36 (by have := HFl.out.2.2.2; omega) (vk k) (val := ptr lb) (.inr (.inl ⟨lb, rfl⟩))
          refine wpOp_plain rfl rfl ?_
          go_simp
          exact ⟨⟨by simp [hsz.out], hx.out.more (hc6.mono (fun b hb => .inl (by rw [List.mem_singleton.1 hb]; exact HKV.out))) (hw 10 (by kernel_rfl))⟩, upd z 1011 (undef), (by unfold Hid; simp [upd, e3, e4, hv10]), hz.next apx hsz.out 11 (by decide) _ (fun _ h => by cases h), Whu.past (by rw [hsz.out]; decide), Whn.done (HNx.out wc wx w6 lb cv8 hbw hq hm6 hc6)⟩
      · exact ⟨⟨rfl, RelC.start⟩, fun xx => (#[.pointer none, .pointer (some ⟨G, 0, none⟩), undef, .pointer (some ⟨bx, 0, none⟩), .agg Tryd.zeroCells90, .pointer (some ⟨F, 0, none⟩), .map (some (F + 1)), .map (some V), .agg #[.pointer none, .pointer (some ⟨F, 0, none⟩), .map (some (F + 1)), .map (some V), .int .i64 0], .pointer (some ⟨G, 0, none⟩), .agg root.c, .agg fin.c, .agg (root.c.toList ++ fin.c.toList).toArray, .int .i64 (k : Nat), .bool true, .agg (vk k).c, u16, u17, u18, u19, u20, u21, u22, u23, u24, u25, u26, u27, undef, undef, undef, undef, undef] : Array Value).getD xx undef, (by rfl), Holding.start, Whu.none (by decide), Whn.none (by decide)⟩
    · have hltI : ¬ (k : Int) < 2 := by omega
      obtain rfl : k = 2 := by omega
      obtain ⟨cv, L, hP, hO, hLk, hls, hm⟩ := hI.out.rest
      obtain ⟨G, hG⟩ : ∃ G, G = F + 1 + 1 + 1 := ⟨_, rfl⟩
      have hgr := hI.out.gr
      rw [← hG] at hgr ⊢
      have HGr := Lib.hid hgr
      have g0 : wr.cell? ⟨G, 0, none⟩ = some (.pointer none) := cell_row hgr 0
      have f0 := free_row hgr 0
      have HEnd : Hid (∃ S, S.g = G ∧ S.ps = [] ∧ S.added = 0 ∧ S.nv = 2 ∧ GM (wr.setCell ⟨G, 0, none⟩ (ptr G)) S (fun _ => 0) (fun _ => 0)) := by
        have hI := hI.out
        obtain ⟨rb, eb, rfl⟩ : ∃ a b, L = [a, b] := by
          match L, hLk with
          | [a, b], _ => exact ⟨a, b, rfl⟩
        have oth : ∀ {b T : Nat} {C : Array Value}, wr.heap[b]? = some (.cells C T (0, 0)) → T ≠ 38 → (wr.setCell ⟨G, 0, none⟩ (ptr G)).heap[b]? = some (.cells C T (0, 0)) := fun hb hT => by
          rw [Below.heap_setCell _ _ _ _ (ne_ty hb hgr hT)]; exact hb
        have mp : ∀ {k : TypeId} {b n : Nat} {f : Vx → Option Value}, MapF k wr b n f → MapF k (wr.setCell ⟨G, 0, none⟩ (ptr G)) b n f := fun h => h.stay (Below.heap_setCell _ _ _ _ (fun e => h.ne hgr e.symm))
        have hpt : Ptrs wr cv [rb, eb] := hO.ptrs (by simp)
        refine ⟨⟨G, F, F + 1, F + 1 + 1, rb, eb, cv, 0, 2, []⟩, rfl, rfl, rfl, rfl, ?_⟩
        exact {
          gr := by
            show (wr.setCell ⟨G, 0, none⟩ (ptr G)).heap[G]? = _
            rw [heap_setCell_same _ _ _ _ _ _ hgr]; rfl
          mapP := mp hI.mapP
          mapV := by
            have e : (fun v => (lineB ⟨G, F, F + 1, F + 1 + 1, rb, eb, cv, 0, 2, []⟩ v).map ptr) = fun v => (fk [rb, eb] v).map ptr := by
              funext v
              unfold lineB fk find
              rfl
            rw [e]; exact mp hm
          frm := oth hP (by decide)
          frc := by
            obtain ⟨g, cap, e, h1, h2, h3⟩ := hpt
            refine ⟨g, cap, e, h1, by rw [World.size_setCell]; exact h2, fun j x hx => ?_⟩
            rw [World.cell?_setCell_far _ _ _ _ ?_]
            · exact h3 j x hx
            · have hne := Lib.ownBlock_ne hO hgr (by decide)
              rw [e] at hne
              simp only [Value.ownBlock, ne_eq, Option.some.injEq] at hne
              exact fun e2 => hne e2.symm
          lr := oth (hls 0 rb rfl).1 (by decide)
          lf := oth (hls 1 eb rfl).1 (by decide)
          prt := fun p hp => by cases hp
          lsl := fun p hp => by cases hp
          ln := fun p hp => by cases hp
          chn := fun p hp => by cases hp
          lns := fun p hp => by cases hp
          gns := fun p hp => by cases hp }
      have HLow : Hid (Below w.heap.size w (wr.setCell ⟨G, 0, none⟩ (ptr G))) := hI.out.low.setCell (p := ⟨G, 0, none⟩) (show w.heap.size ≤ G by rw [hG, HF.out]; omega) _
      clear hP hO hLk hls hm hgr hI hG
      go_wp2
      go_ret
      obtain ⟨S, h1, h2, h3, h4, h5⟩ := HEnd.out
      exact ⟨S, by rw [h1]; rfl, h2, h3, h4, h5, HLow.out⟩
end Go.Proofs.YtnjeppmpnaemlaaDoor.Grf
/- DERIVED. before, and Graph.Before. -/
set_option maxRecDepth 100000
namespace Go.Proofs.YtnjeppmpnaemlaaDoor.Grf
open Go.RowKit Str Go.Maps
attribute [local go_sem ↓ high] loadAtVx
/-- the rank of the part that a line's pointer leads to. -/
def rkOf (w : World) (v : Value) : Nat :=
  match v with
  | .pointer (some a) => match w.cell? ⟨a.block, 34, none⟩ with
    | some (.pointer (some p)) => match w.cell? ⟨p.block, 102, none⟩ with
      | some (.int _ r) => r.toNat
      | _ => 0
    | _ => 0
  | _ => 0
/-- a vertex's line, its part, as a walk wants them. -/
structure LinAt (w : World) (S : GS) (v : Vx) (b pb : Nat) (at_ : Int) (rk : Nat) : Prop where
  isL : ∃ s g, LRow w b v s pb at_ g
  row : ∃ d l g c u, PRow w pb d l g rk c u
  rank : rankV S.ps v = rk
  which : (∃ p i, find S.ps v = some (p, i) ∧ p ∈ S.ps ∧ pb = p.b ∧ at_ = (i : Int) + 1 ∧ rk = p.rank) ∨ (find S.ps v = none ∧ pb = S.fr ∧ rk = 0 ∧ ((v = root ∧ at_ = 0) ∨ (v = fin ∧ at_ = 1)))
theorem GM.lin {w : World} {S : GS} {us : Nat → Int} {gn : Vx → Int} (h : GM w S us gn) {v : Vx} {b : Nat} (hb : lineB S v = some b) : ∃ pb at_ rk, LinAt w S v b pb at_ rk := by
  obtain ⟨s, pb, at_, hl, hw⟩ := h.line hb
  rcases hw with ⟨p, i, hf, hp, rfl, rfl, _⟩ | ⟨hf, rfl, hr⟩
  · exact ⟨p.b, _, p.rank, ⟨s, _, hl⟩, ⟨_, _, _, _, _, h.prt p hp⟩, by unfold rankV; rw [hf], .inl ⟨p, i, hf, hp, rfl, rfl, rfl⟩⟩
  · refine ⟨S.fr, at_, 0, ⟨s, _, hl⟩, ⟨_, _, _, _, _, h.frm⟩, by unfold rankV; rw [hf], .inr ⟨hf, rfl, rfl, ?_⟩⟩
    rcases hr with ⟨h1, h2, _⟩ | ⟨h1, h2, _⟩
    · exact .inl ⟨h1, h2⟩
    · exact .inr ⟨h1, h2⟩
theorem LinAt.meas {w : World} {S : GS} {v : Vx} {b pb : Nat} {at_ : Int} {rk : Nat} (h : LinAt w S v b pb at_ rk) : rkOf w (ptr b) = rk := by
  obtain ⟨s, g, hl⟩ := h.isL
  obtain ⟨d, l, g2, c, u, hp⟩ := h.row
  unfold rkOf
  simp only [hl.part, hp.rk]
  exact Int.toNat_natCast rk
/-- two lines' parts are one just if their ranks are. -/
theorem LinAt.same {w : World} {S : GS} {a b : Vx} {la lb pa pb : Nat} {ta tb : Int} {ra rb : Nat} (hf : Falls S.ps) (h : LinAt w S a la pa ta ra) (k : LinAt w S b lb pb tb rb) : (pa = pb ↔ ra = rb) ∧ (ra = rb → (le (ds S.ps) a b ↔ ta ≤ tb)) := by
  have pe : pa = pb → ra = rb := fun e => by
    obtain ⟨_, _, _, _, _, hp⟩ := h.row
    obtain ⟨_, _, _, _, _, hq⟩ := k.row
    subst e
    have := hp.rk.symm.trans hq.rk
    simp only [Option.some.injEq, Value.int.injEq, true_and] at this
    omega
  refine ⟨⟨pe, fun e => ?_⟩, fun e => ?_⟩
  · rcases h.which with ⟨p, i, f1, m1, rfl, _, r1⟩ | ⟨f1, rfl, r1, _⟩ <;> rcases k.which with ⟨q, j, f2, m2, rfl, _, r2⟩ | ⟨f2, rfl, r2, _⟩
    · rw [(le_same hf f1 f2 (by omega)).1]
    · have := hf.2 p m1; omega
    · have := hf.2 q m2; omega
    · rfl
  · rcases h.which with ⟨p, i, f1, m1, _, t1, r1⟩ | ⟨f1, _, r1, t1⟩ <;> rcases k.which with ⟨q, j, f2, m2, _, t2, r2⟩ | ⟨f2, _, r2, t2⟩
    · rw [(le_same hf f1 f2 (by omega)).2]; omega
    · have := hf.2 p m1; omega
    · have := hf.2 q m2; omega
    · rw [le_frame f1 f2]
      rcases t1 with ⟨rfl, rfl⟩ | ⟨rfl, rfl⟩ <;> rcases t2 with ⟨rfl, rfl⟩ | ⟨rfl, rfl⟩
      · simp
      · simp
      · constructor
        · rintro (h | ⟨h, _⟩) <;> exact absurd h.symm root_ne
        · intro h; omega
      · simp
theorem GM.eqLine {w : World} {S : GS} {us : Nat → Int} {gn : Vx → Int} (h : GM w S us gn) {a b : Vx} {la lb : Nat} (ha : lineB S a = some la) (hb : lineB S b = some lb) : la = lb ↔ a = b := by
  constructor
  · intro e
    obtain ⟨s, pb, t, hl, _⟩ := h.line ha
    obtain ⟨s', pb', t', hl', _⟩ := h.line hb
    subst e
    exact hl.inj hl'
  · intro e
    subst e
    rw [ha] at hb
    exact Option.some.inj hb
theorem GM.stepDown {w : World} {S : GS} {us : Nat → Int} {gn : Vx → Int} (h : GM w S us gn) {p : PA} (hp : p ∈ S.ps) : ∃ d L, lineB S p.d.down = some d ∧ Ptrs w p.chv (L ++ [d]) ∧ L.length = p.d.lines.length + 1 := by
  obtain ⟨u, dn, h1, h2, h3⟩ := h.chn p hp
  exact ⟨dn, u :: p.ls, h2, h3, by rw [List.length_cons, h.lsl p hp]⟩
theorem GM.stepUp {w : World} {S : GS} {us : Nat → Int} {gn : Vx → Int} (h : GM w S us gn) {p : PA} (hp : p ∈ S.ps) : ∃ u L, lineB S p.d.up = some u ∧ Ptrs w p.chv (u :: L) ∧ L.length = p.d.lines.length + 1 := by
  obtain ⟨u, dn, h1, h2, h3⟩ := h.chn p hp
  exact ⟨u, p.ls ++ [dn], h1, h3, by simp [h.lsl p hp]⟩
/-- what before answers. -/
def BefQ (S : GS) (a b : Vx) (w : World) (e : Ending) (w' : World) : Prop := (∃ r : Bool, e = .returned (.bool r) ∧ (r = true ↔ (le (ds S.ps) a b ∧ a ≠ b))) ∧ ∃ m, w' = w.drewN m
theorem rk_drewN (w : World) (m : Nat) (v : Value) : rkOf (w.drewN m) v = rkOf w v := rfl
set_option maxHeartbeats 4000000 in
theorem before_any (S : GS) (us : Nat → Int) (gn : Vx → Int) (hok : GOk S) (hsz : ∀ p ∈ S.ps, p.d.lines.length ≤ 100000) (a b : Vx) (la lb : Nat) (ha : lineB S a = some la) (hb : lineB S b = some lb) (w : World) (h : GM w S us gn) :
    Calls Tryd.prog 42 #[ptr la, ptr lb] w (BefQ S a b w) := by
  have H := Lib.hid h
  have HOk := Lib.hid hok
  have HSz := Lib.hid hsz
  have HA := Lib.hid ha
  have HB := Lib.hid hb
  obtain ⟨s1, pb1, t1, hl1, _⟩ := h.line ha
  obtain ⟨s2, pb2, t2, hl2, _⟩ := h.line hb
  have heq := eqL la lb w hl1 hl2
  by_cases e : a = b
  · have el : la = lb := (h.eqLine ha hb).2 e
    rw [decide_eq_true el] at heq
    have He := Lib.hid e
    clear h hok hsz ha hb hl1 hl2 e el
    go_enter Tryd.func42, Tryd.ntmps42
    go_wp2
    go_ret
    exact ⟨⟨false, rfl, by simp [He.out]⟩, 0, rfl⟩
  · have el : ¬ la = lb := fun k => e ((h.eqLine ha hb).1 k)
    rw [decide_eq_false el] at heq
    have Hne := Lib.hid e
    clear h hok hsz ha hb hl1 hl2 e el
    go_enter Tryd.func42, Tryd.ntmps42
    go_wp2
    go_loopw [0, 1] (fun v u wr => ∃ (x y : Vx) (lx ly n : Nat), v = ptr lx ∧ u = ptr ly ∧ wr = w.drewN n ∧ Hid (lineB S x = some lx) ∧ Hid (lineB S y = some ly) ∧ Hid (le (ds S.ps) a b ↔ le (ds S.ps) x y)) (fun v u wr => rkOf wr v + rkOf wr u)
    case atStart => exact ⟨a, b, la, lb, 0, rfl, rfl, rfl, HA, HB, Iff.rfl⟩
    case round =>
      obtain ⟨x, y, lx, ly, n, rfl, rfl, rfl, HX, HY, HI⟩ := hrel
      have h := H.out.drewN n
      obtain ⟨W, hW⟩ : ∃ W, W = w.drewN n := ⟨_, rfl⟩
      have HW := Lib.hid hW
      rw [← hW] at h ⊢
      clear hW
      obtain ⟨px, tx, rx, Lx⟩ := h.lin HX.out
      obtain ⟨py, ty, ry, Ly⟩ := h.lin HY.out
      obtain ⟨sx, gx, rowx⟩ := Lx.isL
      obtain ⟨sy, gy, rowy⟩ := Ly.isL
      obtain ⟨dx, lnx, gvx, chx, ux, prx⟩ := Lx.row
      obtain ⟨dy, lny, gvy, chy, uy, pry⟩ := Ly.row
      obtain ⟨hsame, hcmp⟩ := Lx.same HOk.out.falls Ly
      have x34 : ∀ m, (W.drewN m).cell? ⟨lx, 34, none⟩ = some (ptr px) := fun _ => rowx.part
      have y34 : ∀ m, (W.drewN m).cell? ⟨ly, 34, none⟩ = some (ptr py) := fun _ => rowy.part
      have hnp : ∀ m, (binOp .neq 34 (ptr px) (ptr py)).run Tryd.prog (W.drewN m) = .ok (.bool (!decide (px = py))) (W.drewN m) := fun m => neP px py (W.drewN m) prx pry
      have Hx35 := Lib.hid rowx.pos
      have Hy35 := Lib.hid rowy.pos
      have Hxr := Lib.hid prx.rk
      have Hyr := Lib.hid pry.rk
      have Hmx := Lib.hid Lx.meas
      have Hmy := Lib.hid Ly.meas
      have HLx := Lib.hid Lx
      have HLy := Lib.hid Ly
      have Hcmp := Lib.hid hcmp
      have Hg := Lib.hid h
      have Hsame := Lib.hid hsame
      by_cases hp : px = py
      · have Hr := Lib.hid (hsame.1 hp)
        rw [decide_eq_true hp] at hnp
        clear heq Lx Ly rowx rowy prx pry hsame hcmp h hp
        go_upto_region 3 with (fail)
        go_quiet (fail)
        obtain ⟨W2, hW2⟩ : ∃ W2, W2 = W.drewN nq := ⟨_, rfl⟩
        have HW2 := Lib.hid hW2
        rw [← hW2]
        have x35 : ∀ m, (W2.drewN m).cell? ⟨lx, 35, none⟩ = some (.int .i64 tx) := fun _ => by rw [hW2]; exact Hx35.out
        have y35 : ∀ m, (W2.drewN m).cell? ⟨ly, 35, none⟩ = some (.int .i64 ty) := fun _ => by rw [hW2]; exact Hy35.out
        clear hW2 x34 y34 hnp
        revert nq
        intro n0 HW2
        by_cases ht : tx ≤ ty
        all_goals
          go_upto_region 7 with (fail)
          go_quiet (fail)
          go_wp2
          go_ret
          refine ⟨⟨_, rfl, ?_⟩, n + n0 + nq, ?_⟩
          · rw [HI.out, Hcmp.out Hr.out]
            simp [ht, Hne.out]
          · rw [HW2.out, HW.out]; simp [Nat.add_assoc]
      · rw [decide_eq_false hp] at hnp
        have Hnr := Lib.hid (fun e => hp (hsame.2 e))
        clear heq Lx Ly rowx rowy prx pry hsame hcmp h hp
        go_upto_region 3 with (fail)
        go_quiet (fail)
        obtain ⟨W2, hW2⟩ : ∃ W2, W2 = W.drewN nq := ⟨_, rfl⟩
        have HW2 := Lib.hid hW2
        rw [← hW2]
        have x34b : ∀ m, (W2.drewN m).cell? ⟨lx, 34, none⟩ = some (ptr px) := fun m => by rw [hW2]; exact x34 m
        have y34b : ∀ m, (W2.drewN m).cell? ⟨ly, 34, none⟩ = some (ptr py) := fun m => by rw [hW2]; exact y34 m
        have x102 : ∀ m, (W2.drewN m).cell? ⟨px, 102, none⟩ = some (.int .i64 rx) := fun _ => by rw [hW2]; exact Hxr.out
        have y102 : ∀ m, (W2.drewN m).cell? ⟨py, 102, none⟩ = some (.int .i64 ry) := fun _ => by rw [hW2]; exact Hyr.out
        have Hg2 : Hid (GM W2 S us gn) := by show GM W2 S us gn; rw [hW2]; exact Hg.out.drewN nq
        clear hW2 x34 y34 hnp
        revert nq
        intro n0 HW2
        by_cases hgt : ry < rx
        · have hgtI : (ry : Int) < (rx : Int) := by omega
          obtain ⟨p, i, hf, hpm, rfl, _, hrx⟩ : ∃ p i, find S.ps x = some (p, i) ∧ p ∈ S.ps ∧ px = p.b ∧ tx = (i : Int) + 1 ∧ rx = p.rank := by
            rcases HLx.out.which with h | ⟨_, _, h0, _⟩
            · exact h
            · omega
          obtain ⟨d, L, hd, hL, hlen⟩ := Hg2.out.stepDown hpm
          have Hd := Lib.hid hd
          have HDn : Hid (∀ m, Calls Tryd.prog 66 #[ptr p.b] (W2.drewN m) fun e w' => e = .returned (ptr d) ∧ ∃ k, w' = (W2.drewN m).drewN k) := fun m =>
            down_any p.b L d p.chv (W2.drewN m) (Hg2.out.prt p hpm).chn ((Hg2.out.drewN m).stepDown hpm |> fun _ => hL) (by rw [hlen]; have := HSz.out p hpm; omega)
          have hld := le_down HOk.out.adm HOk.out.falls (b := y) hf (by rw [← hrx, HLy.out.rank]; exact hgt)
          have HNext : Hid (le (ds S.ps) a b ↔ le (ds S.ps) p.d.down y) := HI.out.trans hld.1
          have HRk : Hid (rankV S.ps p.d.down < rx) := by show _ < _; rw [hrx]; exact hld.2
          clear hf hd hL hlen hld
          go_upto_region 4 with (fail)
          go_quiet (fail)
          go_wp2_with (go_at_call 66; refine (HDn.out _).mono ?_; rintro e w5 ⟨rfl, k, rfl⟩)
          go_roundw
          case rel => exact ⟨p.d.down, y, d, ly, n + n0 + nq + k, rfl, rfl, by rw [HW2.out, HW.out]; simp [Nat.add_assoc], Hd.out, HY.out, HNext.out⟩
          case measure =>
            have m1 : rkOf W2 (ptr d) = rankV S.ps p.d.down := by
              obtain ⟨_, _, r, L9⟩ := Hg2.out.lin Hd.out
              rw [L9.meas, L9.rank]
            have m2 : rkOf W2 (ptr ly) = ry := by rw [HW2.out, rk_drewN]; exact Hmy.out
            simp only [rk_drewN, m1, m2, Hmx.out, Hmy.out]
            have := HRk.out
            omega
        · have hgtI : ¬ (ry : Int) < (rx : Int) := by omega
          have hlt : rx < ry := by
            have h9 : ¬ rx = ry := Hnr.out
            omega
          obtain ⟨p, i, hf, hpm, rfl, _, hry⟩ : ∃ p i, find S.ps y = some (p, i) ∧ p ∈ S.ps ∧ py = p.b ∧ ty = (i : Int) + 1 ∧ ry = p.rank := by
            rcases HLy.out.which with h | ⟨_, _, h0, _⟩
            · exact h
            · omega
          obtain ⟨d, L, hd, hL, hlen⟩ := Hg2.out.stepUp hpm
          have Hd := Lib.hid hd
          have HUp : Hid (∀ m, Calls Tryd.prog 67 #[ptr p.b] (W2.drewN m) fun e w' => e = .returned (ptr d) ∧ ∃ k, w' = (W2.drewN m).drewN k) := fun m =>
            up_any p.b L d p.chv (W2.drewN m) (Hg2.out.prt p hpm).chn hL (by rw [hlen]; have := HSz.out p hpm; omega)
          have hld := le_up HOk.out.adm HOk.out.falls (a := x) hf (by rw [← hry, HLx.out.rank]; exact hlt)
          have HNext : Hid (le (ds S.ps) a b ↔ le (ds S.ps) x p.d.up) := HI.out.trans hld.1
          have HRk : Hid (rankV S.ps p.d.up < ry) := by show _ < _; rw [hry]; exact hld.2
          clear hf hd hL hlen hld hlt
          go_upto_region 4 with (fail)
          go_quiet (fail)
          go_wp2_with (go_at_call 67; refine (HUp.out _).mono ?_; rintro e w5 ⟨rfl, k, rfl⟩)
          go_roundw
          case rel => exact ⟨x, p.d.up, lx, d, n + n0 + nq + k, rfl, rfl, by rw [HW2.out, HW.out]; simp [Nat.add_assoc], HX.out, Hd.out, HNext.out⟩
          case measure =>
            have m1 : rkOf W2 (ptr d) = rankV S.ps p.d.up := by
              obtain ⟨_, _, r, L9⟩ := Hg2.out.lin Hd.out
              rw [L9.meas, L9.rank]
            have m2 : rkOf W2 (ptr lx) = rx := by rw [HW2.out, rk_drewN]; exact Hmx.out
            simp only [rk_drewN, m1, m2, Hmx.out, Hmy.out]
            have := HRk.out
            omega
end Go.Proofs.YtnjeppmpnaemlaaDoor.Grf
