/- DERIVED. Texts of ours, merged: XGrfAdd XGrfNew2 XGrfGx XGrfText XGrfEval. -/
import Derived.Test.YtnjeppmpnaemlaaDoorMrk18
import Derived.Test.YtnjeppmpnaemlaaDoorMrk8
import Derived.Test.YtnjeppmpnaemlaaDoorMrk4
import Derived.Deep.RegionHeld
/- DERIVED. Add: a part that fits is put; of another one the graph stays. -/
set_option maxRecDepth 100000
namespace Go.Proofs.YtnjeppmpnaemlaaDoor.Grf
open Go.RowKit Str Go.Maps
attribute [local go_sem ↓ high] loadAtVx loadAtHs loadAtGv
/-- what is asked of a given part's size. -/
structure DB (d : PD) : Prop where
  lines : d.lines.length ≤ 1000
  gone : d.gone.length ≤ 1000
  big : ∀ s ∈ d.lines, s.size ≤ 281474976710656
/-- a graph behind at most n adds. -/
structure GX (w : World) (S : GS) (n : Nat) : Prop where
  gi : GI w S
  ps : S.ps.length ≤ n
  added : S.added ≤ n
  nv : S.nv ≤ 2 + 1000 * n
  db : ∀ p ∈ S.ps, DB p.d
theorem GI.below {w w' : World} {S : GS} (h : GI w S) (hb : Below w.heap.size w w') : GI w' S := ⟨h.gm.below hb, h.ok, h.mne⟩
theorem GX.below {w w' : World} {S : GS} {n : Nat} (h : GX w S n) (hb : Below w.heap.size w w') : GX w' S n := ⟨h.gi.below hb, h.ps, h.added, h.nv, h.db⟩
theorem GX.up {w : World} {S : GS} {n : Nat} (h : GX w S n) : GX w S (n + 1) := ⟨h.gi, by have := h.ps; omega, by have := h.added; omega, by have := h.nv; omega, h.db⟩
/-- what may be added fits. -/
theorem add_fits {S : GS} (hl : ∀ p ∈ S.ps, p.ls.length = p.d.lines.length) {d : PD} (hd : d.lines.length ≤ 1000) (hf : d.first ≤ 9223372036854775807) (h : refB S d = 0) : Fits d (ds S.ps) ∧ le (ds S.ps) d.up d.down ∧ d.up ≠ d.down := by
  unfold refB at h
  by_cases h1 : meetsB S d = true
  · rw [if_pos h1] at h; cases h
  rw [if_neg h1] at h
  by_cases h2 : formB d = true
  · rw [h2] at h
    simp only [Bool.not_true, Bool.false_eq_true, if_false] at h
    by_cases h3 : ([d.up, d.down].all fun x => (lineB S x).isSome) = true
    · rw [h3] at h
      simp only [Bool.not_true, Bool.false_eq_true, if_false] at h
      by_cases h4 : (d.gone.all fun x => (lineB S x).isSome) = true
      · rw [h4] at h
        simp only [Bool.not_true, Bool.false_eq_true, if_false] at h
        by_cases h5 : BefB S d.up d.down = true
        · have inn : ∀ {x : Vx}, (lineB S x).isSome = true → x ∈ verts (ds S.ps) := fun {x} hx => by
            obtain ⟨b, hb⟩ := Option.isSome_iff_exists.1 hx
            exact (lineB_in hl).1 ⟨b, hb⟩
          unfold BefB at h5
          rw [Bool.and_eq_true] at h5
          obtain ⟨hle, hne⟩ := (befB_iff S d.up d.down).1 h5.2
          unfold formB at h2
          simp only [Bool.and_eq_true, Bool.not_eq_true', Bool.or_eq_false_iff, decide_eq_false_iff_not, decide_eq_true_eq, List.all_eq_true] at h2
          obtain ⟨⟨⟨⟨f0, fu⟩, fd⟩, fg⟩, fn⟩ := h2
          simp only [List.all_cons, List.all_nil, Bool.and_true, Bool.and_eq_true] at h3
          have hm : meetsB S d = false := by simpa using h1
          unfold meetsB at hm
          rw [Bool.or_eq_false_iff] at hm
          have f0' : 0 ≤ d.first := by omega
          have vn : ∀ i, i < d.lines.length → (vert d i).n = d.first + i ∨ (vert d i).n = d.first + i - 18446744073709551616 := fun i hi => by
            show IntKind.i64.wrap (d.first + i) = _ ∨ IntKind.i64.wrap (d.first + i) = _
            rw [IntKind.wrap_i64]
            omega
          refine ⟨⟨fun q hq e => ?_, fun v hv hin => ?_, ?_, inn h3.1, inn h3.2, fun v hv => ?_, fn, f0', fu, fd⟩, hle, hne⟩
          · obtain ⟨p, hp, rfl⟩ := List.mem_map.1 hq
            have hn : partB S d.nm = none := by simpa using hm.1
            unfold partB at hn
            rw [List.find?_eq_none] at hn
            exact hn p hp (by simpa using e)
          · obtain ⟨i, hi, rfl⟩ := mem_own.1 hv
            have h9 := List.any_eq_false.1 hm.2 i (List.mem_range.2 hi)
            unfold metB at h9
            obtain ⟨b, hb⟩ := (lineB_in hl).2 hin
            rw [hb] at h9
            simp only [Option.isSome_some, Bool.and_true, isL, Bool.and_eq_true, Bool.not_eq_true', decide_eq_false_iff_not, not_and, Classical.not_not] at h9
            have hv1 := vn i hi
            by_cases er : vert d i = root
            · have : (vert d i).n = -1 := by rw [er]; rfl
              omega
            · have : (vert d i).n = -2 := by rw [h9 er]; rfl
              omega
          · rw [List.nodup_iff_pairwise_ne, List.pairwise_iff_getElem]
            intro i j hi hj hij e
            rw [own_at hi, own_at hj] at e
            rw [own_len] at hi hj
            have e1 := vn i hi
            have e2 := vn j hj
            have e3 : (vert d i).n = (vert d j).n := by rw [e]
            omega
          · have hx := List.all_eq_true.1 h4 v hv
            have hg := fg v hv
            unfold isL at hg
            simp only [Bool.and_eq_true, Bool.not_eq_true', decide_eq_false_iff_not] at hg
            exact ⟨inn hx, hg.1, hg.2⟩
        · rw [Bool.not_eq_true] at h5
          rw [h5] at h
          simp at h
      · rw [Bool.not_eq_true] at h4
        rw [h4] at h
        simp at h
    · rw [Bool.not_eq_true] at h3
      rw [h3] at h
      simp at h
  · rw [Bool.not_eq_true] at h2
    rw [h2] at h
    simp at h
def AddQ (w : World) (S : GS) (n : Nat) (d : PD) (w' : World) : Prop := if refB S d = 0 then ∃ p : PA, p.d = d ∧ w.heap.size ≤ p.b ∧ (∀ b ∈ p.ls, w.heap.size ≤ b) ∧ GX w' (moreS S p) (n + 1) ∧ Chg (blk S) w w' else Below w.heap.size w w'
theorem GX.more {w w' : World} {S : GS} {n : Nat} {d : PD} (h : GX w S n) (hd : DB d) {p : PA} (hp : p.d = d) (hg : GI w' (moreS S p)) : GX w' (moreS S p) (n + 1) where
  gi := hg
  ps := by have := h.ps; show (p :: S.ps).length ≤ _; rw [List.length_cons]; omega
  added := by have := h.added; show S.added + 1 ≤ _; omega
  nv := by have := h.nv; have := hd.lines; show S.nv + p.d.lines.length ≤ _; rw [hp]; omega
  db := fun q hq => by
    rcases List.mem_cons.1 hq with rfl | hq
    · rw [hp]; exact hd
    · exact h.db q hq
set_option maxHeartbeats 4000000 in
theorem add_any (S : GS) (n : Nat) (hn : n ≤ 100) (w : World) (h : GX w S n) (hL : Laid w) (d : PD) (lnv gnv : Value) (hd : DB d) (hfi : d.first ≤ 9223372036854775807) (hl : RdS w lnv d.lines) (hg : RdV w gnv d.gone) (hz : d.gone = [] → ∃ A c, gnv = .slice A 0 c ∧ (A = none ∨ ∃ b off, A = some ⟨b, off, none⟩)) :
    Calls Tryd.prog 22 #[ptr S.g, .agg (givC d lnv gnv)] w fun e w' => e = .returned (.int .i64 (refB S d)) ∧ AddQ w S n d w' := by
  have hbox := Go.heap_alloc_new w (.cells (givC d lnv gnv) 31)
  have k1 : Below w.heap.size w (w.alloc (.cells (givC d lnv gnv) 31)) := (Below.refl _ _).alloc (Nat.le_refl _) _
  obtain ⟨W, hW⟩ : ∃ W, W = w.alloc (.cells (givC d lnv gnv) 31) := ⟨_, rfl⟩
  rw [← hW] at hbox k1
  obtain ⟨bx, hbx⟩ : ∃ bx, bx = w.heap.size := ⟨_, rfl⟩
  rw [← hbx] at hbox
  have hgb : GRow W bx d lnv gnv := hbox
  have eg := loadGv_eq hgb
  have h1 := h.below k1
  have hR := refuses_any S (usS S) (gnS S) h1.gi.ok (fun p hp => by have := (h1.db p hp).lines; omega) d lnv gnv W h1.gi.gm (hL.below k1 (Nat.le_refl _)) (hl.below k1) (by have := hd.lines; omega) (hg.below k1) (by have := hd.gone; omega)
  have HW := Lib.hid hW.symm
  have HBx : Hid (∀ u, Below W.heap.size W u → (loadGv (.pointer (some ⟨bx, 0, none⟩))).run Tryd.prog u = .ok (.agg (givC d lnv gnv)) u) := fun u hu => loadGv_eq (at_below hgb hu)
  have K1 := Lib.hid k1
  have HPut : Hid (∀ u, Below W.heap.size W u → refB S d = 0 → Calls Tryd.prog 45 #[ptr S.g, .agg (givC d lnv gnv)] u fun e w' => e = .returned (.tuple #[]) ∧ PutQ u S d w') := fun u hu hr => by
    obtain ⟨q1, q2, q3⟩ := add_fits h.gi.gm.lsl hd.lines hfi hr
    have hb2 := k1.trans (hu.mono k1.size)
    exact put_any S u (h.gi.below hb2) d lnv gnv q1 q2 q3 (hl.below hb2) (hg.below hb2) hz hd.lines hd.gone hd.big (by have := h.ps; omega) (fun p hp => (h.db p hp).gone) (by have := h.added; omega) (by have := h.nv; omega)
  have HEnd : Hid (∀ u w', Below W.heap.size W u → refB S d = 0 → PutQ u S d w' → AddQ w S n d w') := fun u w' hu hr hq => by
    have hb2 := k1.trans (hu.mono k1.size)
    obtain ⟨p, hp, hpb, hpl, hgi, hc⟩ := hq
    unfold AddQ
    rw [if_pos hr]
    refine ⟨p, hp, Nat.le_trans hb2.size hpb, fun b hb => Nat.le_trans hb2.size (hpl b hb), h.more hd hp hgi, (Chg.of_below hb2).trans hc⟩
  clear h h1 hL hd hfi hl hg hz hbox hgb hW k1
  by_cases hr : refB S d = 0
  · rw [hr] at hR ⊢
    have Hr := Lib.hid hr
    clear hr
    go_enter Tryd.func22, Tryd.ntmps22
    go_upto_region 1 with (fail)
    rw [HW.out, ← hbx]
    clear hbx
    go_wp2_with (first | (go_at_call 44; refine hR.mono ?_; rintro e w2 ⟨rfl, low2⟩; have eg2 := HBx.out w2 low2; have hP2 := HPut.out w2 low2 Hr.out) | (go_at_call 45; refine hP2.mono ?_; rintro e w3 ⟨rfl, hq3⟩))
    go_ret
    exact ⟨rfl, HEnd.out w2 w3 low2 Hr.out hq3⟩
  · obtain ⟨z, hz⟩ : ∃ z, z = refB S d := ⟨_, rfl⟩
    rw [← hz] at hR hr ⊢
    have Hz := Lib.hid hz
    have Hr := Lib.hid hr
    clear hz
    go_enter Tryd.func22, Tryd.ntmps22
    go_upto_region 1 with (fail)
    rw [HW.out, ← hbx]
    clear hbx
    go_wp2_with (go_at_call 44; refine hR.mono ?_; rintro e w2 ⟨rfl, low2⟩)
    go_ret
    refine ⟨rfl, ?_⟩
    unfold AddQ
    rw [← Hz.out, if_neg Hr.out]
    exact K1.out.trans (low2.mono K1.out.size)
end Go.Proofs.YtnjeppmpnaemlaaDoor.Grf
/- DERIVED. New: a graph without parts (the walk). Written by mknew.py. -/
set_option maxRecDepth 100000
namespace Go.Proofs.YtnjeppmpnaemlaaDoor.Grf
open Go.RowKit Str Go.Maps
attribute [local go_sem ↓ high] loadAtVx
set_option maxHeartbeats 4000000 in
theorem new2_any (w : World) (hL : Laid w) :
    Calls Tryd.prog 21 #[] w fun e w' => ∃ S, e = .returned (ptr S.g) ∧ S.ps = [] ∧ S.added = 0 ∧ S.nv = 2 ∧ GM w' S (fun _ => 0) (fun _ => 0) ∧ (∀ b ∈ [S.g, S.mp, S.mv, S.fr, S.rb, S.eb], w.heap.size ≤ b) ∧ Below w.heap.size w w' := by
  have HL := Lib.hid hL
  have hv1 := loadVx_eq hL.r
  have hv2 := loadVx_eq hL.e
  clear hL
  have hmm := @run_makeMap Tryd.prog
  go_enter Tryd.func21, Tryd.ntmps21
  go_upto_region 2 with (fail)
  have h4 := four_new w (.cells Tryd.zeroCells90 90) (.map #[] 0) (.map #[] 0) (.cells #[.pointer none, ptr w.heap.size, .map (some (w.heap.size + 1)), .map (some (w.heap.size + 1 + 1)), .int .i64 0] 38)
  have k4 := below4 w (.cells Tryd.zeroCells90 90) (.map #[] 0) (.map #[] 0) (.cells #[.pointer none, ptr w.heap.size, .map (some (w.heap.size + 1)), .map (some (w.heap.size + 1 + 1)), .int .i64 0] 38)
  obtain ⟨W, hW⟩ : ∃ W, W = (((w.alloc (.cells Tryd.zeroCells90 90)).alloc (.map #[] 0)).alloc (.map #[] 0)).alloc (.cells #[.pointer none, ptr w.heap.size, .map (some (w.heap.size + 1)), .map (some (w.heap.size + 1 + 1)), .int .i64 0] 38) := ⟨_, rfl⟩
  rw [← hW] at h4 k4 ⊢
  obtain ⟨F, hF⟩ : ∃ F, F = w.heap.size := ⟨_, rfl⟩
  rw [← hF] at h4 ⊢
  have HF := Lib.hid hF
  have hL2 := HL.out.below k4 (Nat.le_refl _)
  have hu1 := loadVx_eq hL2.r
  have hu2 := loadVx_eq hL2.e
  have NI0 : Hid (NI w F (F + 1) (F + 1 + 1) (F + 1 + 1 + 1) 0 W) := by
    refine ⟨h4.2.2.2, ?_, k4, nils, [], ?_, OwnP.nil _ _, rfl, fun j b h => by simp at h, ?_⟩
    · exact MapF.empty _ h4.2.1
    · show W.heap[F]? = _; rw [h4.1, zero_part]
    · have := MapF.empty 27 h4.2.2.1
      have e : (fun v => (fk [] v).map ptr) = fun _ : Vx => (none : Option Value) := by
        funext v
        unfold fk
        split
        · rfl
        · split <;> rfl
      rw [e]; exact this
  clear hv1 hv2 hmm k4 hW h4 hF hL2
  go_upto_region 3 with (fail)
  rw [fold_two]
  clear h
  clear hu1 hu2
  go_loopw [13] (fun i wr => ∃ k : Nat, k ≤ 2 ∧ i = .int .i64 k ∧ Hid (NI w F (F + 1) (F + 1 + 1) (F + 1 + 1 + 1) k wr)) (fun i _ => 2 - (intOf i).toNat)
  case atStart => exact ⟨0, by omega, rfl, NI0.out⟩
  case round =>
    obtain ⟨k, hk, rfl, hI⟩ := hrel
    clear NI0
    by_cases hlt : k < 2
    · have hltI : (k : Int) < 2 := by omega
      have hix : (Instr.index 91 (.agg (root.c.toList ++ fin.c.toList).toArray) (.int .i64 k)).run Tryd.prog wr = .ok (.agg (vk k).c) wr := by
        rw [idx_at _ k hlt wr]
        rcases (show k = 0 ∨ k = 1 by omega) with rfl | rfl
        · rw [show vk 0 = root from rfl, (two_at root fin).1]
        · rw [show vk 1 = fin from rfl, (two_at root fin).2]
      have hk0 : 0 ≤ (k : Int) := by omega
      have HI := hI
      clear hI
      go_upto_region 5 with (refine wpList_store_row rfl 27 (.tmp 3) (.tmp 15) rfl wr.heap.size (vk k).c rfl rfl 27 _ (Go.heap_alloc_new wr _) (infoVxA _) (by simp [Vx.c_size]) (Vx.one _) ?_; rw [World.setRow_alloc_new])
      clear hix
      obtain ⟨w4, hw4⟩ : ∃ w4, w4 = wr.alloc (.cells (vk k).c 27) := ⟨_, rfl⟩
      have h4 : w4.heap[wr.heap.size]? = some (.cells (vk k).c 27 (0, 0)) := by rw [hw4]; exact Go.heap_alloc_new wr _
      have l4 : Below wr.heap.size wr w4 := by rw [hw4]; exact (Below.refl _ _).alloc (Nat.le_refl _) _
      rw [← hw4]
      clear hw4
      obtain ⟨bx, hbx⟩ : ∃ bx, bx = wr.heap.size := ⟨_, rfl⟩
      rw [← hbx] at h4 ⊢
      obtain ⟨G, hG⟩ : ∃ G, G = F + 1 + 1 + 1 := ⟨_, rfl⟩
      obtain ⟨V, hV⟩ : ∃ V, V = F + 1 + 1 := ⟨_, rfl⟩
      rw [← hG, ← hV] at HI ⊢
      obtain ⟨cv, L, hP, hO, hLk, hls, hm⟩ := HI.out.rest
      have g4 := at_below HI.out.gr l4
      have HGr := Lib.hid g4
      have HP4 : Hid (PRow w4 F pd0 nils nils 0 cv 0) := at_below hP l4
      have HO4 := Lib.hid (hO.below l4)
      have HM4 : Hid (MapF 27 w4 V k (fun v => (fk L v).map ptr)) := hm.stay (l4.block _ hm.lt)
      have H4 := Lib.hid h4
      have HLk := Lib.hid hLk
      have Hls := Lib.hid hls
      have HL4 := Lib.hid l4
      have e3 : w4.cell? ⟨G, 3, none⟩ = some (.map (some V)) := cell_row g4 3
      have e1 : w4.cell? ⟨G, 1, none⟩ = some (ptr F) := cell_row g4 1
      have HE3 := Lib.hid e3
      have HE1 := Lib.hid e1
      have HFl : Hid (w.heap.size ≤ F ∧ F + 3 = G ∧ F + 2 = V ∧ k ≤ 2) := ⟨by rw [HF.out]; exact Nat.le_refl _, by rw [hG], by rw [hV], hk⟩
      have HEx : Hid (∀ wx, Below w4.heap.size w4 wx → Calls Tryd.prog 43 #[ptr F, .agg (vk k).c, .string ByteArray.empty] wx fun e w' => ∃ lb cv', e = .returned (ptr lb) ∧ ExQ w.heap.size F pd0 nils nils 0 0 L cv (vk k) ByteArray.empty wx lb cv' w') := fun wx hx =>
        extend_any w.heap.size F pd0 nils nils 0 0 L cv (vk k) ByteArray.empty wx (at_below HP4.out hx) (HO4.out.below hx) (by rw [hLk]; omega) (Nat.le_trans HI.out.low.size (Nat.le_trans l4.size hx.size))
      obtain ⟨K, hK⟩ : ∃ K : List Nat, K = F :: V :: cv.ownBlock.toList := ⟨_, rfl⟩
      have HKF : Hid (F ∈ K) := by show F ∈ K; rw [hK]; simp
      have HKV : Hid (V ∈ K) := by show V ∈ K; rw [hK]; simp
      have HKo : Hid (∀ b, cv.ownBlock = some b → b ∈ K) := by intro b hb; rw [hK, hb]; simp
      have nk : ∀ {b T : Nat} {C : Array Value}, w4.heap[b]? = some (.cells C T (0, 0)) → T ≠ 90 → T ≠ 87 → b ∉ K := fun hb h1 h2 hm => by
        rw [hK] at hm
        simp only [List.mem_cons, Option.mem_toList] at hm
        rcases hm with h | h | h
        · exact ne_ty hb HP4.out h1 h
        · exact HM4.out.ne hb h
        · exact Lib.ownBlock_ne HO4.out hb h2 h
      have HKG : Hid (G ∉ K) := nk HGr.out (by decide) (by decide)
      have HKb : Hid (bx ∉ K) := nk H4.out (by decide) (by decide)
      have HNx : Hid (∀ (wc w5 w6 : World) (lb : Nat) (cv' : Value), Below w4.heap.size w4 wc → ExQ w.heap.size F pd0 nils nils 0 0 L cv (vk k) ByteArray.empty wc lb cv' w5 → MapF 27 w6 V (if ((fk L (vk k)).map ptr).isSome = true then k else k + 1) (upd1 (fun v => (fk L v).map ptr) (vk k) (some (ptr lb))) → Chg [V] w5 w6 → NI w F (F + 1) V G (k + 1) w6) := fun wc w5 w6 lb cv' hb hx hm hc =>
        NI.next HI.out (l4.trans (hb.mono l4.size)) hLk hls hlt (at_below HP4.out hb) (HO4.out.below hb) (HM4.out.stay (hb.block _ HM4.out.lt)) hx hm hc HFl.out.1 (by have := HFl.out; omega) (by have := HFl.out; omega)
      clear hP hO hLk hls hm g4 h4 l4 hbx e3 e1 hK nk
      clear hG hV
      have apx : apartB [16, 17, 18, 19, 20, 21, 22, 23, 24, 25, 26, 1011] = true := by decide
      refine wp_region_any (by kernel_rfl) ?_
      change wpAny _ _ _ _ _ _ _ (World.drew _)
      refine wpAny_inv2 (fun ll aa wx => Hid (ll.size = 12 ∧ RelC 10 K w4 ll wx) ∧ ∃ (z : Nat → Value), Hid (aa = ⟨#[.pointer none, .pointer (some ⟨G, 0, none⟩), undef, .pointer (some ⟨bx, 0, none⟩), .agg Tryd.zeroCells90, .pointer (some ⟨F, 0, none⟩), .map (some (F + 1)), .map (some V), .agg #[.pointer none, .pointer (some ⟨F, 0, none⟩), .map (some (F + 1)), .map (some V), .int .i64 0], .pointer (some ⟨G, 0, none⟩), .agg root.c, .agg fin.c, .agg (root.c.toList ++ fin.c.toList).toArray, .int .i64 (k : Nat), .bool true, .agg (vk k).c, z 16, z 17, z 18, z 19, z 20, z 21, z 22, z 23, z 24, z 25, z 26, u27, undef, undef, undef, undef, undef], []⟩) ∧ Holding [16, 17, 18, 19, 20, 21, 22, 23, 24, 25, 26, 1011] [some (ptr G), some (.pointer (some ⟨G, 0, none⟩)), some (.pointer (some ⟨G, 3, none⟩)), some (.map (some V)), some (.agg (vk k).c), some (ptr G), some (.pointer (some ⟨G, 0, none⟩)), some (.pointer (some ⟨G, 1, none⟩)), some (ptr F), some (.agg (vk k).c), none, none] ll z ∧ Whu ll 10 11 (EV w.heap.size F L cv (vk k) w4) (z 26) wx ∧ Whn ll 11 (fun _ ww => NI w F (F + 1) V G (k + 1) ww) (z 1011) wx) ?_ (by kernel_rfl) ?_ ?_ _ rfl _ _ ?_
      · rintro ll aa wx ⟨hI, _⟩
        exact hI.out.1
      · rintro ll aa wx ⟨hI, z, ha, hz, hp10, hp11⟩ hall
        have hx := Lib.hid hI.out.2
        have e0 : z 16 = ptr G := hz 0 _ (hall 0 (by decide)) rfl
        have e1 : z 17 = .pointer (some ⟨G, 0, none⟩) := hz 1 _ (hall 1 (by decide)) rfl
        have e2 : z 18 = .pointer (some ⟨G, 3, none⟩) := hz 2 _ (hall 2 (by decide)) rfl
        have e3 : z 19 = .map (some V) := hz 3 _ (hall 3 (by decide)) rfl
        have e4 : z 20 = .agg (vk k).c := hz 4 _ (hall 4 (by decide)) rfl
        have e5 : z 21 = ptr G := hz 5 _ (hall 5 (by decide)) rfl
        have e6 : z 22 = .pointer (some ⟨G, 0, none⟩) := hz 6 _ (hall 6 (by decide)) rfl
        have e7 : z 23 = .pointer (some ⟨G, 1, none⟩) := hz 7 _ (hall 7 (by decide)) rfl
        have e8 : z 24 = ptr F := hz 8 _ (hall 8 (by decide)) rfl
        have e9 : z 25 = .agg (vk k).c := hz 9 _ (hall 9 (by decide)) rfl
        have p11 := hp11.get (hall 11 (by decide))
        clear hall hz hI hp10 hp11
        obtain rfl := ha.out
        clear ha
        clear apx
        have HN := Lib.hid p11
        clear e0 e1 e2 e3 e4 e5 e6 e7 e8 e9 hx p11
        rename World => w9
        
        generalize z 16 = y16
        generalize z 17 = y17
        generalize z 18 = y18
        generalize z 19 = y19
        generalize z 20 = y20
        generalize z 21 = y21
        generalize z 22 = y22
        generalize z 23 = y23
        generalize z 24 = y24
        generalize z 25 = y25
        generalize z 26 = y26
        go_wp2
        go_roundw
        case rel =>
          have hV : V = F + 1 + 1 := by have e := HFl.out; omega
          have hG : G = F + 1 + 1 + 1 := by have e := HFl.out; omega
          subst hV
          subst hG
          exact ⟨_, _, _, _, _, _, _, _, _, _, _, _, _, _, _, _, ⟨k + 1, by omega, by go_num, HN.out⟩, rfl⟩
        case measure => simp [intOf]; omega
      · rintro ll aa wx i ⟨hI, z, ha, hz, hp10, hp11⟩ hcl hi hu hw
        obtain rfl := ha.out
        have hsz := Lib.hid hI.out.1
        have hx := Lib.hid hI.out.2
        clear ha hI
        have hin : i < 12 := hi
        obtain rfl | rfl | rfl | rfl | rfl | rfl | rfl | rfl | rfl | rfl | rfl | rfl : i = 0 ∨ i = 1 ∨ i = 2 ∨ i = 3 ∨ i = 4 ∨ i = 5 ∨ i = 6 ∨ i = 7 ∨ i = 8 ∨ i = 9 ∨ i = 10 ∨ i = 11 := by omega
        · refine wpOp_plain rfl rfl ?_
          go_simp
          exact ⟨⟨by simp [hsz.out], hx.out.same⟩, upd z 16 (ptr G), (by unfold Hid; simp [upd]), hz.next apx hsz.out 0 (by decide) _ (fun _ h => Option.some.inj h), hp10.keep (by decide), hp11.keep (by decide)⟩
        · have e0 : z 16 = ptr G := hz 0 _ (hw 0 (by kernel_rfl)) rfl
          refine wpOp_plain rfl rfl ?_
          go_simp
          exact ⟨⟨by simp [hsz.out], hx.out.same⟩, upd z 17 (.pointer (some ⟨G, 0, none⟩)), (by unfold Hid; simp [upd, e0]), hz.next apx hsz.out 1 (by decide) _ (fun _ h => Option.some.inj h), hp10.keep (by decide), hp11.keep (by decide)⟩
        · have e1 : z 17 = .pointer (some ⟨G, 0, none⟩) := hz 1 _ (hw 1 (by kernel_rfl)) rfl
          refine wpOp_plain rfl rfl ?_
          go_simp
          exact ⟨⟨by simp [hsz.out], hx.out.same⟩, upd z 18 (.pointer (some ⟨G, 3, none⟩)), (by unfold Hid; simp [upd, e1]), hz.next apx hsz.out 2 (by decide) _ (fun _ h => Option.some.inj h), hp10.keep (by decide), hp11.keep (by decide)⟩
        · have e2 : z 18 = .pointer (some ⟨G, 3, none⟩) := hz 2 _ (hw 2 (by kernel_rfl)) rfl
          have cl := hx.out.cell HE3.out HKG.out
          refine wpOp_plain rfl rfl ?_
          go_simp
          exact ⟨⟨by simp [hsz.out], hx.out.same⟩, upd z 19 (.map (some V)), (by unfold Hid; simp [upd, e2]), hz.next apx hsz.out 3 (by decide) _ (fun _ h => Option.some.inj h), hp10.keep (by decide), hp11.keep (by decide)⟩
        · have cl := box_vx (hx.out.at H4.out HKb.out)
          refine wpOp_plain rfl rfl ?_
          go_simp
          exact ⟨⟨by simp [hsz.out], hx.out.same⟩, upd z 20 (.agg (vk k).c), (by unfold Hid; simp [upd]), hz.next apx hsz.out 4 (by decide) _ (fun _ h => Option.some.inj h), hp10.keep (by decide), hp11.keep (by decide)⟩
        · refine wpOp_plain rfl rfl ?_
          go_simp
          exact ⟨⟨by simp [hsz.out], hx.out.same⟩, upd z 21 (ptr G), (by unfold Hid; simp [upd]), hz.next apx hsz.out 5 (by decide) _ (fun _ h => Option.some.inj h), hp10.keep (by decide), hp11.keep (by decide)⟩
        · have e5 : z 21 = ptr G := hz 5 _ (hw 5 (by kernel_rfl)) rfl
          refine wpOp_plain rfl rfl ?_
          go_simp
          exact ⟨⟨by simp [hsz.out], hx.out.same⟩, upd z 22 (.pointer (some ⟨G, 0, none⟩)), (by unfold Hid; simp [upd, e5]), hz.next apx hsz.out 6 (by decide) _ (fun _ h => Option.some.inj h), hp10.keep (by decide), hp11.keep (by decide)⟩
        · have e6 : z 22 = .pointer (some ⟨G, 0, none⟩) := hz 6 _ (hw 6 (by kernel_rfl)) rfl
          refine wpOp_plain rfl rfl ?_
          go_simp
          exact ⟨⟨by simp [hsz.out], hx.out.same⟩, upd z 23 (.pointer (some ⟨G, 1, none⟩)), (by unfold Hid; simp [upd, e6]), hz.next apx hsz.out 7 (by decide) _ (fun _ h => Option.some.inj h), hp10.keep (by decide), hp11.keep (by decide)⟩
        · have e7 : z 23 = .pointer (some ⟨G, 1, none⟩) := hz 7 _ (hw 7 (by kernel_rfl)) rfl
          have cl := hx.out.cell HE1.out HKG.out
          refine wpOp_plain rfl rfl ?_
          go_simp
          exact ⟨⟨by simp [hsz.out], hx.out.same⟩, upd z 24 (ptr F), (by unfold Hid; simp [upd, e7]), hz.next apx hsz.out 8 (by decide) _ (fun _ h => Option.some.inj h), hp10.keep (by decide), hp11.keep (by decide)⟩
        · have cl := box_vx (hx.out.at H4.out HKb.out)
          refine wpOp_plain rfl rfl ?_
          go_simp
          exact ⟨⟨by simp [hsz.out], hx.out.same⟩, upd z 25 (.agg (vk k).c), (by unfold Hid; simp [upd]), hz.next apx hsz.out 9 (by decide) _ (fun _ h => Option.some.inj h), hp10.keep (by decide), hp11.keep (by decide)⟩
        · have e8 : z 24 = ptr F := hz 8 _ (hw 8 (by kernel_rfl)) rfl
          have e9 : z 25 = .agg (vk k).c := hz 9 _ (hw 9 (by kernel_rfl)) rfl
          refine wpOp_plain rfl rfl ?_
          go_simp
          go_at_call 43
          have hlow := hx.out.2 hu
          refine (HEx.out wx hlow).mono ?_
          rintro e w8 ⟨lb, cv8, rfl, hq⟩
          exact ⟨⟨by simp [hsz.out], hx.out.wr (ex_chg hq K HKF.out HKo.out) (by rw [hsz.out]; decide)⟩, upd z 26 (ptr lb), (by unfold Hid; simp [upd, e8, e9]), hz.next apx hsz.out 10 (by decide) _ (fun _ h => by cases h), Whu.done (⟨lb, cv8, wx, rfl, hlow, hq⟩), Whn.never (by decide) (fun hl => hcl 11 10 hl (by kernel_rfl)) hu⟩
        · have e3 : z 19 = .map (some V) := hz 3 _ (hw 3 (by kernel_rfl)) rfl
          have e4 : z 20 = .agg (vk k).c := hz 4 _ (hw 4 (by kernel_rfl)) rfl
          have p10 := hp10.get (hw 10 (by kernel_rfl)) hu
          obtain ⟨lb, cv8, wc, hv10, hbw, hq⟩ := p10
          have hm5 : MapF 27 wx V k (fun v => (fk L v).map ptr) := (HM4.out.stay (hbw.block _ HM4.out.lt)).stay (map_ex hq (HM4.out.stay (hbw.block _ HM4.out.lt)) (at_below HP4.out hbw) (HO4.out.below hbw))
          obtain ⟨w6, kr, hm6, hc6⟩ := hm5.put kbV Tryd.underlying36 (by have := HFl.out.2.2.2; omega) (vk k) (val := ptr lb) (.inr (.inl ⟨lb, rfl⟩))
          refine wpOp_plain rfl rfl ?_
          go_simp
          exact ⟨⟨by simp [hsz.out], hx.out.more (hc6.mono (fun b hb => .inl (by rw [List.mem_singleton.1 hb]; exact HKV.out))) (hw 10 (by kernel_rfl))⟩, upd z 1011 (undef), (by unfold Hid; simp [upd, e3, e4, hv10]), hz.next apx hsz.out 11 (by decide) _ (fun _ h => by cases h), Whu.past (by rw [hsz.out]; decide), Whn.done (HNx.out wc wx w6 lb cv8 hbw hq hm6 hc6)⟩
      · exact ⟨⟨rfl, RelC.start⟩, fun xx => (#[.pointer none, .pointer (some ⟨G, 0, none⟩), undef, .pointer (some ⟨bx, 0, none⟩), .agg Tryd.zeroCells90, .pointer (some ⟨F, 0, none⟩), .map (some (F + 1)), .map (some V), .agg #[.pointer none, .pointer (some ⟨F, 0, none⟩), .map (some (F + 1)), .map (some V), .int .i64 0], .pointer (some ⟨G, 0, none⟩), .agg root.c, .agg fin.c, .agg (root.c.toList ++ fin.c.toList).toArray, .int .i64 (k : Nat), .bool true, .agg (vk k).c, u16, u17, u18, u19, u20, u21, u22, u23, u24, u25, u26, u27, undef, undef, undef, undef, undef] : Array Value).getD xx undef, (by rfl), Holding.start, Whu.none (by decide), Whn.none (by decide)⟩
    · have hltI : ¬ (k : Int) < 2 := by omega
      obtain rfl : k = 2 := by omega
      obtain ⟨cv, L, hP, hO, hLk, hls, hm⟩ := hI.out.rest
      obtain ⟨G, hG⟩ : ∃ G, G = F + 1 + 1 + 1 := ⟨_, rfl⟩
      have hgr := hI.out.gr
      rw [← hG] at hgr ⊢
      have HGr := Lib.hid hgr
      have g0 : wr.cell? ⟨G, 0, none⟩ = some (.pointer none) := cell_row hgr 0
      have f0 := free_row hgr 0
      have HEnd : Hid (∃ S, S.g = G ∧ S.ps = [] ∧ S.added = 0 ∧ S.nv = 2 ∧ (∀ b ∈ [S.g, S.mp, S.mv, S.fr, S.rb, S.eb], w.heap.size ≤ b) ∧ GM (wr.setCell ⟨G, 0, none⟩ (ptr G)) S (fun _ => 0) (fun _ => 0)) := by
        have hI := hI.out
        obtain ⟨rb, eb, rfl⟩ : ∃ a b, L = [a, b] := by
          match L, hLk with
          | [a, b], _ => exact ⟨a, b, rfl⟩
        have oth : ∀ {b T : Nat} {C : Array Value}, wr.heap[b]? = some (.cells C T (0, 0)) → T ≠ 38 → (wr.setCell ⟨G, 0, none⟩ (ptr G)).heap[b]? = some (.cells C T (0, 0)) := fun hb hT => by
          rw [Below.heap_setCell _ _ _ _ (ne_ty hb hgr hT)]; exact hb
        have mp : ∀ {k : TypeId} {b n : Nat} {f : Vx → Option Value}, MapF k wr b n f → MapF k (wr.setCell ⟨G, 0, none⟩ (ptr G)) b n f := fun h => h.stay (Below.heap_setCell _ _ _ _ (fun e => h.ne hgr e.symm))
        have hpt : Ptrs wr cv [rb, eb] := hO.ptrs (by simp)
        refine ⟨⟨G, F, F + 1, F + 1 + 1, rb, eb, cv, 0, 2, []⟩, rfl, rfl, rfl, rfl, fun b hb => ?_, ?_⟩
        · have h1 := (hls 0 rb rfl).2
          have h2 := (hls 1 eb rfl).2
          have h3 := HF.out
          simp only [List.mem_cons, List.mem_nil_iff, or_false] at hb
          omega
        exact {
          gr := by
            show (wr.setCell ⟨G, 0, none⟩ (ptr G)).heap[G]? = _
            rw [heap_setCell_same _ _ _ _ _ _ hgr]; rfl
          mapP := mp hI.mapP
          mapV := by
            have e : (fun v => (lineB ⟨G, F, F + 1, F + 1 + 1, rb, eb, cv, 0, 2, []⟩ v).map ptr) = fun v => (fk [rb, eb] v).map ptr := by
              funext v
              unfold lineB fk find
              rfl
            rw [e]; exact mp hm
          frm := oth hP (by decide)
          frc := by
            obtain ⟨g, cap, e, h1, h2, h3⟩ := hpt
            refine ⟨g, cap, e, h1, by rw [World.size_setCell]; exact h2, fun j x hx => ?_⟩
            rw [World.cell?_setCell_far _ _ _ _ ?_]
            · exact h3 j x hx
            · have hne := Lib.ownBlock_ne hO hgr (by decide)
              rw [e] at hne
              simp only [Value.ownBlock, ne_eq, Option.some.injEq] at hne
              exact fun e2 => hne e2.symm
          lr := oth (hls 0 rb rfl).1 (by decide)
          lf := oth (hls 1 eb rfl).1 (by decide)
          prt := fun p hp => by cases hp
          lsl := fun p hp => by cases hp
          ln := fun p hp => by cases hp
          chn := fun p hp => by cases hp
          lns := fun p hp => by cases hp
          gns := fun p hp => by cases hp }
      have HLow : Hid (Below w.heap.size w (wr.setCell ⟨G, 0, none⟩ (ptr G))) := hI.out.low.setCell (p := ⟨G, 0, none⟩) (show w.heap.size ≤ G by rw [hG, HF.out]; omega) _
      clear hP hO hLk hls hm hgr hI hG
      go_wp2
      go_ret
      obtain ⟨S, h1, h2, h3, h4, h6, h5⟩ := HEnd.out
      exact ⟨S, by rw [h1]; rfl, h2, h3, h4, h5, by simpa using h6, HLow.out⟩
end Go.Proofs.YtnjeppmpnaemlaaDoor.Grf
/- DERIVED. New, Has, Before, Lines of a graph behind adds. -/
set_option maxRecDepth 100000
namespace Go.Proofs.YtnjeppmpnaemlaaDoor.Grf
open Go.RowKit Str Go.Maps
theorem MapF.ents {k : TypeId} {w : World} {b s : Nat} {f : Vx → Option Value} (h : MapF k w b s f) : ∃ es clock, w.heap[b]? = some (.map es clock) ∧ es.size = s := by
  obtain ⟨D, ⟨es, clock, hb, F, _, rfl⟩, hs, _⟩ := h
  refine ⟨es, clock, hb, ?_⟩
  rw [← hs]
  simp [Maps.size, length_sorted]
theorem new_gx (w : World) (hL : Laid w) :
    Calls Tryd.prog 21 #[] w fun e w' => ∃ S, e = .returned (ptr S.g) ∧ S.ps = [] ∧ GX w' S 0 ∧ Below w.heap.size w w' ∧ ∀ b ∈ blk S, w.heap.size ≤ b := by
  refine (new2_any w hL).mono ?_
  rintro e w' ⟨S, rfl, h1, h2, h3, h4, h6, h5⟩
  have eu : usS S = fun _ => 0 := by funext q; unfold usS; rw [h1]; rfl
  have eg : gnS S = fun _ => 0 := by funext q; unfold gnS; rw [h1]; rfl
  refine ⟨S, rfl, h1, ⟨⟨by rw [eu, eg]; exact h4, ⟨by rw [h1]; exact .nil, ⟨by rw [h1]; exact .nil, fun p hp => by rw [h1] at hp; cases hp⟩, fun p hp => by rw [h1] at hp; cases hp⟩, fun e => ?_⟩, by rw [h1]; simp, by omega, by omega, fun p hp => by rw [h1] at hp; cases hp⟩, h5, fun b hb => ?_⟩
  · obtain ⟨es, c, hb, hs⟩ := h4.mapP.ents
    obtain ⟨es2, c2, hb2, hs2⟩ := h4.mapV.ents
    rw [e, hb2] at hb
    have e9 : es2 = es := by
      injection (Option.some.inj hb)
    rw [e9, hs, h1, h3] at hs2
    simp at hs2
  · unfold blk at hb
    rw [h1] at hb
    exact h6 b (by simpa using hb)
/-- lines told of a graph. -/
theorem lines_gx (S : GS) (n : Nat) (hn : n ≤ 100) (w : World) (h : GX w S n) (hL : Laid w) : Calls Tryd.prog 24 #[ptr S.g] w (LnQ w S (gnS S)) :=
  lines_any S (usS S) (gnS S) h.gi.ok (by have := h.ps; omega) (fun p hp => (h.db p hp).lines) (fun p hp => (h.db p hp).big) w h.gi.gm hL
theorem has_gx (S : GS) (n : Nat) (v : Vx) (w : World) (h : GX w S n) : Calls Tryd.prog 25 #[ptr S.g, .agg v.c] w fun e w' => e = .returned (.bool (lineB S v).isSome) ∧ Below w.heap.size w w' := has_any S _ _ v w h.gi.gm
theorem before_gx (S : GS) (n : Nat) (a b : Vx) (w : World) (h : GX w S n) : Calls Tryd.prog 18 #[ptr S.g, .agg a.c, .agg b.c] w fun e w' => e = .returned (.bool (BefB S a b)) ∧ Below w.heap.size w w' :=
  Before_any S _ _ h.gi.ok (fun p hp => by have := (h.db p hp).lines; omega) a b w h.gi.gm
end Go.Proofs.YtnjeppmpnaemlaaDoor.Grf
/- DERIVED. The law's text of a graph. -/
set_option maxRecDepth 100000
namespace Go.Proofs.YtnjeppmpnaemlaaDoor.Grf
open Go.RowKit Str Go.Maps
attribute [local go_sem ↓ high] loadAtVx
def txt1 (s : ByteArray) (x : Ln) : ByteArray := if x.2.2 = true then (s ++ x.2.1) ++ ⟨#[32]⟩ else ((s ++ ⟨#[40]⟩) ++ x.2.1) ++ ⟨#[41, 32]⟩
def textL (l : List Ln) : ByteArray := l.foldl txt1 ⟨#[]⟩
theorem txt_size (B : Nat) : ∀ (l : List Ln) (s : ByteArray), (∀ x ∈ l, x.2.1.size ≤ B) → (l.foldl txt1 s).size ≤ s.size + l.length * (B + 3) := by
  intro l
  induction l with
  | nil => intro s _; simp
  | cons x t ih =>
    intro s h
    rw [List.foldl_cons]
    have h1 := ih (txt1 s x) (fun y hy => h y (by simp [hy]))
    have h2 := h x (by simp)
    have h3 : (txt1 s x).size ≤ s.size + (B + 3) := by
      unfold txt1
      split
      · simp only [ByteArray.size_append]
        have : (⟨#[32]⟩ : ByteArray).size = 1 := rfl
        omega
      · simp only [ByteArray.size_append]
        have e1 : (⟨#[40]⟩ : ByteArray).size = 1 := rfl
        have e2 : (⟨#[41, 32]⟩ : ByteArray).size = 2 := rfl
        omega
    rw [List.length_cons, Nat.add_mul]
    omega
theorem flatLn_at : ∀ (l : List Ln) (i r : Nat) (x : Ln) (u : Value), l[i]? = some x → (lnC x).toList[r]? = some u → (flatLn l)[i * 35 + r]? = some u
  | [], i, r, x, u, h, _ => by simp at h
  | y :: t, 0, r, x, u, h, hu => by
    obtain rfl := Option.some.inj h
    show ((lnC y).toList ++ flatLn t)[0 * 35 + r]? = _
    rw [show 0 * 35 + r = r by omega, List.getElem?_append_left (List.getElem?_eq_some_iff.1 hu).1]
    exact hu
  | y :: t, i + 1, r, x, u, h, hu => by
    show ((lnC y).toList ++ flatLn t)[(i + 1) * 35 + r]? = _
    rw [List.getElem?_append_right (by rw [Array.length_toList, lnC_size]; omega), Array.length_toList, lnC_size, show (i + 1) * 35 + r - 35 = i * 35 + r by omega]
    exact flatLn_at t i r x u h hu
/-- a slice that reads as lines. -/
def RdLn (w : World) (v : Value) (l : List Ln) : Prop := ∃ A c, v = .slice A l.length c ∧ l.length ≤ c ∧ (0 < l.length → ∃ g off, A = some ⟨g, off, none⟩ ∧ g < w.heap.size ∧ ∀ (j : Nat) (x : Ln), l[j]? = some x → w.rangeAt g (off + j * 35) (lnC x).toList)
theorem RdLn.below {w w' : World} {v : Value} {l : List Ln} (h : RdLn w v l) (hb : Below w.heap.size w w') : RdLn w' v l := by
  obtain ⟨A, c, e, h1, h2⟩ := h
  refine ⟨A, c, e, h1, fun h0 => ?_⟩
  obtain ⟨g, off, eA, hg, hc⟩ := h2 h0
  exact ⟨g, off, eA, Nat.lt_of_lt_of_le hg hb.size, fun j x hx k u hu => (hb.cell (p := ⟨g, off + j * 35 + k, none⟩) hg).trans (hc j x hx k u hu)⟩
theorem OwnLn.rd {base : Nat} {l : List Ln} {v : Value} {w : World} (h : OwnLn base l v w) : RdLn w v l := by
  rcases h.2 with ⟨rfl, h0⟩ | ⟨g, cap, cur, rfl, hb, hh, hc, _, _, ht⟩
  · exact ⟨none, 0, by rw [h0], by omega, fun h => absurd h (by omega)⟩
  · refine ⟨_, cap, rfl, hc, fun _ => ⟨g, 0, rfl, (Array.getElem?_eq_some_iff.1 hh).1, fun j x hx k u hu => ?_⟩⟩
    have hj := (List.getElem?_eq_some_iff.1 hx).1
    have hk : k < 35 := by have := (List.getElem?_eq_some_iff.1 hu).1; rwa [Array.length_toList, lnC_size] at this
    have e : (cur.toList.take (l.length * 35))[j * 35 + k]? = some u := by rw [ht]; exact flatLn_at l j k x u hx hu
    rw [List.getElem?_take, if_pos (by omega)] at e
    rw [Nat.zero_add, cell_row hh]
    simpa using e
theorem lnC_text (x : Ln) : (lnC x).toList[33]? = some (.string x.2.1) ∧ (lnC x).toList[34]? = some (.bool x.2.2) := by
  have e : (lnC x).toList = x.1.c.toList ++ [Value.string x.2.1, .bool x.2.2] := by simp [lnC]
  rw [e]
  have hl : x.1.c.toList.length = 33 := by simp [Vx.c_size]
  exact ⟨by rw [List.getElem?_append_right (by omega), hl]; rfl, by rw [List.getElem?_append_right (by omega), hl]; rfl⟩
def TxQ (w : World) (S : GS) (e : Ending) (w' : World) : Prop := ∃ M, e = .returned (.string (textL (M.map (lnS S (gnS S))))) ∧ Steps (verts (ds S.ps)) (edges (ds S.ps)) (root :: (M ++ [fin])) ∧ (∀ v ∈ verts (ds S.ps), v ∈ root :: (M ++ [fin])) ∧ Below w.heap.size w w'
set_option maxHeartbeats 4000000 in
theorem text_any (S : GS) (n : Nat) (hn : n ≤ 100) (w : World) (h : GX w S n) (hL : Laid w) (hv : (verts (ds S.ps)).length ≤ 10000) : Calls Tryd.prog 17 #[ptr S.g] w (TxQ w S) := by
  have hLn := lines_gx S n hn w h hL
  have HTs := Lib.hid (fun v => text_size (fun p hp => (h.db p hp).big) v)
  clear h hL
  go_enter Tryd.func17, Tryd.ntmps17
  go_upto_region 4 with (go_at_call 24; refine hLn.mono ?_; rintro e w1 ⟨v, M, rfl, hst, hall, hown, hlow⟩)
  obtain ⟨l, hl⟩ : ∃ l, l = M.map (lnS S (gnS S)) := ⟨_, rfl⟩
  rw [← hl] at hown
  obtain ⟨A, c, rfl, hc, hr⟩ := hown.rd
  obtain ⟨m, hm⟩ : ∃ m, m = l.length := ⟨_, rfl⟩
  rw [← hm] at hc
  have HR := Lib.hid hr
  have Hm := Lib.hid hm
  have hcI : (m : Int) ≤ c := by omega
  have hm6 : m ≤ 10000 := by
    have h1 := nodup_len hst.nodup.1 hst.nodup.2
    simp only [List.length_cons, List.length_append, List.length_nil] at h1
    rw [hm, hl, List.length_map]
    omega
  have HSz : Hid (∀ x ∈ l, x.2.1.size ≤ 281474976710656) := fun x hx => by
    rw [hl] at hx
    obtain ⟨v, _, rfl⟩ := List.mem_map.1 hx
    exact HTs.out v
  rw [← hm]
  have HQ : Hid (∀ w', Below w1.heap.size w1 w' → TxQ w S (.returned (.string (textL l))) w') := fun w' hb => ⟨M, by rw [hl], hst, hall, hlow.trans (hb.mono hlow.size)⟩
  clear hst hall hown hlow hl hr hm
  go_loopw [5, 3] (fun i s wr => ∃ k : Nat, k ≤ m ∧ i = .int .i64 k ∧ s = .string (textL (l.take k)) ∧ wr = w1) (fun i _ _ => m - (intOf i).toNat)
  case atStart => exact ⟨0, Nat.zero_le _, rfl, by rw [List.take_zero]; rfl, rfl⟩
  case round =>
    obtain ⟨k, hk, rfl, rfl, rfl⟩ := hrel
    by_cases hlt : k < m
    · have hltI : (k : Int) < m := by omega
      have hk0 : 0 ≤ (k : Int) := by omega
      obtain ⟨x, hx⟩ : ∃ x, l[k]? = some x := ⟨_, List.getElem?_eq_getElem (by have := Hm.out; omega)⟩
      obtain ⟨g, off, rfl, hg, hcell⟩ := HR.out (by have := Hm.out; omega)
      have c33 := hcell k x hx 33 _ (lnC_text x).1
      have c34 := hcell k x hx 34 _ (lnC_text x).2
      obtain ⟨s, hs⟩ : ∃ s, s = textL (l.take k) := ⟨_, rfl⟩
      have hsz : s.size ≤ 10000 * 281474976710659 := by
        have h1 := txt_size 281474976710656 (l.take k) ⟨#[]⟩ (fun y hy => HSz.out y (List.mem_of_mem_take hy))
        have h2 := List.length_take_le k l
        rw [hs]
        unfold textL
        have h3 : (⟨#[]⟩ : ByteArray).size = 0 := rfl
        have h4 : (l.take k).length * (281474976710656 + 3) ≤ 10000 * 281474976710659 := Nat.mul_le_mul (by omega) (Nat.le_refl _)
        omega
      have hx2 := HSz.out x (List.mem_of_getElem? hx)
      have HN : Hid (textL (l.take (k + 1)) = txt1 s x) := by
        show _ = _
        rw [hs, List.take_add_one, hx]
        unfold textL
        rw [List.foldl_append]
        rfl
      rw [← hs]
      obtain ⟨x1, x2, x3⟩ := x
      simp only at c33 c34 hx2
      have b1 : ¬ 9223372036854775807 < s.size + x2.size := by omega
      have b2 : ¬ 9223372036854775807 < s.size + x2.size + 1 := by omega
      have b3 : ¬ 9223372036854775807 < s.size + 1 := by omega
      have b4 : ¬ 9223372036854775807 < s.size + 1 + x2.size := by omega
      have b5 : ¬ 9223372036854775807 < s.size + 1 + x2.size + 2 := by omega
      have hwk : wrap64 ((k : Int) + 1) = ((k + 1 : Nat) : Int) := by unfold wrap64; omega
      clear hcell hx hg hs hsz hx2
      cases x3
      all_goals
        go_wp2
        refine ⟨⟨k + 1, hlt, rfl, ?_, trivial⟩, ?_⟩
        · rw [HN.out]; rfl
        · clear hwk
          simp only [intOf]
          omega
    · have hltI : ¬ (k : Int) < m := by omega
      obtain rfl : k = m := by omega
      have HF : Hid (TxQ w S (.returned (.string (textL (l.take k)))) wr) := by
        rw [List.take_of_length_le (by have := Hm.out; omega)]
        exact HQ.out wr (Below.refl _ _)
      go_wp2
      go_ret
      exact HF.out
end Go.Proofs.YtnjeppmpnaemlaaDoor.Grf
/- DERIVED. PLAIN: what graphs of known parts answer, by reckoning. -/
set_option maxRecDepth 100000
namespace Go.Proofs.YtnjeppmpnaemlaaDoor.Grf
open Go.RowKit Str Go.Maps
def leDec : ∀ (ps : List PD) (a b : Vx), Decidable (le ps a b)
  | [], a, b => inferInstanceAs (Decidable (a = b ∨ (a = root ∧ b = fin)))
  | p :: ps, a, b =>
    if ha : a ∈ own p then
      if hb : b ∈ own p then decidable_of_iff ((own p).idxOf a ≤ (own p).idxOf b) (by unfold le; rw [if_pos ha, if_pos hb])
      else @decidable_of_iff _ (le ps p.down b) (by rw [le, if_pos ha, if_neg hb]) (leDec ps p.down b)
    else
      if hb : b ∈ own p then @decidable_of_iff _ (le ps a p.up) (by rw [le, if_neg ha, if_pos hb]) (leDec ps a p.up)
      else @decidable_of_iff _ (le ps a b) (by rw [le, if_neg ha, if_neg hb]) (leDec ps a b)
instance (ps : List PD) (a b : Vx) : Decidable (le ps a b) := leDec ps a b
def befD (ps : List PD) (a b : Vx) : Bool := decide (a ∈ verts ps) && decide (b ∈ verts ps) && decide (le ps a b ∧ a ≠ b)
theorem lineB_D {S : GS} (hl : ∀ p ∈ S.ps, p.ls.length = p.d.lines.length) (v : Vx) : (lineB S v).isSome = decide (v ∈ verts (ds S.ps)) := by
  rw [Bool.eq_iff_iff, Option.isSome_iff_exists, decide_eq_true_iff]
  exact lineB_in hl
theorem BefB_D {S : GS} (hl : ∀ p ∈ S.ps, p.ls.length = p.d.lines.length) (a b : Vx) : BefB S a b = befD (ds S.ps) a b := by
  unfold BefB befD
  rw [lineB_D hl, lineB_D hl]
  congr 1
  rw [Bool.eq_iff_iff, befB_iff, decide_eq_true_iff]
def refD (ps : List PD) (d : PD) : Int :=
  if ps.any (fun p => decide (p.nm = d.nm)) || (List.range d.lines.length).any (fun i => isL (vert d i) && decide (vert d i ∈ verts ps)) then 6
  else if !formB d then 4 else if !([d.up, d.down].all fun x => decide (x ∈ verts ps)) then 10 else if !(d.gone.all fun x => decide (x ∈ verts ps)) then 10 else if !befD ps d.up d.down then 4 else 0
theorem refB_D {S : GS} (hl : ∀ p ∈ S.ps, p.ls.length = p.d.lines.length) (d : PD) : refB S d = refD (ds S.ps) d := by
  have h1 : (partB S d.nm).isSome = (ds S.ps).any fun p => decide (p.nm = d.nm) := by
    unfold partB ds
    rw [List.any_map, Bool.eq_iff_iff, List.find?_isSome]
    simp
  have h2 : (fun i => metB S d i) = fun i => isL (vert d i) && decide (vert d i ∈ verts (ds S.ps)) := by
    funext i
    unfold metB
    rw [lineB_D hl]
  unfold refB refD meetsB
  rw [h1, BefB_D hl]
  simp only [lineB_D hl]
  rw [show (metB S d) = fun i => metB S d i from rfl, h2]
def textD : List PD → Vx → ByteArray
  | [], _ => ByteArray.empty
  | p :: ps, v => if v ∈ own p then p.lines.getD ((own p).idxOf v) ByteArray.empty else textD ps v
def goneD (ps : List PD) (v : Vx) : Nat := (ps.map fun p => p.gone.count v).sum
def lnD (ps : List PD) (v : Vx) : Ln := (v, textD ps v, decide (goneD ps v = 0))
theorem textS_D (S : GS) (v : Vx) : textS S v = textD (ds S.ps) v := by
  unfold textS ds
  generalize S.ps = l
  induction l with
  | nil => rfl
  | cons p t ih =>
    show _ = textD (p.d :: t.map _) v
    unfold textD find
    by_cases h : v ∈ own p.d
    · rw [if_pos h, if_pos h]
    · rw [if_neg h, if_neg h]; exact ih
theorem gnS_D (S : GS) (v : Vx) : gnS S v = (goneD (ds S.ps) v : Nat) := by
  unfold gnS goneD ds
  generalize S.ps = l
  induction l with
  | nil => rfl
  | cons p t ih =>
    simp only [List.map_cons, List.sum_cons, List.map_map, Int.natCast_add] at ih ⊢
    rw [ih]
theorem lnS_D (S : GS) (v : Vx) : lnS S (gnS S) v = lnD (ds S.ps) v := by
  unfold lnS lnD
  rw [textS_D, gnS_D]
  congr 2
  rw [Bool.eq_iff_iff, decide_eq_true_iff, decide_eq_true_iff]
  omega
def readyB (V : List Vx) (E : List (Vx × Vx)) (L : List Vx) (v : Vx) : Bool := decide (v ∈ V) && !decide (v ∈ L) && E.all fun e => !decide (e.2 = v) || decide (e.1 ∈ L)
theorem readyB_iff {V : List Vx} {E : List (Vx × Vx)} {L : List Vx} {v : Vx} : readyB V E L v = true ↔ Ready V E L v := by
  unfold readyB Ready
  simp only [Bool.and_eq_true, decide_eq_true_eq, Bool.not_eq_true', decide_eq_false_iff_not, List.all_eq_true, Bool.or_eq_true]
  constructor
  · rintro ⟨⟨a, b⟩, c⟩
    exact ⟨a, b, fun u hu => (c (u, v) hu).resolve_left (fun h => h rfl)⟩
  · rintro ⟨a, b, c⟩
    refine ⟨⟨a, b⟩, fun e he => ?_⟩
    by_cases h : e.2 = v
    · exact .inr (c e.1 (by rw [← h]; exact he))
    · exact .inl h
def stepsB (V : List Vx) (E : List (Vx × Vx)) : List Vx → List Vx → Bool
  | _, [] => true
  | L, v :: t => readyB V E L v && V.all (fun w => !readyB V E L w || decide (ordV v w ≤ 0)) && stepsB V E (L ++ [v]) t
theorem stepsB_ok {V : List Vx} {E : List (Vx × Vx)} : ∀ (t L : List Vx), Steps V E L → stepsB V E L t = true → Steps V E (L ++ t) := by
  intro t
  induction t with
  | nil => intro L h _; rw [List.append_nil]; exact h
  | cons v t ih =>
    intro L h hb
    unfold stepsB at hb
    simp only [Bool.and_eq_true, List.all_eq_true, Bool.or_eq_true, Bool.not_eq_true', decide_eq_true_eq] at hb
    obtain ⟨⟨h1, h2⟩, h3⟩ := hb
    have := ih (L ++ [v]) (.snoc h (readyB_iff.1 h1) (fun w hw => (h2 w hw.1).resolve_left (fun hn => by rw [readyB_iff.2 hw] at hn; cases hn))) h3
    rwa [List.append_assoc] at this
theorem steps_eq {V : List Vx} {E : List (Vx × Vx)} {L L' : List Vx} (h : Steps V E L) (h' : Steps V E L') (hc : ∀ v ∈ V, v ∈ L) (hc' : ∀ v ∈ V, v ∈ L') : L = L' := by
  have hp : L.length = L'.length := ((List.perm_ext_iff_of_nodup h.nodup.1 h'.nodup.1).2 fun v => ⟨fun hv => hc' v (h.nodup.2 v hv), fun hv => hc v (h'.nodup.2 v hv)⟩).length_eq
  have := Steps.one (fun _ => Iff.rfl) (fun _ => Iff.rfl) h h' (Nat.le_of_eq hp)
  rw [this, hp, List.take_length]
/-- are these all lines of the parts, in order? -/
def linesB (ps : List PD) (M : List Vx) : Bool := stepsB (verts ps) (edges ps) [] (root :: (M ++ [fin])) && (verts ps).all fun v => decide (v ∈ root :: (M ++ [fin]))
theorem linesB_ok {ps : List PD} {M N : List Vx} (hb : linesB ps M = true) (hs : Steps (verts ps) (edges ps) (root :: (N ++ [fin]))) (ha : ∀ v ∈ verts ps, v ∈ root :: (N ++ [fin])) : N = M := by
  unfold linesB at hb
  rw [Bool.and_eq_true, List.all_eq_true] at hb
  have h1 := stepsB_ok _ [] .nil hb.1
  have := steps_eq hs h1 ha (fun v hv => by simpa using hb.2 v hv)
  rw [List.nil_append] at this
  injection this with _ h
  exact List.append_cancel_right h
/-- the law's text of a graph of these parts. -/
theorem tx_known {w w' : World} {S : GS} {e : Ending} {ps : List PD} {M : List Vx} {s : ByteArray} (hps : ds S.ps = ps) (hb : linesB ps M = true) (hs : textL (M.map (lnD ps)) = s) (h : TxQ w S e w') : e = .returned (.string s) ∧ Below w.heap.size w w' := by
  obtain ⟨N, rfl, h1, h2, h3⟩ := h
  rw [hps] at h1 h2
  obtain rfl := linesB_ok hb h1 h2
  refine ⟨?_, h3⟩
  rw [← hs, ← hps]
  congr 3
  exact List.map_congr_left fun v _ => lnS_D S v
end Go.Proofs.YtnjeppmpnaemlaaDoor.Grf
