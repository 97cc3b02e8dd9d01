/- DERIVED. The contract of rules.With. -/
import Derived.Test.YtmbcojpdigoojaaGreatDoorRulRefMath
namespace Go.Proofs.YtmbcojpdigoojaaGreatDoor.Rul
open Go.RowKit Lab Pth
/-- what With answers: a refusal, or the table with the change. -/
def WithR (v : Int) (rs : List Rl) (r : Rl) (w : World) (e : Ending) (w' : World) : Prop :=
  (∃ z : Int, z ≠ 0 ∧ z = withZ v rs r ∧ e = .returned (.tuple #[.agg (tabV 0 none 0 0), .int .i64 z])) ∨
  (∃ (g cap : Nat), withZ v rs r = 0 ∧ e = .returned (.tuple #[.agg (tabV (v + 1) (some ⟨g, 0, none⟩) (insW r rs).length cap), .int .i64 0]) ∧ w.heap.size ≤ g ∧ (insW r rs).length ≤ 32 ∧ Ruls w' (some ⟨g, 0, none⟩) cap (insW r rs) ∧ ∀ i, i < (insW r rs).length → w'.frozen? ⟨g, i * 3, none⟩ = false)
/-- With's three blocks: the table, the label, what it returns. -/
structure WI (g0 : Nat) (v : Int) (A : Option Addr) (n c : Nat) (r : Rl) (w W : World) : Prop where
  b1 : W.heap[g0]? = some (.cells (tabV v A n c) 24 (0, 0))
  b2 : W.heap[g0 + 1]? = some (.cells (lab r.a r.c) 34 (0, 0))
  b3 : W.heap[g0 + 1 + 1]? = some (.cells (tabV 0 none 0 0) 24 (0, 0))
  low : Below g0 w W
theorem WI.later {g0 B : Nat} {v : Int} {A : Option Addr} {n c : Nat} {r : Rl} {w W W' : World} (h : WI g0 v A n c r w W) (hb : Below B W W') (hB : g0 + 1 + 1 < B) : WI g0 v A n c r w W' :=
  ⟨(hb.block _ (by omega)).trans h.b1, (hb.block _ (by omega)).trans h.b2, (hb.block _ hB).trans h.b3, h.low.trans (hb.mono (by omega))⟩
theorem WI.lt {g0 : Nat} {v : Int} {A : Option Addr} {n c : Nat} {r : Rl} {w W : World} (h : WI g0 v A n c r w W) : g0 + 1 + 1 < W.heap.size := (Array.getElem?_eq_some_iff.1 h.b3).1
theorem WI.c0 {g0 : Nat} {v : Int} {A : Option Addr} {n c : Nat} {r : Rl} {w W : World} (h : WI g0 v A n c r w W) : W.cell? ⟨g0, 0, none⟩ = some (.int .i64 v) := cell_row h.b1 0
theorem WI.c1 {g0 : Nat} {v : Int} {A : Option Addr} {n c : Nat} {r : Rl} {w W : World} (h : WI g0 v A n c r w W) : W.cell? ⟨g0, 1, none⟩ = some (.slice A n c) := cell_row h.b1 1
set_option maxRecDepth 100000 in
set_option maxHeartbeats 4000000 in
theorem with_any (v : Int) (A : Option Addr) (n c : Nat) (rs : List Rl) (r : Rl) (w : World) (hn : rs.length = n) (hR : Ruls w A c rs) (hL : Laid w) (hz : ∀ x ∈ rs, x.p.size ≤ 1000) (hn9 : n ≤ 1000) (hp : r.p.size ≤ 1000) (hv : v ≤ 999999999) :
    Calls Tryz.prog 18 #[.agg (tabV v A n c), .string r.p, .agg (lab r.a r.c)] w fun e w' => WithR v rs r w e w' ∧ Below w.heap.size w w' := by
  have Hn := Lib.hid hn
  have HR := Lib.hid hR
  have HL := Lib.hid hL
  have Hz := Lib.hid hz
  have h3 := three_new w (.cells (tabV v A n c) 24) (.cells (lab r.a r.c) 34) (.cells (tabV 0 none 0 0) 24)
  have k3 := below3 w (.cells (tabV v A n c) 24) (.cells (lab r.a r.c) 34) (.cells (tabV 0 none 0 0) 24)
  obtain ⟨W3, hW3⟩ : ∃ W3, W3 = ((w.alloc (.cells (tabV v A n c) 24)).alloc (.cells (lab r.a r.c) 34)).alloc (.cells (tabV 0 none 0 0) 24) := ⟨_, rfl⟩
  rw [← hW3] at h3 k3
  have HW3 : Hid (((w.alloc (.cells (tabV v A n c) 24)).alloc (.cells (lab r.a r.c) 34)).alloc (.cells #[.int .i64 0, .slice none 0 0] 24) = W3) := hW3.symm
  have H1 := Lib.hid h3.1
  have H2 := Lib.hid h3.2.1
  have H3 := Lib.hid h3.2.2
  have K3 := Lib.hid k3
  clear hn hR hL hz h3 k3 hW3
  go_enter Tryz.func18, Tryz.ntmps18
  go_upto_region 1 with fail
  rw [HW3.out]
  have HI3 : Hid (WI w.heap.size v A n c r w W3) := ⟨H1.out, H2.out, H3.out, K3.out⟩
  clear H1 H2 H3 HW3 K3
  generalize hg0 : w.heap.size = g0 at *
  have HG := Lib.hid hg0
  clear hg0
  have HP := Lib.hid (Pth.prefix_any r.p W3 (HL.out.below HI3.out.low (by rw [HG.out]; exact Nat.le_refl _)) (by omega))
  have RET : ∀ (z : Int) (W : World) (T : Array Value), z ≠ 0 → z = withZ v rs r → WI g0 v A n c r w W → T.getD 6 undef = .pointer (some ⟨g0 + 1 + 1, 0, none⟩) → T.getD 7 undef = .int .i64 z → bodyPost Tryz.prog Tryz.f18 (fun e w' => WithR v rs r w e w' ∧ Below w.heap.size w w') .ret ⟨T, []⟩ (W.setRow (g0 + 1 + 1) (tabV 0 none 0 0)) := fun z W T hz hz2 hI h6 h7 =>
    bodyPost_ret (v := .tuple #[.agg (tabV 0 none 0 0), .int .i64 z]) (results_row_tmp rfl _ _ (g0 + 1 + 1) 24 _ (0, 0) _ _ h6 h7 (setRow_at hI.b3) Tryz.underlying24 rfl infoT) rfl ⟨.inl ⟨z, hz, hz2, rfl⟩, by rw [HG.out]; exact Lab.below_setRow hI.low (by omega) _⟩
  have HRET := Lib.hid RET
  clear RET
  by_cases hpre : Pth.pre r.p = 0
  · rw [hpre] at HP
    by_cases hchk : Lab.chk r.a = 0
    · have HC := Lib.hid (fun W => Lab.check_any r.a r.c W)
      rw [hchk] at HC
      have Hok : Hid (okR r = true) := by show _ = _; unfold okR; rw [hpre, hchk]; rfl
      have HPRE := Lib.hid hpre
      have HCHK := Lib.hid hchk
      clear hpre hchk
      go_wp2_with (first
        | (go_at_call 20; refine HP.out.mono ?_; rintro e w4 ⟨rfl, low4⟩; have HI4 := Lib.hid (HI3.out.later low4 HI3.out.lt); clear low4)
        | (refine wpList_load_row rfl 34 (.tmp 5) rfl (g0 + 1) rfl 34 (lab r.a r.c) (0, 0) _ HI4.out.b2 Tryz.underlying34 rfl infoL ?_)
        | (go_at_call 21; refine (HC.out w4).mono ?_; rintro e w5 ⟨rfl, low5⟩; have HI5 := Lib.hid (HI4.out.later low5 HI4.out.lt); have c50 := HI5.out.c0; have c51 := HI5.out.c1; clear low5))
      have low5 : Below w.heap.size w w5 := by rw [HG.out]; exact HI5.out.low
      refine (tcheck_any v A n c rs w w5 Hn.out HR.out low5 (HL.out.below low5 (Nat.le_refl _)) Hz.out hn9).mono ?_
      rintro e w6 ⟨z, rfl, hz02, hiff, low6⟩
      have HI6 := Lib.hid (HI5.out.later low6 HI5.out.lt)
      clear low6 low5 c50 c51
      rcases hz02 with rfl | rfl
      · have hokay := hiff.1 rfl
        have HOk := Lib.hid hokay
        have hn32 : n ≤ 32 := by have := hokay.1; have := Hn.out; omega
        have hv0 : 0 ≤ v := by have := hokay.2.1; omega
        have hstr : StrictR rs := okN_strict hokay.2.2
        have HAp := Lib.hid (all_apart (r := r) hstr rfl)
        have hml := othersL_len r.p rs
        obtain ⟨m, hm⟩ : ∃ m, (othersL r.p rs).length = m := ⟨_, rfl⟩
        have Hm := Lib.hid hm
        have hm32 : m ≤ 32 := by have := Hn.out; omega
        clear hiff hokay hstr hml hm
        have c61 := HI6.out.c1
        go_upto_region 6 with (go_at_call 35; refine (without_any A n c rs r.p w w6 Hn.out HR.out (by rw [HG.out]; exact HI6.out.low) Hz.out hn9).mono ?_; rintro e w7 ⟨u, rfl, own, low7⟩; obtain ⟨A7, c7, hu, _⟩ := OwnR.ruls own; rw [Hm.out] at hu; have Hu := Lib.hid hu; have Own7 := Lib.hid own; have HI7 := Lib.hid (HI6.out.later low7 HI6.out.lt); have Low7 := Lib.hid low7; clear own low7 hu)
        rw [Hu.out]
        rw [Hu.out] at Own7
        clear c61
        by_cases hm2 : m = 32
        · have hmI : (m : Int) = 32 := by omega
          go_wp2_with (refine wpList_store_row rfl 24 (.tmp 6) (.tmp 30) rfl (g0 + 1 + 1) (tabV 0 none 0 0) rfl rfl 24 _ HI7.out.b3 infoT rfl (tab_one ..) ?_)
          (refine HRET.out 7 _ _ (by decide) (withZ_full HPRE.out HCHK.out HOk.out (by rw [Hm.out]; exact hm2)).symm HI7.out ?_ ?_ <;> rfl)
        · have hmI : ¬ (m : Int) = 32 := by omega
          have hm31 : m ≤ 31 := by omega
          obtain ⟨N, hN⟩ : ∃ N, (othersL r.p rs ++ [r]).length = N := ⟨_, rfl⟩
          have HN := Lib.hid hN
          have hN32 : N ≤ 32 := by have := Hm.out; rw [← hN]; simp; omega
          clear hN
          go_wp2_with (first
            | (refine wpList_load_row rfl 34 (.tmp 5) rfl (g0 + 1) rfl 34 (lab r.a r.c) (0, 0) _ HI7.out.b2 Tryz.underlying34 rfl infoL ?_)
            | (go_at_call 36; refine (copied_any r w7 hp).mono ?_; rintro e w8 ⟨rfl, low8⟩; have Own8 : Hid (OwnR w6.heap.size (othersL r.p rs) (.slice A7 m c7) w8) := own_stays Own7.out low8; have HI8 := Lib.hid (HI7.out.later low8 HI7.out.lt); have Low8 := Lib.hid (Low7.out.trans (low8.mono Low7.out.size)); clear low8)
            | (at_builtin; refine wpList_append_rul rfl (.tmp 31) (.tmp 36) rfl w6.heap.size (.slice A7 m c7) (othersL r.p rs) r rfl (own_stays Own8.out ((Below.refl _ _).alloc (Nat.le_refl _) _)) w8.heap.size rfl (Go.heap_alloc_new w8 _) (by have := Hm.out; omega) (by have := Low8.out.size; rw [World.size_alloc]; omega) ?_; intro u9 w9 hown9 hgrow9; have hb9 : Below w6.heap.size w6 w9 := (Low8.out.alloc Low8.out.size (.cells (rlc r) 48)).grown hgrow9 (by have := Low8.out.size; rw [World.size_alloc]; omega) (fun q hq => (World.ownsRow.lt Own8.out q hq).1); obtain ⟨g, cap, hu9, hbg, hsort⟩ := sort_own hown9 (by simp) (by have := Hm.out; simp; omega) HAp.out; rw [HN.out] at hu9 hsort; subst hu9; have HI9 := Lib.hid (HI6.out.later hb9 HI6.out.lt); have Hs9 := Lib.hid hsort; have Hbg := Lib.hid hbg; clear hown9 hgrow9 hsort hbg hb9)
            | (go_at_call 37; refine Hs9.out.mono ?_; rintro e w10 ⟨rfl, us, hl, hpm, hst, hrul, hfz, hb10⟩; have Hfz := Lib.hid hfz; have HI10 := Lib.hid (HI9.out.later hb10 HI6.out.lt); have c100 := HI10.out.c0; have Hus : Hid (us.length = N ∧ us.Perm (othersL r.p rs ++ [r]) ∧ StrictR us ∧ Ruls w10 (some ⟨g, 0, none⟩) cap us) := ⟨hl, hpm, hst, hrul⟩; clear hl hpm hst hrul hfz hb10)
            | (refine wpList_store_row rfl 24 (.tmp 6) (.tmp 44) rfl (g0 + 1 + 1) (tabV (v + 1) (some ⟨g, 0, none⟩) N cap) rfl rfl 24 _ HI10.out.b3 infoT rfl (tab_one ..) ?_))
          have hge : g0 ≤ g := by have := Hbg.out; have := HI6.out.lt; omega
          have hg2 : g0 + 1 + 1 < w6.heap.size := HI6.out.lt
          have hus : us = insW r rs := strictR_one Hus.out.2.2.1 (ins_strict r rs (okN_strict HOk.out.2.2)) (Hus.out.2.1.trans (ins_perm r rs).symm)
          have HZ : withZ v rs r = 0 := withZ_ok HPRE.out HCHK.out HOk.out (by rw [Hm.out]; exact hm2)
          have HL9 : (insW r rs).length = N := by rw [← hus]; exact Hus.out.1
          refine bodyPost_ret (v := .tuple #[.agg (tabV (v + 1) (some ⟨g, 0, none⟩) N cap), .int .i64 0]) (results_row_tmp rfl _ _ (g0 + 1 + 1) 24 _ (0, 0) _ _ rfl rfl (setRow_at HI10.out.b3) Tryz.underlying24 rfl infoT) rfl ⟨.inr ⟨g, cap, HZ, by rw [HL9], by rw [HG.out]; exact hge, by rw [HL9]; exact hN32, ?_, fun i hi => ?_⟩, by rw [HG.out]; exact Lab.below_setRow HI10.out.low (by omega) _⟩
          rotate_left
          · rw [← hus] at hi
            have hf := Hfz.out i hi
            unfold World.frozen? at hf ⊢
            rw [setRow_ne (show g0 + 1 + 1 ≠ g by have := Hbg.out; omega)]
            exact hf
          rw [← hus]
          obtain ⟨r1, r2, r3⟩ := Hus.out.2.2.2
          refine ⟨r1, r2, fun h0 => ?_⟩
          obtain ⟨b, off, e1, e2, e3⟩ := r3 h0
          cases e1
          refine ⟨g, 0, rfl, by rw [size_setRow]; exact e2, fun i x hx j u hu => ?_⟩
          rw [World.cell?_of_block (setRow_ne (show g0 + 1 + 1 ≠ g by have := Hbg.out; omega))]
          exact e3 i x hx j u hu
      · have HNo : Hid (¬ Okay v rs) := fun h => absurd (hiff.2 h) (by decide)
        clear hiff
        go_wp2_with (refine wpList_store_row rfl 24 (.tmp 6) (.tmp 22) rfl (g0 + 1 + 1) (tabV 0 none 0 0) rfl rfl 24 _ HI6.out.b3 infoT rfl (tab_one ..) ?_)
        (refine HRET.out 2 _ _ (by decide) (withZ_arg HPRE.out (.inr HNo.out)).symm HI6.out ?_ ?_ <;> rfl)
    · have HC := Lib.hid (fun W => Lab.check_any r.a r.c W)
      have HZ : Hid (withZ v rs r = 2) := withZ_arg hpre (.inl hchk)
      obtain ⟨y, hy⟩ : ∃ y, Lab.chk r.a = y := ⟨_, rfl⟩
      rw [hy] at HC hchk
      clear hpre hy
      go_wp2_with (first
        | (go_at_call 20; refine HP.out.mono ?_; rintro e w4 ⟨rfl, low4⟩; have HI4 := Lib.hid (HI3.out.later low4 HI3.out.lt); clear low4)
        | (refine wpList_load_row rfl 34 (.tmp 5) rfl (g0 + 1) rfl 34 (lab r.a r.c) (0, 0) _ HI4.out.b2 Tryz.underlying34 rfl infoL ?_)
        | (go_at_call 21; refine (HC.out w4).mono ?_; rintro e w5 ⟨rfl, low5⟩; have HI5 := Lib.hid (HI4.out.later low5 HI4.out.lt); clear low5)
        | (refine wpList_store_row rfl 24 (.tmp 6) (.tmp 22) rfl (g0 + 1 + 1) (tabV 0 none 0 0) rfl rfl 24 _ HI5.out.b3 infoT rfl (tab_one ..) ?_))
      (refine HRET.out 2 _ _ (by decide) HZ.out.symm HI5.out ?_ ?_ <;> rfl)
  · have HZ : Hid (withZ v rs r = 15) := withZ_pre hpre
    obtain ⟨y, hy⟩ : ∃ y, Pth.pre r.p = y := ⟨_, rfl⟩
    rw [hy] at HP hpre
    clear hy
    go_wp2_with (first
      | (go_at_call 20; refine HP.out.mono ?_; rintro e w4 ⟨rfl, low4⟩; have HI4 := Lib.hid (HI3.out.later low4 HI3.out.lt); clear low4)
      | (refine wpList_store_row rfl 24 (.tmp 6) (.tmp 13) rfl (g0 + 1 + 1) (tabV 0 none 0 0) rfl rfl 24 _ HI4.out.b3 infoT rfl (tab_one ..) ?_))
    (refine HRET.out 15 _ _ (by decide) HZ.out.symm HI4.out ?_ ?_ <;> rfl)
end Go.Proofs.YtmbcojpdigoojaaGreatDoor.Rul
