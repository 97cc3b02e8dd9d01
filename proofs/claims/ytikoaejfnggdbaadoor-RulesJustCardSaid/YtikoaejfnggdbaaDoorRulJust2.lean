/- DERIVED. The walk of RulesJust. Written by mkjust.py. -/
import Derived.Test.YtikoaejfnggdbaaDoorRulWith
import Derived.Test.YtikoaejfnggdbaaDoorRulLarge
import Derived.Test.YtikoaejfnggdbaaDoorRulTLawMath
import Derived.Test.YtikoaejfnggdbaaDoorRulTHead
namespace Go.Proofs.YtikoaejfnggdbaaDoor.Rul
open Go.RowKit Lab Pth
/-- longer, behind the first k rules. -/
def LongJ (p s : ByteArray) (rs : List Rl) (k : Nat) : Bool := (rs.take k).any fun x => decide (p.size < x.p.size) && cov x.p s
theorem LongJ.zero (p s : ByteArray) (rs : List Rl) : LongJ p s rs 0 = false := by simp [LongJ]
theorem LongJ.next {p s : ByteArray} {rs : List Rl} {k : Nat} {x : Rl} (h : rs[k]? = some x) : LongJ p s rs (k + 1) = (LongJ p s rs k || (decide (p.size < x.p.size) && cov x.p s)) := by
  unfold LongJ
  rw [List.take_add_one, h]
  simp [List.any_append]
theorem LongJ.last (p s : ByteArray) (rs : List Rl) : LongJ p s rs rs.length = longer p s rs := by
  unfold LongJ longer
  rw [List.take_length]
theorem okay_with {v : Int} {rs us : List Rl} {r : Rl} (h : Okay v rs) (hr : okR r = true) (hp : us.Perm (othersL r.p rs ++ [r])) (hs : StrictR us) (hl : us.length ≤ 32) : Okay (v + 1) us := by
  refine ⟨hl, ?_, strict_okN hs fun x hx => ?_⟩
  · have h1 := hp.length_eq
    have h2 := othersL_len r.p rs
    have h3 := h.2.1
    simp at h1
    omega
  · rcases List.mem_append.1 (hp.mem_iff.1 hx) with hx | hx
    · obtain ⟨i, hi, e⟩ := List.getElem_of_mem (mem_others.1 hx).1
      exact (h.2.2 i x hi (by rw [List.getElem?_eq_getElem hi, e])).1
    · obtain rfl := List.mem_singleton.1 hx
      exact hr
theorem mem_with {rs us : List Rl} {r : Rl} (hp : us.Perm (othersL r.p rs ++ [r])) (x : Rl) : x ∈ us ↔ x ∈ othersL r.p rs ∨ x = r := by
  rw [hp.mem_iff, List.mem_append, List.mem_singleton]
attribute [local go_sem ↓ high] loadAtLb
set_option maxRecDepth 100000 in
set_option maxHeartbeats 20000000 in
theorem just_walk (v : Int) (A : Option Addr) (n c : Nat) (rs : List Rl) (r : Rl) (s : ByteArray) (w : World) (hn : rs.length = n) (hR : Ruls w A c rs) (hL : Laid w) :
    Calls Tryd.prog 4 #[.agg (tabV v A n c), .agg (rlc r), .string s] w fun e w' => e = .returned (.bool true) ∧ Below w.heap.size w w' := by
  have Hn := Lib.hid hn
  have HR := Lib.hid hR
  have HL := Lib.hid hL
  have h2 := two_new w (.cells (tabV v A n c) 24) (.cells (rlc r) 40)
  have k2 : Below w.heap.size w ((w.alloc (.cells (tabV v A n c) 24)).alloc (.cells (rlc r) 40)) := ((Below.refl _ _).alloc (Nat.le_refl _) _).alloc (by rw [World.size_alloc]; omega) _
  obtain ⟨W2, hW2⟩ : ∃ W2, W2 = (w.alloc (.cells (tabV v A n c) 24)).alloc (.cells (rlc r) 40) := ⟨_, rfl⟩
  rw [← hW2] at h2 k2
  have HW2 : Hid ((w.alloc (.cells (tabV v A n c) 24)).alloc (.cells (rlc r) 40) = W2) := hW2.symm
  have H1 := Lib.hid h2.1
  have H2 := Lib.hid h2.2
  have K2 := Lib.hid k2
  have HAw := Lib.hid (fun W (hb : Below w.heap.size w W) => awake_any W (hL.below hb (Nat.le_refl _)))
  clear hn hR hL h2 k2 hW2
  go_enter Tryd.func4, Tryd.ntmps4
  go_upto_region 1 with fail
  rw [HW2.out]
  obtain ⟨tb, htb⟩ : ∃ tb, tb = w.heap.size := ⟨_, rfl⟩
  rw [← htb] at H1 H2 ⊢
  clear htb HW2
  go_wp2_with (refine wpList_load_row rfl 24 (.tmp 3) rfl tb rfl 24 (tabV v A n c) (0, 0) _ H1.out Tryd.underlying24 rfl infoT ?_)
  refine (large_any v A n c rs s W2 Hn.out (HR.out.below K2.out (Nat.le_refl _))).mono ?_
  rintro e w3 ⟨⟨z, rfl, hz⟩, low3⟩
  have Low3 := Lib.hid (K2.out.trans (low3.mono K2.out.size))
  have H13 := Lib.hid ((low3.block _ (Array.getElem?_eq_some_iff.1 H1.out).1).trans H1.out)
  have H23 := Lib.hid ((low3.block _ (Array.getElem?_eq_some_iff.1 H2.out).1).trans H2.out)
  have cP := (rule_row H23.out).1
  clear low3 H1 H2
  cases z with
  | true =>
    clear hz
    go_wp2_with (go_at_call 7; refine (HAw.out w3 Low3.out).mono ?_; rintro e w4 ⟨rfl, low4⟩; have Low4 := Lib.hid (Low3.out.trans (low4.mono Low3.out.size)); clear low4)
    go_ret
    exact ⟨rfl, Low4.out⟩
  | false =>
    have HS := Lib.hid (hz rfl)
    clear hz
    by_cases hp2 : 200 < r.p.size
    · have hp2I : (200 : Int) < r.p.size := by omega
      go_wp2_with (go_at_call 7; refine (HAw.out w3 Low3.out).mono ?_; rintro e w4 ⟨rfl, low4⟩; have Low4 := Lib.hid (Low3.out.trans (low4.mono Low3.out.size)); clear low4)
      go_ret
      exact ⟨rfl, Low4.out⟩
    · have hp2I : ¬ (200 : Int) < r.p.size := by omega
      go_upto_region 3 with fail
      have cL := loadLb_eq (rule_row H23.out).2
      go_wp2_with (refine wpList_load_row rfl 24 (.tmp 3) rfl tb rfl 24 (tabV v A n c) (0, 0) _ H13.out Tryd.underlying24 rfl infoT ?_)
      have HR3 := Lib.hid (HR.out.below Low3.out (Nat.le_refl _))
      have hn60 : n ≤ 60 := by have := HS.out.1; have := Hn.out; omega
      refine (with_any v A n c rs r w3 Hn.out HR3.out (HL.out.below Low3.out (Nat.le_refl _)) (fun x hx => by have := HS.out.2.1 x hx; omega) (by omega) (by omega) HS.out.2.2.2).mono ?_
      rintro e w4 ⟨hwr, low4⟩
      have Low4 := Lib.hid (Low3.out.trans (low4.mono Low3.out.size))
      have H14 := Lib.hid ((low4.block _ (Array.getElem?_eq_some_iff.1 H13.out).1).trans H13.out)
      have H24 := Lib.hid ((low4.block _ (Array.getElem?_eq_some_iff.1 H23.out).1).trans H23.out)
      clear low4 cP cL H13 H23
      rcases hwr with ⟨z, hz, rfl⟩ | ⟨us, g, cap, rfl, hg, hu32, hoka, hokr, hpm, hst, hrul⟩
      · go_upto_region 4 with (refine wpList_store_row rfl 24 (.tmp 7) (.tmp 28) rfl w4.heap.size (tabV 0 none 0 0) rfl rfl 24 _ (Go.heap_alloc_new w4 _) infoT rfl (tab_one ..) ?_; rw [World.setRow_alloc_new])
        obtain ⟨w5, hw5⟩ : ∃ w5, w5 = w4.alloc (.cells (tabV 0 none 0 0) 24) := ⟨_, rfl⟩
        have h5 : w5.heap[w4.heap.size]? = some (.cells (tabV 0 none 0 0) 24 (0, 0)) := by rw [hw5]; exact Go.heap_alloc_new w4 _
        have Low5 : Hid (Below w.heap.size w w5) := by show _ ; rw [hw5]; exact Low4.out.alloc Low4.out.size _
        have c50 : w5.cell? ⟨w4.heap.size, 0, none⟩ = some (.int .i64 0) := cell_row h5 0
        have c51 : w5.cell? ⟨w4.heap.size, 1, none⟩ = some (.slice none 0 0) := cell_row h5 1
        rw [← hw5]
        clear hw5 h5
        go_wp2_with (go_at_call 7; refine (HAw.out w5 Low5.out).mono ?_; rintro e w6 ⟨rfl, low6⟩; have Low6 := Lib.hid (Low5.out.trans (low6.mono Low5.out.size)); clear low6)
        go_ret
        exact ⟨rfl, Low6.out⟩
      · have HOk2 := Lib.hid (okay_with hoka hokr hpm hst hu32)
        have hstr := okN_strict hoka.2.2
        have hv0 : 0 ≤ v := by have := hoka.2.1; omega
        have HNew := Lib.hid (fun (p : ByteArray) (e : r.p = p) hc hl => @find_new p s rs us r e (by subst e; exact mem_with hpm) hc hl)
        have HOld := Lib.hid (fun (p : ByteArray) (e : r.p = p) h => @find_old p s rs us r e hstr (by subst e; exact mem_with hpm) h)
        have Hrul := Lib.hid hrul
        have hzu : Hid (∀ x ∈ us, x.p.size ≤ 1000) := fun x hx => by
          rcases (mem_with hpm x).1 hx with hx | rfl
          · have := HS.out.2.1 x (mem_others.1 hx).1; omega
          · omega
        clear hoka hokr hpm hst hstr hrul hg
        obtain ⟨nu, hnu⟩ : ∃ nu, us.length = nu := ⟨_, rfl⟩
        have Hnu := Lib.hid hnu
        rw [hnu] at hu32 ⊢
        clear hnu
        go_upto_region 4 with (refine wpList_store_row rfl 24 (.tmp 7) (.tmp 28) rfl w4.heap.size (tabV (v + 1) (some ⟨g, 0, none⟩) nu cap) rfl rfl 24 _ (Go.heap_alloc_new w4 _) infoT rfl (tab_one ..) ?_; rw [World.setRow_alloc_new])
        obtain ⟨ub, hub⟩ : ∃ ub, ub = w4.heap.size := ⟨_, rfl⟩
        obtain ⟨w5, hw5⟩ : ∃ w5, w5 = w4.alloc (.cells (tabV (v + 1) (some ⟨g, 0, none⟩) nu cap) 24) := ⟨_, rfl⟩
        have k5 : Below w4.heap.size w4 w5 := by rw [hw5]; exact (Below.refl _ _).alloc (Nat.le_refl _) _
        have HU5 : Hid (w5.heap[ub]? = some (.cells (tabV (v + 1) (some ⟨g, 0, none⟩) nu cap) 24 (0, 0))) := by show _ = _; rw [hub, hw5]; exact Go.heap_alloc_new w4 _
        have K5 := Lib.hid k5
        have Low5 := Lib.hid (Low4.out.trans (k5.mono Low4.out.size))
        have H15 := Lib.hid ((k5.block _ (Array.getElem?_eq_some_iff.1 H14.out).1).trans H14.out)
        have H25 := Lib.hid ((k5.block _ (Array.getElem?_eq_some_iff.1 H24.out).1).trans H24.out)
        rw [← hw5, ← hub]
        clear hw5 hub k5 H14 H24
        go_wp2_with (refine wpList_load_row rfl 24 (.tmp 7) rfl ub rfl 24 (tabV (v + 1) (some ⟨g, 0, none⟩) nu cap) (0, 0) _ HU5.out Tryd.underlying24 rfl infoT ?_)
        refine (tcheck_any (v + 1) _ nu cap us w4 w5 Hnu.out Hrul.out K5.out (HL.out.below Low5.out (Nat.le_refl _)) hzu.out (by omega)).mono ?_
        rintro e w6 ⟨z, rfl, _, hiff, low6⟩
        obtain rfl : z = 0 := hiff.2 HOk2.out
        clear hiff
        have Low6 := Lib.hid (Low5.out.trans (low6.mono Low5.out.size))
        have K6 := Lib.hid (K5.out.trans (low6.mono K5.out.size))
        have H16 := Lib.hid ((low6.block _ (Array.getElem?_eq_some_iff.1 H15.out).1).trans H15.out)
        have H26 := Lib.hid ((low6.block _ (Array.getElem?_eq_some_iff.1 H25.out).1).trans H25.out)
        have HU6 := Lib.hid ((low6.block _ (Array.getElem?_eq_some_iff.1 HU5.out).1).trans HU5.out)
        have cu0 : w6.cell? ⟨ub, 0, none⟩ = some (.int .i64 (v + 1)) := cell_row HU6.out 0
        have ct0 : w6.cell? ⟨tb, 0, none⟩ = some (.int .i64 v) := cell_row H16.out 0
        have hvb : v ≤ 999999999 := HS.out.2.2.2
        clear low6 HU5 H15 H25
        go_upto_region 9 with fail
        have HOv := Lib.hid (fun (x : Rl) (hx : x ∈ rs) W (hb : Below w.heap.size w W) => over_any x.p s W (HL.out.below hb (Nat.le_refl _)) (by have := HS.out.2.1 x hx; omega) (by have := HS.out.2.2.1; omega))
        have HOn := Lib.hid (fun W (hb : Below w.heap.size w W) => over_any r.p s W (HL.out.below hb (Nat.le_refl _)) (by omega) (by have := HS.out.2.2.1; omega))
        have HFu0 := Lib.hid (fun W (hb : Below w4.heap.size w4 W) (hb2 : Below w.heap.size w W) => find_any (v + 1) (some ⟨g, 0, none⟩) nu cap us s w4 W Hnu.out Hrul.out hb (HL.out.below hb2 (Nat.le_refl _)) hzu.out (by have := HS.out.2.2.1; omega) (by omega))
        have HFt0 := Lib.hid (fun W (hb : Below w.heap.size w W) => find_any v A n c rs s w W Hn.out HR.out hb (HL.out.below hb (Nat.le_refl _)) (fun x hx => by have := HS.out.2.1 x hx; omega) (by have := HS.out.2.2.1; omega) (by omega))
        have HLl := Lib.hid (LongJ.last r.p s rs)
        clear cu0 ct0 hvb
        go_wp2
        go_loopw [9, 10] (fun lo i wr => ∃ k : Nat, k ≤ n ∧ i = .int .i64 k ∧ lo = .bool (LongJ r.p s rs k) ∧ Hid (Below w6.heap.size w6 wr)) (fun _ i _ => n - (intOf i).toNat)
        case atStart => exact ⟨0, by omega, rfl, by rw [LongJ.zero], Below.refl _ _⟩
        case round =>
          obtain ⟨k, hk, rfl, rfl, hI⟩ := hrel
          have c1 : wr.cell? ⟨tb, 1, none⟩ = some (.slice A n c) := cell_row ((hI.out.block _ (Array.getElem?_eq_some_iff.1 H16.out).1).trans H16.out) 1
          by_cases hlt : k < n
          · have hltI : (k : Int) < n := by omega
            obtain ⟨x, hx⟩ : ∃ x, rs[k]? = some x := ⟨_, List.getElem?_eq_getElem (by have := Hn.out; omega)⟩
            obtain ⟨b2, off2, rfl, hb2, hrange⟩ := HR.out.at hx
            have hcap2 : n ≤ c := by have := HR.out.1; have := Hn.out; omega
            have Hlk := Lib.hid (Low6.out.trans (hI.out.mono Low6.out.size))
            have Hxp : Hid (wr.cell? ⟨b2, off2 + k * 3, none⟩ = some (.string x.p)) := (Hlk.out.cell (p := ⟨b2, off2 + k * 3, none⟩) hb2).trans (hrange 0 _ rfl)
            have Hrp : Hid (wr.cell? ⟨tb + 1, 0, none⟩ = some (.string r.p)) := (rule_row ((hI.out.block _ (Array.getElem?_eq_some_iff.1 H26.out).1).trans H26.out)).1
            have Hcs := Lib.hid c1
            have Hk1 := Lib.hid (LongJ.next (p := r.p) (s := s) hx)
            have HOr := Lib.hid (HOv.out x (List.mem_of_getElem? hx))
            clear hrange hx hb2
            go_upto_region 12 with fail
            clear c1
            obtain ⟨lj, hlj⟩ : ∃ lj, LongJ r.p s rs k = lj := ⟨_, rfl⟩
            rw [hlj] at Hk1 ⊢
            clear hlj
            cases lj with
            | true =>
              have apx : apartB [62, 63, 64, 65, 66, 67, 68, 69, 70, 71, 72, 73, 74, 75, 76, 77, 78, 79, 80, 81, 82, 83, 84, 85, 9] = true := by decide
              refine wp_region_any (by kernel_rfl) ?_
              change wpAny _ _ _ _ _ _ _ (World.drew _)
              refine wpAny_inv2 (fun ll aa wx => Hid (ll.size = 25 ∧ Below wr.heap.size wr wx) ∧ ∃ (z : Nat → Value), Hid (aa = ⟨#[.agg (tabV v (some ⟨b2, off2, none⟩) n c), .agg (rlc r), .string s, .pointer (some ⟨tb, 0, none⟩), .pointer (some ⟨tb + 1, 0, none⟩), undef, .bool false, .pointer (some ⟨ub, 0, none⟩), .int .i64 0, z 9, .int .i64 (k : Nat), .agg (tabV v (some ⟨b2, off2, none⟩) n c), .string s, .bool false, .bool false, .pointer (some ⟨tb + 1, 0, none⟩), .string r.p, .int .i64 (r.p.size : Nat), .bool (decide ((200 : Int) < (r.p.size : Nat))), .bool (decide ((200 : Int) < (r.p.size : Nat))), undef, .tuple #[.agg (tabV (v + 1) (some ⟨g, 0, none⟩) nu cap), .int .i64 0], .agg (tabV v (some ⟨b2, off2, none⟩) n c), .pointer (some ⟨tb + 1, 0, none⟩), .string r.p, .pointer (some ⟨tb + 1, 1, none⟩), .agg (lab r.a r.c), .tuple #[.agg (tabV (v + 1) (some ⟨g, 0, none⟩) nu cap), .int .i64 0], .agg (tabV (v + 1) (some ⟨g, 0, none⟩) nu cap), .int .i64 0, .int .i64 0, .bool false, undef, undef, undef, undef, undef, undef, undef, undef, undef, undef, undef, undef, .agg (tabV (v + 1) (some ⟨g, 0, none⟩) nu cap), .int .i64 0, .bool false, .bool false, .pointer (some ⟨ub, 0, none⟩), .int .i64 (v + 1), .pointer (some ⟨tb, 0, none⟩), .int .i64 v, .int .i64 (v + 1), .bool false, .bool false, .int .i64 (k : Nat), .pointer (some ⟨tb, 1, none⟩), .slice (some ⟨b2, off2, none⟩) n c, .int .i64 (n : Nat), .bool true, u60, u61, z 62, z 63, z 64, z 65, z 66, z 67, z 68, z 69, z 70, z 71, z 72, z 73, z 74, z 75, z 76, z 77, z 78, z 79, z 80, z 81, z 82, z 83, z 84, z 85, undef, undef, undef, undef, undef, undef, undef, undef, undef, undef, undef, undef, undef, undef, undef, undef, undef, undef, undef, undef, undef, undef, undef, undef, undef, undef, undef], []⟩) ∧ Holding [62, 63, 64, 65, 66, 67, 68, 69, 70, 71, 72, 73, 74, 75, 76, 77, 78, 79, 80, 81, 82, 83, 84, 85, 9] [some (.bool true), some (.bool true), some (undef), some (undef), some (undef), some (undef), some (undef), some (undef), some (undef), some (undef), some (undef), some (undef), some (undef), some (undef), some (undef), some (undef), some (undef), some (undef), some (undef), some (undef), some (undef), some (undef), some (undef), some (.bool true), some (.bool true)] ll z ∧ BefP ll 24 z 9 (.bool true)) ?_ (by kernel_rfl) ?_ ?_ _ rfl _ _ ?_
              · rintro ll aa wx ⟨hI, _⟩
                exact hI.out.1
              · rintro ll aa wx ⟨hI, z, ha, hz, hb24⟩ hall
                have hx := Lib.hid hI.out.2
                have e0 : z 62 = .bool true := hz 0 _ (hall 0 (by decide)) rfl
                have e1 : z 63 = .bool true := hz 1 _ (hall 1 (by decide)) rfl
                have e2 : z 64 = undef := hz 2 _ (hall 2 (by decide)) rfl
                have e3 : z 65 = undef := hz 3 _ (hall 3 (by decide)) rfl
                have e4 : z 66 = undef := hz 4 _ (hall 4 (by decide)) rfl
                have e5 : z 67 = undef := hz 5 _ (hall 5 (by decide)) rfl
                have e6 : z 68 = undef := hz 6 _ (hall 6 (by decide)) rfl
                have e7 : z 69 = undef := hz 7 _ (hall 7 (by decide)) rfl
                have e8 : z 70 = undef := hz 8 _ (hall 8 (by decide)) rfl
                have e9 : z 71 = undef := hz 9 _ (hall 9 (by decide)) rfl
                have e10 : z 72 = undef := hz 10 _ (hall 10 (by decide)) rfl
                have e11 : z 73 = undef := hz 11 _ (hall 11 (by decide)) rfl
                have e12 : z 74 = undef := hz 12 _ (hall 12 (by decide)) rfl
                have e13 : z 75 = undef := hz 13 _ (hall 13 (by decide)) rfl
                have e14 : z 76 = undef := hz 14 _ (hall 14 (by decide)) rfl
                have e15 : z 77 = undef := hz 15 _ (hall 15 (by decide)) rfl
                have e16 : z 78 = undef := hz 16 _ (hall 16 (by decide)) rfl
                have e17 : z 79 = undef := hz 17 _ (hall 17 (by decide)) rfl
                have e18 : z 80 = undef := hz 18 _ (hall 18 (by decide)) rfl
                have e19 : z 81 = undef := hz 19 _ (hall 19 (by decide)) rfl
                have e20 : z 82 = undef := hz 20 _ (hall 20 (by decide)) rfl
                have e21 : z 83 = undef := hz 21 _ (hall 21 (by decide)) rfl
                have e22 : z 84 = undef := hz 22 _ (hall 22 (by decide)) rfl
                have e23 : z 85 = .bool true := hz 23 _ (hall 23 (by decide)) rfl
                have e24 : z 9 = .bool true := hz 24 _ (hall 24 (by decide)) rfl
                clear hall hz hI hb24
                obtain rfl := ha.out
                clear ha
                clear apx
                have E := Lib.hid e24
                have HK := Lib.hid (hI.out.trans (hx.out.mono hI.out.size))
                clear e0 e1 e2 e3 e4 e5 e6 e7 e8 e9 e10 e11 e12 e13 e14 e15 e16 e17 e18 e19 e20 e21 e22 e23 e24 hx hI
                dsimp only
                rw [E.out]
                clear E
                generalize z 62 = y62
                generalize z 63 = y63
                generalize z 64 = y64
                generalize z 65 = y65
                generalize z 66 = y66
                generalize z 67 = y67
                generalize z 68 = y68
                generalize z 69 = y69
                generalize z 70 = y70
                generalize z 71 = y71
                generalize z 72 = y72
                generalize z 73 = y73
                generalize z 74 = y74
                generalize z 75 = y75
                generalize z 76 = y76
                generalize z 77 = y77
                generalize z 78 = y78
                generalize z 79 = y79
                generalize z 80 = y80
                generalize z 81 = y81
                generalize z 82 = y82
                generalize z 83 = y83
                generalize z 84 = y84
                generalize z 85 = y85
                clear z
                go_wp2
                go_roundw
                case rel => exact ⟨k + 1, by omega, by go_num, by rw [Hk1.out]; rfl, HK.out⟩
                case measure => simp [intOf]; omega
              · rintro ll aa wx i ⟨hI, z, ha, hz, hb24⟩ hcl hi hu hw
                obtain rfl := ha.out
                have hsz := Lib.hid hI.out.1
                have hx := Lib.hid hI.out.2
                clear ha hI
                have hin : i < 25 := hi
                obtain rfl | rfl | rfl | rfl | rfl | rfl | rfl | rfl | rfl | rfl | rfl | rfl | rfl | rfl | rfl | rfl | rfl | rfl | rfl | rfl | rfl | rfl | rfl | rfl | rfl : i = 0 ∨ i = 1 ∨ i = 2 ∨ i = 3 ∨ i = 4 ∨ i = 5 ∨ i = 6 ∨ i = 7 ∨ i = 8 ∨ i = 9 ∨ i = 10 ∨ i = 11 ∨ i = 12 ∨ i = 13 ∨ i = 14 ∨ i = 15 ∨ i = 16 ∨ i = 17 ∨ i = 18 ∨ i = 19 ∨ i = 20 ∨ i = 21 ∨ i = 22 ∨ i = 23 ∨ i = 24 := by omega
                · have b24 : z 9 = .bool true := hb24 (BefP.ok (fun hl => hcl 24 0 hl (by kernel_rfl)) hu)
                  refine wpOp_plain rfl rfl ?_
                  go_simp
                  exact ⟨⟨by simp [hsz.out], hx.out⟩, upd z 62 (.bool true), (by unfold Hid; simp [upd, b24]), hz.next apx hsz.out 0 (by decide) _ (fun _ h => Option.some.inj h), BefP.keep hb24 (by decide)⟩
                · have e0 : z 62 = .bool true := hz 0 _ (hw 0 (by kernel_rfl)) rfl
                  refine wpOp_plain rfl rfl ?_
                  go_simp
                  exact ⟨⟨by simp [hsz.out], hx.out⟩, upd z 63 (.bool true), (by unfold Hid; simp [upd, e0]), hz.next apx hsz.out 1 (by decide) _ (fun _ h => Option.some.inj h), BefP.keep hb24 (by decide)⟩
                · have e1 : z 63 = .bool true := hz 1 _ (hw 1 (by kernel_rfl)) rfl
                  refine wpOp_skip rfl (by simp [Region.wanted, yielded, e1]) ?_
                  go_simp
                  exact ⟨⟨by simp [hsz.out], hx.out⟩, upd z 64 (undef), (by unfold Hid; simp [upd, e1]), hz.next apx hsz.out 2 (by decide) _ (fun _ h => Option.some.inj h), BefP.keep hb24 (by decide)⟩
                · have e1 : z 63 = .bool true := hz 1 _ (hw 1 (by kernel_rfl)) rfl
                  refine wpOp_skip rfl (by simp [Region.wanted, yielded, e1]) ?_
                  go_simp
                  exact ⟨⟨by simp [hsz.out], hx.out⟩, upd z 65 (undef), (by unfold Hid; simp [upd, e1]), hz.next apx hsz.out 3 (by decide) _ (fun _ h => Option.some.inj h), BefP.keep hb24 (by decide)⟩
                · have e1 : z 63 = .bool true := hz 1 _ (hw 1 (by kernel_rfl)) rfl
                  refine wpOp_skip rfl (by simp [Region.wanted, yielded, e1]) ?_
                  go_simp
                  exact ⟨⟨by simp [hsz.out], hx.out⟩, upd z 66 (undef), (by unfold Hid; simp [upd, e1]), hz.next apx hsz.out 4 (by decide) _ (fun _ h => Option.some.inj h), BefP.keep hb24 (by decide)⟩
                · have e1 : z 63 = .bool true := hz 1 _ (hw 1 (by kernel_rfl)) rfl
                  refine wpOp_skip rfl (by simp [Region.wanted, yielded, e1]) ?_
                  go_simp
                  exact ⟨⟨by simp [hsz.out], hx.out⟩, upd z 67 (undef), (by unfold Hid; simp [upd, e1]), hz.next apx hsz.out 5 (by decide) _ (fun _ h => Option.some.inj h), BefP.keep hb24 (by decide)⟩
                · have e1 : z 63 = .bool true := hz 1 _ (hw 1 (by kernel_rfl)) rfl
                  refine wpOp_skip rfl (by simp [Region.wanted, yielded, e1]) ?_
                  go_simp
                  exact ⟨⟨by simp [hsz.out], hx.out⟩, upd z 68 (undef), (by unfold Hid; simp [upd, e1]), hz.next apx hsz.out 6 (by decide) _ (fun _ h => Option.some.inj h), BefP.keep hb24 (by decide)⟩
                · have e1 : z 63 = .bool true := hz 1 _ (hw 1 (by kernel_rfl)) rfl
                  refine wpOp_skip rfl (by simp [Region.wanted, yielded, e1]) ?_
                  go_simp
                  exact ⟨⟨by simp [hsz.out], hx.out⟩, upd z 69 (undef), (by unfold Hid; simp [upd, e1]), hz.next apx hsz.out 7 (by decide) _ (fun _ h => Option.some.inj h), BefP.keep hb24 (by decide)⟩
                · have e1 : z 63 = .bool true := hz 1 _ (hw 1 (by kernel_rfl)) rfl
                  refine wpOp_skip rfl (by simp [Region.wanted, yielded, e1]) ?_
                  go_simp
                  exact ⟨⟨by simp [hsz.out], hx.out⟩, upd z 70 (undef), (by unfold Hid; simp [upd, e1]), hz.next apx hsz.out 8 (by decide) _ (fun _ h => Option.some.inj h), BefP.keep hb24 (by decide)⟩
                · have e1 : z 63 = .bool true := hz 1 _ (hw 1 (by kernel_rfl)) rfl
                  refine wpOp_skip rfl (by simp [Region.wanted, yielded, e1]) ?_
                  go_simp
                  exact ⟨⟨by simp [hsz.out], hx.out⟩, upd z 71 (undef), (by unfold Hid; simp [upd, e1]), hz.next apx hsz.out 9 (by decide) _ (fun _ h => Option.some.inj h), BefP.keep hb24 (by decide)⟩
                · have e1 : z 63 = .bool true := hz 1 _ (hw 1 (by kernel_rfl)) rfl
                  refine wpOp_skip rfl (by simp [Region.wanted, yielded, e1]) ?_
                  go_simp
                  exact ⟨⟨by simp [hsz.out], hx.out⟩, upd z 72 (undef), (by unfold Hid; simp [upd, e1]), hz.next apx hsz.out 10 (by decide) _ (fun _ h => Option.some.inj h), BefP.keep hb24 (by decide)⟩
                · have e1 : z 63 = .bool true := hz 1 _ (hw 1 (by kernel_rfl)) rfl
                  refine wpOp_skip rfl (by simp [Region.wanted, yielded, e1]) ?_
                  go_simp
                  exact ⟨⟨by simp [hsz.out], hx.out⟩, upd z 73 (undef), (by unfold Hid; simp [upd, e1]), hz.next apx hsz.out 11 (by decide) _ (fun _ h => Option.some.inj h), BefP.keep hb24 (by decide)⟩
                · have e1 : z 63 = .bool true := hz 1 _ (hw 1 (by kernel_rfl)) rfl
                  refine wpOp_skip rfl (by simp [Region.wanted, yielded, e1]) ?_
                  go_simp
                  exact ⟨⟨by simp [hsz.out], hx.out⟩, upd z 74 (undef), (by unfold Hid; simp [upd, e1]), hz.next apx hsz.out 12 (by decide) _ (fun _ h => Option.some.inj h), BefP.keep hb24 (by decide)⟩
                · have e1 : z 63 = .bool true := hz 1 _ (hw 1 (by kernel_rfl)) rfl
                  refine wpOp_skip rfl (by simp [Region.wanted, yielded, e1]) ?_
                  go_simp
                  exact ⟨⟨by simp [hsz.out], hx.out⟩, upd z 75 (undef), (by unfold Hid; simp [upd, e1]), hz.next apx hsz.out 13 (by decide) _ (fun _ h => Option.some.inj h), BefP.keep hb24 (by decide)⟩
                · have e13 : z 75 = undef := hz 13 _ (hw 13 (by kernel_rfl)) rfl
                  refine wpOp_skip rfl (by simp [Region.wanted, yielded, e13]; try simp [undef]) ?_
                  go_simp
                  exact ⟨⟨by simp [hsz.out], hx.out⟩, upd z 76 (undef), (by unfold Hid; simp [upd, e13]), hz.next apx hsz.out 14 (by decide) _ (fun _ h => Option.some.inj h), BefP.keep hb24 (by decide)⟩
                · have e13 : z 75 = undef := hz 13 _ (hw 13 (by kernel_rfl)) rfl
                  refine wpOp_skip rfl (by simp [Region.wanted, yielded, e13]; try simp [undef]) ?_
                  go_simp
                  exact ⟨⟨by simp [hsz.out], hx.out⟩, upd z 77 (undef), (by unfold Hid; simp [upd, e13]), hz.next apx hsz.out 15 (by decide) _ (fun _ h => Option.some.inj h), BefP.keep hb24 (by decide)⟩
                · have e13 : z 75 = undef := hz 13 _ (hw 13 (by kernel_rfl)) rfl
                  refine wpOp_skip rfl (by simp [Region.wanted, yielded, e13]; try simp [undef]) ?_
                  go_simp
                  exact ⟨⟨by simp [hsz.out], hx.out⟩, upd z 78 (undef), (by unfold Hid; simp [upd, e13]), hz.next apx hsz.out 16 (by decide) _ (fun _ h => Option.some.inj h), BefP.keep hb24 (by decide)⟩
                · have e13 : z 75 = undef := hz 13 _ (hw 13 (by kernel_rfl)) rfl
                  refine wpOp_skip rfl (by simp [Region.wanted, yielded, e13]; try simp [undef]) ?_
                  go_simp
                  exact ⟨⟨by simp [hsz.out], hx.out⟩, upd z 79 (undef), (by unfold Hid; simp [upd, e13]), hz.next apx hsz.out 17 (by decide) _ (fun _ h => Option.some.inj h), BefP.keep hb24 (by decide)⟩
                · have e13 : z 75 = undef := hz 13 _ (hw 13 (by kernel_rfl)) rfl
                  refine wpOp_skip rfl (by simp [Region.wanted, yielded, e13]; try simp [undef]) ?_
                  go_simp
                  exact ⟨⟨by simp [hsz.out], hx.out⟩, upd z 80 (undef), (by unfold Hid; simp [upd, e13]), hz.next apx hsz.out 18 (by decide) _ (fun _ h => Option.some.inj h), BefP.keep hb24 (by decide)⟩
                · have e13 : z 75 = undef := hz 13 _ (hw 13 (by kernel_rfl)) rfl
                  refine wpOp_skip rfl (by simp [Region.wanted, yielded, e13]; try simp [undef]) ?_
                  go_simp
                  exact ⟨⟨by simp [hsz.out], hx.out⟩, upd z 81 (undef), (by unfold Hid; simp [upd, e13]), hz.next apx hsz.out 19 (by decide) _ (fun _ h => Option.some.inj h), BefP.keep hb24 (by decide)⟩
                · have e13 : z 75 = undef := hz 13 _ (hw 13 (by kernel_rfl)) rfl
                  refine wpOp_skip rfl (by simp [Region.wanted, yielded, e13]; try simp [undef]) ?_
                  go_simp
                  exact ⟨⟨by simp [hsz.out], hx.out⟩, upd z 82 (undef), (by unfold Hid; simp [upd, e13]), hz.next apx hsz.out 20 (by decide) _ (fun _ h => Option.some.inj h), BefP.keep hb24 (by decide)⟩
                · have e13 : z 75 = undef := hz 13 _ (hw 13 (by kernel_rfl)) rfl
                  refine wpOp_skip rfl (by simp [Region.wanted, yielded, e13]; try simp [undef]) ?_
                  go_simp
                  exact ⟨⟨by simp [hsz.out], hx.out⟩, upd z 83 (undef), (by unfold Hid; simp [upd, e13]), hz.next apx hsz.out 21 (by decide) _ (fun _ h => Option.some.inj h), BefP.keep hb24 (by decide)⟩
                · have e1 : z 63 = .bool true := hz 1 _ (hw 1 (by kernel_rfl)) rfl
                  refine wpOp_skip rfl (by simp [Region.wanted, yielded, e1]) ?_
                  go_simp
                  exact ⟨⟨by simp [hsz.out], hx.out⟩, upd z 84 (undef), (by unfold Hid; simp [upd, e1]), hz.next apx hsz.out 22 (by decide) _ (fun _ h => Option.some.inj h), BefP.keep hb24 (by decide)⟩
                · have e1 : z 63 = .bool true := hz 1 _ (hw 1 (by kernel_rfl)) rfl
                  refine wpOp_plain rfl rfl ?_
                  go_simp
                  exact ⟨⟨by simp [hsz.out], hx.out⟩, upd z 85 (.bool true), (by unfold Hid; simp [upd, e1]), hz.next apx hsz.out 23 (by decide) _ (fun _ h => Option.some.inj h), BefP.keep hb24 (by decide)⟩
                · have e23 : z 85 = .bool true := hz 23 _ (hw 23 (by kernel_rfl)) rfl
                  refine wpOp_plain rfl rfl ?_
                  go_simp
                  exact ⟨⟨by simp [hsz.out], hx.out⟩, upd z 9 (.bool true), (by unfold Hid; simp [upd, e23]), hz.next apx hsz.out 24 (by decide) _ (fun _ h => Option.some.inj h), BefP.past (by rw [hsz.out]; decide)⟩
              · exact ⟨⟨rfl, (Below.refl _ _).drew⟩, fun xx => (#[.agg (tabV v (some ⟨b2, off2, none⟩) n c), .agg (rlc r), .string s, .pointer (some ⟨tb, 0, none⟩), .pointer (some ⟨tb + 1, 0, none⟩), undef, .bool false, .pointer (some ⟨ub, 0, none⟩), .int .i64 0, .bool true, .int .i64 (k : Nat), .agg (tabV v (some ⟨b2, off2, none⟩) n c), .string s, .bool false, .bool false, .pointer (some ⟨tb + 1, 0, none⟩), .string r.p, .int .i64 (r.p.size : Nat), .bool (decide ((200 : Int) < (r.p.size : Nat))), .bool (decide ((200 : Int) < (r.p.size : Nat))), undef, .tuple #[.agg (tabV (v + 1) (some ⟨g, 0, none⟩) nu cap), .int .i64 0], .agg (tabV v (some ⟨b2, off2, none⟩) n c), .pointer (some ⟨tb + 1, 0, none⟩), .string r.p, .pointer (some ⟨tb + 1, 1, none⟩), .agg (lab r.a r.c), .tuple #[.agg (tabV (v + 1) (some ⟨g, 0, none⟩) nu cap), .int .i64 0], .agg (tabV (v + 1) (some ⟨g, 0, none⟩) nu cap), .int .i64 0, .int .i64 0, .bool false, undef, undef, undef, undef, undef, undef, undef, undef, undef, undef, undef, undef, .agg (tabV (v + 1) (some ⟨g, 0, none⟩) nu cap), .int .i64 0, .bool false, .bool false, .pointer (some ⟨ub, 0, none⟩), .int .i64 (v + 1), .pointer (some ⟨tb, 0, none⟩), .int .i64 v, .int .i64 (v + 1), .bool false, .bool false, .int .i64 (k : Nat), .pointer (some ⟨tb, 1, none⟩), .slice (some ⟨b2, off2, none⟩) n c, .int .i64 (n : Nat), .bool true, u60, u61, u62, u63, u64, u65, u66, u67, u68, u69, u70, u71, u72, u73, u74, u75, u76, u77, u78, u79, u80, u81, u82, u83, u84, u85, undef, undef, undef, undef, undef, undef, undef, undef, undef, undef, undef, undef, undef, undef, undef, undef, undef, undef, undef, undef, undef, undef, undef, undef, undef, undef, undef] : Array Value).getD xx undef, (by rfl), Holding.start, BefP.start rfl⟩
            | false =>
              by_cases hgt : r.p.size < x.p.size
              · have hgtI : (r.p.size : Int) < x.p.size := by omega
                rw [decide_eq_true hgt] at Hk1
                generalize cov x.p s = ov at *
                have apx : apartB [62, 63, 64, 65, 66, 67, 68, 69, 70, 71, 72, 73, 74, 75, 76, 77, 78, 79, 80, 81, 82, 83, 84, 85, 9] = true := by decide
                refine wp_region_any (by kernel_rfl) ?_
                change wpAny _ _ _ _ _ _ _ (World.drew _)
                refine wpAny_inv2 (fun ll aa wx => Hid (ll.size = 25 ∧ Below wr.heap.size wr wx) ∧ ∃ (z : Nat → Value), Hid (aa = ⟨#[.agg (tabV v (some ⟨b2, off2, none⟩) n c), .agg (rlc r), .string s, .pointer (some ⟨tb, 0, none⟩), .pointer (some ⟨tb + 1, 0, none⟩), undef, .bool false, .pointer (some ⟨ub, 0, none⟩), .int .i64 0, z 9, .int .i64 (k : Nat), .agg (tabV v (some ⟨b2, off2, none⟩) n c), .string s, .bool false, .bool false, .pointer (some ⟨tb + 1, 0, none⟩), .string r.p, .int .i64 (r.p.size : Nat), .bool (decide ((200 : Int) < (r.p.size : Nat))), .bool (decide ((200 : Int) < (r.p.size : Nat))), undef, .tuple #[.agg (tabV (v + 1) (some ⟨g, 0, none⟩) nu cap), .int .i64 0], .agg (tabV v (some ⟨b2, off2, none⟩) n c), .pointer (some ⟨tb + 1, 0, none⟩), .string r.p, .pointer (some ⟨tb + 1, 1, none⟩), .agg (lab r.a r.c), .tuple #[.agg (tabV (v + 1) (some ⟨g, 0, none⟩) nu cap), .int .i64 0], .agg (tabV (v + 1) (some ⟨g, 0, none⟩) nu cap), .int .i64 0, .int .i64 0, .bool false, undef, undef, undef, undef, undef, undef, undef, undef, undef, undef, undef, undef, .agg (tabV (v + 1) (some ⟨g, 0, none⟩) nu cap), .int .i64 0, .bool false, .bool false, .pointer (some ⟨ub, 0, none⟩), .int .i64 (v + 1), .pointer (some ⟨tb, 0, none⟩), .int .i64 v, .int .i64 (v + 1), .bool false, .bool false, .int .i64 (k : Nat), .pointer (some ⟨tb, 1, none⟩), .slice (some ⟨b2, off2, none⟩) n c, .int .i64 (n : Nat), .bool true, u60, u61, z 62, z 63, z 64, z 65, z 66, z 67, z 68, z 69, z 70, z 71, z 72, z 73, z 74, z 75, z 76, z 77, z 78, z 79, z 80, z 81, z 82, z 83, z 84, z 85, undef, undef, undef, undef, undef, undef, undef, undef, undef, undef, undef, undef, undef, undef, undef, undef, undef, undef, undef, undef, undef, undef, undef, undef, undef, undef, undef], []⟩) ∧ Holding [62, 63, 64, 65, 66, 67, 68, 69, 70, 71, 72, 73, 74, 75, 76, 77, 78, 79, 80, 81, 82, 83, 84, 85, 9] [some (.bool false), some (.bool false), some (.pointer (some ⟨tb, 1, none⟩)), some (.slice (some ⟨b2, off2, none⟩) n c), some (.int .i64 (k : Nat)), some (.pointer (some ⟨b2, off2 + k * 3, none⟩)), some (.pointer (some ⟨b2, off2 + k * 3, none⟩)), some (.string x.p), some (.int .i64 (x.p.size : Nat)), some (.pointer (some ⟨tb + 1, 0, none⟩)), some (.string r.p), some (.int .i64 (r.p.size : Nat)), some (.bool true), some (.bool true), some (.pointer (some ⟨tb, 1, none⟩)), some (.slice (some ⟨b2, off2, none⟩) n c), some (.int .i64 (k : Nat)), some (.pointer (some ⟨b2, off2 + k * 3, none⟩)), some (.pointer (some ⟨b2, off2 + k * 3, none⟩)), some (.string x.p), some (.string s), some (.bool ov), some (.bool ov), some (.bool ov), some (.bool ov)] ll z ∧ BefP ll 24 z 9 (.bool false)) ?_ (by kernel_rfl) ?_ ?_ _ rfl _ _ ?_
                · rintro ll aa wx ⟨hI, _⟩
                  exact hI.out.1
                · rintro ll aa wx ⟨hI, z, ha, hz, hb24⟩ hall
                  have hx := Lib.hid hI.out.2
                  have e0 : z 62 = .bool false := hz 0 _ (hall 0 (by decide)) rfl
                  have e1 : z 63 = .bool false := hz 1 _ (hall 1 (by decide)) rfl
                  have e2 : z 64 = .pointer (some ⟨tb, 1, none⟩) := hz 2 _ (hall 2 (by decide)) rfl
                  have e3 : z 65 = .slice (some ⟨b2, off2, none⟩) n c := hz 3 _ (hall 3 (by decide)) rfl
                  have e4 : z 66 = .int .i64 (k : Nat) := hz 4 _ (hall 4 (by decide)) rfl
                  have e5 : z 67 = .pointer (some ⟨b2, off2 + k * 3, none⟩) := hz 5 _ (hall 5 (by decide)) rfl
                  have e6 : z 68 = .pointer (some ⟨b2, off2 + k * 3, none⟩) := hz 6 _ (hall 6 (by decide)) rfl
                  have e7 : z 69 = .string x.p := hz 7 _ (hall 7 (by decide)) rfl
                  have e8 : z 70 = .int .i64 (x.p.size : Nat) := hz 8 _ (hall 8 (by decide)) rfl
                  have e9 : z 71 = .pointer (some ⟨tb + 1, 0, none⟩) := hz 9 _ (hall 9 (by decide)) rfl
                  have e10 : z 72 = .string r.p := hz 10 _ (hall 10 (by decide)) rfl
                  have e11 : z 73 = .int .i64 (r.p.size : Nat) := hz 11 _ (hall 11 (by decide)) rfl
                  have e12 : z 74 = .bool true := hz 12 _ (hall 12 (by decide)) rfl
                  have e13 : z 75 = .bool true := hz 13 _ (hall 13 (by decide)) rfl
                  have e14 : z 76 = .pointer (some ⟨tb, 1, none⟩) := hz 14 _ (hall 14 (by decide)) rfl
                  have e15 : z 77 = .slice (some ⟨b2, off2, none⟩) n c := hz 15 _ (hall 15 (by decide)) rfl
                  have e16 : z 78 = .int .i64 (k : Nat) := hz 16 _ (hall 16 (by decide)) rfl
                  have e17 : z 79 = .pointer (some ⟨b2, off2 + k * 3, none⟩) := hz 17 _ (hall 17 (by decide)) rfl
                  have e18 : z 80 = .pointer (some ⟨b2, off2 + k * 3, none⟩) := hz 18 _ (hall 18 (by decide)) rfl
                  have e19 : z 81 = .string x.p := hz 19 _ (hall 19 (by decide)) rfl
                  have e20 : z 82 = .string s := hz 20 _ (hall 20 (by decide)) rfl
                  have e21 : z 83 = .bool ov := hz 21 _ (hall 21 (by decide)) rfl
                  have e22 : z 84 = .bool ov := hz 22 _ (hall 22 (by decide)) rfl
                  have e23 : z 85 = .bool ov := hz 23 _ (hall 23 (by decide)) rfl
                  have e24 : z 9 = .bool ov := hz 24 _ (hall 24 (by decide)) rfl
                  clear hall hz hI hb24
                  obtain rfl := ha.out
                  clear ha
                  clear apx
                  have E := Lib.hid e24
                  have HK := Lib.hid (hI.out.trans (hx.out.mono hI.out.size))
                  clear e0 e1 e2 e3 e4 e5 e6 e7 e8 e9 e10 e11 e12 e13 e14 e15 e16 e17 e18 e19 e20 e21 e22 e23 e24 hx hI
                  dsimp only
                  rw [E.out]
                  clear E
                  generalize z 62 = y62
                  generalize z 63 = y63
                  generalize z 64 = y64
                  generalize z 65 = y65
                  generalize z 66 = y66
                  generalize z 67 = y67
                  generalize z 68 = y68
                  generalize z 69 = y69
                  generalize z 70 = y70
                  generalize z 71 = y71
                  generalize z 72 = y72
                  generalize z 73 = y73
                  generalize z 74 = y74
                  generalize z 75 = y75
                  generalize z 76 = y76
                  generalize z 77 = y77
                  generalize z 78 = y78
                  generalize z 79 = y79
                  generalize z 80 = y80
                  generalize z 81 = y81
                  generalize z 82 = y82
                  generalize z 83 = y83
                  generalize z 84 = y84
                  generalize z 85 = y85
                  clear z
                  go_wp2
                  go_roundw
                  case rel => exact ⟨k + 1, by omega, by go_num, by rw [Hk1.out]; rfl, HK.out⟩
                  case measure => simp [intOf]; omega
                · rintro ll aa wx i ⟨hI, z, ha, hz, hb24⟩ hcl hi hu hw
                  obtain rfl := ha.out
                  have hsz := Lib.hid hI.out.1
                  have hx := Lib.hid hI.out.2
                  clear ha hI
                  have hin : i < 25 := hi
                  obtain rfl | rfl | rfl | rfl | rfl | rfl | rfl | rfl | rfl | rfl | rfl | rfl | rfl | rfl | rfl | rfl | rfl | rfl | rfl | rfl | rfl | rfl | rfl | rfl | rfl : i = 0 ∨ i = 1 ∨ i = 2 ∨ i = 3 ∨ i = 4 ∨ i = 5 ∨ i = 6 ∨ i = 7 ∨ i = 8 ∨ i = 9 ∨ i = 10 ∨ i = 11 ∨ i = 12 ∨ i = 13 ∨ i = 14 ∨ i = 15 ∨ i = 16 ∨ i = 17 ∨ i = 18 ∨ i = 19 ∨ i = 20 ∨ i = 21 ∨ i = 22 ∨ i = 23 ∨ i = 24 := by omega
                  · have b24 : z 9 = .bool false := hb24 (BefP.ok (fun hl => hcl 24 0 hl (by kernel_rfl)) hu)
                    refine wpOp_plain rfl rfl ?_
                    go_simp
                    exact ⟨⟨by simp [hsz.out], hx.out⟩, upd z 62 (.bool false), (by unfold Hid; simp [upd, b24]), hz.next apx hsz.out 0 (by decide) _ (fun _ h => Option.some.inj h), BefP.keep hb24 (by decide)⟩
                  · have e0 : z 62 = .bool false := hz 0 _ (hw 0 (by kernel_rfl)) rfl
                    refine wpOp_plain rfl rfl ?_
                    go_simp
                    exact ⟨⟨by simp [hsz.out], hx.out⟩, upd z 63 (.bool false), (by unfold Hid; simp [upd, e0]), hz.next apx hsz.out 1 (by decide) _ (fun _ h => Option.some.inj h), BefP.keep hb24 (by decide)⟩
                  · have e1 : z 63 = .bool false := hz 1 _ (hw 1 (by kernel_rfl)) rfl
                    refine wpOp_want rfl (by simp [Region.wanted, yielded, e1]) ?_
                    go_simp
                    exact ⟨⟨by simp [hsz.out], hx.out⟩, upd z 64 (.pointer (some ⟨tb, 1, none⟩)), (by unfold Hid; simp [upd, e1]), hz.next apx hsz.out 2 (by decide) _ (fun _ h => Option.some.inj h), BefP.keep hb24 (by decide)⟩
                  · have e1 : z 63 = .bool false := hz 1 _ (hw 1 (by kernel_rfl)) rfl
                    have e2 : z 64 = .pointer (some ⟨tb, 1, none⟩) := hz 2 _ (hw 2 (by kernel_rfl)) rfl
                    have cl : wx.cell? ⟨tb, 1, none⟩ = some (.slice (some ⟨b2, off2, none⟩) n c) := (hx.out.cell (p := ⟨tb, 1, none⟩) (World.block_lt_of_cell? _ _ Hcs.out)).trans Hcs.out
                    refine wpOp_want rfl (by simp [Region.wanted, yielded, e1]) ?_
                    go_simp
                    exact ⟨⟨by simp [hsz.out], hx.out⟩, upd z 65 (.slice (some ⟨b2, off2, none⟩) n c), (by unfold Hid; simp [upd, e1, e2]), hz.next apx hsz.out 3 (by decide) _ (fun _ h => Option.some.inj h), BefP.keep hb24 (by decide)⟩
                  · have e1 : z 63 = .bool false := hz 1 _ (hw 1 (by kernel_rfl)) rfl
                    refine wpOp_want rfl (by simp [Region.wanted, yielded, e1]) ?_
                    go_simp
                    exact ⟨⟨by simp [hsz.out], hx.out⟩, upd z 66 (.int .i64 (k : Nat)), (by unfold Hid; simp [upd, e1]), hz.next apx hsz.out 4 (by decide) _ (fun _ h => Option.some.inj h), BefP.keep hb24 (by decide)⟩
                  · have e1 : z 63 = .bool false := hz 1 _ (hw 1 (by kernel_rfl)) rfl
                    have e3 : z 65 = .slice (some ⟨b2, off2, none⟩) n c := hz 3 _ (hw 3 (by kernel_rfl)) rfl
                    have e4 : z 66 = .int .i64 (k : Nat) := hz 4 _ (hw 4 (by kernel_rfl)) rfl
                    refine wpOp_want rfl (by simp [Region.wanted, yielded, e1]) ?_
                    go_simp
                    exact ⟨⟨by simp [hsz.out], hx.out⟩, upd z 67 (.pointer (some ⟨b2, off2 + k * 3, none⟩)), (by unfold Hid; simp [upd, e1, e3, e4]), hz.next apx hsz.out 5 (by decide) _ (fun _ h => Option.some.inj h), BefP.keep hb24 (by decide)⟩
                  · have e1 : z 63 = .bool false := hz 1 _ (hw 1 (by kernel_rfl)) rfl
                    have e5 : z 67 = .pointer (some ⟨b2, off2 + k * 3, none⟩) := hz 5 _ (hw 5 (by kernel_rfl)) rfl
                    refine wpOp_want rfl (by simp [Region.wanted, yielded, e1]) ?_
                    go_simp
                    exact ⟨⟨by simp [hsz.out], hx.out⟩, upd z 68 (.pointer (some ⟨b2, off2 + k * 3, none⟩)), (by unfold Hid; simp [upd, e1, e5]), hz.next apx hsz.out 6 (by decide) _ (fun _ h => Option.some.inj h), BefP.keep hb24 (by decide)⟩
                  · have e1 : z 63 = .bool false := hz 1 _ (hw 1 (by kernel_rfl)) rfl
                    have e6 : z 68 = .pointer (some ⟨b2, off2 + k * 3, none⟩) := hz 6 _ (hw 6 (by kernel_rfl)) rfl
                    have cl : wx.cell? ⟨b2, off2 + k * 3, none⟩ = some (.string x.p) := (hx.out.cell (p := ⟨b2, off2 + k * 3, none⟩) (World.block_lt_of_cell? _ _ Hxp.out)).trans Hxp.out
                    refine wpOp_want rfl (by simp [Region.wanted, yielded, e1]) ?_
                    go_simp
                    exact ⟨⟨by simp [hsz.out], hx.out⟩, upd z 69 (.string x.p), (by unfold Hid; simp [upd, e1, e6]), hz.next apx hsz.out 7 (by decide) _ (fun _ h => Option.some.inj h), BefP.keep hb24 (by decide)⟩
                  · have e1 : z 63 = .bool false := hz 1 _ (hw 1 (by kernel_rfl)) rfl
                    have e7 : z 69 = .string x.p := hz 7 _ (hw 7 (by kernel_rfl)) rfl
                    refine wpOp_want rfl (by simp [Region.wanted, yielded, e1]) ?_
                    go_simp
                    exact ⟨⟨by simp [hsz.out], hx.out⟩, upd z 70 (.int .i64 (x.p.size : Nat)), (by unfold Hid; simp [upd, e1, e7]), hz.next apx hsz.out 8 (by decide) _ (fun _ h => Option.some.inj h), BefP.keep hb24 (by decide)⟩
                  · have e1 : z 63 = .bool false := hz 1 _ (hw 1 (by kernel_rfl)) rfl
                    refine wpOp_want rfl (by simp [Region.wanted, yielded, e1]) ?_
                    go_simp
                    exact ⟨⟨by simp [hsz.out], hx.out⟩, upd z 71 (.pointer (some ⟨tb + 1, 0, none⟩)), (by unfold Hid; simp [upd, e1]), hz.next apx hsz.out 9 (by decide) _ (fun _ h => Option.some.inj h), BefP.keep hb24 (by decide)⟩
                  · have e1 : z 63 = .bool false := hz 1 _ (hw 1 (by kernel_rfl)) rfl
                    have e9 : z 71 = .pointer (some ⟨tb + 1, 0, none⟩) := hz 9 _ (hw 9 (by kernel_rfl)) rfl
                    have cl : wx.cell? ⟨tb + 1, 0, none⟩ = some (.string r.p) := (hx.out.cell (p := ⟨tb + 1, 0, none⟩) (World.block_lt_of_cell? _ _ Hrp.out)).trans Hrp.out
                    refine wpOp_want rfl (by simp [Region.wanted, yielded, e1]) ?_
                    go_simp
                    exact ⟨⟨by simp [hsz.out], hx.out⟩, upd z 72 (.string r.p), (by unfold Hid; simp [upd, e1, e9]), hz.next apx hsz.out 10 (by decide) _ (fun _ h => Option.some.inj h), BefP.keep hb24 (by decide)⟩
                  · have e1 : z 63 = .bool false := hz 1 _ (hw 1 (by kernel_rfl)) rfl
                    have e10 : z 72 = .string r.p := hz 10 _ (hw 10 (by kernel_rfl)) rfl
                    refine wpOp_want rfl (by simp [Region.wanted, yielded, e1]) ?_
                    go_simp
                    exact ⟨⟨by simp [hsz.out], hx.out⟩, upd z 73 (.int .i64 (r.p.size : Nat)), (by unfold Hid; simp [upd, e1, e10]), hz.next apx hsz.out 11 (by decide) _ (fun _ h => Option.some.inj h), BefP.keep hb24 (by decide)⟩
                  · have e1 : z 63 = .bool false := hz 1 _ (hw 1 (by kernel_rfl)) rfl
                    have e8 : z 70 = .int .i64 (x.p.size : Nat) := hz 8 _ (hw 8 (by kernel_rfl)) rfl
                    have e11 : z 73 = .int .i64 (r.p.size : Nat) := hz 11 _ (hw 11 (by kernel_rfl)) rfl
                    refine wpOp_want rfl (by simp [Region.wanted, yielded, e1]) ?_
                    go_simp
                    exact ⟨⟨by simp [hsz.out], hx.out⟩, upd z 74 (.bool true), (by unfold Hid; simp [upd, e1, e8, e11]), hz.next apx hsz.out 12 (by decide) _ (fun _ h => Option.some.inj h), BefP.keep hb24 (by decide)⟩
                  · have e1 : z 63 = .bool false := hz 1 _ (hw 1 (by kernel_rfl)) rfl
                    have e12 : z 74 = .bool true := hz 12 _ (hw 12 (by kernel_rfl)) rfl
                    refine wpOp_want rfl (by simp [Region.wanted, yielded, e1]) ?_
                    go_simp
                    exact ⟨⟨by simp [hsz.out], hx.out⟩, upd z 75 (.bool true), (by unfold Hid; simp [upd, e1, e12]), hz.next apx hsz.out 13 (by decide) _ (fun _ h => Option.some.inj h), BefP.keep hb24 (by decide)⟩
                  · have e13 : z 75 = .bool true := hz 13 _ (hw 13 (by kernel_rfl)) rfl
                    refine wpOp_want rfl (by simp [Region.wanted, yielded, e13]) ?_
                    go_simp
                    exact ⟨⟨by simp [hsz.out], hx.out⟩, upd z 76 (.pointer (some ⟨tb, 1, none⟩)), (by unfold Hid; simp [upd, e13]), hz.next apx hsz.out 14 (by decide) _ (fun _ h => Option.some.inj h), BefP.keep hb24 (by decide)⟩
                  · have e13 : z 75 = .bool true := hz 13 _ (hw 13 (by kernel_rfl)) rfl
                    have e14 : z 76 = .pointer (some ⟨tb, 1, none⟩) := hz 14 _ (hw 14 (by kernel_rfl)) rfl
                    have cl : wx.cell? ⟨tb, 1, none⟩ = some (.slice (some ⟨b2, off2, none⟩) n c) := (hx.out.cell (p := ⟨tb, 1, none⟩) (World.block_lt_of_cell? _ _ Hcs.out)).trans Hcs.out
                    refine wpOp_want rfl (by simp [Region.wanted, yielded, e13]) ?_
                    go_simp
                    exact ⟨⟨by simp [hsz.out], hx.out⟩, upd z 77 (.slice (some ⟨b2, off2, none⟩) n c), (by unfold Hid; simp [upd, e13, e14]), hz.next apx hsz.out 15 (by decide) _ (fun _ h => Option.some.inj h), BefP.keep hb24 (by decide)⟩
                  · have e13 : z 75 = .bool true := hz 13 _ (hw 13 (by kernel_rfl)) rfl
                    refine wpOp_want rfl (by simp [Region.wanted, yielded, e13]) ?_
                    go_simp
                    exact ⟨⟨by simp [hsz.out], hx.out⟩, upd z 78 (.int .i64 (k : Nat)), (by unfold Hid; simp [upd, e13]), hz.next apx hsz.out 16 (by decide) _ (fun _ h => Option.some.inj h), BefP.keep hb24 (by decide)⟩
                  · have e13 : z 75 = .bool true := hz 13 _ (hw 13 (by kernel_rfl)) rfl
                    have e15 : z 77 = .slice (some ⟨b2, off2, none⟩) n c := hz 15 _ (hw 15 (by kernel_rfl)) rfl
                    have e16 : z 78 = .int .i64 (k : Nat) := hz 16 _ (hw 16 (by kernel_rfl)) rfl
                    refine wpOp_want rfl (by simp [Region.wanted, yielded, e13]) ?_
                    go_simp
                    exact ⟨⟨by simp [hsz.out], hx.out⟩, upd z 79 (.pointer (some ⟨b2, off2 + k * 3, none⟩)), (by unfold Hid; simp [upd, e13, e15, e16]), hz.next apx hsz.out 17 (by decide) _ (fun _ h => Option.some.inj h), BefP.keep hb24 (by decide)⟩
                  · have e13 : z 75 = .bool true := hz 13 _ (hw 13 (by kernel_rfl)) rfl
                    have e17 : z 79 = .pointer (some ⟨b2, off2 + k * 3, none⟩) := hz 17 _ (hw 17 (by kernel_rfl)) rfl
                    refine wpOp_want rfl (by simp [Region.wanted, yielded, e13]) ?_
                    go_simp
                    exact ⟨⟨by simp [hsz.out], hx.out⟩, upd z 80 (.pointer (some ⟨b2, off2 + k * 3, none⟩)), (by unfold Hid; simp [upd, e13, e17]), hz.next apx hsz.out 18 (by decide) _ (fun _ h => Option.some.inj h), BefP.keep hb24 (by decide)⟩
                  · have e13 : z 75 = .bool true := hz 13 _ (hw 13 (by kernel_rfl)) rfl
                    have e18 : z 80 = .pointer (some ⟨b2, off2 + k * 3, none⟩) := hz 18 _ (hw 18 (by kernel_rfl)) rfl
                    have cl : wx.cell? ⟨b2, off2 + k * 3, none⟩ = some (.string x.p) := (hx.out.cell (p := ⟨b2, off2 + k * 3, none⟩) (World.block_lt_of_cell? _ _ Hxp.out)).trans Hxp.out
                    refine wpOp_want rfl (by simp [Region.wanted, yielded, e13]) ?_
                    go_simp
                    exact ⟨⟨by simp [hsz.out], hx.out⟩, upd z 81 (.string x.p), (by unfold Hid; simp [upd, e13, e18]), hz.next apx hsz.out 19 (by decide) _ (fun _ h => Option.some.inj h), BefP.keep hb24 (by decide)⟩
                  · have e13 : z 75 = .bool true := hz 13 _ (hw 13 (by kernel_rfl)) rfl
                    refine wpOp_want rfl (by simp [Region.wanted, yielded, e13]) ?_
                    go_simp
                    exact ⟨⟨by simp [hsz.out], hx.out⟩, upd z 82 (.string s), (by unfold Hid; simp [upd, e13]), hz.next apx hsz.out 20 (by decide) _ (fun _ h => Option.some.inj h), BefP.keep hb24 (by decide)⟩
                  · have e13 : z 75 = .bool true := hz 13 _ (hw 13 (by kernel_rfl)) rfl
                    have e19 : z 81 = .string x.p := hz 19 _ (hw 19 (by kernel_rfl)) rfl
                    have e20 : z 82 = .string s := hz 20 _ (hw 20 (by kernel_rfl)) rfl
                    refine wpOp_want rfl (by simp [Region.wanted, yielded, e13]) ?_
                    go_simp
                    go_at_call 14
                    refine (HOr.out wx (Hlk.out.trans (hx.out.mono Hlk.out.size))).mono ?_
                    rintro e w' ⟨rfl, low⟩
                    exact ⟨⟨by simp [hsz.out], hx.out.trans (low.mono hx.out.size)⟩, upd z 83 (.bool ov), (by unfold Hid; simp [upd, e13, e19, e20]), hz.next apx hsz.out 21 (by decide) _ (fun _ h => Option.some.inj h), BefP.keep hb24 (by decide)⟩
                  · have e1 : z 63 = .bool false := hz 1 _ (hw 1 (by kernel_rfl)) rfl
                    have e13 : z 75 = .bool true := hz 13 _ (hw 13 (by kernel_rfl)) rfl
                    have e21 : z 83 = .bool ov := hz 21 _ (hw 21 (by kernel_rfl)) rfl
                    refine wpOp_want rfl (by simp [Region.wanted, yielded, e1]) ?_
                    go_simp
                    exact ⟨⟨by simp [hsz.out], hx.out⟩, upd z 84 (.bool ov), (by unfold Hid; simp [upd, e1, e13, e21]), hz.next apx hsz.out 22 (by decide) _ (fun _ h => Option.some.inj h), BefP.keep hb24 (by decide)⟩
                  · have e1 : z 63 = .bool false := hz 1 _ (hw 1 (by kernel_rfl)) rfl
                    have e22 : z 84 = .bool ov := hz 22 _ (hw 22 (by kernel_rfl)) rfl
                    refine wpOp_plain rfl rfl ?_
                    go_simp
                    exact ⟨⟨by simp [hsz.out], hx.out⟩, upd z 85 (.bool ov), (by unfold Hid; simp [upd, e1, e22]), hz.next apx hsz.out 23 (by decide) _ (fun _ h => Option.some.inj h), BefP.keep hb24 (by decide)⟩
                  · have e23 : z 85 = .bool ov := hz 23 _ (hw 23 (by kernel_rfl)) rfl
                    refine wpOp_plain rfl rfl ?_
                    go_simp
                    exact ⟨⟨by simp [hsz.out], hx.out⟩, upd z 9 (.bool ov), (by unfold Hid; simp [upd, e23]), hz.next apx hsz.out 24 (by decide) _ (fun _ h => Option.some.inj h), BefP.past (by rw [hsz.out]; decide)⟩
                · exact ⟨⟨rfl, (Below.refl _ _).drew⟩, fun xx => (#[.agg (tabV v (some ⟨b2, off2, none⟩) n c), .agg (rlc r), .string s, .pointer (some ⟨tb, 0, none⟩), .pointer (some ⟨tb + 1, 0, none⟩), undef, .bool false, .pointer (some ⟨ub, 0, none⟩), .int .i64 0, .bool false, .int .i64 (k : Nat), .agg (tabV v (some ⟨b2, off2, none⟩) n c), .string s, .bool false, .bool false, .pointer (some ⟨tb + 1, 0, none⟩), .string r.p, .int .i64 (r.p.size : Nat), .bool (decide ((200 : Int) < (r.p.size : Nat))), .bool (decide ((200 : Int) < (r.p.size : Nat))), undef, .tuple #[.agg (tabV (v + 1) (some ⟨g, 0, none⟩) nu cap), .int .i64 0], .agg (tabV v (some ⟨b2, off2, none⟩) n c), .pointer (some ⟨tb + 1, 0, none⟩), .string r.p, .pointer (some ⟨tb + 1, 1, none⟩), .agg (lab r.a r.c), .tuple #[.agg (tabV (v + 1) (some ⟨g, 0, none⟩) nu cap), .int .i64 0], .agg (tabV (v + 1) (some ⟨g, 0, none⟩) nu cap), .int .i64 0, .int .i64 0, .bool false, undef, undef, undef, undef, undef, undef, undef, undef, undef, undef, undef, undef, .agg (tabV (v + 1) (some ⟨g, 0, none⟩) nu cap), .int .i64 0, .bool false, .bool false, .pointer (some ⟨ub, 0, none⟩), .int .i64 (v + 1), .pointer (some ⟨tb, 0, none⟩), .int .i64 v, .int .i64 (v + 1), .bool false, .bool false, .int .i64 (k : Nat), .pointer (some ⟨tb, 1, none⟩), .slice (some ⟨b2, off2, none⟩) n c, .int .i64 (n : Nat), .bool true, u60, u61, u62, u63, u64, u65, u66, u67, u68, u69, u70, u71, u72, u73, u74, u75, u76, u77, u78, u79, u80, u81, u82, u83, u84, u85, undef, undef, undef, undef, undef, undef, undef, undef, undef, undef, undef, undef, undef, undef, undef, undef, undef, undef, undef, undef, undef, undef, undef, undef, undef, undef, undef] : Array Value).getD xx undef, (by rfl), Holding.start, BefP.start rfl⟩
              · have hgtI : ¬ (r.p.size : Int) < x.p.size := by omega
                rw [decide_eq_false hgt] at Hk1
                have apx : apartB [62, 63, 64, 65, 66, 67, 68, 69, 70, 71, 72, 73, 74, 75, 76, 77, 78, 79, 80, 81, 82, 83, 84, 85, 9] = true := by decide
                refine wp_region_any (by kernel_rfl) ?_
                change wpAny _ _ _ _ _ _ _ (World.drew _)
                refine wpAny_inv2 (fun ll aa wx => Hid (ll.size = 25 ∧ Below wr.heap.size wr wx) ∧ ∃ (z : Nat → Value), Hid (aa = ⟨#[.agg (tabV v (some ⟨b2, off2, none⟩) n c), .agg (rlc r), .string s, .pointer (some ⟨tb, 0, none⟩), .pointer (some ⟨tb + 1, 0, none⟩), undef, .bool false, .pointer (some ⟨ub, 0, none⟩), .int .i64 0, z 9, .int .i64 (k : Nat), .agg (tabV v (some ⟨b2, off2, none⟩) n c), .string s, .bool false, .bool false, .pointer (some ⟨tb + 1, 0, none⟩), .string r.p, .int .i64 (r.p.size : Nat), .bool (decide ((200 : Int) < (r.p.size : Nat))), .bool (decide ((200 : Int) < (r.p.size : Nat))), undef, .tuple #[.agg (tabV (v + 1) (some ⟨g, 0, none⟩) nu cap), .int .i64 0], .agg (tabV v (some ⟨b2, off2, none⟩) n c), .pointer (some ⟨tb + 1, 0, none⟩), .string r.p, .pointer (some ⟨tb + 1, 1, none⟩), .agg (lab r.a r.c), .tuple #[.agg (tabV (v + 1) (some ⟨g, 0, none⟩) nu cap), .int .i64 0], .agg (tabV (v + 1) (some ⟨g, 0, none⟩) nu cap), .int .i64 0, .int .i64 0, .bool false, undef, undef, undef, undef, undef, undef, undef, undef, undef, undef, undef, undef, .agg (tabV (v + 1) (some ⟨g, 0, none⟩) nu cap), .int .i64 0, .bool false, .bool false, .pointer (some ⟨ub, 0, none⟩), .int .i64 (v + 1), .pointer (some ⟨tb, 0, none⟩), .int .i64 v, .int .i64 (v + 1), .bool false, .bool false, .int .i64 (k : Nat), .pointer (some ⟨tb, 1, none⟩), .slice (some ⟨b2, off2, none⟩) n c, .int .i64 (n : Nat), .bool true, u60, u61, z 62, z 63, z 64, z 65, z 66, z 67, z 68, z 69, z 70, z 71, z 72, z 73, z 74, z 75, z 76, z 77, z 78, z 79, z 80, z 81, z 82, z 83, z 84, z 85, undef, undef, undef, undef, undef, undef, undef, undef, undef, undef, undef, undef, undef, undef, undef, undef, undef, undef, undef, undef, undef, undef, undef, undef, undef, undef, undef], []⟩) ∧ Holding [62, 63, 64, 65, 66, 67, 68, 69, 70, 71, 72, 73, 74, 75, 76, 77, 78, 79, 80, 81, 82, 83, 84, 85, 9] [some (.bool false), some (.bool false), some (.pointer (some ⟨tb, 1, none⟩)), some (.slice (some ⟨b2, off2, none⟩) n c), some (.int .i64 (k : Nat)), some (.pointer (some ⟨b2, off2 + k * 3, none⟩)), some (.pointer (some ⟨b2, off2 + k * 3, none⟩)), some (.string x.p), some (.int .i64 (x.p.size : Nat)), some (.pointer (some ⟨tb + 1, 0, none⟩)), some (.string r.p), some (.int .i64 (r.p.size : Nat)), some (.bool false), some (.bool false), some (undef), some (undef), some (undef), some (undef), some (undef), some (undef), some (undef), some (undef), some (.bool false), some (.bool false), some (.bool false)] ll z ∧ BefP ll 24 z 9 (.bool false)) ?_ (by kernel_rfl) ?_ ?_ _ rfl _ _ ?_
                · rintro ll aa wx ⟨hI, _⟩
                  exact hI.out.1
                · rintro ll aa wx ⟨hI, z, ha, hz, hb24⟩ hall
                  have hx := Lib.hid hI.out.2
                  have e0 : z 62 = .bool false := hz 0 _ (hall 0 (by decide)) rfl
                  have e1 : z 63 = .bool false := hz 1 _ (hall 1 (by decide)) rfl
                  have e2 : z 64 = .pointer (some ⟨tb, 1, none⟩) := hz 2 _ (hall 2 (by decide)) rfl
                  have e3 : z 65 = .slice (some ⟨b2, off2, none⟩) n c := hz 3 _ (hall 3 (by decide)) rfl
                  have e4 : z 66 = .int .i64 (k : Nat) := hz 4 _ (hall 4 (by decide)) rfl
                  have e5 : z 67 = .pointer (some ⟨b2, off2 + k * 3, none⟩) := hz 5 _ (hall 5 (by decide)) rfl
                  have e6 : z 68 = .pointer (some ⟨b2, off2 + k * 3, none⟩) := hz 6 _ (hall 6 (by decide)) rfl
                  have e7 : z 69 = .string x.p := hz 7 _ (hall 7 (by decide)) rfl
                  have e8 : z 70 = .int .i64 (x.p.size : Nat) := hz 8 _ (hall 8 (by decide)) rfl
                  have e9 : z 71 = .pointer (some ⟨tb + 1, 0, none⟩) := hz 9 _ (hall 9 (by decide)) rfl
                  have e10 : z 72 = .string r.p := hz 10 _ (hall 10 (by decide)) rfl
                  have e11 : z 73 = .int .i64 (r.p.size : Nat) := hz 11 _ (hall 11 (by decide)) rfl
                  have e12 : z 74 = .bool false := hz 12 _ (hall 12 (by decide)) rfl
                  have e13 : z 75 = .bool false := hz 13 _ (hall 13 (by decide)) rfl
                  have e14 : z 76 = undef := hz 14 _ (hall 14 (by decide)) rfl
                  have e15 : z 77 = undef := hz 15 _ (hall 15 (by decide)) rfl
                  have e16 : z 78 = undef := hz 16 _ (hall 16 (by decide)) rfl
                  have e17 : z 79 = undef := hz 17 _ (hall 17 (by decide)) rfl
                  have e18 : z 80 = undef := hz 18 _ (hall 18 (by decide)) rfl
                  have e19 : z 81 = undef := hz 19 _ (hall 19 (by decide)) rfl
                  have e20 : z 82 = undef := hz 20 _ (hall 20 (by decide)) rfl
                  have e21 : z 83 = undef := hz 21 _ (hall 21 (by decide)) rfl
                  have e22 : z 84 = .bool false := hz 22 _ (hall 22 (by decide)) rfl
                  have e23 : z 85 = .bool false := hz 23 _ (hall 23 (by decide)) rfl
                  have e24 : z 9 = .bool false := hz 24 _ (hall 24 (by decide)) rfl
                  clear hall hz hI hb24
                  obtain rfl := ha.out
                  clear ha
                  clear apx
                  have E := Lib.hid e24
                  have HK := Lib.hid (hI.out.trans (hx.out.mono hI.out.size))
                  clear e0 e1 e2 e3 e4 e5 e6 e7 e8 e9 e10 e11 e12 e13 e14 e15 e16 e17 e18 e19 e20 e21 e22 e23 e24 hx hI
                  dsimp only
                  rw [E.out]
                  clear E
                  generalize z 62 = y62
                  generalize z 63 = y63
                  generalize z 64 = y64
                  generalize z 65 = y65
                  generalize z 66 = y66
                  generalize z 67 = y67
                  generalize z 68 = y68
                  generalize z 69 = y69
                  generalize z 70 = y70
                  generalize z 71 = y71
                  generalize z 72 = y72
                  generalize z 73 = y73
                  generalize z 74 = y74
                  generalize z 75 = y75
                  generalize z 76 = y76
                  generalize z 77 = y77
                  generalize z 78 = y78
                  generalize z 79 = y79
                  generalize z 80 = y80
                  generalize z 81 = y81
                  generalize z 82 = y82
                  generalize z 83 = y83
                  generalize z 84 = y84
                  generalize z 85 = y85
                  clear z
                  go_wp2
                  go_roundw
                  case rel => exact ⟨k + 1, by omega, by go_num, by rw [Hk1.out]; rfl, HK.out⟩
                  case measure => simp [intOf]; omega
                · rintro ll aa wx i ⟨hI, z, ha, hz, hb24⟩ hcl hi hu hw
                  obtain rfl := ha.out
                  have hsz := Lib.hid hI.out.1
                  have hx := Lib.hid hI.out.2
                  clear ha hI
                  have hin : i < 25 := hi
                  obtain rfl | rfl | rfl | rfl | rfl | rfl | rfl | rfl | rfl | rfl | rfl | rfl | rfl | rfl | rfl | rfl | rfl | rfl | rfl | rfl | rfl | rfl | rfl | rfl | rfl : i = 0 ∨ i = 1 ∨ i = 2 ∨ i = 3 ∨ i = 4 ∨ i = 5 ∨ i = 6 ∨ i = 7 ∨ i = 8 ∨ i = 9 ∨ i = 10 ∨ i = 11 ∨ i = 12 ∨ i = 13 ∨ i = 14 ∨ i = 15 ∨ i = 16 ∨ i = 17 ∨ i = 18 ∨ i = 19 ∨ i = 20 ∨ i = 21 ∨ i = 22 ∨ i = 23 ∨ i = 24 := by omega
                  · have b24 : z 9 = .bool false := hb24 (BefP.ok (fun hl => hcl 24 0 hl (by kernel_rfl)) hu)
                    refine wpOp_plain rfl rfl ?_
                    go_simp
                    exact ⟨⟨by simp [hsz.out], hx.out⟩, upd z 62 (.bool false), (by unfold Hid; simp [upd, b24]), hz.next apx hsz.out 0 (by decide) _ (fun _ h => Option.some.inj h), BefP.keep hb24 (by decide)⟩
                  · have e0 : z 62 = .bool false := hz 0 _ (hw 0 (by kernel_rfl)) rfl
                    refine wpOp_plain rfl rfl ?_
                    go_simp
                    exact ⟨⟨by simp [hsz.out], hx.out⟩, upd z 63 (.bool false), (by unfold Hid; simp [upd, e0]), hz.next apx hsz.out 1 (by decide) _ (fun _ h => Option.some.inj h), BefP.keep hb24 (by decide)⟩
                  · have e1 : z 63 = .bool false := hz 1 _ (hw 1 (by kernel_rfl)) rfl
                    refine wpOp_want rfl (by simp [Region.wanted, yielded, e1]) ?_
                    go_simp
                    exact ⟨⟨by simp [hsz.out], hx.out⟩, upd z 64 (.pointer (some ⟨tb, 1, none⟩)), (by unfold Hid; simp [upd, e1]), hz.next apx hsz.out 2 (by decide) _ (fun _ h => Option.some.inj h), BefP.keep hb24 (by decide)⟩
                  · have e1 : z 63 = .bool false := hz 1 _ (hw 1 (by kernel_rfl)) rfl
                    have e2 : z 64 = .pointer (some ⟨tb, 1, none⟩) := hz 2 _ (hw 2 (by kernel_rfl)) rfl
                    have cl : wx.cell? ⟨tb, 1, none⟩ = some (.slice (some ⟨b2, off2, none⟩) n c) := (hx.out.cell (p := ⟨tb, 1, none⟩) (World.block_lt_of_cell? _ _ Hcs.out)).trans Hcs.out
                    refine wpOp_want rfl (by simp [Region.wanted, yielded, e1]) ?_
                    go_simp
                    exact ⟨⟨by simp [hsz.out], hx.out⟩, upd z 65 (.slice (some ⟨b2, off2, none⟩) n c), (by unfold Hid; simp [upd, e1, e2]), hz.next apx hsz.out 3 (by decide) _ (fun _ h => Option.some.inj h), BefP.keep hb24 (by decide)⟩
                  · have e1 : z 63 = .bool false := hz 1 _ (hw 1 (by kernel_rfl)) rfl
                    refine wpOp_want rfl (by simp [Region.wanted, yielded, e1]) ?_
                    go_simp
                    exact ⟨⟨by simp [hsz.out], hx.out⟩, upd z 66 (.int .i64 (k : Nat)), (by unfold Hid; simp [upd, e1]), hz.next apx hsz.out 4 (by decide) _ (fun _ h => Option.some.inj h), BefP.keep hb24 (by decide)⟩
                  · have e1 : z 63 = .bool false := hz 1 _ (hw 1 (by kernel_rfl)) rfl
                    have e3 : z 65 = .slice (some ⟨b2, off2, none⟩) n c := hz 3 _ (hw 3 (by kernel_rfl)) rfl
                    have e4 : z 66 = .int .i64 (k : Nat) := hz 4 _ (hw 4 (by kernel_rfl)) rfl
                    refine wpOp_want rfl (by simp [Region.wanted, yielded, e1]) ?_
                    go_simp
                    exact ⟨⟨by simp [hsz.out], hx.out⟩, upd z 67 (.pointer (some ⟨b2, off2 + k * 3, none⟩)), (by unfold Hid; simp [upd, e1, e3, e4]), hz.next apx hsz.out 5 (by decide) _ (fun _ h => Option.some.inj h), BefP.keep hb24 (by decide)⟩
                  · have e1 : z 63 = .bool false := hz 1 _ (hw 1 (by kernel_rfl)) rfl
                    have e5 : z 67 = .pointer (some ⟨b2, off2 + k * 3, none⟩) := hz 5 _ (hw 5 (by kernel_rfl)) rfl
                    refine wpOp_want rfl (by simp [Region.wanted, yielded, e1]) ?_
                    go_simp
                    exact ⟨⟨by simp [hsz.out], hx.out⟩, upd z 68 (.pointer (some ⟨b2, off2 + k * 3, none⟩)), (by unfold Hid; simp [upd, e1, e5]), hz.next apx hsz.out 6 (by decide) _ (fun _ h => Option.some.inj h), BefP.keep hb24 (by decide)⟩
                  · have e1 : z 63 = .bool false := hz 1 _ (hw 1 (by kernel_rfl)) rfl
                    have e6 : z 68 = .pointer (some ⟨b2, off2 + k * 3, none⟩) := hz 6 _ (hw 6 (by kernel_rfl)) rfl
                    have cl : wx.cell? ⟨b2, off2 + k * 3, none⟩ = some (.string x.p) := (hx.out.cell (p := ⟨b2, off2 + k * 3, none⟩) (World.block_lt_of_cell? _ _ Hxp.out)).trans Hxp.out
                    refine wpOp_want rfl (by simp [Region.wanted, yielded, e1]) ?_
                    go_simp
                    exact ⟨⟨by simp [hsz.out], hx.out⟩, upd z 69 (.string x.p), (by unfold Hid; simp [upd, e1, e6]), hz.next apx hsz.out 7 (by decide) _ (fun _ h => Option.some.inj h), BefP.keep hb24 (by decide)⟩
                  · have e1 : z 63 = .bool false := hz 1 _ (hw 1 (by kernel_rfl)) rfl
                    have e7 : z 69 = .string x.p := hz 7 _ (hw 7 (by kernel_rfl)) rfl
                    refine wpOp_want rfl (by simp [Region.wanted, yielded, e1]) ?_
                    go_simp
                    exact ⟨⟨by simp [hsz.out], hx.out⟩, upd z 70 (.int .i64 (x.p.size : Nat)), (by unfold Hid; simp [upd, e1, e7]), hz.next apx hsz.out 8 (by decide) _ (fun _ h => Option.some.inj h), BefP.keep hb24 (by decide)⟩
                  · have e1 : z 63 = .bool false := hz 1 _ (hw 1 (by kernel_rfl)) rfl
                    refine wpOp_want rfl (by simp [Region.wanted, yielded, e1]) ?_
                    go_simp
                    exact ⟨⟨by simp [hsz.out], hx.out⟩, upd z 71 (.pointer (some ⟨tb + 1, 0, none⟩)), (by unfold Hid; simp [upd, e1]), hz.next apx hsz.out 9 (by decide) _ (fun _ h => Option.some.inj h), BefP.keep hb24 (by decide)⟩
                  · have e1 : z 63 = .bool false := hz 1 _ (hw 1 (by kernel_rfl)) rfl
                    have e9 : z 71 = .pointer (some ⟨tb + 1, 0, none⟩) := hz 9 _ (hw 9 (by kernel_rfl)) rfl
                    have cl : wx.cell? ⟨tb + 1, 0, none⟩ = some (.string r.p) := (hx.out.cell (p := ⟨tb + 1, 0, none⟩) (World.block_lt_of_cell? _ _ Hrp.out)).trans Hrp.out
                    refine wpOp_want rfl (by simp [Region.wanted, yielded, e1]) ?_
                    go_simp
                    exact ⟨⟨by simp [hsz.out], hx.out⟩, upd z 72 (.string r.p), (by unfold Hid; simp [upd, e1, e9]), hz.next apx hsz.out 10 (by decide) _ (fun _ h => Option.some.inj h), BefP.keep hb24 (by decide)⟩
                  · have e1 : z 63 = .bool false := hz 1 _ (hw 1 (by kernel_rfl)) rfl
                    have e10 : z 72 = .string r.p := hz 10 _ (hw 10 (by kernel_rfl)) rfl
                    refine wpOp_want rfl (by simp [Region.wanted, yielded, e1]) ?_
                    go_simp
                    exact ⟨⟨by simp [hsz.out], hx.out⟩, upd z 73 (.int .i64 (r.p.size : Nat)), (by unfold Hid; simp [upd, e1, e10]), hz.next apx hsz.out 11 (by decide) _ (fun _ h => Option.some.inj h), BefP.keep hb24 (by decide)⟩
                  · have e1 : z 63 = .bool false := hz 1 _ (hw 1 (by kernel_rfl)) rfl
                    have e8 : z 70 = .int .i64 (x.p.size : Nat) := hz 8 _ (hw 8 (by kernel_rfl)) rfl
                    have e11 : z 73 = .int .i64 (r.p.size : Nat) := hz 11 _ (hw 11 (by kernel_rfl)) rfl
                    refine wpOp_want rfl (by simp [Region.wanted, yielded, e1]) ?_
                    go_simp
                    exact ⟨⟨by simp [hsz.out], hx.out⟩, upd z 74 (.bool false), (by unfold Hid; simp [upd, e1, e8, e11]), hz.next apx hsz.out 12 (by decide) _ (fun _ h => Option.some.inj h), BefP.keep hb24 (by decide)⟩
                  · have e1 : z 63 = .bool false := hz 1 _ (hw 1 (by kernel_rfl)) rfl
                    have e12 : z 74 = .bool false := hz 12 _ (hw 12 (by kernel_rfl)) rfl
                    refine wpOp_want rfl (by simp [Region.wanted, yielded, e1]) ?_
                    go_simp
                    exact ⟨⟨by simp [hsz.out], hx.out⟩, upd z 75 (.bool false), (by unfold Hid; simp [upd, e1, e12]), hz.next apx hsz.out 13 (by decide) _ (fun _ h => Option.some.inj h), BefP.keep hb24 (by decide)⟩
                  · have e13 : z 75 = .bool false := hz 13 _ (hw 13 (by kernel_rfl)) rfl
                    refine wpOp_skip rfl (by simp [Region.wanted, yielded, e13]) ?_
                    go_simp
                    exact ⟨⟨by simp [hsz.out], hx.out⟩, upd z 76 (undef), (by unfold Hid; simp [upd, e13]), hz.next apx hsz.out 14 (by decide) _ (fun _ h => Option.some.inj h), BefP.keep hb24 (by decide)⟩
                  · have e13 : z 75 = .bool false := hz 13 _ (hw 13 (by kernel_rfl)) rfl
                    refine wpOp_skip rfl (by simp [Region.wanted, yielded, e13]) ?_
                    go_simp
                    exact ⟨⟨by simp [hsz.out], hx.out⟩, upd z 77 (undef), (by unfold Hid; simp [upd, e13]), hz.next apx hsz.out 15 (by decide) _ (fun _ h => Option.some.inj h), BefP.keep hb24 (by decide)⟩
                  · have e13 : z 75 = .bool false := hz 13 _ (hw 13 (by kernel_rfl)) rfl
                    refine wpOp_skip rfl (by simp [Region.wanted, yielded, e13]) ?_
                    go_simp
                    exact ⟨⟨by simp [hsz.out], hx.out⟩, upd z 78 (undef), (by unfold Hid; simp [upd, e13]), hz.next apx hsz.out 16 (by decide) _ (fun _ h => Option.some.inj h), BefP.keep hb24 (by decide)⟩
                  · have e13 : z 75 = .bool false := hz 13 _ (hw 13 (by kernel_rfl)) rfl
                    refine wpOp_skip rfl (by simp [Region.wanted, yielded, e13]) ?_
                    go_simp
                    exact ⟨⟨by simp [hsz.out], hx.out⟩, upd z 79 (undef), (by unfold Hid; simp [upd, e13]), hz.next apx hsz.out 17 (by decide) _ (fun _ h => Option.some.inj h), BefP.keep hb24 (by decide)⟩
                  · have e13 : z 75 = .bool false := hz 13 _ (hw 13 (by kernel_rfl)) rfl
                    refine wpOp_skip rfl (by simp [Region.wanted, yielded, e13]) ?_
                    go_simp
                    exact ⟨⟨by simp [hsz.out], hx.out⟩, upd z 80 (undef), (by unfold Hid; simp [upd, e13]), hz.next apx hsz.out 18 (by decide) _ (fun _ h => Option.some.inj h), BefP.keep hb24 (by decide)⟩
                  · have e13 : z 75 = .bool false := hz 13 _ (hw 13 (by kernel_rfl)) rfl
                    refine wpOp_skip rfl (by simp [Region.wanted, yielded, e13]) ?_
                    go_simp
                    exact ⟨⟨by simp [hsz.out], hx.out⟩, upd z 81 (undef), (by unfold Hid; simp [upd, e13]), hz.next apx hsz.out 19 (by decide) _ (fun _ h => Option.some.inj h), BefP.keep hb24 (by decide)⟩
                  · have e13 : z 75 = .bool false := hz 13 _ (hw 13 (by kernel_rfl)) rfl
                    refine wpOp_skip rfl (by simp [Region.wanted, yielded, e13]) ?_
                    go_simp
                    exact ⟨⟨by simp [hsz.out], hx.out⟩, upd z 82 (undef), (by unfold Hid; simp [upd, e13]), hz.next apx hsz.out 20 (by decide) _ (fun _ h => Option.some.inj h), BefP.keep hb24 (by decide)⟩
                  · have e13 : z 75 = .bool false := hz 13 _ (hw 13 (by kernel_rfl)) rfl
                    refine wpOp_skip rfl (by simp [Region.wanted, yielded, e13]) ?_
                    go_simp
                    exact ⟨⟨by simp [hsz.out], hx.out⟩, upd z 83 (undef), (by unfold Hid; simp [upd, e13]), hz.next apx hsz.out 21 (by decide) _ (fun _ h => Option.some.inj h), BefP.keep hb24 (by decide)⟩
                  · have e1 : z 63 = .bool false := hz 1 _ (hw 1 (by kernel_rfl)) rfl
                    have e13 : z 75 = .bool false := hz 13 _ (hw 13 (by kernel_rfl)) rfl
                    refine wpOp_want rfl (by simp [Region.wanted, yielded, e1]) ?_
                    go_simp
                    exact ⟨⟨by simp [hsz.out], hx.out⟩, upd z 84 (.bool false), (by unfold Hid; simp [upd, e1, e13]), hz.next apx hsz.out 22 (by decide) _ (fun _ h => Option.some.inj h), BefP.keep hb24 (by decide)⟩
                  · have e1 : z 63 = .bool false := hz 1 _ (hw 1 (by kernel_rfl)) rfl
                    have e22 : z 84 = .bool false := hz 22 _ (hw 22 (by kernel_rfl)) rfl
                    refine wpOp_plain rfl rfl ?_
                    go_simp
                    exact ⟨⟨by simp [hsz.out], hx.out⟩, upd z 85 (.bool false), (by unfold Hid; simp [upd, e1, e22]), hz.next apx hsz.out 23 (by decide) _ (fun _ h => Option.some.inj h), BefP.keep hb24 (by decide)⟩
                  · have e23 : z 85 = .bool false := hz 23 _ (hw 23 (by kernel_rfl)) rfl
                    refine wpOp_plain rfl rfl ?_
                    go_simp
                    exact ⟨⟨by simp [hsz.out], hx.out⟩, upd z 9 (.bool false), (by unfold Hid; simp [upd, e23]), hz.next apx hsz.out 24 (by decide) _ (fun _ h => Option.some.inj h), BefP.past (by rw [hsz.out]; decide)⟩
                · exact ⟨⟨rfl, (Below.refl _ _).drew⟩, fun xx => (#[.agg (tabV v (some ⟨b2, off2, none⟩) n c), .agg (rlc r), .string s, .pointer (some ⟨tb, 0, none⟩), .pointer (some ⟨tb + 1, 0, none⟩), undef, .bool false, .pointer (some ⟨ub, 0, none⟩), .int .i64 0, .bool false, .int .i64 (k : Nat), .agg (tabV v (some ⟨b2, off2, none⟩) n c), .string s, .bool false, .bool false, .pointer (some ⟨tb + 1, 0, none⟩), .string r.p, .int .i64 (r.p.size : Nat), .bool (decide ((200 : Int) < (r.p.size : Nat))), .bool (decide ((200 : Int) < (r.p.size : Nat))), undef, .tuple #[.agg (tabV (v + 1) (some ⟨g, 0, none⟩) nu cap), .int .i64 0], .agg (tabV v (some ⟨b2, off2, none⟩) n c), .pointer (some ⟨tb + 1, 0, none⟩), .string r.p, .pointer (some ⟨tb + 1, 1, none⟩), .agg (lab r.a r.c), .tuple #[.agg (tabV (v + 1) (some ⟨g, 0, none⟩) nu cap), .int .i64 0], .agg (tabV (v + 1) (some ⟨g, 0, none⟩) nu cap), .int .i64 0, .int .i64 0, .bool false, undef, undef, undef, undef, undef, undef, undef, undef, undef, undef, undef, undef, .agg (tabV (v + 1) (some ⟨g, 0, none⟩) nu cap), .int .i64 0, .bool false, .bool false, .pointer (some ⟨ub, 0, none⟩), .int .i64 (v + 1), .pointer (some ⟨tb, 0, none⟩), .int .i64 v, .int .i64 (v + 1), .bool false, .bool false, .int .i64 (k : Nat), .pointer (some ⟨tb, 1, none⟩), .slice (some ⟨b2, off2, none⟩) n c, .int .i64 (n : Nat), .bool true, u60, u61, u62, u63, u64, u65, u66, u67, u68, u69, u70, u71, u72, u73, u74, u75, u76, u77, u78, u79, u80, u81, u82, u83, u84, u85, undef, undef, undef, undef, undef, undef, undef, undef, undef, undef, undef, undef, undef, undef, undef, undef, undef, undef, undef, undef, undef, undef, undef, undef, undef, undef, undef] : Array Value).getD xx undef, (by rfl), Holding.start, BefP.start rfl⟩
          · have hge : ¬ (k : Int) < n := by omega
            have ek : k = n := by omega
            have Low7 := Lib.hid (Low6.out.trans (hI.out.mono Low6.out.size))
            have K7 := Lib.hid (K6.out.trans (hI.out.mono K6.out.size))
            have H17 := Lib.hid ((hI.out.block _ (Array.getElem?_eq_some_iff.1 H16.out).1).trans H16.out)
            have H27 := Lib.hid ((hI.out.block _ (Array.getElem?_eq_some_iff.1 H26.out).1).trans H26.out)
            have HU7 := Lib.hid ((hI.out.block _ (Array.getElem?_eq_some_iff.1 HU6.out).1).trans HU6.out)
            have cP := (rule_row H27.out).1
            subst ek
            rw [show LongJ r.p s rs k = longer r.p s rs by rw [← Hn.out]; exact HLl.out]
            clear hk hlt hI hge
            go_upto_region 13 with fail
            cases hcv : cov r.p s with
            | true =>
              rw [hcv] at HOn
              cases hlg : longer r.p s rs with
              | false =>
                have hf : find s us = (r.a, r.c) := HNew.out r.p rfl hcv hlg
                rw [hf] at HFu0
                clear hcv hlg hf
                go_upto_region 14 with (go_at_call 14; refine (HOn.out _ Low7.out).mono ?_; rintro e w8 ⟨rfl, low8⟩; have Low8 := Lib.hid (Low7.out.trans (low8.mono Low7.out.size)); have K8 := Lib.hid (K7.out.trans (low8.mono K7.out.size)); have H18 := Lib.hid ((low8.block _ (Array.getElem?_eq_some_iff.1 H17.out).1).trans H17.out); have H28 := Lib.hid ((low8.block _ (Array.getElem?_eq_some_iff.1 H27.out).1).trans H27.out); have HU8 := Lib.hid ((low8.block _ (Array.getElem?_eq_some_iff.1 HU7.out).1).trans HU7.out); clear low8)
                have Hrl := Lib.hid (rule_row H28.out).2
                have HFu := Lib.hid (fun W (hb : Below w8.heap.size w8 W) => HFu0.out W (K8.out.trans (hb.mono K8.out.size)) (Low8.out.trans (hb.mono Low8.out.size)))
                have HFt := Lib.hid (fun W (hb : Below w.heap.size w W) => HFt0.out W hb)
                clear HFu0 HFt0
                have apx : apartB [94, 95, 96, 97, 98, 99, 100, 101, 102, 6] = true := by decide
                refine wp_region_any (by kernel_rfl) ?_
                change wpAny _ _ _ _ _ _ _ (World.drew _)
                refine wpAny_inv (fun ll aa wx => Hid (ll.size = 10 ∧ Below w8.heap.size w8 wx) ∧ ∃ (z : Nat → Value), Hid (aa = ⟨#[.agg (tabV v A k c), .agg (rlc r), .string s, .pointer (some ⟨tb, 0, none⟩), .pointer (some ⟨tb + 1, 0, none⟩), undef, z 6, .pointer (some ⟨ub, 0, none⟩), .int .i64 0, .bool false, .int .i64 (k : Nat), .agg (tabV v A k c), .string s, .bool false, .bool false, .pointer (some ⟨tb + 1, 0, none⟩), .string r.p, .int .i64 (r.p.size : Nat), .bool (decide ((200 : Int) < (r.p.size : Nat))), .bool (decide ((200 : Int) < (r.p.size : Nat))), undef, .tuple #[.agg (tabV (v + 1) (some ⟨g, 0, none⟩) nu cap), .int .i64 0], .agg (tabV v A k c), .pointer (some ⟨tb + 1, 0, none⟩), .string r.p, .pointer (some ⟨tb + 1, 1, none⟩), .agg (lab r.a r.c), .tuple #[.agg (tabV (v + 1) (some ⟨g, 0, none⟩) nu cap), .int .i64 0], .agg (tabV (v + 1) (some ⟨g, 0, none⟩) nu cap), .int .i64 0, .int .i64 0, .bool false, undef, undef, undef, undef, undef, undef, undef, undef, undef, undef, undef, undef, .agg (tabV (v + 1) (some ⟨g, 0, none⟩) nu cap), .int .i64 0, .bool false, .bool false, .pointer (some ⟨ub, 0, none⟩), .int .i64 (v + 1), .pointer (some ⟨tb, 0, none⟩), .int .i64 v, .int .i64 (v + 1), .bool false, .bool false, .int .i64 (k : Nat), .pointer (some ⟨tb, 1, none⟩), .slice A k c, .int .i64 (k : Nat), .bool false, u60, u61, u62, u63, u64, u65, u66, u67, u68, u69, u70, u71, u72, u73, u74, u75, u76, u77, u78, u79, u80, u81, u82, u83, u84, u85, .pointer (some ⟨tb + 1, 0, none⟩), .string r.p, .string s, .bool true, .bool true, .bool false, .bool true, .bool true, z 94, z 95, z 96, z 97, z 98, z 99, z 100, z 101, z 102, undef, undef, undef, undef, undef, undef, undef, undef, undef, undef], []⟩) ∧ Holding [94, 95, 96, 97, 98, 99, 100, 101, 102, 6] [some (.agg (tabV (v + 1) (some ⟨g, 0, none⟩) nu cap)), some (.string s), some (.agg (lab r.a r.c)), some (.pointer (some ⟨tb + 1, 1, none⟩)), some (.agg (lab r.a r.c)), some (.bool true), some (.bool true), some (.bool true), some (.bool true), some (.bool true)] ll z) ?_ (by kernel_rfl) ?_ ?_ _ _ _ _ (unlisted_none _) ?_
                · rintro ll aa wx ⟨hI, _⟩
                  exact hI.out.1
                · rintro ll aa wx ⟨hI, z, ha, hz⟩ hall
                  have hx := Lib.hid hI.out.2
                  have e0 : z 94 = .agg (tabV (v + 1) (some ⟨g, 0, none⟩) nu cap) := hz 0 _ (hall 0 (by decide)) rfl
                  have e1 : z 95 = .string s := hz 1 _ (hall 1 (by decide)) rfl
                  have e2 : z 96 = .agg (lab r.a r.c) := hz 2 _ (hall 2 (by decide)) rfl
                  have e3 : z 97 = .pointer (some ⟨tb + 1, 1, none⟩) := hz 3 _ (hall 3 (by decide)) rfl
                  have e4 : z 98 = .agg (lab r.a r.c) := hz 4 _ (hall 4 (by decide)) rfl
                  have e5 : z 99 = .bool true := hz 5 _ (hall 5 (by decide)) rfl
                  have e6 : z 100 = .bool true := hz 6 _ (hall 6 (by decide)) rfl
                  have e7 : z 101 = .bool true := hz 7 _ (hall 7 (by decide)) rfl
                  have e8 : z 102 = .bool true := hz 8 _ (hall 8 (by decide)) rfl
                  have e9 : z 6 = .bool true := hz 9 _ (hall 9 (by decide)) rfl
                  clear hall hz hI 
                  obtain rfl := ha.out
                  clear ha
                  clear apx
                  have E := Lib.hid e9
                  have HZ := Lib.hid (Low8.out.trans (hx.out.mono Low8.out.size))
                  clear e0 e1 e2 e3 e4 e5 e6 e7 e8 e9 hx
                  dsimp only
                  rw [E.out]
                  clear E
                  go_wp2
                  go_ret
                  exact ⟨rfl, HZ.out⟩
                · rintro ll aa wx i ⟨hI, z, ha, hz⟩ hi hu hw
                  obtain rfl := ha.out
                  have hsz := Lib.hid hI.out.1
                  have hx := Lib.hid hI.out.2
                  clear ha hI
                  have hin : i < 10 := hi
                  obtain rfl | rfl | rfl | rfl | rfl | rfl | rfl | rfl | rfl | rfl : i = 0 ∨ i = 1 ∨ i = 2 ∨ i = 3 ∨ i = 4 ∨ i = 5 ∨ i = 6 ∨ i = 7 ∨ i = 8 ∨ i = 9 := by omega
                  · have cl := (hx.out.block _ (Array.getElem?_eq_some_iff.1 HU8.out).1).trans HU8.out
                    refine wpOp_plain rfl rfl (wp_load_row 24 (.tmp 7) rfl (ub) rfl 24 (tabV (v + 1) (some ⟨g, 0, none⟩) nu cap) (0, 0) _ cl Tryd.underlying24 rfl infoT ?_)
                    go_simp
                    exact ⟨⟨by simp [hsz.out], hx.out⟩, upd z 94 (.agg (tabV (v + 1) (some ⟨g, 0, none⟩) nu cap)), (by unfold Hid; simp [upd]), hz.next apx hsz.out 0 (by decide) _ (fun _ h => Option.some.inj h)⟩
                  · refine wpOp_plain rfl rfl ?_
                    go_simp
                    exact ⟨⟨by simp [hsz.out], hx.out⟩, upd z 95 (.string s), (by unfold Hid; simp [upd]), hz.next apx hsz.out 1 (by decide) _ (fun _ h => Option.some.inj h)⟩
                  · have e0 : z 94 = .agg (tabV (v + 1) (some ⟨g, 0, none⟩) nu cap) := hz 0 _ (hw 0 (by kernel_rfl)) rfl
                    have e1 : z 95 = .string s := hz 1 _ (hw 1 (by kernel_rfl)) rfl
                    refine wpOp_plain rfl rfl ?_
                    go_simp
                    go_at_call 15
                    refine (HFu.out wx hx.out).mono ?_
                    rintro e w' ⟨rfl, low⟩
                    exact ⟨⟨by simp [hsz.out], hx.out.trans (low.mono hx.out.size)⟩, upd z 96 (.agg (lab r.a r.c)), (by unfold Hid; simp [upd, e0, e1]), hz.next apx hsz.out 2 (by decide) _ (fun _ h => Option.some.inj h)⟩
                  · refine wpOp_plain rfl rfl ?_
                    go_simp
                    exact ⟨⟨by simp [hsz.out], hx.out⟩, upd z 97 (.pointer (some ⟨tb + 1, 1, none⟩)), (by unfold Hid; simp [upd]), hz.next apx hsz.out 3 (by decide) _ (fun _ h => Option.some.inj h)⟩
                  · have e3 : z 97 = .pointer (some ⟨tb + 1, 1, none⟩) := hz 3 _ (hw 3 (by kernel_rfl)) rfl
                    have rg : wx.rangeAt (tb + 1) 1 (lab r.a r.c).toList := fun j v hv => (hx.out.cell (p := ⟨tb + 1, 1 + j, none⟩) (World.block_lt_of_cell? _ _ (Hrl.out j v hv))).trans (Hrl.out j v hv)
                    refine wpOp_plain rfl rfl (wp_load_mid 27 (.tmp 97) rfl (tb + 1) 1 e3 (lab r.a r.c).toList _ rg Tryd.underlying27 rfl infoL2 ?_)
                    go_simp
                    exact ⟨⟨by simp [hsz.out], hx.out⟩, upd z 98 (.agg (lab r.a r.c)), (by unfold Hid; simp [upd, e3]), hz.next apx hsz.out 4 (by decide) _ (fun _ h => Option.some.inj h)⟩
                  · have e2 : z 96 = .agg (lab r.a r.c) := hz 2 _ (hw 2 (by kernel_rfl)) rfl
                    have e4 : z 98 = .agg (lab r.a r.c) := hz 4 _ (hw 4 (by kernel_rfl)) rfl
                    refine wpOp_plain rfl rfl ?_
                    go_simp
                    exact ⟨⟨by simp [hsz.out], hx.out⟩, upd z 99 (.bool true), (by unfold Hid; simp [upd, e2, e4]), hz.next apx hsz.out 5 (by decide) _ (fun _ h => Option.some.inj h)⟩
                  · have e5 : z 99 = .bool true := hz 5 _ (hw 5 (by kernel_rfl)) rfl
                    refine wpOp_plain rfl rfl ?_
                    go_simp
                    exact ⟨⟨by simp [hsz.out], hx.out⟩, upd z 100 (.bool true), (by unfold Hid; simp [upd, e5]), hz.next apx hsz.out 6 (by decide) _ (fun _ h => Option.some.inj h)⟩
                  · have e6 : z 100 = .bool true := hz 6 _ (hw 6 (by kernel_rfl)) rfl
                    refine wpOp_want rfl (by simp [Region.wanted, yielded, e6]) ?_
                    go_simp
                    go_at_call 7
                    refine (HAw.out wx (Low8.out.trans (hx.out.mono Low8.out.size))).mono ?_
                    rintro e w' ⟨rfl, low⟩
                    exact ⟨⟨by simp [hsz.out], hx.out.trans (low.mono hx.out.size)⟩, upd z 101 (.bool true), (by unfold Hid; simp [upd, e6]), hz.next apx hsz.out 7 (by decide) _ (fun _ h => Option.some.inj h)⟩
                  · have e6 : z 100 = .bool true := hz 6 _ (hw 6 (by kernel_rfl)) rfl
                    have e7 : z 101 = .bool true := hz 7 _ (hw 7 (by kernel_rfl)) rfl
                    refine wpOp_plain rfl rfl ?_
                    go_simp
                    exact ⟨⟨by simp [hsz.out], hx.out⟩, upd z 102 (.bool true), (by unfold Hid; simp [upd, e6, e7]), hz.next apx hsz.out 8 (by decide) _ (fun _ h => Option.some.inj h)⟩
                  · have e8 : z 102 = .bool true := hz 8 _ (hw 8 (by kernel_rfl)) rfl
                    refine wpOp_plain rfl rfl ?_
                    go_simp
                    exact ⟨⟨by simp [hsz.out], hx.out⟩, upd z 6 (.bool true), (by unfold Hid; simp [upd, e8]), hz.next apx hsz.out 9 (by decide) _ (fun _ h => Option.some.inj h)⟩
                · exact ⟨⟨rfl, (Below.refl _ _).drew⟩, fun xx => (#[.agg (tabV v A k c), .agg (rlc r), .string s, .pointer (some ⟨tb, 0, none⟩), .pointer (some ⟨tb + 1, 0, none⟩), undef, .bool false, .pointer (some ⟨ub, 0, none⟩), .int .i64 0, .bool false, .int .i64 (k : Nat), .agg (tabV v A k c), .string s, .bool false, .bool false, .pointer (some ⟨tb + 1, 0, none⟩), .string r.p, .int .i64 (r.p.size : Nat), .bool (decide ((200 : Int) < (r.p.size : Nat))), .bool (decide ((200 : Int) < (r.p.size : Nat))), undef, .tuple #[.agg (tabV (v + 1) (some ⟨g, 0, none⟩) nu cap), .int .i64 0], .agg (tabV v A k c), .pointer (some ⟨tb + 1, 0, none⟩), .string r.p, .pointer (some ⟨tb + 1, 1, none⟩), .agg (lab r.a r.c), .tuple #[.agg (tabV (v + 1) (some ⟨g, 0, none⟩) nu cap), .int .i64 0], .agg (tabV (v + 1) (some ⟨g, 0, none⟩) nu cap), .int .i64 0, .int .i64 0, .bool false, undef, undef, undef, undef, undef, undef, undef, undef, undef, undef, undef, undef, .agg (tabV (v + 1) (some ⟨g, 0, none⟩) nu cap), .int .i64 0, .bool false, .bool false, .pointer (some ⟨ub, 0, none⟩), .int .i64 (v + 1), .pointer (some ⟨tb, 0, none⟩), .int .i64 v, .int .i64 (v + 1), .bool false, .bool false, .int .i64 (k : Nat), .pointer (some ⟨tb, 1, none⟩), .slice A k c, .int .i64 (k : Nat), .bool false, u60, u61, u62, u63, u64, u65, u66, u67, u68, u69, u70, u71, u72, u73, u74, u75, u76, u77, u78, u79, u80, u81, u82, u83, u84, u85, .pointer (some ⟨tb + 1, 0, none⟩), .string r.p, .string s, .bool true, .bool true, .bool false, .bool true, .bool true, undef, undef, undef, undef, undef, undef, undef, undef, undef, undef, undef, undef, undef, undef, undef, undef, undef, undef, undef] : Array Value).getD xx undef, (by rfl), Holding.start⟩
              | true =>
                have hf : find s us = find s rs := HOld.out r.p rfl (.inr hlg)
                rw [hf] at HFu0
                clear hcv hlg hf
                generalize find s rs = f at *
                go_upto_region 15 with (go_at_call 14; refine (HOn.out _ Low7.out).mono ?_; rintro e w8 ⟨rfl, low8⟩; have Low8 := Lib.hid (Low7.out.trans (low8.mono Low7.out.size)); have K8 := Lib.hid (K7.out.trans (low8.mono K7.out.size)); have H18 := Lib.hid ((low8.block _ (Array.getElem?_eq_some_iff.1 H17.out).1).trans H17.out); have H28 := Lib.hid ((low8.block _ (Array.getElem?_eq_some_iff.1 H27.out).1).trans H27.out); have HU8 := Lib.hid ((low8.block _ (Array.getElem?_eq_some_iff.1 HU7.out).1).trans HU7.out); clear low8)
                have Hrl := Lib.hid (rule_row H28.out).2
                have HFu := Lib.hid (fun W (hb : Below w8.heap.size w8 W) => HFu0.out W (K8.out.trans (hb.mono K8.out.size)) (Low8.out.trans (hb.mono Low8.out.size)))
                have HFt := Lib.hid (fun W (hb : Below w.heap.size w W) => HFt0.out W hb)
                clear HFu0 HFt0
                have apx : apartB [103, 104, 105, 106, 107, 108, 109, 110, 111, 112, 6] = true := by decide
                refine wp_region_any (by kernel_rfl) ?_
                change wpAny _ _ _ _ _ _ _ (World.drew _)
                refine wpAny_inv (fun ll aa wx => Hid (ll.size = 11 ∧ Below w8.heap.size w8 wx) ∧ ∃ (z : Nat → Value), Hid (aa = ⟨#[.agg (tabV v A k c), .agg (rlc r), .string s, .pointer (some ⟨tb, 0, none⟩), .pointer (some ⟨tb + 1, 0, none⟩), undef, z 6, .pointer (some ⟨ub, 0, none⟩), .int .i64 0, .bool true, .int .i64 (k : Nat), .agg (tabV v A k c), .string s, .bool false, .bool false, .pointer (some ⟨tb + 1, 0, none⟩), .string r.p, .int .i64 (r.p.size : Nat), .bool (decide ((200 : Int) < (r.p.size : Nat))), .bool (decide ((200 : Int) < (r.p.size : Nat))), undef, .tuple #[.agg (tabV (v + 1) (some ⟨g, 0, none⟩) nu cap), .int .i64 0], .agg (tabV v A k c), .pointer (some ⟨tb + 1, 0, none⟩), .string r.p, .pointer (some ⟨tb + 1, 1, none⟩), .agg (lab r.a r.c), .tuple #[.agg (tabV (v + 1) (some ⟨g, 0, none⟩) nu cap), .int .i64 0], .agg (tabV (v + 1) (some ⟨g, 0, none⟩) nu cap), .int .i64 0, .int .i64 0, .bool false, undef, undef, undef, undef, undef, undef, undef, undef, undef, undef, undef, undef, .agg (tabV (v + 1) (some ⟨g, 0, none⟩) nu cap), .int .i64 0, .bool false, .bool false, .pointer (some ⟨ub, 0, none⟩), .int .i64 (v + 1), .pointer (some ⟨tb, 0, none⟩), .int .i64 v, .int .i64 (v + 1), .bool false, .bool false, .int .i64 (k : Nat), .pointer (some ⟨tb, 1, none⟩), .slice A k c, .int .i64 (k : Nat), .bool false, u60, u61, u62, u63, u64, u65, u66, u67, u68, u69, u70, u71, u72, u73, u74, u75, u76, u77, u78, u79, u80, u81, u82, u83, u84, u85, .pointer (some ⟨tb + 1, 0, none⟩), .string r.p, .string s, .bool true, .bool true, .bool true, .bool false, .bool false, undef, undef, undef, undef, undef, undef, undef, undef, undef, z 103, z 104, z 105, z 106, z 107, z 108, z 109, z 110, z 111, z 112], []⟩) ∧ Holding [103, 104, 105, 106, 107, 108, 109, 110, 111, 112, 6] [some (.agg (tabV (v + 1) (some ⟨g, 0, none⟩) nu cap)), some (.string s), some (.agg (lab f.1 f.2)), some (.agg (tabV v A k c)), some (.string s), some (.agg (lab f.1 f.2)), some (.bool true), some (.bool true), some (.bool true), some (.bool true), some (.bool true)] ll z) ?_ (by kernel_rfl) ?_ ?_ _ _ _ _ (unlisted_none _) ?_
                · rintro ll aa wx ⟨hI, _⟩
                  exact hI.out.1
                · rintro ll aa wx ⟨hI, z, ha, hz⟩ hall
                  have hx := Lib.hid hI.out.2
                  have e0 : z 103 = .agg (tabV (v + 1) (some ⟨g, 0, none⟩) nu cap) := hz 0 _ (hall 0 (by decide)) rfl
                  have e1 : z 104 = .string s := hz 1 _ (hall 1 (by decide)) rfl
                  have e2 : z 105 = .agg (lab f.1 f.2) := hz 2 _ (hall 2 (by decide)) rfl
                  have e3 : z 106 = .agg (tabV v A k c) := hz 3 _ (hall 3 (by decide)) rfl
                  have e4 : z 107 = .string s := hz 4 _ (hall 4 (by decide)) rfl
                  have e5 : z 108 = .agg (lab f.1 f.2) := hz 5 _ (hall 5 (by decide)) rfl
                  have e6 : z 109 = .bool true := hz 6 _ (hall 6 (by decide)) rfl
                  have e7 : z 110 = .bool true := hz 7 _ (hall 7 (by decide)) rfl
                  have e8 : z 111 = .bool true := hz 8 _ (hall 8 (by decide)) rfl
                  have e9 : z 112 = .bool true := hz 9 _ (hall 9 (by decide)) rfl
                  have e10 : z 6 = .bool true := hz 10 _ (hall 10 (by decide)) rfl
                  clear hall hz hI 
                  obtain rfl := ha.out
                  clear ha
                  clear apx
                  have E := Lib.hid e10
                  have HZ := Lib.hid (Low8.out.trans (hx.out.mono Low8.out.size))
                  clear e0 e1 e2 e3 e4 e5 e6 e7 e8 e9 e10 hx
                  dsimp only
                  rw [E.out]
                  clear E
                  go_wp2
                  go_ret
                  exact ⟨rfl, HZ.out⟩
                · rintro ll aa wx i ⟨hI, z, ha, hz⟩ hi hu hw
                  obtain rfl := ha.out
                  have hsz := Lib.hid hI.out.1
                  have hx := Lib.hid hI.out.2
                  clear ha hI
                  have hin : i < 11 := hi
                  obtain rfl | rfl | rfl | rfl | rfl | rfl | rfl | rfl | rfl | rfl | rfl : i = 0 ∨ i = 1 ∨ i = 2 ∨ i = 3 ∨ i = 4 ∨ i = 5 ∨ i = 6 ∨ i = 7 ∨ i = 8 ∨ i = 9 ∨ i = 10 := by omega
                  · have cl := (hx.out.block _ (Array.getElem?_eq_some_iff.1 HU8.out).1).trans HU8.out
                    refine wpOp_plain rfl rfl (wp_load_row 24 (.tmp 7) rfl (ub) rfl 24 (tabV (v + 1) (some ⟨g, 0, none⟩) nu cap) (0, 0) _ cl Tryd.underlying24 rfl infoT ?_)
                    go_simp
                    exact ⟨⟨by simp [hsz.out], hx.out⟩, upd z 103 (.agg (tabV (v + 1) (some ⟨g, 0, none⟩) nu cap)), (by unfold Hid; simp [upd]), hz.next apx hsz.out 0 (by decide) _ (fun _ h => Option.some.inj h)⟩
                  · refine wpOp_plain rfl rfl ?_
                    go_simp
                    exact ⟨⟨by simp [hsz.out], hx.out⟩, upd z 104 (.string s), (by unfold Hid; simp [upd]), hz.next apx hsz.out 1 (by decide) _ (fun _ h => Option.some.inj h)⟩
                  · have e0 : z 103 = .agg (tabV (v + 1) (some ⟨g, 0, none⟩) nu cap) := hz 0 _ (hw 0 (by kernel_rfl)) rfl
                    have e1 : z 104 = .string s := hz 1 _ (hw 1 (by kernel_rfl)) rfl
                    refine wpOp_plain rfl rfl ?_
                    go_simp
                    go_at_call 15
                    refine (HFu.out wx hx.out).mono ?_
                    rintro e w' ⟨rfl, low⟩
                    exact ⟨⟨by simp [hsz.out], hx.out.trans (low.mono hx.out.size)⟩, upd z 105 (.agg (lab f.1 f.2)), (by unfold Hid; simp [upd, e0, e1]), hz.next apx hsz.out 2 (by decide) _ (fun _ h => Option.some.inj h)⟩
                  · have cl := (hx.out.block _ (Array.getElem?_eq_some_iff.1 H18.out).1).trans H18.out
                    refine wpOp_plain rfl rfl (wp_load_row 24 (.tmp 3) rfl (tb) rfl 24 (tabV v A k c) (0, 0) _ cl Tryd.underlying24 rfl infoT ?_)
                    go_simp
                    exact ⟨⟨by simp [hsz.out], hx.out⟩, upd z 106 (.agg (tabV v A k c)), (by unfold Hid; simp [upd]), hz.next apx hsz.out 3 (by decide) _ (fun _ h => Option.some.inj h)⟩
                  · refine wpOp_plain rfl rfl ?_
                    go_simp
                    exact ⟨⟨by simp [hsz.out], hx.out⟩, upd z 107 (.string s), (by unfold Hid; simp [upd]), hz.next apx hsz.out 4 (by decide) _ (fun _ h => Option.some.inj h)⟩
                  · have e3 : z 106 = .agg (tabV v A k c) := hz 3 _ (hw 3 (by kernel_rfl)) rfl
                    have e4 : z 107 = .string s := hz 4 _ (hw 4 (by kernel_rfl)) rfl
                    refine wpOp_plain rfl rfl ?_
                    go_simp
                    go_at_call 15
                    refine (HFt.out wx (Low8.out.trans (hx.out.mono Low8.out.size))).mono ?_
                    rintro e w' ⟨rfl, low⟩
                    exact ⟨⟨by simp [hsz.out], hx.out.trans (low.mono hx.out.size)⟩, upd z 108 (.agg (lab f.1 f.2)), (by unfold Hid; simp [upd, e3, e4]), hz.next apx hsz.out 5 (by decide) _ (fun _ h => Option.some.inj h)⟩
                  · have e2 : z 105 = .agg (lab f.1 f.2) := hz 2 _ (hw 2 (by kernel_rfl)) rfl
                    have e5 : z 108 = .agg (lab f.1 f.2) := hz 5 _ (hw 5 (by kernel_rfl)) rfl
                    refine wpOp_plain rfl rfl ?_
                    go_simp
                    exact ⟨⟨by simp [hsz.out], hx.out⟩, upd z 109 (.bool true), (by unfold Hid; simp [upd, e2, e5]), hz.next apx hsz.out 6 (by decide) _ (fun _ h => Option.some.inj h)⟩
                  · have e6 : z 109 = .bool true := hz 6 _ (hw 6 (by kernel_rfl)) rfl
                    refine wpOp_plain rfl rfl ?_
                    go_simp
                    exact ⟨⟨by simp [hsz.out], hx.out⟩, upd z 110 (.bool true), (by unfold Hid; simp [upd, e6]), hz.next apx hsz.out 7 (by decide) _ (fun _ h => Option.some.inj h)⟩
                  · have e7 : z 110 = .bool true := hz 7 _ (hw 7 (by kernel_rfl)) rfl
                    refine wpOp_want rfl (by simp [Region.wanted, yielded, e7]) ?_
                    go_simp
                    go_at_call 7
                    refine (HAw.out wx (Low8.out.trans (hx.out.mono Low8.out.size))).mono ?_
                    rintro e w' ⟨rfl, low⟩
                    exact ⟨⟨by simp [hsz.out], hx.out.trans (low.mono hx.out.size)⟩, upd z 111 (.bool true), (by unfold Hid; simp [upd, e7]), hz.next apx hsz.out 8 (by decide) _ (fun _ h => Option.some.inj h)⟩
                  · have e7 : z 110 = .bool true := hz 7 _ (hw 7 (by kernel_rfl)) rfl
                    have e8 : z 111 = .bool true := hz 8 _ (hw 8 (by kernel_rfl)) rfl
                    refine wpOp_plain rfl rfl ?_
                    go_simp
                    exact ⟨⟨by simp [hsz.out], hx.out⟩, upd z 112 (.bool true), (by unfold Hid; simp [upd, e7, e8]), hz.next apx hsz.out 9 (by decide) _ (fun _ h => Option.some.inj h)⟩
                  · have e9 : z 112 = .bool true := hz 9 _ (hw 9 (by kernel_rfl)) rfl
                    refine wpOp_plain rfl rfl ?_
                    go_simp
                    exact ⟨⟨by simp [hsz.out], hx.out⟩, upd z 6 (.bool true), (by unfold Hid; simp [upd, e9]), hz.next apx hsz.out 10 (by decide) _ (fun _ h => Option.some.inj h)⟩
                · exact ⟨⟨rfl, (Below.refl _ _).drew⟩, fun xx => (#[.agg (tabV v A k c), .agg (rlc r), .string s, .pointer (some ⟨tb, 0, none⟩), .pointer (some ⟨tb + 1, 0, none⟩), undef, .bool false, .pointer (some ⟨ub, 0, none⟩), .int .i64 0, .bool true, .int .i64 (k : Nat), .agg (tabV v A k c), .string s, .bool false, .bool false, .pointer (some ⟨tb + 1, 0, none⟩), .string r.p, .int .i64 (r.p.size : Nat), .bool (decide ((200 : Int) < (r.p.size : Nat))), .bool (decide ((200 : Int) < (r.p.size : Nat))), undef, .tuple #[.agg (tabV (v + 1) (some ⟨g, 0, none⟩) nu cap), .int .i64 0], .agg (tabV v A k c), .pointer (some ⟨tb + 1, 0, none⟩), .string r.p, .pointer (some ⟨tb + 1, 1, none⟩), .agg (lab r.a r.c), .tuple #[.agg (tabV (v + 1) (some ⟨g, 0, none⟩) nu cap), .int .i64 0], .agg (tabV (v + 1) (some ⟨g, 0, none⟩) nu cap), .int .i64 0, .int .i64 0, .bool false, undef, undef, undef, undef, undef, undef, undef, undef, undef, undef, undef, undef, .agg (tabV (v + 1) (some ⟨g, 0, none⟩) nu cap), .int .i64 0, .bool false, .bool false, .pointer (some ⟨ub, 0, none⟩), .int .i64 (v + 1), .pointer (some ⟨tb, 0, none⟩), .int .i64 v, .int .i64 (v + 1), .bool false, .bool false, .int .i64 (k : Nat), .pointer (some ⟨tb, 1, none⟩), .slice A k c, .int .i64 (k : Nat), .bool false, u60, u61, u62, u63, u64, u65, u66, u67, u68, u69, u70, u71, u72, u73, u74, u75, u76, u77, u78, u79, u80, u81, u82, u83, u84, u85, .pointer (some ⟨tb + 1, 0, none⟩), .string r.p, .string s, .bool true, .bool true, .bool true, .bool false, .bool false, undef, undef, undef, undef, undef, undef, undef, undef, undef, undef, undef, undef, undef, undef, undef, undef, undef, undef, undef] : Array Value).getD xx undef, (by rfl), Holding.start⟩
            | false =>
              rw [hcv] at HOn
              have hf : find s us = find s rs := HOld.out r.p rfl (.inl hcv)
              rw [hf] at HFu0
              clear hcv hf
              generalize find s rs = f at *
              generalize longer r.p s rs = lg at *
              go_upto_region 15 with (go_at_call 14; refine (HOn.out _ Low7.out).mono ?_; rintro e w8 ⟨rfl, low8⟩; have Low8 := Lib.hid (Low7.out.trans (low8.mono Low7.out.size)); have K8 := Lib.hid (K7.out.trans (low8.mono K7.out.size)); have H18 := Lib.hid ((low8.block _ (Array.getElem?_eq_some_iff.1 H17.out).1).trans H17.out); have H28 := Lib.hid ((low8.block _ (Array.getElem?_eq_some_iff.1 H27.out).1).trans H27.out); have HU8 := Lib.hid ((low8.block _ (Array.getElem?_eq_some_iff.1 HU7.out).1).trans HU7.out); clear low8)
              have Hrl := Lib.hid (rule_row H28.out).2
              have HFu := Lib.hid (fun W (hb : Below w8.heap.size w8 W) => HFu0.out W (K8.out.trans (hb.mono K8.out.size)) (Low8.out.trans (hb.mono Low8.out.size)))
              have HFt := Lib.hid (fun W (hb : Below w.heap.size w W) => HFt0.out W hb)
              clear HFu0 HFt0
              have apx : apartB [103, 104, 105, 106, 107, 108, 109, 110, 111, 112, 6] = true := by decide
              refine wp_region_any (by kernel_rfl) ?_
              change wpAny _ _ _ _ _ _ _ (World.drew _)
              refine wpAny_inv (fun ll aa wx => Hid (ll.size = 11 ∧ Below w8.heap.size w8 wx) ∧ ∃ (z : Nat → Value), Hid (aa = ⟨#[.agg (tabV v A k c), .agg (rlc r), .string s, .pointer (some ⟨tb, 0, none⟩), .pointer (some ⟨tb + 1, 0, none⟩), undef, z 6, .pointer (some ⟨ub, 0, none⟩), .int .i64 0, .bool lg, .int .i64 (k : Nat), .agg (tabV v A k c), .string s, .bool false, .bool false, .pointer (some ⟨tb + 1, 0, none⟩), .string r.p, .int .i64 (r.p.size : Nat), .bool (decide ((200 : Int) < (r.p.size : Nat))), .bool (decide ((200 : Int) < (r.p.size : Nat))), undef, .tuple #[.agg (tabV (v + 1) (some ⟨g, 0, none⟩) nu cap), .int .i64 0], .agg (tabV v A k c), .pointer (some ⟨tb + 1, 0, none⟩), .string r.p, .pointer (some ⟨tb + 1, 1, none⟩), .agg (lab r.a r.c), .tuple #[.agg (tabV (v + 1) (some ⟨g, 0, none⟩) nu cap), .int .i64 0], .agg (tabV (v + 1) (some ⟨g, 0, none⟩) nu cap), .int .i64 0, .int .i64 0, .bool false, undef, undef, undef, undef, undef, undef, undef, undef, undef, undef, undef, undef, .agg (tabV (v + 1) (some ⟨g, 0, none⟩) nu cap), .int .i64 0, .bool false, .bool false, .pointer (some ⟨ub, 0, none⟩), .int .i64 (v + 1), .pointer (some ⟨tb, 0, none⟩), .int .i64 v, .int .i64 (v + 1), .bool false, .bool false, .int .i64 (k : Nat), .pointer (some ⟨tb, 1, none⟩), .slice A k c, .int .i64 (k : Nat), .bool false, u60, u61, u62, u63, u64, u65, u66, u67, u68, u69, u70, u71, u72, u73, u74, u75, u76, u77, u78, u79, u80, u81, u82, u83, u84, u85, .pointer (some ⟨tb + 1, 0, none⟩), .string r.p, .string s, .bool false, .bool false, undef, undef, .bool false, undef, undef, undef, undef, undef, undef, undef, undef, undef, z 103, z 104, z 105, z 106, z 107, z 108, z 109, z 110, z 111, z 112], []⟩) ∧ Holding [103, 104, 105, 106, 107, 108, 109, 110, 111, 112, 6] [some (.agg (tabV (v + 1) (some ⟨g, 0, none⟩) nu cap)), some (.string s), some (.agg (lab f.1 f.2)), some (.agg (tabV v A k c)), some (.string s), some (.agg (lab f.1 f.2)), some (.bool true), some (.bool true), some (.bool true), some (.bool true), some (.bool true)] ll z) ?_ (by kernel_rfl) ?_ ?_ _ _ _ _ (unlisted_none _) ?_
              · rintro ll aa wx ⟨hI, _⟩
                exact hI.out.1
              · rintro ll aa wx ⟨hI, z, ha, hz⟩ hall
                have hx := Lib.hid hI.out.2
                have e0 : z 103 = .agg (tabV (v + 1) (some ⟨g, 0, none⟩) nu cap) := hz 0 _ (hall 0 (by decide)) rfl
                have e1 : z 104 = .string s := hz 1 _ (hall 1 (by decide)) rfl
                have e2 : z 105 = .agg (lab f.1 f.2) := hz 2 _ (hall 2 (by decide)) rfl
                have e3 : z 106 = .agg (tabV v A k c) := hz 3 _ (hall 3 (by decide)) rfl
                have e4 : z 107 = .string s := hz 4 _ (hall 4 (by decide)) rfl
                have e5 : z 108 = .agg (lab f.1 f.2) := hz 5 _ (hall 5 (by decide)) rfl
                have e6 : z 109 = .bool true := hz 6 _ (hall 6 (by decide)) rfl
                have e7 : z 110 = .bool true := hz 7 _ (hall 7 (by decide)) rfl
                have e8 : z 111 = .bool true := hz 8 _ (hall 8 (by decide)) rfl
                have e9 : z 112 = .bool true := hz 9 _ (hall 9 (by decide)) rfl
                have e10 : z 6 = .bool true := hz 10 _ (hall 10 (by decide)) rfl
                clear hall hz hI 
                obtain rfl := ha.out
                clear ha
                clear apx
                have E := Lib.hid e10
                have HZ := Lib.hid (Low8.out.trans (hx.out.mono Low8.out.size))
                clear e0 e1 e2 e3 e4 e5 e6 e7 e8 e9 e10 hx
                dsimp only
                rw [E.out]
                clear E
                go_wp2
                go_ret
                exact ⟨rfl, HZ.out⟩
              · rintro ll aa wx i ⟨hI, z, ha, hz⟩ hi hu hw
                obtain rfl := ha.out
                have hsz := Lib.hid hI.out.1
                have hx := Lib.hid hI.out.2
                clear ha hI
                have hin : i < 11 := hi
                obtain rfl | rfl | rfl | rfl | rfl | rfl | rfl | rfl | rfl | rfl | rfl : i = 0 ∨ i = 1 ∨ i = 2 ∨ i = 3 ∨ i = 4 ∨ i = 5 ∨ i = 6 ∨ i = 7 ∨ i = 8 ∨ i = 9 ∨ i = 10 := by omega
                · have cl := (hx.out.block _ (Array.getElem?_eq_some_iff.1 HU8.out).1).trans HU8.out
                  refine wpOp_plain rfl rfl (wp_load_row 24 (.tmp 7) rfl (ub) rfl 24 (tabV (v + 1) (some ⟨g, 0, none⟩) nu cap) (0, 0) _ cl Tryd.underlying24 rfl infoT ?_)
                  go_simp
                  exact ⟨⟨by simp [hsz.out], hx.out⟩, upd z 103 (.agg (tabV (v + 1) (some ⟨g, 0, none⟩) nu cap)), (by unfold Hid; simp [upd]), hz.next apx hsz.out 0 (by decide) _ (fun _ h => Option.some.inj h)⟩
                · refine wpOp_plain rfl rfl ?_
                  go_simp
                  exact ⟨⟨by simp [hsz.out], hx.out⟩, upd z 104 (.string s), (by unfold Hid; simp [upd]), hz.next apx hsz.out 1 (by decide) _ (fun _ h => Option.some.inj h)⟩
                · have e0 : z 103 = .agg (tabV (v + 1) (some ⟨g, 0, none⟩) nu cap) := hz 0 _ (hw 0 (by kernel_rfl)) rfl
                  have e1 : z 104 = .string s := hz 1 _ (hw 1 (by kernel_rfl)) rfl
                  refine wpOp_plain rfl rfl ?_
                  go_simp
                  go_at_call 15
                  refine (HFu.out wx hx.out).mono ?_
                  rintro e w' ⟨rfl, low⟩
                  exact ⟨⟨by simp [hsz.out], hx.out.trans (low.mono hx.out.size)⟩, upd z 105 (.agg (lab f.1 f.2)), (by unfold Hid; simp [upd, e0, e1]), hz.next apx hsz.out 2 (by decide) _ (fun _ h => Option.some.inj h)⟩
                · have cl := (hx.out.block _ (Array.getElem?_eq_some_iff.1 H18.out).1).trans H18.out
                  refine wpOp_plain rfl rfl (wp_load_row 24 (.tmp 3) rfl (tb) rfl 24 (tabV v A k c) (0, 0) _ cl Tryd.underlying24 rfl infoT ?_)
                  go_simp
                  exact ⟨⟨by simp [hsz.out], hx.out⟩, upd z 106 (.agg (tabV v A k c)), (by unfold Hid; simp [upd]), hz.next apx hsz.out 3 (by decide) _ (fun _ h => Option.some.inj h)⟩
                · refine wpOp_plain rfl rfl ?_
                  go_simp
                  exact ⟨⟨by simp [hsz.out], hx.out⟩, upd z 107 (.string s), (by unfold Hid; simp [upd]), hz.next apx hsz.out 4 (by decide) _ (fun _ h => Option.some.inj h)⟩
                · have e3 : z 106 = .agg (tabV v A k c) := hz 3 _ (hw 3 (by kernel_rfl)) rfl
                  have e4 : z 107 = .string s := hz 4 _ (hw 4 (by kernel_rfl)) rfl
                  refine wpOp_plain rfl rfl ?_
                  go_simp
                  go_at_call 15
                  refine (HFt.out wx (Low8.out.trans (hx.out.mono Low8.out.size))).mono ?_
                  rintro e w' ⟨rfl, low⟩
                  exact ⟨⟨by simp [hsz.out], hx.out.trans (low.mono hx.out.size)⟩, upd z 108 (.agg (lab f.1 f.2)), (by unfold Hid; simp [upd, e3, e4]), hz.next apx hsz.out 5 (by decide) _ (fun _ h => Option.some.inj h)⟩
                · have e2 : z 105 = .agg (lab f.1 f.2) := hz 2 _ (hw 2 (by kernel_rfl)) rfl
                  have e5 : z 108 = .agg (lab f.1 f.2) := hz 5 _ (hw 5 (by kernel_rfl)) rfl
                  refine wpOp_plain rfl rfl ?_
                  go_simp
                  exact ⟨⟨by simp [hsz.out], hx.out⟩, upd z 109 (.bool true), (by unfold Hid; simp [upd, e2, e5]), hz.next apx hsz.out 6 (by decide) _ (fun _ h => Option.some.inj h)⟩
                · have e6 : z 109 = .bool true := hz 6 _ (hw 6 (by kernel_rfl)) rfl
                  refine wpOp_plain rfl rfl ?_
                  go_simp
                  exact ⟨⟨by simp [hsz.out], hx.out⟩, upd z 110 (.bool true), (by unfold Hid; simp [upd, e6]), hz.next apx hsz.out 7 (by decide) _ (fun _ h => Option.some.inj h)⟩
                · have e7 : z 110 = .bool true := hz 7 _ (hw 7 (by kernel_rfl)) rfl
                  refine wpOp_want rfl (by simp [Region.wanted, yielded, e7]) ?_
                  go_simp
                  go_at_call 7
                  refine (HAw.out wx (Low8.out.trans (hx.out.mono Low8.out.size))).mono ?_
                  rintro e w' ⟨rfl, low⟩
                  exact ⟨⟨by simp [hsz.out], hx.out.trans (low.mono hx.out.size)⟩, upd z 111 (.bool true), (by unfold Hid; simp [upd, e7]), hz.next apx hsz.out 8 (by decide) _ (fun _ h => Option.some.inj h)⟩
                · have e7 : z 110 = .bool true := hz 7 _ (hw 7 (by kernel_rfl)) rfl
                  have e8 : z 111 = .bool true := hz 8 _ (hw 8 (by kernel_rfl)) rfl
                  refine wpOp_plain rfl rfl ?_
                  go_simp
                  exact ⟨⟨by simp [hsz.out], hx.out⟩, upd z 112 (.bool true), (by unfold Hid; simp [upd, e7, e8]), hz.next apx hsz.out 9 (by decide) _ (fun _ h => Option.some.inj h)⟩
                · have e9 : z 112 = .bool true := hz 9 _ (hw 9 (by kernel_rfl)) rfl
                  refine wpOp_plain rfl rfl ?_
                  go_simp
                  exact ⟨⟨by simp [hsz.out], hx.out⟩, upd z 6 (.bool true), (by unfold Hid; simp [upd, e9]), hz.next apx hsz.out 10 (by decide) _ (fun _ h => Option.some.inj h)⟩
              · exact ⟨⟨rfl, (Below.refl _ _).drew⟩, fun xx => (#[.agg (tabV v A k c), .agg (rlc r), .string s, .pointer (some ⟨tb, 0, none⟩), .pointer (some ⟨tb + 1, 0, none⟩), undef, .bool false, .pointer (some ⟨ub, 0, none⟩), .int .i64 0, .bool lg, .int .i64 (k : Nat), .agg (tabV v A k c), .string s, .bool false, .bool false, .pointer (some ⟨tb + 1, 0, none⟩), .string r.p, .int .i64 (r.p.size : Nat), .bool (decide ((200 : Int) < (r.p.size : Nat))), .bool (decide ((200 : Int) < (r.p.size : Nat))), undef, .tuple #[.agg (tabV (v + 1) (some ⟨g, 0, none⟩) nu cap), .int .i64 0], .agg (tabV v A k c), .pointer (some ⟨tb + 1, 0, none⟩), .string r.p, .pointer (some ⟨tb + 1, 1, none⟩), .agg (lab r.a r.c), .tuple #[.agg (tabV (v + 1) (some ⟨g, 0, none⟩) nu cap), .int .i64 0], .agg (tabV (v + 1) (some ⟨g, 0, none⟩) nu cap), .int .i64 0, .int .i64 0, .bool false, undef, undef, undef, undef, undef, undef, undef, undef, undef, undef, undef, undef, .agg (tabV (v + 1) (some ⟨g, 0, none⟩) nu cap), .int .i64 0, .bool false, .bool false, .pointer (some ⟨ub, 0, none⟩), .int .i64 (v + 1), .pointer (some ⟨tb, 0, none⟩), .int .i64 v, .int .i64 (v + 1), .bool false, .bool false, .int .i64 (k : Nat), .pointer (some ⟨tb, 1, none⟩), .slice A k c, .int .i64 (k : Nat), .bool false, u60, u61, u62, u63, u64, u65, u66, u67, u68, u69, u70, u71, u72, u73, u74, u75, u76, u77, u78, u79, u80, u81, u82, u83, u84, u85, .pointer (some ⟨tb + 1, 0, none⟩), .string r.p, .string s, .bool false, .bool false, undef, undef, .bool false, undef, undef, undef, undef, undef, undef, undef, undef, undef, undef, undef, undef, undef, undef, undef, undef, undef, undef, undef] : Array Value).getD xx undef, (by rfl), Holding.start⟩
end Go.Proofs.YtikoaejfnggdbaaDoor.Rul
