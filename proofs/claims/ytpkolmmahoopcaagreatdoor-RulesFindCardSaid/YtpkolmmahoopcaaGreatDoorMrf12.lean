/- DERIVED. Texts of ours, merged: XRulCheckAny XRulAwake XRulLarge XRulRefA. -/
import Derived.Test.YtpkolmmahoopcaaGreatDoorMrf11
import Derived.Test.YtpkolmmahoopcaaGreatDoorMrf4
import Derived.BigQuiet
import Derived.Deep.QuietTactic
import Derived.Test.YtpkolmmahoopcaaGreatDoorMrf2
import Derived.Test.YtpkolmmahoopcaaGreatDoorMrf8
/- DERIVED. The contract of rules.Check. -/
namespace Go.Proofs.YtpkolmmahoopcaaGreatDoor.Rul
open Go.RowKit Lab
attribute [local go_sem ↓ high] loadAtLb
theorem order_same (a b : ByteArray) (w : World) : Calls Tryz.prog 20 #[.string a, .string b] w fun e w' => e = .returned (.int .i64 (Pth.ordL (bl a) (bl b))) ∧ w' = w :=
  (Pth.order_any a b w).mono fun _ _ h => ⟨h.1, h.2.symm⟩
set_option maxRecDepth 100000 in
set_option maxHeartbeats 2000000 in
theorem tcheck_any (v : Int) (A : Option Addr) (n c : Nat) (rs : List Rl) (wb w : World) (hn : rs.length = n) (hR : Ruls wb A c rs) (hwb : Below wb.heap.size wb w) (hL : Pth.Laid w) (hz : ∀ r ∈ rs, r.p.size ≤ 1000) (hn9 : n ≤ 1000) :
    Calls Tryz.prog 6 #[.agg (tabV v A n c)] w fun e w' => ∃ z : Int, e = .returned (.int .i64 z) ∧ (z = 0 ∨ z = 2) ∧ (z = 0 ↔ Okay v rs) ∧ Below w.heap.size w w' := by
  have Hn := Lib.hid hn
  have HR := Lib.hid hR
  have Hwb := Lib.hid hwb
  have HL := Lib.hid hL
  have Hz := Lib.hid hz
  have h1 := Go.heap_alloc_new w (.cells (tabV v A n c) 24)
  have k1 : Below w.heap.size w (w.alloc (.cells (tabV v A n c) 24)) := (Below.refl _ _).alloc (Nat.le_refl _) _
  obtain ⟨W1, hW1⟩ : ∃ W1, W1 = w.alloc (.cells (tabV v A n c) 24) := ⟨_, rfl⟩
  rw [← hW1] at h1 k1
  have s1 : W1.heap.size = w.heap.size + 1 := by rw [hW1, World.size_alloc]
  have HW1 : Hid (w.alloc (.cells (tabV v A n c) 24) = W1) := hW1.symm
  have c0 := cell_row h1 0
  have c1 := cell_row h1 1
  simp only [List.getElem?_toArray, List.getElem?_cons_zero, List.getElem?_cons_succ] at c0 c1
  have H1 := Lib.hid h1
  have K1 := Lib.hid k1
  have S1 := Lib.hid s1
  clear hn hR hwb hL hz h1 k1 hW1 s1
  go_enter Tryz.func6, Tryz.ntmps6
  go_upto_region 1 with fail
  rw [HW1.out]
  have HNo : (32 < n ∨ v < (n : Int)) → Hid (¬ Okay v rs) := fun h => by
    show ¬ Okay v rs
    rintro ⟨a, b, _⟩
    have := Hn.out
    omega
  by_cases h32 : 32 < n
  · have h32I : (32 : Int) < n := by omega
    have HN := HNo (.inl h32)
    clear HNo
    go_wp2
    go_ret
    exact ⟨2, rfl, .inr rfl, ⟨fun h => absurd h (by decide), fun h => absurd h HN.out⟩, K1.out⟩
  · have h32I : ¬ (32 : Int) < n := by omega
    by_cases hvn : v < (n : Int)
    · have HN := HNo (.inr hvn)
      clear HNo
      go_wp2
      go_ret
      exact ⟨2, rfl, .inr rfl, ⟨fun h => absurd h (by decide), fun h => absurd h HN.out⟩, K1.out⟩
    · clear HNo
      go_wp2
      go_loopw [20] (fun i wr => ∃ k : Nat, k ≤ n ∧ i = .int .i64 k ∧ Hid (okN rs k ∧ Below W1.heap.size W1 wr)) (fun i _ => n - (intOf i).toNat)
      case atStart => exact ⟨0, by omega, rfl, fun i r h => absurd h (Nat.not_lt_zero _), Below.refl _ _⟩
      case round =>
        obtain ⟨k, hk, rfl, hI⟩ := hrel
        clear c0 c1
        by_cases hlt : k < n
        · have hltI : (k : Int) < n := by omega
          obtain ⟨r, hr⟩ : ∃ r, rs[k]? = some r := ⟨_, List.getElem?_eq_getElem (by have := Hn.out; omega)⟩
          have hrp := Hz.out r (List.mem_of_getElem? hr)
          obtain ⟨b, off, hA, hb, hrange⟩ := HR.out.at hr
          have hlow : Below wb.heap.size wb wr := Hwb.out.trans ((K1.out.trans (hI.out.2.mono K1.out.size)).mono Hwb.out.size)
          have Hr : Hid (wr.rangeAt b (off + k * 3) (rlc r).toList) := fun j u hu => (hlow.cell (p := ⟨b, off + k * 3 + j, none⟩) hb).trans (hrange j u hu)
          have hcap1 : n ≤ c := by have := HR.out.1; have := Hn.out; omega
          have Hrk := Lib.hid hr
          have Hb := Lib.hid hb
          subst hA
          clear hr hrange hlow hb
          go_upto_region 6 with (first
            | (with_reducible refine wpList_load_mid rfl 44 (.tmp 23) rfl b (off + k * 3) rfl (rlc r).toList _ Hr.out Tryz.underlying44 rfl infoR2 ?_)
            | (refine wpList_store_row rfl 44 (.tmp 4) (.tmp 24) rfl wr.heap.size (rlc r) rfl rfl 44 _ (Go.heap_alloc_new wr _) infoR rfl (rlc_one _) ?_; rw [World.setRow_alloc_new]))
          obtain ⟨w4, hw4⟩ : ∃ w4, w4 = wr.alloc (.cells (rlc r) 44) := ⟨_, rfl⟩
          have h4 : w4.heap[wr.heap.size]? = some (.cells (rlc r) 44 (0, 0)) := by rw [hw4]; exact Go.heap_alloc_new wr _
          have l4 : Below wr.heap.size wr w4 := by rw [hw4]; exact (Below.refl _ _).alloc (Nat.le_refl _) _
          rw [← hw4]
          clear hw4
          obtain ⟨bx, hbx⟩ : ∃ bx, bx = wr.heap.size := ⟨_, rfl⟩
          rw [← hbx] at h4 ⊢
          have low4 : Below W1.heap.size W1 w4 := hI.out.2.trans (l4.mono hI.out.2.size)
          have cS := (rule_row h4).1
          have Low4 := Lib.hid low4
          have H4 := Lib.hid h4
          have HL4 := Lib.hid (HL.out.below (K1.out.trans (low4.mono K1.out.size)) (Nat.le_refl _))
          have HokN := Lib.hid hI.out.1
          clear h4 l4 hbx low4 hI Hr
          have HP := Lib.hid (Pth.prefix_any r.p w4 HL4.out (by omega))
          by_cases hp : Pth.pre r.p = 0
          · have hp2 := HP.out
            rw [hp] at hp2
            have HP2 := Lib.hid hp2
            have HC := Lib.hid (fun W => Lab.check_any r.a r.c W)
            by_cases hc : Lab.chk r.a = 0
            · have hok : okR r = true := by unfold okR; rw [hp, hc]; rfl
              have Hok := Lib.hid hok
              have hc2 := HC.out
              rw [hc] at hc2
              have HC2 := Lib.hid hc2
              clear hp hc hok hc2 HC HP hp2
              go_upto_region 8 with (first
                | (go_at_call 18; refine HP2.out.mono ?_; rintro e w5 ⟨rfl, low5⟩; have Low5 := Lib.hid (Low4.out.trans (low5.mono Low4.out.size)); have H5 := Lib.hid ((low5.block _ (Array.getElem?_eq_some_iff.1 H4.out).1).trans H4.out); have cL5 := loadLb_eq (rule_row H5.out).2; clear low5)
                | (go_at_call 19; refine (HC2.out w5).mono ?_; rintro e w6 ⟨rfl, low6⟩; have Low6 := Lib.hid (Low5.out.trans (low6.mono Low5.out.size)); have H6 := Lib.hid ((low6.block _ (Array.getElem?_eq_some_iff.1 H5.out).1).trans H5.out); clear low6))
              clear cL5 cS
              have cS6 := (rule_row H6.out).1
              have hwk : k = 0 ∨ ∃ m : Nat, m + 1 = k := by
                cases k with
                | zero => exact .inl rfl
                | succ m => exact .inr ⟨m, rfl⟩
              rcases hwk with hk0 | ⟨m, hm⟩
              · have hk0I : ¬ 0 < k := by omega
                have Hnext : Hid (okN rs (k + 1)) := okN_next HokN.out Hrk.out Hok.out (fun x h0 _ => absurd h0 (by omega))
                clear hk0
                go_quiet (fail)
                go_wp2
                go_roundw
                case rel => exact ⟨k + 1, by omega, by go_num, Hnext.out, Below.drewN Low6.out _⟩
                case measure => simp [intOf]; omega
              · have hk0I : 0 < k := by omega
                have hwm : IntKind.i64.wrap ((k : Int) - 1) = (m : Int) := by rw [show (k : Int) - 1 = (m : Int) by omega]; exact IntWalk.i64_in _ (by omega)
                have hmn : m < n := by omega
                have hmnI : (m : Int) < n := by omega
                obtain ⟨x, hx⟩ : ∃ x, rs[m]? = some x := ⟨_, List.getElem?_eq_getElem (by have := Hn.out; omega)⟩
                obtain ⟨b2, off2, hA2, hb2, hrange2⟩ := HR.out.at hx
                have eA : b2 = b ∧ off2 = off := by simpa using hA2.symm
                obtain ⟨rfl, rfl⟩ := eA
                have hlow6 : Below wb.heap.size wb w6 := Hwb.out.trans ((K1.out.trans (Low6.out.mono K1.out.size)).mono Hwb.out.size)
                have cX : w6.cell? ⟨b2, off2 + m * 3, none⟩ = some (.string x.p) := (hlow6.cell (p := ⟨b2, off2 + m * 3, none⟩) hb2).trans (hrange2 0 _ rfl)
                have cT : w6.cell? ⟨w.heap.size, 1, none⟩ = some (.slice (some ⟨b2, off2, none⟩) n c) := (Low6.out.cell (p := ⟨w.heap.size, 1, none⟩) (by rw [S1.out]; exact Nat.lt_succ_self _)).trans (cell_row H1.out 1)
                have Hx : Hid (rs[k - 1]? = some x) := by show _ = _; rw [← hx]; congr 1; omega
                have HO := Lib.hid (fun W => order_same x.p r.p W)
                clear hx hA2 hrange2 hlow6 hb2
                by_cases hneg : Pth.ordL (bl x.p) (bl r.p) < 0
                · have Hnext : Hid (okN rs (k + 1)) := okN_next HokN.out Hrk.out Hok.out (fun y _ hy => by rw [Hx.out] at hy; obtain rfl := Option.some.inj hy; exact hneg)
                  have hge0 : ¬ 0 ≤ Pth.ordL (bl x.p) (bl r.p) := by omega
                  generalize Pth.ordL (bl x.p) (bl r.p) = o at *
                  go_quiet ((go_at_call 20; exact Calls.quiet_of_same (HO.out _)))
                  go_wp2
                  go_roundw
                  case rel => exact ⟨k + 1, by omega, by go_num, Hnext.out, Below.drewN Low6.out _⟩
                  case measure => simp [intOf]; omega
                · have HN : Hid (¬ Okay v rs) := fun h => hneg ((okN_last Hrk.out h.2.2).2 x (by omega) Hx.out)
                  have hge0 : 0 ≤ Pth.ordL (bl x.p) (bl r.p) := by omega
                  generalize Pth.ordL (bl x.p) (bl r.p) = o at *
                  go_quiet ((go_at_call 20; exact Calls.quiet_of_same (HO.out _)))
                  go_wp2
                  go_ret
                  exact ⟨2, rfl, .inr rfl, ⟨fun h => absurd h (by decide), fun h => absurd h HN.out⟩, Below.drewN (K1.out.trans (Low6.out.mono K1.out.size)) _⟩
            · have HN : Hid (¬ Okay v rs) := fun h => by
                have h2 := (okN_last Hrk.out h.2.2).1
                unfold okR at h2
                rw [Bool.and_eq_true, decide_eq_true_eq, decide_eq_true_eq] at h2
                exact hc h2.2
              generalize Lab.chk r.a = y at *
              clear hp HP hp2
              go_wp2_with (first
                | (go_at_call 18; refine HP2.out.mono ?_; rintro e w5 ⟨rfl, low5⟩; have Low5 := Lib.hid (Low4.out.trans (low5.mono Low4.out.size)); have H5 := Lib.hid ((low5.block _ (Array.getElem?_eq_some_iff.1 H4.out).1).trans H4.out); have cL5 := loadLb_eq (rule_row H5.out).2; clear low5)
                | (go_at_call 19; refine (HC.out w5).mono ?_; rintro e w6 ⟨rfl, low6⟩; have Low6 := Lib.hid (Low5.out.trans (low6.mono Low5.out.size)); clear low6))
              go_ret
              exact ⟨2, rfl, .inr rfl, ⟨fun h => absurd h (by decide), fun h => absurd h HN.out⟩, K1.out.trans (Low6.out.mono K1.out.size)⟩
          · have HN : Hid (¬ Okay v rs) := fun h => by
              have h2 := (okN_last Hrk.out h.2.2).1
              unfold okR at h2
              rw [Bool.and_eq_true, decide_eq_true_eq, decide_eq_true_eq] at h2
              exact hp h2.1
            generalize Pth.pre r.p = y at *
            go_wp2_with (go_at_call 18; refine HP.out.mono ?_; rintro e w5 ⟨rfl, low5⟩; have Low5 := Lib.hid (Low4.out.trans (low5.mono Low4.out.size)); clear low5)
            go_ret
            exact ⟨2, rfl, .inr rfl, ⟨fun h => absurd h (by decide), fun h => absurd h HN.out⟩, K1.out.trans (Low5.out.mono K1.out.size)⟩
        · have hge : ¬ (k : Int) < n := by omega
          have ek : k = n := by omega
          have HY : Hid (Okay v rs) := ⟨by have := Hn.out; omega, by have := Hn.out; omega, by rw [Hn.out, ← ek]; exact hI.out.1⟩
          have Low := Lib.hid (K1.out.trans (hI.out.2.mono K1.out.size))
          clear ek hI hk hlt
          go_wp2
          go_ret
          exact ⟨0, rfl, .inl rfl, ⟨fun _ => HY.out, fun _ => rfl⟩, Low.out⟩
end Go.Proofs.YtpkolmmahoopcaaGreatDoor.Rul
/- DERIVED. The statements' own parts: label, given, awake. -/
namespace Go.Proofs.YtpkolmmahoopcaaGreatDoor.Rul
open Go.RowKit Lab Pth
theorem label_any (x : Int) (y : Nat) (w : World) : Calls Tryz.prog 17 #[.int .i64 x, .int .u64 (y : Nat)] w fun e w' => e = .returned (.agg (lab x y)) ∧ Below w.heap.size w w' := by
  have h1 := Go.heap_alloc_new w (.cells (lab 0 0) 34)
  have k1 : Below w.heap.size w (w.alloc (.cells (lab 0 0) 34)) := (Below.refl _ _).alloc (Nat.le_refl _) _
  obtain ⟨W1, hW1⟩ : ∃ W1, W1 = w.alloc (.cells (lab 0 0) 34) := ⟨_, rfl⟩
  rw [← hW1] at h1 k1
  have HW1 : Hid (w.alloc (.cells #[.int .i64 0, .int .u64 0] 34) = W1) := by show _ = _; rw [hW1]; rfl
  have H1 := Lib.hid h1
  have K1 := Lib.hid k1
  clear h1 k1 hW1
  go_enter Tryz.func17, Tryz.ntmps17
  go_upto_region 1 with fail
  rw [HW1.out]
  go_wp2_with (refine wpList_store_row rfl 34 (.tmp 4) (.tmp 7) rfl w.heap.size (lab x y) rfl rfl 34 _ H1.out infoL rfl (lab_one _ _) ?_)
  exact bodyPost_ret (v := .agg (lab x y)) (results_cell_row rfl _ _ w.heap.size 34 _ (0, 0) _ rfl (setRow_at H1.out) Tryz.underlying34 rfl infoL) rfl ⟨rfl, Lab.below_setRow K1.out (Nat.le_refl _) _⟩
def givenL : List Rl := [⟨⟨#[]⟩, 1, 0⟩, ⟨⟨#[97]⟩, 2, 1⟩, ⟨⟨#[97, 47, 98]⟩, 0, 0⟩]
abbrev given9 : Array Value := #[.string ⟨#[]⟩, .int .i64 1, .int .u64 0, .string ⟨#[97]⟩, .int .i64 2, .int .u64 1, .string ⟨#[97, 47, 98]⟩, .int .i64 0, .int .u64 0]
theorem given_rows {w : World} {g : Nat} (h : w.heap[g]? = some (.cells given9 44 (0, 0))) : Ruls w (some ⟨g, 0, none⟩) 3 givenL := by
  refine ⟨Nat.le_refl _, (fun h => by cases h), fun _ => ⟨g, 0, rfl, (Array.getElem?_eq_some_iff.1 h).1, fun i x hx j v hv => ?_⟩⟩
  rw [cell_row h]
  have hi := (List.getElem?_eq_some_iff.1 hx).1
  have hj : j < 3 := by have := (List.getElem?_eq_some_iff.1 hv).1; simpa using this
  have hi3 : i < 3 := hi
  have ci : i = 0 ∨ i = 1 ∨ i = 2 := by omega
  have cj : j = 0 ∨ j = 1 ∨ j = 2 := by omega
  rcases ci with rfl | rfl | rfl <;> (obtain rfl := Option.some.inj hx; rcases cj with rfl | rfl | rfl <;> exact hv)
set_option maxRecDepth 100000 in
set_option maxHeartbeats 1000000 in
theorem given_any (w : World) : Calls Tryz.prog 16 #[] w fun e w' => ∃ b, e = .returned (.agg (tabV 3 (some ⟨b, 0, none⟩) 3 3)) ∧ Ruls w' (some ⟨b, 0, none⟩) 3 givenL ∧ Below w.heap.size w w' := by
  have h1 := Go.heap_alloc_new w (.cells (tabV 0 none 0 0) 24)
  have k1 : Below w.heap.size w (w.alloc (.cells (tabV 0 none 0 0) 24)) := (Below.refl _ _).alloc (Nat.le_refl _) _
  obtain ⟨W1, hW1⟩ : ∃ W1, W1 = w.alloc (.cells (tabV 0 none 0 0) 24) := ⟨_, rfl⟩
  rw [← hW1] at h1 k1
  have HW1 : Hid (w.alloc (.cells #[.int .i64 0, .slice none 0 0] 24) = W1) := by show _ = _; rw [hW1]
  have H1 := Lib.hid h1
  have K1 := Lib.hid k1
  clear h1 k1 hW1
  go_enter Tryz.func16, Tryz.ntmps16
  go_upto_region 1 with fail
  rw [HW1.out]
  go_wp2_with (first
    | (refine (label_any 1 0 W1).mono ?_; rintro e w2 ⟨rfl, low2⟩; have Low2 := Lib.hid low2; have H2 := Lib.hid ((low2.block _ (Array.getElem?_eq_some_iff.1 H1.out).1).trans H1.out); clear low2)
    | (refine (label_any 2 1 w2).mono ?_; rintro e w3 ⟨rfl, low3⟩; have Low3 := Lib.hid low3; have H3 := Lib.hid ((low3.block _ (Array.getElem?_eq_some_iff.1 H2.out).1).trans H2.out); clear low3)
    | (refine wpList_store_row rfl 24 (.tmp 0) (.tmp 7) rfl w.heap.size (tabV 3 (some ⟨w3.heap.size, 0, none⟩) 3 3) rfl rfl 24 _ ((Go.heap_alloc_old _ _ (Array.getElem?_eq_some_iff.1 H3.out).1).trans H3.out) infoT rfl (tab_one ..) ?_))
  have hlt : w.heap.size < w3.heap.size := (Array.getElem?_eq_some_iff.1 H3.out).1
  obtain ⟨w4, hw4⟩ : ∃ w4, w4 = w3.alloc (.cells given9 44) := ⟨_, rfl⟩
  have h4 : w4.heap[w.heap.size]? = some (.cells (tabV 0 none 0 0) 24 (0, 0)) := by rw [hw4]; exact (Go.heap_alloc_old _ _ hlt).trans H3.out
  have b4 : w4.heap[w3.heap.size]? = some (.cells given9 44 (0, 0)) := by rw [hw4]; exact Go.heap_alloc_new w3 _
  have l4 : Below w.heap.size w w4 := by
    have l3 : Below w.heap.size w w3 := K1.out.trans ((Low2.out.trans (Low3.out.mono Low2.out.size)).mono K1.out.size)
    rw [hw4]; exact l3.alloc l3.size _
  change bodyPost _ _ _ _ _ ((w3.alloc (.cells given9 44)).setRow _ _)
  rw [← hw4]
  exact bodyPost_ret (v := .agg (tabV 3 (some ⟨w3.heap.size, 0, none⟩) 3 3)) (results_cell_row rfl _ _ w.heap.size 24 _ (0, 0) _ rfl (setRow_at h4) Tryz.underlying24 rfl infoT) rfl ⟨_, rfl, given_rows (by rw [setRow_ne (by omega)]; exact b4), Lab.below_setRow l4 (Nat.le_refl _) _⟩
/-- in awake's worlds the chapter's table stands. -/
structure GW (b g : Nat) (wb W : World) : Prop where
  rows : Ruls wb (some ⟨b, 0, none⟩) 3 givenL
  low : Below wb.heap.size wb W
  laid : Pth.Laid W
  box : W.heap[g]? = some (.cells (tabV 3 (some ⟨b, 0, none⟩) 3 3) 24 (0, 0))
theorem GW.later {b g : Nat} {wb W W' : World} (h : GW b g wb W) (hb : Below W.heap.size W W') : GW b g wb W' :=
  ⟨h.rows, h.low.trans (hb.mono h.low.size), h.laid.below hb (Nat.le_refl _), (hb.block _ (Array.getElem?_eq_some_iff.1 h.box).1).trans h.box⟩
theorem GW.c0 {b g : Nat} {wb W : World} (h : GW b g wb W) : W.cell? ⟨g, 0, none⟩ = some (.int .i64 3) := cell_row h.box 0
theorem GW.c1 {b g : Nat} {wb W : World} (h : GW b g wb W) : W.cell? ⟨g, 1, none⟩ = some (.slice (some ⟨b, 0, none⟩) 3 3) := cell_row h.box 1
theorem givenZ : ∀ r ∈ givenL, r.p.size ≤ 1000 := by
  intro r hr
  simp only [givenL, List.mem_cons, List.mem_nil_iff, or_false] at hr
  rcases hr with rfl | rfl | rfl <;> decide
theorem givenOk : Okay 3 givenL := by
  refine ⟨by decide, by decide, fun i r hi hr => ?_⟩
  have hi3 : i < 3 := hi
  have ci : i = 0 ∨ i = 1 ∨ i = 2 := by omega
  rcases ci with rfl | rfl | rfl
  · obtain rfl := Option.some.inj hr
    exact ⟨by decide +kernel, fun x h => absurd h (Nat.lt_irrefl 0)⟩
  · obtain rfl := Option.some.inj hr
    exact ⟨by decide +kernel, fun x _ hx => by obtain rfl := Option.some.inj hx; decide +kernel⟩
  · obtain rfl := Option.some.inj hr
    exact ⟨by decide +kernel, fun x _ hx => by obtain rfl := Option.some.inj hx; decide +kernel⟩
theorem gfind {b g : Nat} {wb W : World} (s : ByteArray) (h : GW b g wb W) (hs : s.size ≤ 1000) : Calls Tryz.prog 9 #[.agg (tabV 3 (some ⟨b, 0, none⟩) 3 3), .string s] W fun e w' => e = .returned (.agg (lab (find s givenL).1 (find s givenL).2)) ∧ GW b g wb w' :=
  (find_any 3 _ 3 3 givenL s wb W rfl h.rows h.low h.laid givenZ hs (by decide)).mono fun _ _ ⟨he, hb⟩ => ⟨he, h.later hb⟩
theorem gcheck {b g : Nat} {wb W : World} (h : GW b g wb W) : Calls Tryz.prog 6 #[.agg (tabV 3 (some ⟨b, 0, none⟩) 3 3)] W fun e w' => e = .returned (.int .i64 0) ∧ GW b g wb w' :=
  (tcheck_any 3 _ 3 3 givenL wb W rfl h.rows h.low h.laid givenZ (by decide)).mono fun _ _ ⟨z, he, _, hz, hb⟩ => ⟨by rw [he, hz.2 givenOk], h.later hb⟩
theorem glabel {b g : Nat} {wb W : World} (x : Int) (y : Nat) (h : GW b g wb W) : Calls Tryz.prog 17 #[.int .i64 x, .int .u64 (y : Nat)] W fun e w' => e = .returned (.agg (lab x y)) ∧ GW b g wb w' :=
  (label_any x y W).mono fun _ _ ⟨he, hb⟩ => ⟨he, h.later hb⟩
theorem f1 : find ⟨#[120]⟩ givenL = (1, 0) := by decide +kernel
theorem f2 : find ⟨#[97, 98]⟩ givenL = (1, 0) := by decide +kernel
theorem f3 : find ⟨#[97, 47, 99]⟩ givenL = (2, 1) := by decide +kernel
theorem f4 : find ⟨#[97, 47, 98, 47, 99]⟩ givenL = (0, 0) := by decide +kernel
set_option maxRecDepth 100000 in
set_option maxHeartbeats 1000000 in
theorem awake_any (w : World) (hL : Pth.Laid w) : Calls Tryz.prog 5 #[] w fun e w' => e = .returned (.bool true) ∧ Below w.heap.size w w' := by
  have HL := Lib.hid hL
  clear hL
  go_enter Tryz.func5, Tryz.ntmps5
  go_upto_region 2 with (first
    | (go_at_call 16; refine (given_any w).mono ?_; rintro e w1 ⟨b, rfl, rows, low⟩; have Rows := Lib.hid rows; have Low := Lib.hid low; clear rows low)
    | (refine wpList_store_row rfl 24 (.tmp 1) (.tmp 2) rfl w1.heap.size (tabV 3 (some ⟨b, 0, none⟩) 3 3) rfl rfl 24 _ (Go.heap_alloc_new w1 _) infoT rfl (tab_one ..) ?_; rw [World.setRow_alloc_new]))
  obtain ⟨w2, hw2⟩ : ∃ w2, w2 = w1.alloc (.cells (tabV 3 (some ⟨b, 0, none⟩) 3 3) 24) := ⟨_, rfl⟩
  have hl1 : Pth.Laid w1 := HL.out.below Low.out (Nat.le_refl _)
  have k2 : Below w1.heap.size w1 w2 := by rw [hw2]; exact (Below.refl _ _).alloc (Nat.le_refl _) _
  have hg : GW b w1.heap.size w1 w2 := ⟨Rows.out, k2, hl1.below k2 (Nat.le_refl _), by rw [hw2]; exact Go.heap_alloc_new w1 _⟩
  rw [← hw2]
  have HG := Lib.hid hg
  clear hw2 hg k2 hl1
  go_wp2_with (first
    | (refine wpList_load_row rfl 24 (.tmp 1) rfl w1.heap.size rfl 24 (tabV 3 (some ⟨b, 0, none⟩) 3 3) (0, 0) _ HG.out.box Tryz.underlying24 rfl infoT ?_)
    | (go_at_call 6; refine (gcheck HG.out).mono ?_; rintro e W ⟨rfl, hg⟩; have HG := Lib.hid hg; have cT0 := hg.c0; have cT1 := hg.c1; clear hg)
    | (go_at_call 9; refine (gfind _ HG.out (by decide)).mono ?_; (first | rw [f1] | rw [f2] | rw [f3] | rw [f4]); rintro e W ⟨rfl, hg⟩; have HG := Lib.hid hg; have cT0 := hg.c0; have cT1 := hg.c1; clear hg)
    | (go_at_call 17; first | (refine (glabel 1 0 HG.out).mono ?_; rintro e W ⟨rfl, hg⟩; have HG := Lib.hid hg; have cT0 := hg.c0; have cT1 := hg.c1; clear hg) | (refine (glabel 2 1 HG.out).mono ?_; rintro e W ⟨rfl, hg⟩; have HG := Lib.hid hg; have cT0 := hg.c0; have cT1 := hg.c1; clear hg) | (refine (glabel 0 0 HG.out).mono ?_; rintro e W ⟨rfl, hg⟩; have HG := Lib.hid hg; have cT0 := hg.c0; have cT1 := hg.c1; clear hg)))
  go_ret
  exact ⟨rfl, Low.out.trans (HG.out.low.mono Low.out.size)⟩
end Go.Proofs.YtpkolmmahoopcaaGreatDoor.Rul
/- DERIVED. The statements' large: is there more than is looked at? -/
namespace Go.Proofs.YtpkolmmahoopcaaGreatDoor.Rul
open Go.RowKit Lab Pth
def Small (v : Int) (rs : List Rl) (s : ByteArray) : Prop := rs.length ≤ 60 ∧ (∀ r ∈ rs, r.p.size ≤ 200) ∧ s.size ≤ 200 ∧ v ≤ 999999999 ∧ -999999999 ≤ v
/-- large's answer. -/
def LargeE (v : Int) (rs : List Rl) (s : ByteArray) (e : Ending) : Prop := ∃ z : Bool, e = .returned (.bool z) ∧ (z = false → Small v rs s)
set_option maxRecDepth 100000 in
set_option maxHeartbeats 2000000 in
theorem large_any (v : Int) (A : Option Addr) (n c : Nat) (rs : List Rl) (s : ByteArray) (w : World) (hn : rs.length = n) (hR : Ruls w A c rs) :
    Calls Tryz.prog 4 #[.agg (tabV v A n c), .string s] w fun e w' => LargeE v rs s e ∧ Below w.heap.size w w' := by
  have Hn := Lib.hid hn
  have HR := Lib.hid hR
  have h1 := Go.heap_alloc_new w (.cells (tabV v A n c) 24)
  have k1 : Below w.heap.size w (w.alloc (.cells (tabV v A n c) 24)) := (Below.refl _ _).alloc (Nat.le_refl _) _
  obtain ⟨W1, hW1⟩ : ∃ W1, W1 = w.alloc (.cells (tabV v A n c) 24) := ⟨_, rfl⟩
  rw [← hW1] at h1 k1
  have HW1 : Hid (w.alloc (.cells (tabV v A n c) 24) = W1) := hW1.symm
  have c0 := cell_row h1 0
  have c1 := cell_row h1 1
  simp only [List.getElem?_toArray, List.getElem?_cons_zero, List.getElem?_cons_succ] at c0 c1
  have K1 := Lib.hid k1
  clear hn hR h1 k1 hW1
  go_enter Tryz.func4, Tryz.ntmps4
  go_upto_region 1 with fail
  rw [HW1.out]
  go_wp2
  go_loopw [5] (fun i wr => ∃ k : Nat, k ≤ n ∧ k ≤ 70 ∧ i = .int .i64 k ∧ wr = W1 ∧ Hid (∀ j r, j < k → rs[j]? = some r → r.p.size ≤ 200)) (fun i _ => n - (intOf i).toNat)
  case atStart => exact ⟨0, by omega, by omega, rfl, rfl, fun j r h => absurd h (Nat.not_lt_zero _)⟩
  case round =>
    obtain ⟨k, hk, hk70, rfl, rfl, hI⟩ := hrel
    have HI := Lib.hid hI
    clear hI
    by_cases hlt : k < n
    · have hltI : (k : Int) < n := by omega
      by_cases h70 : k < 70
      · have h70I : (k : Int) < 70 := by omega
        obtain ⟨r, hr⟩ : ∃ r, rs[k]? = some r := ⟨_, List.getElem?_eq_getElem (by have := Hn.out; omega)⟩
        obtain ⟨b, off, hA, hb, hrange⟩ := HR.out.at hr
        have cr : wr.cell? ⟨b, off + k * 3, none⟩ = some (.string r.p) := (K1.out.cell (p := ⟨b, off + k * 3, none⟩) hb).trans (hrange 0 _ rfl)
        have hcap1 : n ≤ c := by have := HR.out.1; have := Hn.out; omega
        have Hr := Lib.hid hr
        subst hA
        clear hr hrange hb
        by_cases h200 : 200 < r.p.size
        · have h200I : (200 : Int) < r.p.size := by omega
          go_wp2
          go_ret
          exact ⟨⟨true, rfl, (fun h => by cases h)⟩, K1.out⟩
        · have h200I : ¬ (200 : Int) < r.p.size := by omega
          go_wp2
          go_roundw
          case rel => exact ⟨k + 1, by omega, by omega, by go_num, by trivial, fun j x hj hx => by
            by_cases e : j < k
            · exact HI.out.out j x e hx
            · obtain rfl : j = k := by omega
              rw [Hr.out] at hx
              obtain rfl := Option.some.inj hx
              omega⟩
          case measure => simp [intOf]; omega
      · have h70I : ¬ (k : Int) < 70 := by omega
        have h60 : 60 < n := by omega
        have h60I : (60 : Int) < n := by omega
        go_wp2
        go_ret
        exact ⟨⟨true, rfl, (fun h => by cases h)⟩, K1.out⟩
    · have hge : ¬ (k : Int) < n := by omega
      have ek : k = n := by omega
      have Hall : Hid (∀ r ∈ rs, r.p.size ≤ 200) := fun r hr => by
        obtain ⟨j, hj, e⟩ := List.getElem_of_mem hr
        exact HI.out.out j r (by have := Hn.out; omega) (by rw [List.getElem?_eq_getElem hj, e])
      clear HI
      by_cases h60 : 60 < n
      · have h60I : (60 : Int) < n := by omega
        go_wp2
        go_ret
        exact ⟨⟨true, rfl, (fun h => by cases h)⟩, K1.out⟩
      · have h60I : ¬ (60 : Int) < n := by omega
        by_cases hs : 200 < s.size
        · have hsI : (200 : Int) < s.size := by omega
          go_wp2
          go_ret
          exact ⟨⟨true, rfl, (fun h => by cases h)⟩, K1.out⟩
        · have hsI : ¬ (200 : Int) < s.size := by omega
          by_cases hv : 999999999 < v
          · go_wp2
            go_ret
            exact ⟨⟨true, rfl, (fun h => by cases h)⟩, K1.out⟩
          · by_cases hv2 : v < -999999999
            · go_wp2
              go_ret
              exact ⟨⟨true, rfl, (fun h => by cases h)⟩, K1.out⟩
            · have HS : Hid (Small v rs s) := ⟨by have := Hn.out; omega, Hall.out, by omega, by omega, by omega⟩
              go_wp2
              go_ret
              exact ⟨⟨false, rfl, (fun _ => HS.out)⟩, K1.out⟩
end Go.Proofs.YtpkolmmahoopcaaGreatDoor.Rul
/- DERIVED. The reference's May, prefix; the law's of. -/
namespace Go.Proofs.YtpkolmmahoopcaaGreatDoor.Rul
open Go.RowKit Lab Pth
theorem may_any (a : Int) (c : Nat) (w : World) : Calls Tryz.prog 22 #[.agg (lab a c)] w fun e w' => e = .returned (.bool (decide (Lab.chk a = 0))) ∧ Below w.heap.size w w' := by
  have low : Below w.heap.size w (w.alloc (.cells (lab a c) 34)) := (Below.refl _ _).alloc (Nat.le_refl _) _
  have h1 := Go.heap_alloc_new w (.cells (lab a c) 34)
  obtain ⟨W1, hW1⟩ : ∃ W1, W1 = w.alloc (.cells (lab a c) 34) := ⟨_, rfl⟩
  rw [← hW1] at h1 low
  have HW1 : Hid (w.alloc (.cells #[.int .i64 a, .int .u64 c] 34) = W1) := hW1.symm
  have c0 := cell_row h1 0
  simp only [List.getElem?_toArray, List.getElem?_cons_zero] at c0
  have L := Lib.hid low
  clear hW1 low h1
  by_cases h0 : 0 ≤ a
  · by_cases h15 : a ≤ 15
    · have HR : Hid (decide (Lab.chk a = 0) = true) := by show _ = _; unfold Lab.chk; rw [if_pos ⟨h0, h15⟩]; rfl
      rw [HR.out]
      go_enter Tryz.func22, Tryz.ntmps22
      go_upto_region 1 with fail
      rw [HW1.out]
      go_wp2
      go_ret
      exact ⟨rfl, L.out⟩
    · have HR : Hid (decide (Lab.chk a = 0) = false) := by show _ = _; unfold Lab.chk; rw [if_neg (by omega)]; rfl
      rw [HR.out]
      go_enter Tryz.func22, Tryz.ntmps22
      go_upto_region 1 with fail
      rw [HW1.out]
      go_wp2
      go_ret
      exact ⟨rfl, L.out⟩
  · have HR : Hid (decide (Lab.chk a = 0) = false) := by show _ = _; unfold Lab.chk; rw [if_neg (by omega)]; rfl
    rw [HR.out]
    go_enter Tryz.func22, Tryz.ntmps22
    go_upto_region 1 with fail
    rw [HW1.out]
    go_wp2
    go_ret
    exact ⟨rfl, L.out⟩
theorem pre_two (s : ByteArray) : Pth.pre s = 0 ∨ Pth.pre s = 15 := by
  unfold Pth.pre Pth.chk
  split
  · exact .inl rfl
  · split
    · exact .inl rfl
    · exact .inr rfl
theorem rprefix_any (s : ByteArray) (w : World) (hs : s.size ≤ 1000) : Calls Tryz.prog 21 #[.string s] w fun e w' => e = .returned (.bool (decide (Pth.pre s = 0))) ∧ Below w.heap.size w w' := by
  by_cases h0 : s.data.toList = []
  · have hl : s.toList = [] := by rw [Lib.toList_data, h0]
    have HR : Hid (decide (Pth.pre s = 0) = true) := by show _ = _; unfold Pth.pre; rw [if_pos h0]; rfl
    rw [HR.out]
    clear h0
    go_enter Tryz.func21, Tryz.ntmps21
    go_wp2
    go_ret
    exact ⟨rfl, Below.refl _ _⟩
  · have hl : s.toList.isEmpty = false := by rw [Lib.toList_data]; cases h : s.data.toList <;> simp_all
    have hl2 : (s.toList == []) = false := by rw [Lib.toList_data]; cases h : s.data.toList <;> simp_all
    have HR : Hid (Pth.pre s = Pth.chk s) := by show _ = _; unfold Pth.pre; rw [if_neg h0]
    rw [HR.out]
    have HC := Lib.hid (fun W => rcheck_any s W hs)
    have htwo : Pth.chk s = 0 ∨ Pth.chk s = 15 := by rw [← HR.out]; exact pre_two s
    clear h0 HR
    obtain ⟨z, hz⟩ : ∃ z, Pth.chk s = z := ⟨_, rfl⟩
    rw [hz] at htwo HC ⊢
    clear hz
    rcases htwo with rfl | rfl
    · go_enter Tryz.func21, Tryz.ntmps21
      go_wp2_with (go_at_call 35; refine (HC.out _).mono ?_; rintro e w' ⟨rfl, hb⟩)
      go_ret
      exact ⟨rfl, hb⟩
    · go_enter Tryz.func21, Tryz.ntmps21
      go_wp2_with (go_at_call 35; refine (HC.out _).mono ?_; rintro e w' ⟨rfl, hb⟩)
      go_ret
      exact ⟨rfl, hb⟩
theorem infoT2 : (Tryz.prog.info? 30).map (·.size) = some 2 := by kernel_rfl
theorem of_any (v : Int) (A : Option Addr) (n c : Nat) (w : World) : Calls Tryz.prog 8 #[.agg (tabV v A n c)] w fun e w' => e = .returned (.agg (tabV v A n c)) ∧ Below w.heap.size w w' := by
  have h2 := two_new w (.cells (tabV v A n c) 24) (.cells (tabV 0 none 0 0) 30)
  have k2 : Below w.heap.size w ((w.alloc (.cells (tabV v A n c) 24)).alloc (.cells (tabV 0 none 0 0) 30)) := ((Below.refl _ _).alloc (Nat.le_refl _) _).alloc (by rw [World.size_alloc]; omega) _
  obtain ⟨W2, hW2⟩ : ∃ W2, W2 = (w.alloc (.cells (tabV v A n c) 24)).alloc (.cells (tabV 0 none 0 0) 30) := ⟨_, rfl⟩
  rw [← hW2] at h2 k2
  have HW2 : Hid ((w.alloc (.cells (tabV v A n c) 24)).alloc (.cells #[.int .i64 0, .slice none 0 0] 30) = W2) := by show _ = _; rw [hW2]
  have c0 := cell_row h2.1 0
  have c1 := cell_row h2.1 1
  simp only [List.getElem?_toArray, List.getElem?_cons_zero, List.getElem?_cons_succ] at c0 c1
  have HB := Lib.hid h2.2
  have K2 := Lib.hid k2
  clear h2 k2 hW2
  go_enter Tryz.func8, Tryz.ntmps8
  go_upto_region 1 with fail
  rw [HW2.out]
  go_wp2_with (refine wpList_store_row rfl 30 (.tmp 2) (.tmp 7) rfl (w.heap.size + 1) (tabV v A n c) rfl rfl 30 _ HB.out infoT2 rfl (tab_one ..) ?_)
  exact bodyPost_ret (v := .agg (tabV v A n c)) (results_cell_row rfl _ _ (w.heap.size + 1) 30 _ (0, 0) _ rfl (setRow_at HB.out) Tryz.underlying30 rfl infoT2) rfl ⟨rfl, Lab.below_setRow K2.out (by omega) _⟩
end Go.Proofs.YtpkolmmahoopcaaGreatDoor.Rul
