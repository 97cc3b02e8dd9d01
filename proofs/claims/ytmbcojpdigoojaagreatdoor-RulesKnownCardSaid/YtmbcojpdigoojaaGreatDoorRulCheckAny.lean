/- DERIVED. The contract of rules.Check. -/
import Derived.Test.YtmbcojpdigoojaaGreatDoorRulCheck
import Derived.Test.YtmbcojpdigoojaaGreatDoorLabRows
import Derived.BigQuiet
import Derived.Deep.QuietTactic
namespace Go.Proofs.YtmbcojpdigoojaaGreatDoor.Rul
open Go.RowKit Lab
attribute [local go_sem ↓ high] loadAtLb
theorem order_same (a b : ByteArray) (w : World) : Calls Tryz.prog 22 #[.string a, .string b] w fun e w' => e = .returned (.int .i64 (Pth.ordL (bl a) (bl b))) ∧ w' = w :=
  (Pth.order_any a b w).mono fun _ _ h => ⟨h.1, h.2.symm⟩
set_option maxRecDepth 100000 in
set_option maxHeartbeats 2000000 in
theorem tcheck_any (v : Int) (A : Option Addr) (n c : Nat) (rs : List Rl) (wb w : World) (hn : rs.length = n) (hR : Ruls wb A c rs) (hwb : Below wb.heap.size wb w) (hL : Pth.Laid w) (hz : ∀ r ∈ rs, r.p.size ≤ 1000) (hn9 : n ≤ 1000) :
    Calls Tryz.prog 7 #[.agg (tabV v A n c)] w fun e w' => ∃ z : Int, e = .returned (.int .i64 z) ∧ (z = 0 ∨ z = 2) ∧ (z = 0 ↔ Okay v rs) ∧ Below w.heap.size w w' := by
  have Hn := Lib.hid hn
  have HR := Lib.hid hR
  have Hwb := Lib.hid hwb
  have HL := Lib.hid hL
  have Hz := Lib.hid hz
  have h1 := Go.heap_alloc_new w (.cells (tabV v A n c) 24)
  have k1 : Below w.heap.size w (w.alloc (.cells (tabV v A n c) 24)) := (Below.refl _ _).alloc (Nat.le_refl _) _
  obtain ⟨W1, hW1⟩ : ∃ W1, W1 = w.alloc (.cells (tabV v A n c) 24) := ⟨_, rfl⟩
  rw [← hW1] at h1 k1
  have s1 : W1.heap.size = w.heap.size + 1 := by rw [hW1, World.size_alloc]
  have HW1 : Hid (w.alloc (.cells (tabV v A n c) 24) = W1) := hW1.symm
  have c0 := cell_row h1 0
  have c1 := cell_row h1 1
  simp only [List.getElem?_toArray, List.getElem?_cons_zero, List.getElem?_cons_succ] at c0 c1
  have H1 := Lib.hid h1
  have K1 := Lib.hid k1
  have S1 := Lib.hid s1
  clear hn hR hwb hL hz h1 k1 hW1 s1
  go_enter Tryz.func7, Tryz.ntmps7
  go_upto_region 1 with fail
  rw [HW1.out]
  have HNo : (32 < n ∨ v < (n : Int)) → Hid (¬ Okay v rs) := fun h => by
    show ¬ Okay v rs
    rintro ⟨a, b, _⟩
    have := Hn.out
    omega
  by_cases h32 : 32 < n
  · have h32I : (32 : Int) < n := by omega
    have HN := HNo (.inl h32)
    clear HNo
    go_wp2
    go_ret
    exact ⟨2, rfl, .inr rfl, ⟨fun h => absurd h (by decide), fun h => absurd h HN.out⟩, K1.out⟩
  · have h32I : ¬ (32 : Int) < n := by omega
    by_cases hvn : v < (n : Int)
    · have HN := HNo (.inr hvn)
      clear HNo
      go_wp2
      go_ret
      exact ⟨2, rfl, .inr rfl, ⟨fun h => absurd h (by decide), fun h => absurd h HN.out⟩, K1.out⟩
    · clear HNo
      go_wp2
      go_loopw [20] (fun i wr => ∃ k : Nat, k ≤ n ∧ i = .int .i64 k ∧ Hid (okN rs k ∧ Below W1.heap.size W1 wr)) (fun i _ => n - (intOf i).toNat)
      case atStart => exact ⟨0, by omega, rfl, fun i r h => absurd h (Nat.not_lt_zero _), Below.refl _ _⟩
      case round =>
        obtain ⟨k, hk, rfl, hI⟩ := hrel
        clear c0 c1
        by_cases hlt : k < n
        · have hltI : (k : Int) < n := by omega
          obtain ⟨r, hr⟩ : ∃ r, rs[k]? = some r := ⟨_, List.getElem?_eq_getElem (by have := Hn.out; omega)⟩
          have hrp := Hz.out r (List.mem_of_getElem? hr)
          obtain ⟨b, off, hA, hb, hrange⟩ := HR.out.at hr
          have hlow : Below wb.heap.size wb wr := Hwb.out.trans ((K1.out.trans (hI.out.2.mono K1.out.size)).mono Hwb.out.size)
          have Hr : Hid (wr.rangeAt b (off + k * 3) (rlc r).toList) := fun j u hu => (hlow.cell (p := ⟨b, off + k * 3 + j, none⟩) hb).trans (hrange j u hu)
          have hcap1 : n ≤ c := by have := HR.out.1; have := Hn.out; omega
          have Hrk := Lib.hid hr
          have Hb := Lib.hid hb
          subst hA
          clear hr hrange hlow hb
          go_upto_region 6 with (first
            | (with_reducible refine wpList_load_mid rfl 48 (.tmp 23) rfl b (off + k * 3) rfl (rlc r).toList _ Hr.out Tryz.underlying48 rfl infoR2 ?_)
            | (refine wpList_store_row rfl 48 (.tmp 4) (.tmp 24) rfl wr.heap.size (rlc r) rfl rfl 48 _ (Go.heap_alloc_new wr _) infoR rfl (rlc_one _) ?_; rw [World.setRow_alloc_new]))
          obtain ⟨w4, hw4⟩ : ∃ w4, w4 = wr.alloc (.cells (rlc r) 48) := ⟨_, rfl⟩
          have h4 : w4.heap[wr.heap.size]? = some (.cells (rlc r) 48 (0, 0)) := by rw [hw4]; exact Go.heap_alloc_new wr _
          have l4 : Below wr.heap.size wr w4 := by rw [hw4]; exact (Below.refl _ _).alloc (Nat.le_refl _) _
          rw [← hw4]
          clear hw4
          obtain ⟨bx, hbx⟩ : ∃ bx, bx = wr.heap.size := ⟨_, rfl⟩
          rw [← hbx] at h4 ⊢
          have low4 : Below W1.heap.size W1 w4 := hI.out.2.trans (l4.mono hI.out.2.size)
          have cS := (rule_row h4).1
          have Low4 := Lib.hid low4
          have H4 := Lib.hid h4
          have HL4 := Lib.hid (HL.out.below (K1.out.trans (low4.mono K1.out.size)) (Nat.le_refl _))
          have HokN := Lib.hid hI.out.1
          clear h4 l4 hbx low4 hI Hr
          have HP := Lib.hid (Pth.prefix_any r.p w4 HL4.out (by omega))
          by_cases hp : Pth.pre r.p = 0
          · have hp2 := HP.out
            rw [hp] at hp2
            have HP2 := Lib.hid hp2
            have HC := Lib.hid (fun W => Lab.check_any r.a r.c W)
            by_cases hc : Lab.chk r.a = 0
            · have hok : okR r = true := by unfold okR; rw [hp, hc]; rfl
              have Hok := Lib.hid hok
              have hc2 := HC.out
              rw [hc] at hc2
              have HC2 := Lib.hid hc2
              clear hp hc hok hc2 HC HP hp2
              go_upto_region 8 with (first
                | (go_at_call 20; refine HP2.out.mono ?_; rintro e w5 ⟨rfl, low5⟩; have Low5 := Lib.hid (Low4.out.trans (low5.mono Low4.out.size)); have H5 := Lib.hid ((low5.block _ (Array.getElem?_eq_some_iff.1 H4.out).1).trans H4.out); have cL5 := loadLb_eq (rule_row H5.out).2; clear low5)
                | (go_at_call 21; refine (HC2.out w5).mono ?_; rintro e w6 ⟨rfl, low6⟩; have Low6 := Lib.hid (Low5.out.trans (low6.mono Low5.out.size)); have H6 := Lib.hid ((low6.block _ (Array.getElem?_eq_some_iff.1 H5.out).1).trans H5.out); clear low6))
              clear cL5 cS
              have cS6 := (rule_row H6.out).1
              have hwk : k = 0 ∨ ∃ m : Nat, m + 1 = k := by
                cases k with
                | zero => exact .inl rfl
                | succ m => exact .inr ⟨m, rfl⟩
              rcases hwk with hk0 | ⟨m, hm⟩
              · have hk0I : ¬ 0 < k := by omega
                have Hnext : Hid (okN rs (k + 1)) := okN_next HokN.out Hrk.out Hok.out (fun x h0 _ => absurd h0 (by omega))
                clear hk0
                go_quiet (fail)
                go_wp2
                go_roundw
                case rel => exact ⟨k + 1, by omega, by go_num, Hnext.out, Below.drewN Low6.out _⟩
                case measure => simp [intOf]; omega
              · have hk0I : 0 < k := by omega
                have hwm : IntKind.i64.wrap ((k : Int) - 1) = (m : Int) := by rw [show (k : Int) - 1 = (m : Int) by omega]; exact IntWalk.i64_in _ (by omega)
                have hmn : m < n := by omega
                have hmnI : (m : Int) < n := by omega
                obtain ⟨x, hx⟩ : ∃ x, rs[m]? = some x := ⟨_, List.getElem?_eq_getElem (by have := Hn.out; omega)⟩
                obtain ⟨b2, off2, hA2, hb2, hrange2⟩ := HR.out.at hx
                have eA : b2 = b ∧ off2 = off := by simpa using hA2.symm
                obtain ⟨rfl, rfl⟩ := eA
                have hlow6 : Below wb.heap.size wb w6 := Hwb.out.trans ((K1.out.trans (Low6.out.mono K1.out.size)).mono Hwb.out.size)
                have cX : w6.cell? ⟨b2, off2 + m * 3, none⟩ = some (.string x.p) := (hlow6.cell (p := ⟨b2, off2 + m * 3, none⟩) hb2).trans (hrange2 0 _ rfl)
                have cT : w6.cell? ⟨w.heap.size, 1, none⟩ = some (.slice (some ⟨b2, off2, none⟩) n c) := (Low6.out.cell (p := ⟨w.heap.size, 1, none⟩) (by rw [S1.out]; exact Nat.lt_succ_self _)).trans (cell_row H1.out 1)
                have Hx : Hid (rs[k - 1]? = some x) := by show _ = _; rw [← hx]; congr 1; omega
                have HO := Lib.hid (fun W => order_same x.p r.p W)
                clear hx hA2 hrange2 hlow6 hb2
                by_cases hneg : Pth.ordL (bl x.p) (bl r.p) < 0
                · have Hnext : Hid (okN rs (k + 1)) := okN_next HokN.out Hrk.out Hok.out (fun y _ hy => by rw [Hx.out] at hy; obtain rfl := Option.some.inj hy; exact hneg)
                  have hge0 : ¬ 0 ≤ Pth.ordL (bl x.p) (bl r.p) := by omega
                  generalize Pth.ordL (bl x.p) (bl r.p) = o at *
                  go_quiet ((go_at_call 22; exact Calls.quiet_of_same (HO.out _)))
                  go_wp2
                  go_roundw
                  case rel => exact ⟨k + 1, by omega, by go_num, Hnext.out, Below.drewN Low6.out _⟩
                  case measure => simp [intOf]; omega
                · have HN : Hid (¬ Okay v rs) := fun h => hneg ((okN_last Hrk.out h.2.2).2 x (by omega) Hx.out)
                  have hge0 : 0 ≤ Pth.ordL (bl x.p) (bl r.p) := by omega
                  generalize Pth.ordL (bl x.p) (bl r.p) = o at *
                  go_quiet ((go_at_call 22; exact Calls.quiet_of_same (HO.out _)))
                  go_wp2
                  go_ret
                  exact ⟨2, rfl, .inr rfl, ⟨fun h => absurd h (by decide), fun h => absurd h HN.out⟩, Below.drewN (K1.out.trans (Low6.out.mono K1.out.size)) _⟩
            · have HN : Hid (¬ Okay v rs) := fun h => by
                have h2 := (okN_last Hrk.out h.2.2).1
                unfold okR at h2
                rw [Bool.and_eq_true, decide_eq_true_eq, decide_eq_true_eq] at h2
                exact hc h2.2
              generalize Lab.chk r.a = y at *
              clear hp HP hp2
              go_wp2_with (first
                | (go_at_call 20; refine HP2.out.mono ?_; rintro e w5 ⟨rfl, low5⟩; have Low5 := Lib.hid (Low4.out.trans (low5.mono Low4.out.size)); have H5 := Lib.hid ((low5.block _ (Array.getElem?_eq_some_iff.1 H4.out).1).trans H4.out); have cL5 := loadLb_eq (rule_row H5.out).2; clear low5)
                | (go_at_call 21; refine (HC.out w5).mono ?_; rintro e w6 ⟨rfl, low6⟩; have Low6 := Lib.hid (Low5.out.trans (low6.mono Low5.out.size)); clear low6))
              go_ret
              exact ⟨2, rfl, .inr rfl, ⟨fun h => absurd h (by decide), fun h => absurd h HN.out⟩, K1.out.trans (Low6.out.mono K1.out.size)⟩
          · have HN : Hid (¬ Okay v rs) := fun h => by
              have h2 := (okN_last Hrk.out h.2.2).1
              unfold okR at h2
              rw [Bool.and_eq_true, decide_eq_true_eq, decide_eq_true_eq] at h2
              exact hp h2.1
            generalize Pth.pre r.p = y at *
            go_wp2_with (go_at_call 20; refine HP.out.mono ?_; rintro e w5 ⟨rfl, low5⟩; have Low5 := Lib.hid (Low4.out.trans (low5.mono Low4.out.size)); clear low5)
            go_ret
            exact ⟨2, rfl, .inr rfl, ⟨fun h => absurd h (by decide), fun h => absurd h HN.out⟩, K1.out.trans (Low5.out.mono K1.out.size)⟩
        · have hge : ¬ (k : Int) < n := by omega
          have ek : k = n := by omega
          have HY : Hid (Okay v rs) := ⟨by have := Hn.out; omega, by have := Hn.out; omega, by rw [Hn.out, ← ek]; exact hI.out.1⟩
          have Low := Lib.hid (K1.out.trans (hI.out.2.mono K1.out.size))
          clear ek hI hk hlt
          go_wp2
          go_ret
          exact ⟨0, rfl, .inl rfl, ⟨fun _ => HY.out, fun _ => rfl⟩, Low.out⟩
end Go.Proofs.YtmbcojpdigoojaaGreatDoor.Rul
