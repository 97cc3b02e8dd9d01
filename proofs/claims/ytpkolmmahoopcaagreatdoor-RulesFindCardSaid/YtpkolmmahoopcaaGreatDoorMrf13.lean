/- DERIVED. Texts of ours, merged: XRulRefCheck. -/
import Derived.Test.YtpkolmmahoopcaaGreatDoorMrf12
import Derived.Test.YtpkolmmahoopcaaGreatDoorMrf3
import Derived.Deep.MidRow
/- DERIVED. The reference's Check of a table. -/
namespace Go.Proofs.YtpkolmmahoopcaaGreatDoor.Rul
open Go.RowKit Lab Pth
attribute [local go_sem ↓ high] loadAtLb
def okP (rs : List Rl) (k : Nat) : Prop := ∀ (i : Nat) (r : Rl), i < k → rs[i]? = some r → okR r = true ∧ ∀ (j : Nat) (x : Rl), j < i → rs[j]? = some x → ordR x r < 0
theorem okP_next {rs : List Rl} {k : Nat} {r : Rl} (h : okP rs k) (hr : rs[k]? = some r) (h1 : okR r = true) (h2 : ∀ (j : Nat) (x : Rl), j < k → rs[j]? = some x → ordR x r < 0) : okP rs (k + 1) := by
  intro i y hi hy
  by_cases e : i < k
  · exact h i y e hy
  · obtain rfl : i = k := by omega
    rw [hr] at hy
    obtain rfl := Option.some.inj hy
    exact ⟨h1, h2⟩
theorem okP_all {rs : List Rl} (h : okP rs rs.length) : okN rs rs.length := fun i r hi hr => ⟨(h i r hi hr).1, fun x h0 hx => (h i r hi hr).2 (i - 1) x (by omega) hx⟩
theorem okN_bad {v : Int} {rs : List Rl} {k : Nat} {r : Rl} (hr : rs[k]? = some r) (h1 : okR r = false) : ¬ Okay v rs := fun h => by
  have := (h.2.2 k r (List.getElem?_eq_some_iff.1 hr).1 hr).1
  rw [h1] at this
  cases this
theorem okN_turned {v : Int} {rs : List Rl} {j k : Nat} {x r : Rl} (hx : rs[j]? = some x) (hr : rs[k]? = some r) (hjk : j < k) (h1 : ¬ ordR x r < 0) : ¬ Okay v rs := fun h => by
  obtain ⟨a1, e1⟩ := List.getElem?_eq_some_iff.1 hx
  obtain ⟨a2, e2⟩ := List.getElem?_eq_some_iff.1 hr
  have := List.pairwise_iff_getElem.1 (okN_strict h.2.2) j k a1 a2 hjk
  rw [e1, e2] at this
  exact h1 this
theorem less_ordR (x r : Rl) : Op.bytesLess x.p.toList r.p.toList = decide (ordR x r < 0) := by
  rw [Pth.less_lists]
  unfold ordR bl
  rcases Pth.ord_three x.p.data.toList r.p.data.toList with h | h | h <;> rw [h] <;> rfl
set_option maxRecDepth 100000 in
set_option maxHeartbeats 4000000 in
theorem rtcheck_any (v : Int) (A : Option Addr) (n c : Nat) (rs : List Rl) (w : World) (hn : rs.length = n) (hR : Ruls w A c rs) (hz : ∀ r ∈ rs, r.p.size ≤ 1000) (hn9 : n ≤ 1000) :
    Calls Tryz.prog 7 #[.agg (tabV v A n c)] w fun e w' => ∃ z : Int, e = .returned (.int .i64 z) ∧ (z = 0 ∨ z = 2) ∧ (z = 0 ↔ Okay v rs) ∧ Below w.heap.size w w' := by
  have Hn := Lib.hid hn
  have Hz := Lib.hid hz
  have h1 := Go.heap_alloc_new w (.cells (tabV v A n c) 30)
  have k1 : Below w.heap.size w (w.alloc (.cells (tabV v A n c) 30)) := (Below.refl _ _).alloc (Nat.le_refl _) _
  obtain ⟨W1, hW1⟩ : ∃ W1, W1 = w.alloc (.cells (tabV v A n c) 30) := ⟨_, rfl⟩
  rw [← hW1] at h1 k1
  have HW1 : Hid (w.alloc (.cells (tabV v A n c) 30) = W1) := hW1.symm
  have c0 := cell_row h1 0
  have c1 := cell_row h1 1
  simp only [List.getElem?_toArray, List.getElem?_cons_zero, List.getElem?_cons_succ] at c0 c1
  have C1 := Lib.hid c1
  have K1 := Lib.hid k1
  have HR := Lib.hid (hR.below k1 (Nat.le_refl _))
  clear hn hR hz h1 k1 hW1
  go_enter Tryz.func7, Tryz.ntmps7
  go_upto_region 1 with fail
  rw [HW1.out]
  clear HW1
  have HNo : (32 < n ∨ v < (n : Int)) → Hid (¬ Okay v rs) := fun h => by
    show ¬ Okay v rs
    rintro ⟨a, b, _⟩
    have := Hn.out
    omega
  by_cases h32 : 32 < n
  · have h32I : (32 : Int) < n := by omega
    have HN := HNo (.inl h32)
    clear HNo
    go_wp2
    go_ret
    exact ⟨2, rfl, .inr rfl, ⟨fun h => absurd h (by decide), fun h => absurd h HN.out⟩, K1.out⟩
  · have h32I : ¬ (32 : Int) < n := by omega
    by_cases hvn : v < (n : Int)
    · have HN := HNo (.inr hvn)
      clear HNo
      go_wp2
      go_ret
      exact ⟨2, rfl, .inr rfl, ⟨fun h => absurd h (by decide), fun h => absurd h HN.out⟩, K1.out⟩
    · clear HNo
      go_wp2
      have HV := Lib.hid hvn
      have HV2 := Lib.hid h32
      clear c0 c1
      generalize htb : w.heap.size = tb at *
      have HTB := Lib.hid htb
      clear htb
      have KS : Hid (tb ≤ W1.heap.size) := by show tb ≤ _; rw [← HTB.out]; exact K1.out.size
      go_loopw [3] (fun i wr => ∃ k : Nat, k ≤ n ∧ i = .int .i64 k ∧ Hid (okP rs k) ∧ Hid (Below W1.heap.size W1 wr)) (fun i _ => n - (intOf i).toNat)
      case atStart => exact ⟨0, by omega, rfl, fun i r h => absurd h (Nat.not_lt_zero _), Below.refl _ _⟩
      case round =>
        obtain ⟨k, hk, rfl, hP, hlow⟩ := hrel
        have c1 := (hlow.out.cell (p := ⟨tb, 1, none⟩) (World.block_lt_of_cell? _ _ C1.out)).trans C1.out
        by_cases hlt : k < n
        · have hltI : (k : Int) < n := by omega
          obtain ⟨r, hr⟩ : ∃ r, rs[k]? = some r := ⟨_, List.getElem?_eq_getElem (by have := Hn.out; omega)⟩
          have hrp := Hz.out r (List.mem_of_getElem? hr)
          obtain ⟨b, off, hA, hb, hrange⟩ := HR.out.at hr
          have Hr : Hid (wr.rangeAt b (off + k * 3) (rlc r).toList) := fun j u hu => (hlow.out.cell (p := ⟨b, off + k * 3 + j, none⟩) hb).trans (hrange j u hu)
          have hcap1 : n ≤ c := by have := HR.out.1; have := Hn.out; omega
          have Hrk := Lib.hid hr
          subst hA
          clear hr hrange hb
          go_upto_region 7 with (first
            | (with_reducible refine wpList_load_mid rfl 44 (.tmp 28) rfl b (off + k * 3) rfl (rlc r).toList _ Hr.out Tryz.underlying44 rfl infoR2 ?_)
            | (refine wpList_store_row rfl 44 (.tmp 4) (.tmp 29) rfl wr.heap.size (rlc r) rfl rfl 44 _ (Go.heap_alloc_new wr _) infoR rfl (rlc_one _) ?_; rw [World.setRow_alloc_new]))
          obtain ⟨w4, hw4⟩ : ∃ w4, w4 = wr.alloc (.cells (rlc r) 44) := ⟨_, rfl⟩
          have h4 : w4.heap[wr.heap.size]? = some (.cells (rlc r) 44 (0, 0)) := by rw [hw4]; exact Go.heap_alloc_new wr _
          have l4 : Below wr.heap.size wr w4 := by rw [hw4]; exact (Below.refl _ _).alloc (Nat.le_refl _) _
          rw [← hw4]
          clear hw4 c1
          obtain ⟨bx, hbx⟩ : ∃ bx, bx = wr.heap.size := ⟨_, rfl⟩
          rw [← hbx] at h4 ⊢
          have low4 : Below W1.heap.size W1 w4 := hlow.out.trans (l4.mono hlow.out.size)
          have cS := (rule_row h4).1
          have Low4 := Lib.hid low4
          have H4 := Lib.hid h4
          clear h4 l4 hbx low4 hlow Hr
          have HP := Lib.hid (fun W => rprefix_any r.p W hrp)
          have HM := Lib.hid (fun W => may_any r.a r.c W)
          by_cases hp : Pth.pre r.p = 0
          · by_cases hc : Lab.chk r.a = 0
            · have Hok : Hid (okR r = true) := by show _ = _; unfold okR; rw [hp, hc]; rfl
              have HP2 := HP.out
              have HM2 := HM.out
              rw [show decide (Pth.pre r.p = 0) = true by rw [hp]; rfl] at HP2
              rw [show decide (Lab.chk r.a = 0) = true by rw [hc]; rfl] at HM2
              have HP := Lib.hid HP2
              have HM := Lib.hid HM2
              clear hp hc HP2 HM2
              go_upto_region 9 with (first
                | (go_at_call 21; refine (HP.out _).mono ?_; rintro e w5 ⟨rfl, low5⟩; have Low5 := Lib.hid (Low4.out.trans (low5.mono Low4.out.size)); have H5 := Lib.hid ((low5.block _ (Array.getElem?_eq_some_iff.1 H4.out).1).trans H4.out); have cL5 := loadLb_eq (rule_row H5.out).2; clear low5)
                | (go_at_call 22; refine (HM.out w5).mono ?_; rintro e w6 ⟨rfl, low6⟩; have Low6 := Lib.hid (Low5.out.trans (low6.mono Low5.out.size)); have H6 := Lib.hid ((low6.block _ (Array.getElem?_eq_some_iff.1 H5.out).1).trans H5.out); clear low6))
              clear cL5 cS Low4 H4 Low5 H5 HP HM
              go_upto_block 2 with (fail)
              go_wp2
              go_loopw [5] (fun i wr => ∃ m : Nat, m ≤ k ∧ i = .int .i64 m ∧ Hid (∀ (j : Nat) (x : Rl), j < m → rs[j]? = some x → ordR x r < 0) ∧ Hid (Below w6.heap.size w6 wr)) (fun i _ => k - (intOf i).toNat)
              case atStart => exact ⟨0, by omega, rfl, fun j x h => absurd h (Nat.not_lt_zero _), Below.refl _ _⟩
              case round =>
                obtain ⟨m, hm, rfl, hM, hli⟩ := hrel
                by_cases hmk : m < k
                · have hmkI : (m : Int) < k := by omega
                  have hmnI : (m : Int) < n := by omega
                  obtain ⟨x, hx⟩ : ∃ x, rs[m]? = some x := ⟨_, List.getElem?_eq_getElem (by have := Hn.out; omega)⟩
                  obtain ⟨b2, off2, hA2, hb2, hrange2⟩ := HR.out.at hx
                  have eA : b2 = b ∧ off2 = off := by simpa using hA2.symm
                  obtain ⟨rfl, rfl⟩ := eA
                  have hl6 : Below W1.heap.size W1 wr := Low6.out.trans (hli.out.mono Low6.out.size)
                  have F1 := Lib.hid ((hl6.cell (p := ⟨tb, 1, none⟩) (World.block_lt_of_cell? _ _ C1.out)).trans C1.out)
                  have F2 := Lib.hid ((hl6.cell (p := ⟨b2, off2 + m * 3, none⟩) hb2).trans (hrange2 0 _ rfl))
                  have F3 := Lib.hid ((hli.out.cell (p := ⟨bx, 0, none⟩) (Array.getElem?_eq_some_iff.1 H6.out).1).trans (rule_row H6.out).1)
                  have Hx := Lib.hid hx
                  have HL6 := Lib.hid hl6
                  obtain ⟨lt, hlt2⟩ : ∃ lt, Op.bytesLess x.p.toList r.p.toList = lt := ⟨_, rfl⟩
                  have HLT : Hid (lt = decide (ordR x r < 0)) := by show _ = _; rw [← hlt2, less_ordR]
                  clear hA2 hb2 hrange2 hl6 hx
                  go_upto_region 12 with fail
                  have apx : apartB [45, 46, 47, 48, 49, 50, 51, 52, 53] = true := by decide
                  refine wp_region_any (by kernel_rfl) ?_
                  change wpAny _ _ _ _ _ _ _ (World.drew _)
                  refine wpAny_inv (fun ll aa wx => Hid (ll.size = 9 ∧ Below wr.heap.size wr wx) ∧ ∃ (z : Nat → Value), Hid (aa = ⟨#[.agg (tabV v (some ⟨b2, off2, none⟩) n c), .pointer (some ⟨tb, 0, none⟩), u2, .int .i64 k, .pointer (some ⟨bx, 0, none⟩), .int .i64 m, .pointer (some ⟨tb, 1, none⟩), .slice (some ⟨b2, off2, none⟩) n c, .int .i64 n, .bool false, .bool false, .pointer (some ⟨tb, 0, none⟩), .int .i64 v, .pointer (some ⟨tb, 1, none⟩), .slice (some ⟨b2, off2, none⟩) n c, .int .i64 n, .bool false, .bool false, .int .i64 k, .pointer (some ⟨tb, 1, none⟩), .slice (some ⟨b2, off2, none⟩) n c, .int .i64 n, .bool true, u23, u24, .pointer (some ⟨tb, 1, none⟩), .slice (some ⟨b2, off2, none⟩) n c, .int .i64 k, .pointer (some ⟨b2, off2 + k * 3, none⟩), .agg #[.string r.p, .int .i64 r.a, .int .u64 (r.c : Nat)], .pointer (some ⟨bx, 0, none⟩), .string r.p, .bool true, .bool false, .bool false, .pointer (some ⟨bx, 1, none⟩), .agg (lab r.a r.c), .bool true, .bool false, .bool false, .int .i64 m, .int .i64 k, .bool true, u43, u44, z 45, z 46, z 47, z 48, z 49, z 50, z 51, z 52, z 53], []⟩) ∧ Holding [45, 46, 47, 48, 49, 50, 51, 52, 53] [some (.pointer (some ⟨tb, 1, none⟩)), some (.slice (some ⟨b2, off2, none⟩) n c), some (.int .i64 m), some (.pointer (some ⟨b2, off2 + m * 3, none⟩)), some (.pointer (some ⟨b2, off2 + m * 3, none⟩)), some (.string x.p), some (.pointer (some ⟨bx, 0, none⟩)), some (.string r.p), some (.bool (!lt))] ll z) ?_ (by kernel_rfl) ?_ ?_ _ _ _ _ (unlisted_none _) ?_
                  · rintro ll aa wx ⟨hI, _⟩
                    exact hI.out.1
                  · rintro ll aa wx ⟨hI, z, ha, hz⟩ hall
                    have hx := Lib.hid hI.out.2
                    have e0 : z 45 = .pointer (some ⟨tb, 1, none⟩) := hz 0 _ (hall 0 (by decide)) rfl
                    have e1 : z 46 = .slice (some ⟨b2, off2, none⟩) n c := hz 1 _ (hall 1 (by decide)) rfl
                    have e2 : z 47 = .int .i64 m := hz 2 _ (hall 2 (by decide)) rfl
                    have e3 : z 48 = .pointer (some ⟨b2, off2 + m * 3, none⟩) := hz 3 _ (hall 3 (by decide)) rfl
                    have e4 : z 49 = .pointer (some ⟨b2, off2 + m * 3, none⟩) := hz 4 _ (hall 4 (by decide)) rfl
                    have e5 : z 50 = .string x.p := hz 5 _ (hall 5 (by decide)) rfl
                    have e6 : z 51 = .pointer (some ⟨bx, 0, none⟩) := hz 6 _ (hall 6 (by decide)) rfl
                    have e7 : z 52 = .string r.p := hz 7 _ (hall 7 (by decide)) rfl
                    have e8 : z 53 = .bool (!lt) := hz 8 _ (hall 8 (by decide)) rfl
                    clear hall hz hI 
                    obtain rfl := ha.out
                    clear ha
                    clear apx
                    have E := Lib.hid e8
                    have HX := Lib.hid hx
                    clear e0 e1 e2 e3 e4 e5 e6 e7 e8 hx hlt2
                    dsimp only
                    rw [E.out]
                    cases lt with
                    | true =>
                      have HO : Hid (ordR x r < 0) := by have h := HLT.out; show ordR x r < 0; simpa using h
                      clear HLT
                      go_wp2
                      go_roundw
                      case rel => exact ⟨m + 1, by omega, by go_num, fun j y hj hy => by
                        by_cases e : j < m
                        · exact hM.out j y e hy
                        · obtain rfl : j = m := by omega
                          rw [Hx.out] at hy
                          obtain rfl := Option.some.inj hy
                          exact HO.out, hli.out.trans (HX.out.mono hli.out.size)⟩
                      case measure => simp [intOf]; omega
                    | false =>
                      have HNo : Hid (¬ Okay v rs) := okN_turned Hx.out Hrk.out hmk (by have h := HLT.out; simpa using h)
                      clear HLT
                      go_wp2
                      go_ret
                      exact ⟨2, rfl, .inr rfl, ⟨fun h => absurd h (by decide), fun h => absurd h HNo.out⟩, by rw [HTB.out]; exact K1.out.trans ((HL6.out.trans (HX.out.mono HL6.out.size)).mono KS.out)⟩
                  · rintro ll aa wx i ⟨hI, z, ha, hz⟩ hi hu hw
                    obtain rfl := ha.out
                    have hsz := Lib.hid hI.out.1
                    have hx := Lib.hid hI.out.2
                    clear ha hI
                    have hin : i < 9 := hi
                    obtain rfl | rfl | rfl | rfl | rfl | rfl | rfl | rfl | rfl : i = 0 ∨ i = 1 ∨ i = 2 ∨ i = 3 ∨ i = 4 ∨ i = 5 ∨ i = 6 ∨ i = 7 ∨ i = 8 := by omega
                    · refine wpOp_plain rfl rfl ?_
                      go_simp
                      exact ⟨⟨by simp [hsz.out], hx.out⟩, upd z 45 (.pointer (some ⟨tb, 1, none⟩)), (by unfold Hid; simp [upd]), hz.next apx hsz.out 0 (by decide) _ (fun _ h => Option.some.inj h)⟩
                    · have e0 : z 45 = .pointer (some ⟨tb, 1, none⟩) := hz 0 _ (hw 0 (by kernel_rfl)) rfl
                      have cl : wx.cell? ⟨tb, 1, none⟩ = some (.slice (some ⟨b2, off2, none⟩) n c) := (hx.out.cell (p := ⟨tb, 1, none⟩) (World.block_lt_of_cell? _ _ F1.out)).trans F1.out
                      refine wpOp_plain rfl rfl ?_
                      go_simp
                      exact ⟨⟨by simp [hsz.out], hx.out⟩, upd z 46 (.slice (some ⟨b2, off2, none⟩) n c), (by unfold Hid; simp [upd, e0]), hz.next apx hsz.out 1 (by decide) _ (fun _ h => Option.some.inj h)⟩
                    · refine wpOp_plain rfl rfl ?_
                      go_simp
                      exact ⟨⟨by simp [hsz.out], hx.out⟩, upd z 47 (.int .i64 m), (by unfold Hid; simp [upd]), hz.next apx hsz.out 2 (by decide) _ (fun _ h => Option.some.inj h)⟩
                    · have e1 : z 46 = .slice (some ⟨b2, off2, none⟩) n c := hz 1 _ (hw 1 (by kernel_rfl)) rfl
                      have e2 : z 47 = .int .i64 m := hz 2 _ (hw 2 (by kernel_rfl)) rfl
                      refine wpOp_plain rfl rfl ?_
                      go_simp
                      exact ⟨⟨by simp [hsz.out], hx.out⟩, upd z 48 (.pointer (some ⟨b2, off2 + m * 3, none⟩)), (by unfold Hid; simp [upd, e1, e2]), hz.next apx hsz.out 3 (by decide) _ (fun _ h => Option.some.inj h)⟩
                    · have e3 : z 48 = .pointer (some ⟨b2, off2 + m * 3, none⟩) := hz 3 _ (hw 3 (by kernel_rfl)) rfl
                      refine wpOp_plain rfl rfl ?_
                      go_simp
                      exact ⟨⟨by simp [hsz.out], hx.out⟩, upd z 49 (.pointer (some ⟨b2, off2 + m * 3, none⟩)), (by unfold Hid; simp [upd, e3]), hz.next apx hsz.out 4 (by decide) _ (fun _ h => Option.some.inj h)⟩
                    · have e4 : z 49 = .pointer (some ⟨b2, off2 + m * 3, none⟩) := hz 4 _ (hw 4 (by kernel_rfl)) rfl
                      have cl : wx.cell? ⟨b2, off2 + m * 3, none⟩ = some (.string x.p) := (hx.out.cell (p := ⟨b2, off2 + m * 3, none⟩) (World.block_lt_of_cell? _ _ F2.out)).trans F2.out
                      refine wpOp_plain rfl rfl ?_
                      go_simp
                      exact ⟨⟨by simp [hsz.out], hx.out⟩, upd z 50 (.string x.p), (by unfold Hid; simp [upd, e4]), hz.next apx hsz.out 5 (by decide) _ (fun _ h => Option.some.inj h)⟩
                    · refine wpOp_plain rfl rfl ?_
                      go_simp
                      exact ⟨⟨by simp [hsz.out], hx.out⟩, upd z 51 (.pointer (some ⟨bx, 0, none⟩)), (by unfold Hid; simp [upd]), hz.next apx hsz.out 6 (by decide) _ (fun _ h => Option.some.inj h)⟩
                    · have e6 : z 51 = .pointer (some ⟨bx, 0, none⟩) := hz 6 _ (hw 6 (by kernel_rfl)) rfl
                      have cl : wx.cell? ⟨bx, 0, none⟩ = some (.string r.p) := (hx.out.cell (p := ⟨bx, 0, none⟩) (World.block_lt_of_cell? _ _ F3.out)).trans F3.out
                      refine wpOp_plain rfl rfl ?_
                      go_simp
                      exact ⟨⟨by simp [hsz.out], hx.out⟩, upd z 52 (.string r.p), (by unfold Hid; simp [upd, e6]), hz.next apx hsz.out 7 (by decide) _ (fun _ h => Option.some.inj h)⟩
                    · have e5 : z 50 = .string x.p := hz 5 _ (hw 5 (by kernel_rfl)) rfl
                      have e7 : z 52 = .string r.p := hz 7 _ (hw 7 (by kernel_rfl)) rfl
                      refine wpOp_plain rfl rfl ?_
                      go_simp
                      exact ⟨⟨by simp [hsz.out], hx.out⟩, upd z 53 (.bool (!lt)), (by unfold Hid; simp [upd, e5, e7]), hz.next apx hsz.out 8 (by decide) _ (fun _ h => Option.some.inj h)⟩
                  · exact ⟨⟨rfl, (Below.refl _ _).drew⟩, fun xx => (#[.agg (tabV v (some ⟨b2, off2, none⟩) n c), .pointer (some ⟨tb, 0, none⟩), u2, .int .i64 k, .pointer (some ⟨bx, 0, none⟩), .int .i64 m, .pointer (some ⟨tb, 1, none⟩), .slice (some ⟨b2, off2, none⟩) n c, .int .i64 n, .bool false, .bool false, .pointer (some ⟨tb, 0, none⟩), .int .i64 v, .pointer (some ⟨tb, 1, none⟩), .slice (some ⟨b2, off2, none⟩) n c, .int .i64 n, .bool false, .bool false, .int .i64 k, .pointer (some ⟨tb, 1, none⟩), .slice (some ⟨b2, off2, none⟩) n c, .int .i64 n, .bool true, u23, u24, .pointer (some ⟨tb, 1, none⟩), .slice (some ⟨b2, off2, none⟩) n c, .int .i64 k, .pointer (some ⟨b2, off2 + k * 3, none⟩), .agg #[.string r.p, .int .i64 r.a, .int .u64 (r.c : Nat)], .pointer (some ⟨bx, 0, none⟩), .string r.p, .bool true, .bool false, .bool false, .pointer (some ⟨bx, 1, none⟩), .agg (lab r.a r.c), .bool true, .bool false, .bool false, .int .i64 m, .int .i64 k, .bool true, u43, u44, u45, u46, u47, u48, u49, u50, u51, u52, u53] : Array Value).getD xx undef, (by rfl), Holding.start⟩
                · have hge : ¬ (m : Int) < k := by omega
                  have Hnext := Lib.hid (okP_next hP.out Hrk.out Hok.out (fun j x hj hx => hM.out j x (by omega) hx))
                  have HLX := Lib.hid (Low6.out.trans (hli.out.mono Low6.out.size))
                  go_wp2
                  go_roundw
                  case rel => exact ⟨k + 1, by omega, by go_num, Hnext.out, HLX.out⟩
                  case measure => simp [intOf]; omega
            · have HNo : Hid (¬ Okay v rs) := okN_bad Hrk.out (by unfold okR; rw [hp, decide_eq_false hc]; rfl)
              have HP2 := HP.out
              have HM2 := HM.out
              rw [show decide (Pth.pre r.p = 0) = true by rw [hp]; rfl] at HP2
              rw [show decide (Lab.chk r.a = 0) = false by rw [decide_eq_false hc]] at HM2
              have HP := Lib.hid HP2
              have HM := Lib.hid HM2
              clear hp hc HP2 HM2
              go_wp2_with (first
                | (go_at_call 21; refine (HP.out _).mono ?_; rintro e w5 ⟨rfl, low5⟩; have Low5 := Lib.hid (Low4.out.trans (low5.mono Low4.out.size)); have H5 := Lib.hid ((low5.block _ (Array.getElem?_eq_some_iff.1 H4.out).1).trans H4.out); have cL5 := loadLb_eq (rule_row H5.out).2; clear low5)
                | (go_at_call 22; refine (HM.out w5).mono ?_; rintro e w6 ⟨rfl, low6⟩; have Low6 := Lib.hid (Low5.out.trans (low6.mono Low5.out.size)); clear low6))
              go_ret
              exact ⟨2, rfl, .inr rfl, ⟨fun h => absurd h (by decide), fun h => absurd h HNo.out⟩, by rw [HTB.out]; exact K1.out.trans (Low6.out.mono KS.out)⟩
          · have HNo : Hid (¬ Okay v rs) := okN_bad Hrk.out (by unfold okR; rw [decide_eq_false hp]; rfl)
            have HP2 := HP.out
            rw [show decide (Pth.pre r.p = 0) = false by rw [decide_eq_false hp]] at HP2
            have HP := Lib.hid HP2
            clear hp HP2
            go_wp2_with (go_at_call 21; refine (HP.out _).mono ?_; rintro e w5 ⟨rfl, low5⟩; have Low5 := Lib.hid (Low4.out.trans (low5.mono Low4.out.size)); clear low5)
            go_ret
            exact ⟨2, rfl, .inr rfl, ⟨fun h => absurd h (by decide), fun h => absurd h HNo.out⟩, by rw [HTB.out]; exact K1.out.trans (Low5.out.mono KS.out)⟩
        · have hge : ¬ (k : Int) < n := by omega
          have ek : k = n := by omega
          have HOk : Hid (Okay v rs) := ⟨by have := Hn.out; have := HV2.out; omega, by have := Hn.out; have := HV.out; omega, by have h := hP.out; rw [ek, ← Hn.out] at h; exact okP_all h⟩
          go_wp2
          go_ret
          exact ⟨0, rfl, .inl rfl, ⟨fun _ => HOk.out, fun _ => rfl⟩, by rw [HTB.out]; exact K1.out.trans (hlow.out.mono KS.out)⟩
end Go.Proofs.YtpkolmmahoopcaaGreatDoor.Rul
