/- DERIVED. The contract of the reference's Play. -/
import Derived.Test.YtnpbogioehpeoaaMyrPlay
namespace Go.Proofs.Ytnpbogioehpeoaa.Myr
open Go.RowKit Lns
set_option maxRecDepth 100000 in
set_option maxHeartbeats 4000000 in
theorem rplay_any (a b : List ByteArray) (S : List Sti) (va vb vs : Value) (w : World) (hA : RdT a va w) (hB : RdT b vb w) (hS : RdS S vs w) (hn : S.length ≤ 1000) :
    Calls Try.prog 14 #[va, vb, vs] w fun e w' => ∃ v, e = .returned (.tuple #[v, .int .i64 (codeP (plays a b S 0 0 []))]) ∧ OwnT w.heap.size ((plays a b S 0 0 []).getD []) v w' ∧ Below w.heap.size w w' := by
  obtain ⟨A1, cc1, rfl, hcc1, hka⟩ := hA
  obtain ⟨A2, cc2, rfl, hcc2, hkb⟩ := hB
  obtain ⟨A3, cc3, rfl, hcc3, hks⟩ := hS
  obtain ⟨n, hn1⟩ : ∃ n, n = a.length := ⟨_, rfl⟩
  obtain ⟨m, hm⟩ : ∃ m, m = b.length := ⟨_, rfl⟩
  obtain ⟨N, hN⟩ : ∃ N, N = S.length := ⟨_, rfl⟩
  rw [← hn1] at hka ⊢
  rw [← hm] at hkb ⊢
  rw [← hN] at hks hn ⊢
  have HN1 := Lib.hid hn1
  have HM := Lib.hid hm
  have HN := Lib.hid hN
  have HKA := Lib.hid hka
  have HKB := Lib.hid hkb
  have HKS := Lib.hid hks
  have Hst : Hid (PI w a b S 0 0 0 [] (.slice none 0 0) w) := ⟨OwnT.nil _ _, Below.refl _ _, by rw [List.drop_zero], Nat.le_refl _⟩
  clear hcc1 hcc2 hcc3 hka hkb hks hn1 hm hN
  go_enter Try.func14, Try.ntmps14
  go_wp2
  go_loopw [8, 9, 10, 11] (fun v ii jj kk wr => ∃ k i j : Nat, kk = .int .i64 k ∧ ii = .int .i64 i ∧ jj = .int .i64 j ∧ k ≤ N ∧ i ≤ k ∧ j ≤ k ∧ ∃ o, Hid (PI w a b S k i j o v wr)) (fun _ _ _ kk _ => N - (intOf kk).toNat)
  case atStart => exact ⟨0, 0, 0, rfl, rfl, rfl, Nat.zero_le _, Nat.le_refl _, Nat.le_refl _, _, Hst⟩
  case round =>
    obtain ⟨k, i, j, rfl, rfl, rfl, hk, hik, hjk, o, HI⟩ := hrel
    clear Hst
    by_cases hp : k < N
    · have hpI : (k : Int) < N := by omega
      have hpl : k < S.length := by rw [← HN.out]; exact hp
      obtain ⟨g, off, rfl, hg, hc⟩ := HKS.out (by omega)
      obtain ⟨c0, c1, c2⟩ := hc k hp
      have c0 := (HI.out.low.cell (p := ⟨g, off + k * 3, none⟩) hg).trans c0
      have c1 := (HI.out.low.cell (p := ⟨g, off + k * 3 + 1, none⟩) hg).trans c1
      have c2 := (HI.out.low.cell (p := ⟨g, off + k * 3 + 2, none⟩) hg).trans c2
      have HGo := Lib.hid (fun i' j' t (e : pst a b (sth S k) i j = some (i', j', t)) => plays_go (o := o) hpl e)
      have HNo := Lib.hid (fun (e : pst a b (sth S k) i j = none) => plays_stop (o := o) hpl e)
      obtain ⟨g0, hg0⟩ : ∃ g0, g0 = wr.heap.size := ⟨_, rfl⟩
      have Hg0 := Lib.hid hg0
      obtain ⟨⟨t0, t1, t2⟩, ht⟩ : ∃ t, t = sth S k := ⟨_, rfl⟩
      rw [← ht] at c0 c1 c2 HGo HNo
      dsimp only at c0 c1 c2 HGo HNo
      have H5 := Lib.hid (HI.out.box (.cells #[.int .i64 t0, .int .i64 t1, .int .i64 t2] 33))
      have hbox : (wr.alloc (.cells #[.int .i64 t0, .int .i64 t1, .int .i64 t2] 33)).heap[g0]? = some (.cells #[.int .i64 t0, .int .i64 t1, .int .i64 t2] 33 (0, 0)) := by rw [hg0]; exact heap_alloc_new _ _
      clear ht HI hg0 hc
      go_upto_region 8 with (fail)
      generalize wr.alloc (.cells #[.int .i64 t0, .int .i64 t1, .int .i64 t2] 33) = w5 at H5 hbox ⊢
      rw [← Hg0.out]
      clear c0 c1 c2
      obtain ⟨d0, d1, d2⟩ : w5.cell? ⟨g0, 0, none⟩ = some (.int .i64 t0) ∧ w5.cell? ⟨g0, 1, none⟩ = some (.int .i64 t1) ∧ w5.cell? ⟨g0, 2, none⟩ = some (.int .i64 t2) := ⟨cell_row hbox 0, cell_row hbox 1, cell_row hbox 2⟩
      clear hbox
      have fi : ((i : Int) == i) = true := by simp
      have fj : ((j : Int) == j) = true := by simp
      by_cases h0 : t0 = 0
      · subst h0
        by_cases h1 : t1 = (i : Int)
        · subst h1
          by_cases h2 : t2 = (j : Int)
          · subst h2
            by_cases hi : i < n
            · have hiI : (i : Int) < n := by omega
              have hil : i < a.length := by rw [← HN1.out]; exact hi
              by_cases hj : j < m
              · have hjI : (j : Int) < m := by omega
                have hjl : j < b.length := by rw [← HM.out]; exact hj
                obtain ⟨gb, ob, rfl, hgb, hcb⟩ := HKB.out (by omega)
                have HCB := Lib.hid (hcb j hj)
                clear hcb
                obtain ⟨ga, oa, rfl, hga, hca⟩ := HKA.out (by omega)
                have ca := (H5.out.low.cell (p := ⟨ga, oa + i, none⟩) hga).trans (hca i hi)
                have cb0 := (H5.out.low.cell (p := ⟨gb, ob + j, none⟩) hgb).trans HCB.out
                clear hca
                by_cases he : nth a i = nth b j
                · have HE : Hid (plays a b (S.drop k) i j o = plays a b (S.drop (k + 1)) (i + 1) (j + 1) (o ++ [nth b j])) := HGo.out _ _ true (pst_keep hil hjl he)
                  have hte : (nth a i).toList = (nth b j).toList := by rw [he]
                  clear HGo HNo he hil hjl
                  go_quiet (fail)
                  clear ca cb0 hte
                  have H6 := Lib.hid (H5.out.drewN nq)
                  generalize w5.drewN nq = w6 at H6 ⊢
                  clear H5 d0 d1 d2
                  have cb := (H6.out.low.cell (p := ⟨gb, ob + j, none⟩) hgb).trans HCB.out
                  have H7 := H6
                  have hws : Hid (w.heap.size ≤ w6.heap.size) := H7.out.low.size
                  have hfw : Hid (o.length ≤ 100000) := by have := H7.out.few; show _ ≤ 100000; omega
                  clear H6
                  go_wp2_with (at_builtin; refine wpList_append_txt rfl _ _ rfl w.heap.size u8 o (nth b j) rfl H7.out.own rfl hfw.out hws.out ?_; intro v8 w8 ho8 hb8; have H8 := Lib.hid (H7.out.add HE.out ho8 (hb8 _ _ H7.out.low (Nat.le_refl _)) (by simp)); clear ho8 hb8)
                  go_roundw
                  case rel => exact ⟨k + 1, i + 1, j + 1, by go_num, by go_num, by go_num, by omega, by omega, by omega, _, H8⟩
                  case measure => simp [intOf]; omega
                · have hte := ne_lists (a := nth a i) (b := nth b j) (fun h => he (bytes_eq h))
                  have HR : Hid (plays a b S 0 0 [] = none) := H5.out.res.trans (HNo.out (pst_keepNo (fun h => he h.2.2)))
                  have Hlow := Lib.hid H5.out.low
                  clear HGo HNo H5
                  go_quiet (fail)
                  revert nq
                  intro n0
                  go_wp2
                  go_ret2
                  exact ⟨_, by rw [HR.out]; rfl, by rw [HR.out]; exact OwnT.nil _ _, Below.drewN Hlow.out _⟩
              · have hjI : ¬ (j : Int) < m := by omega
                have HR : Hid (plays a b S 0 0 [] = none) := H5.out.res.trans (HNo.out (pst_keepNo (fun h => hj (by rw [HM.out]; exact h.2.1))))
                have Hlow := Lib.hid H5.out.low
                clear HGo HNo H5
                go_quiet (fail)
                revert nq
                intro n0
                go_wp2
                go_ret2
                exact ⟨_, by rw [HR.out]; rfl, by rw [HR.out]; exact OwnT.nil _ _, Below.drewN Hlow.out _⟩
            · have hiI : ¬ (i : Int) < n := by omega
              have HR : Hid (plays a b S 0 0 [] = none) := H5.out.res.trans (HNo.out (pst_keepNo (fun h => hi (by rw [HN1.out]; exact h.1))))
              have Hlow := Lib.hid H5.out.low
              clear HGo HNo H5
              go_quiet (fail)
              revert nq
              intro n0
              go_wp2
              go_ret2
              exact ⟨_, by rw [HR.out]; rfl, by rw [HR.out]; exact OwnT.nil _ _, Below.drewN Hlow.out _⟩
          · have h2b : (t2 == (j : Int)) = false := by simpa using h2
            by_cases hxi : i < n
            · have hxiI : (i : Int) < n := by omega
              by_cases hxj : j < m
              · have hxjI : (j : Int) < m := by omega
                have HR : Hid (plays a b S 0 0 [] = none) := H5.out.res.trans (HNo.out (pst_no (fun h => h2 (congrArg (fun x => x.2.2) h)) (fun h => by have := congrArg Prod.fst h; simp at this) (fun h => by have := congrArg Prod.fst h; simp at this)))
                have Hlow := Lib.hid H5.out.low
                clear HGo HNo H5
                go_quiet (fail)
                revert nq
                intro n0
                go_wp2
                go_ret2
                exact ⟨_, by rw [HR.out]; rfl, by rw [HR.out]; exact OwnT.nil _ _, Below.drewN Hlow.out _⟩
              · have hxjI : ¬ (j : Int) < m := by omega
                have HR : Hid (plays a b S 0 0 [] = none) := H5.out.res.trans (HNo.out (pst_no (fun h => h2 (congrArg (fun x => x.2.2) h)) (fun h => by have := congrArg Prod.fst h; simp at this) (fun h => by have := congrArg Prod.fst h; simp at this)))
                have Hlow := Lib.hid H5.out.low
                clear HGo HNo H5
                go_quiet (fail)
                revert nq
                intro n0
                go_wp2
                go_ret2
                exact ⟨_, by rw [HR.out]; rfl, by rw [HR.out]; exact OwnT.nil _ _, Below.drewN Hlow.out _⟩
            · have hxiI : ¬ (i : Int) < n := by omega
              have HR : Hid (plays a b S 0 0 [] = none) := H5.out.res.trans (HNo.out (pst_no (fun h => h2 (congrArg (fun x => x.2.2) h)) (fun h => by have := congrArg Prod.fst h; simp at this) (fun h => by have := congrArg Prod.fst h; simp at this)))
              have Hlow := Lib.hid H5.out.low
              clear HGo HNo H5
              go_quiet (fail)
              revert nq
              intro n0
              go_wp2
              go_ret2
              exact ⟨_, by rw [HR.out]; rfl, by rw [HR.out]; exact OwnT.nil _ _, Below.drewN Hlow.out _⟩
        · have h1b : (t1 == (i : Int)) = false := by simpa using h1
          by_cases hxi : i < n
          · have hxiI : (i : Int) < n := by omega
            by_cases hxj : j < m
            · have hxjI : (j : Int) < m := by omega
              have HR : Hid (plays a b S 0 0 [] = none) := H5.out.res.trans (HNo.out (pst_no (fun h => h1 (congrArg (fun x => x.2.1) h)) (fun h => by have := congrArg Prod.fst h; simp at this) (fun h => by have := congrArg Prod.fst h; simp at this)))
              have Hlow := Lib.hid H5.out.low
              clear HGo HNo H5
              go_quiet (fail)
              revert nq
              intro n0
              go_wp2
              go_ret2
              exact ⟨_, by rw [HR.out]; rfl, by rw [HR.out]; exact OwnT.nil _ _, Below.drewN Hlow.out _⟩
            · have hxjI : ¬ (j : Int) < m := by omega
              have HR : Hid (plays a b S 0 0 [] = none) := H5.out.res.trans (HNo.out (pst_no (fun h => h1 (congrArg (fun x => x.2.1) h)) (fun h => by have := congrArg Prod.fst h; simp at this) (fun h => by have := congrArg Prod.fst h; simp at this)))
              have Hlow := Lib.hid H5.out.low
              clear HGo HNo H5
              go_quiet (fail)
              revert nq
              intro n0
              go_wp2
              go_ret2
              exact ⟨_, by rw [HR.out]; rfl, by rw [HR.out]; exact OwnT.nil _ _, Below.drewN Hlow.out _⟩
          · have hxiI : ¬ (i : Int) < n := by omega
            have HR : Hid (plays a b S 0 0 [] = none) := H5.out.res.trans (HNo.out (pst_no (fun h => h1 (congrArg (fun x => x.2.1) h)) (fun h => by have := congrArg Prod.fst h; simp at this) (fun h => by have := congrArg Prod.fst h; simp at this)))
            have Hlow := Lib.hid H5.out.low
            clear HGo HNo H5
            go_quiet (fail)
            revert nq
            intro n0
            go_wp2
            go_ret2
            exact ⟨_, by rw [HR.out]; rfl, by rw [HR.out]; exact OwnT.nil _ _, Below.drewN Hlow.out _⟩
      · have h0b : (t0 == 0) = false := by simpa using h0
        by_cases h1 : t0 = 1
        · subst h1
          by_cases h1 : t1 = (i : Int)
          · subst h1
            by_cases h2 : t2 = 0
            · subst h2
              by_cases hi : i < n
              · have hiI : (i : Int) < n := by omega
                have HE : Hid (plays a b (S.drop k) i j o = plays a b (S.drop (k + 1)) (i + 1) j o) := HGo.out _ _ false (pst_gone (by rw [← HN1.out]; exact hi))
                clear HGo HNo
                go_quiet (fail)
                have H6 := Lib.hid (H5.out.drewN nq)
                have e6 : (w5.drewN nq).cell? ⟨g0, 0, none⟩ = some (.int .i64 1) ∧ (w5.drewN nq).cell? ⟨g0, 1, none⟩ = some (.int .i64 i) ∧ (w5.drewN nq).cell? ⟨g0, 2, none⟩ = some (.int .i64 0) := ⟨d0, d1, d2⟩
                obtain ⟨e0, e1, e2⟩ := e6
                clear d0 d1 d2
                generalize w5.drewN nq = w6 at H6 e0 e1 e2 ⊢
                have H8 := Lib.hid (H6.out.add HE.out H6.out.own H6.out.low (by omega))
                clear H5 H6
                go_wp2
                go_roundw
                case rel => exact ⟨k + 1, i + 1, j, by go_num, by go_num, rfl, by omega, by omega, by omega, _, H8⟩
                case measure => simp [intOf]; omega
              · have hiI : ¬ (i : Int) < n := by omega
                have HR : Hid (plays a b S 0 0 [] = none) := H5.out.res.trans (HNo.out (pst_goneNo (fun h => hi (by rw [HN1.out]; exact h))))
                have Hlow := Lib.hid H5.out.low
                clear HGo HNo H5
                go_quiet (fail)
                revert nq
                intro n0
                go_wp2
                go_ret2
                exact ⟨_, by rw [HR.out]; rfl, by rw [HR.out]; exact OwnT.nil _ _, Below.drewN Hlow.out _⟩
            · have h2b : (t2 == 0) = false := by simpa using h2
              by_cases hxi : i < n
              · have hxiI : (i : Int) < n := by omega
                have HR : Hid (plays a b S 0 0 [] = none) := H5.out.res.trans (HNo.out (pst_no (fun h => by have := congrArg Prod.fst h; simp at this) (fun h => h2 (congrArg (fun x => x.2.2) h)) (fun h => by have := congrArg Prod.fst h; simp at this)))
                have Hlow := Lib.hid H5.out.low
                clear HGo HNo H5
                go_quiet (fail)
                revert nq
                intro n0
                go_wp2
                go_ret2
                exact ⟨_, by rw [HR.out]; rfl, by rw [HR.out]; exact OwnT.nil _ _, Below.drewN Hlow.out _⟩
              · have hxiI : ¬ (i : Int) < n := by omega
                have HR : Hid (plays a b S 0 0 [] = none) := H5.out.res.trans (HNo.out (pst_no (fun h => by have := congrArg Prod.fst h; simp at this) (fun h => h2 (congrArg (fun x => x.2.2) h)) (fun h => by have := congrArg Prod.fst h; simp at this)))
                have Hlow := Lib.hid H5.out.low
                clear HGo HNo H5
                go_quiet (fail)
                revert nq
                intro n0
                go_wp2
                go_ret2
                exact ⟨_, by rw [HR.out]; rfl, by rw [HR.out]; exact OwnT.nil _ _, Below.drewN Hlow.out _⟩
          · have h1b : (t1 == (i : Int)) = false := by simpa using h1
            by_cases hxi : i < n
            · have hxiI : (i : Int) < n := by omega
              have HR : Hid (plays a b S 0 0 [] = none) := H5.out.res.trans (HNo.out (pst_no (fun h => by have := congrArg Prod.fst h; simp at this) (fun h => h1 (congrArg (fun x => x.2.1) h)) (fun h => by have := congrArg Prod.fst h; simp at this)))
              have Hlow := Lib.hid H5.out.low
              clear HGo HNo H5
              go_quiet (fail)
              revert nq
              intro n0
              go_wp2
              go_ret2
              exact ⟨_, by rw [HR.out]; rfl, by rw [HR.out]; exact OwnT.nil _ _, Below.drewN Hlow.out _⟩
            · have hxiI : ¬ (i : Int) < n := by omega
              have HR : Hid (plays a b S 0 0 [] = none) := H5.out.res.trans (HNo.out (pst_no (fun h => by have := congrArg Prod.fst h; simp at this) (fun h => h1 (congrArg (fun x => x.2.1) h)) (fun h => by have := congrArg Prod.fst h; simp at this)))
              have Hlow := Lib.hid H5.out.low
              clear HGo HNo H5
              go_quiet (fail)
              revert nq
              intro n0
              go_wp2
              go_ret2
              exact ⟨_, by rw [HR.out]; rfl, by rw [HR.out]; exact OwnT.nil _ _, Below.drewN Hlow.out _⟩
        · have h1c : (t0 == 1) = false := by simpa using h1
          by_cases h2 : t0 = 2
          · subst h2
            by_cases h1 : t1 = 0
            · subst h1
              by_cases h2 : t2 = (j : Int)
              · subst h2
                by_cases hj : j < m
                · have hjI : (j : Int) < m := by omega
                  have hjl : j < b.length := by rw [← HM.out]; exact hj
                  obtain ⟨gb, ob, rfl, hgb, hcb⟩ := HKB.out (by omega)
                  have HCB := Lib.hid (hcb j hj)
                  clear hcb
                  have HE : Hid (plays a b (S.drop k) i j o = plays a b (S.drop (k + 1)) i (j + 1) (o ++ [nth b j])) := HGo.out _ _ true (pst_new hjl)
                  clear HGo HNo hjl
                  go_quiet (fail)
                  have H6a := Lib.hid (H5.out.drewN nq)
                  have e6 : (w5.drewN nq).cell? ⟨g0, 0, none⟩ = some (.int .i64 2) ∧ (w5.drewN nq).cell? ⟨g0, 1, none⟩ = some (.int .i64 0) ∧ (w5.drewN nq).cell? ⟨g0, 2, none⟩ = some (.int .i64 j) := ⟨d0, d1, d2⟩
                  obtain ⟨e0, e1, e2⟩ := e6
                  have cb := (H6a.out.low.cell (p := ⟨gb, ob + j, none⟩) hgb).trans HCB.out
                  generalize w5.drewN nq = w6 at H6a e0 e1 e2 cb ⊢
                  clear H5 d0 d1 d2
                  have H7 := H6a
                  have hws : Hid (w.heap.size ≤ w6.heap.size) := H7.out.low.size
                  have hfw : Hid (o.length ≤ 100000) := by have := H7.out.few; show _ ≤ 100000; omega
                  clear H6a
                  go_wp2_with (at_builtin; refine wpList_append_txt rfl _ _ rfl w.heap.size u8 o (nth b j) rfl H7.out.own rfl hfw.out hws.out ?_; intro v8 w8 ho8 hb8; have H8 := Lib.hid (H7.out.add HE.out ho8 (hb8 _ _ H7.out.low (Nat.le_refl _)) (by simp)); clear ho8 hb8)
                  go_roundw
                  case rel => exact ⟨k + 1, i, j + 1, by go_num, rfl, by go_num, by omega, by omega, by omega, _, H8⟩
                  case measure => simp [intOf]; omega
                · have hjI : ¬ (j : Int) < m := by omega
                  have HR : Hid (plays a b S 0 0 [] = none) := H5.out.res.trans (HNo.out (pst_newNo (fun h => hj (by rw [HM.out]; exact h))))
                  have Hlow := Lib.hid H5.out.low
                  clear HGo HNo H5
                  go_quiet (fail)
                  revert nq
                  intro n0
                  go_wp2
                  go_ret2
                  exact ⟨_, by rw [HR.out]; rfl, by rw [HR.out]; exact OwnT.nil _ _, Below.drewN Hlow.out _⟩
              · have h2b : (t2 == (j : Int)) = false := by simpa using h2
                by_cases hxj : j < m
                · have hxjI : (j : Int) < m := by omega
                  have HR : Hid (plays a b S 0 0 [] = none) := H5.out.res.trans (HNo.out (pst_no (fun h => by have := congrArg Prod.fst h; simp at this) (fun h => by have := congrArg Prod.fst h; simp at this) (fun h => h2 (congrArg (fun x => x.2.2) h))))
                  have Hlow := Lib.hid H5.out.low
                  clear HGo HNo H5
                  go_quiet (fail)
                  revert nq
                  intro n0
                  go_wp2
                  go_ret2
                  exact ⟨_, by rw [HR.out]; rfl, by rw [HR.out]; exact OwnT.nil _ _, Below.drewN Hlow.out _⟩
                · have hxjI : ¬ (j : Int) < m := by omega
                  have HR : Hid (plays a b S 0 0 [] = none) := H5.out.res.trans (HNo.out (pst_no (fun h => by have := congrArg Prod.fst h; simp at this) (fun h => by have := congrArg Prod.fst h; simp at this) (fun h => h2 (congrArg (fun x => x.2.2) h))))
                  have Hlow := Lib.hid H5.out.low
                  clear HGo HNo H5
                  go_quiet (fail)
                  revert nq
                  intro n0
                  go_wp2
                  go_ret2
                  exact ⟨_, by rw [HR.out]; rfl, by rw [HR.out]; exact OwnT.nil _ _, Below.drewN Hlow.out _⟩
            · have h1b : (t1 == 0) = false := by simpa using h1
              by_cases hxj : j < m
              · have hxjI : (j : Int) < m := by omega
                by_cases hxt : t2 = (j : Int)
                · have hxtI : (t2 == (j : Int)) = true := by simpa using hxt
                  have HR : Hid (plays a b S 0 0 [] = none) := H5.out.res.trans (HNo.out (pst_no (fun h => by have := congrArg Prod.fst h; simp at this) (fun h => by have := congrArg Prod.fst h; simp at this) (fun h => h1 (congrArg (fun x => x.2.1) h))))
                  have Hlow := Lib.hid H5.out.low
                  clear HGo HNo H5
                  go_quiet (fail)
                  revert nq
                  intro n0
                  go_wp2
                  go_ret2
                  exact ⟨_, by rw [HR.out]; rfl, by rw [HR.out]; exact OwnT.nil _ _, Below.drewN Hlow.out _⟩
                · have hxtI : (t2 == (j : Int)) = false := by simpa using hxt
                  have HR : Hid (plays a b S 0 0 [] = none) := H5.out.res.trans (HNo.out (pst_no (fun h => by have := congrArg Prod.fst h; simp at this) (fun h => by have := congrArg Prod.fst h; simp at this) (fun h => h1 (congrArg (fun x => x.2.1) h))))
                  have Hlow := Lib.hid H5.out.low
                  clear HGo HNo H5
                  go_quiet (fail)
                  revert nq
                  intro n0
                  go_wp2
                  go_ret2
                  exact ⟨_, by rw [HR.out]; rfl, by rw [HR.out]; exact OwnT.nil _ _, Below.drewN Hlow.out _⟩
              · have hxjI : ¬ (j : Int) < m := by omega
                have HR : Hid (plays a b S 0 0 [] = none) := H5.out.res.trans (HNo.out (pst_no (fun h => by have := congrArg Prod.fst h; simp at this) (fun h => by have := congrArg Prod.fst h; simp at this) (fun h => h1 (congrArg (fun x => x.2.1) h))))
                have Hlow := Lib.hid H5.out.low
                clear HGo HNo H5
                go_quiet (fail)
                revert nq
                intro n0
                go_wp2
                go_ret2
                exact ⟨_, by rw [HR.out]; rfl, by rw [HR.out]; exact OwnT.nil _ _, Below.drewN Hlow.out _⟩
          · have h2b : (t0 == 2) = false := by simpa using h2
            have HR : Hid (plays a b S 0 0 [] = none) := H5.out.res.trans (HNo.out (pst_no (fun h => h0 (congrArg Prod.fst h)) (fun h => h1 (congrArg Prod.fst h)) (fun h => h2 (congrArg Prod.fst h))))
            have Hlow := Lib.hid H5.out.low
            clear HGo HNo H5
            go_quiet (fail)
            revert nq
            intro n0
            go_wp2
            go_ret2
            exact ⟨_, by rw [HR.out]; rfl, by rw [HR.out]; exact OwnT.nil _ _, Below.drewN Hlow.out _⟩
    · have hpI : ¬ (k : Int) < N := by omega
      have hpl : ¬ k < S.length := by rw [← HN.out]; exact hp
      have hr := HI.out.res
      rw [plays_end hpl, ← HN1.out, ← HM.out] at hr
      by_cases hi : i < n
      · have hiI : (i : Int) < n := by omega
        rw [if_pos (.inl hi)] at hr
        have HR := Lib.hid hr
        have Hlow := Lib.hid HI.out.low
        clear hr HI
        go_wp2
        go_ret2
        exact ⟨_, by rw [HR.out]; rfl, by rw [HR.out]; exact OwnT.nil _ _, Hlow.out⟩
      · have hiI : ¬ (i : Int) < n := by omega
        by_cases hj : j < m
        · have hjI : (j : Int) < m := by omega
          rw [if_pos (.inr hj)] at hr
          have HR := Lib.hid hr
          have Hlow := Lib.hid HI.out.low
          clear hr HI
          go_wp2
          go_ret2
          exact ⟨_, by rw [HR.out]; rfl, by rw [HR.out]; exact OwnT.nil _ _, Hlow.out⟩
        · have hjI : ¬ (j : Int) < m := by omega
          rw [if_neg (fun h => h.elim hi hj)] at hr
          have HR := Lib.hid hr
          have HQ := Lib.hid (And.intro HI.out.own HI.out.low)
          clear hr HI
          go_wp2
          go_ret2
          exact ⟨_, by rw [HR.out]; rfl, by rw [HR.out]; exact HQ.out.1, HQ.out.2⟩
end Go.Proofs.Ytnpbogioehpeoaa.Myr
