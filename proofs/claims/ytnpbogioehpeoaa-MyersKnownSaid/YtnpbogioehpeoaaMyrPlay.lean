/- DERIVED. The contract of myers.Play. -/
import Derived.Test.YtnpbogioehpeoaaMyrLeft
namespace Go.Proofs.Ytnpbogioehpeoaa.Myr
open Go.RowKit Lns
def pst (a b : List ByteArray) (s : Sti) (i j : Nat) : Option (Nat × Nat × Bool) :=
  if s = (0, (i : Int), (j : Int)) ∧ i < a.length ∧ j < b.length ∧ nth a i = nth b j then some (i + 1, j + 1, true)
  else if s = (1, (i : Int), 0) ∧ i < a.length then some (i + 1, j, false)
  else if s = (2, 0, (j : Int)) ∧ j < b.length then some (i, j + 1, true) else none
def plays (a b : List ByteArray) : List Sti → Nat → Nat → List ByteArray → Option (List ByteArray)
  | [], i, j, o => if i < a.length ∨ j < b.length then none else some o
  | s :: l, i, j, o => match pst a b s i j with
    | none => none
    | some (i', j', t) => plays a b l i' j' (if t then o ++ [nth b j] else o)
def codeP (r : Option (List ByteArray)) : Int := if r.isSome then 0 else 4
theorem dropS {S : List Sti} {k : Nat} (h : k < S.length) : S.drop k = sth S k :: S.drop (k + 1) := by rw [sth_lt h]; exact List.drop_eq_getElem_cons h
theorem plays_go {a b : List ByteArray} {S : List Sti} {k i j i' j' : Nat} {o : List ByteArray} {t : Bool} (h : k < S.length) (e : pst a b (sth S k) i j = some (i', j', t)) : plays a b (S.drop k) i j o = plays a b (S.drop (k + 1)) i' j' (if t then o ++ [nth b j] else o) := by
  rw [dropS h, plays, e]
theorem plays_stop {a b : List ByteArray} {S : List Sti} {k i j : Nat} {o : List ByteArray} (h : k < S.length) (e : pst a b (sth S k) i j = none) : plays a b (S.drop k) i j o = none := by
  rw [dropS h, plays, e]
theorem pst_keep {a b : List ByteArray} {i j : Nat} (h1 : i < a.length) (h2 : j < b.length) (h3 : nth a i = nth b j) : pst a b (0, (i : Int), (j : Int)) i j = some (i + 1, j + 1, true) := by unfold pst; rw [if_pos ⟨rfl, h1, h2, h3⟩]
theorem pst_keepNo {a b : List ByteArray} {i j : Nat} (h : ¬ (i < a.length ∧ j < b.length ∧ nth a i = nth b j)) : pst a b (0, (i : Int), (j : Int)) i j = none := by
  unfold pst; rw [if_neg (fun k => h k.2), if_neg (fun k => by have := congrArg Prod.fst k.1; simp at this), if_neg (fun k => by have := congrArg Prod.fst k.1; simp at this)]
theorem pst_gone {a b : List ByteArray} {i j : Nat} (h1 : i < a.length) : pst a b (1, (i : Int), 0) i j = some (i + 1, j, false) := by
  unfold pst; rw [if_neg (fun k => by have := congrArg Prod.fst k.1; simp at this), if_pos ⟨rfl, h1⟩]
theorem pst_goneNo {a b : List ByteArray} {i j : Nat} (h1 : ¬ i < a.length) : pst a b (1, (i : Int), 0) i j = none := by
  unfold pst; rw [if_neg (fun k => by have := congrArg Prod.fst k.1; simp at this), if_neg (fun k => h1 k.2), if_neg (fun k => by have := congrArg Prod.fst k.1; simp at this)]
theorem pst_new {a b : List ByteArray} {i j : Nat} (h1 : j < b.length) : pst a b (2, 0, (j : Int)) i j = some (i, j + 1, true) := by
  unfold pst; rw [if_neg (fun k => by have := congrArg Prod.fst k.1; simp at this), if_neg (fun k => by have := congrArg Prod.fst k.1; simp at this), if_pos ⟨rfl, h1⟩]
theorem pst_newNo {a b : List ByteArray} {i j : Nat} (h1 : ¬ j < b.length) : pst a b (2, 0, (j : Int)) i j = none := by
  unfold pst; rw [if_neg (fun k => by have := congrArg Prod.fst k.1; simp at this), if_neg (fun k => by have := congrArg Prod.fst k.1; simp at this), if_neg (fun k => h1 k.2)]
theorem pst_no {a b : List ByteArray} {i j : Nat} {s : Sti} (h0 : s ≠ (0, (i : Int), (j : Int))) (h1 : s ≠ (1, (i : Int), 0)) (h2 : s ≠ (2, 0, (j : Int))) : pst a b s i j = none := by
  unfold pst; rw [if_neg (fun k => h0 k.1), if_neg (fun k => h1 k.1), if_neg (fun k => h2 k.1)]
theorem plays_end {a b : List ByteArray} {S : List Sti} {k i j : Nat} {o : List ByteArray} (h : ¬ k < S.length) : plays a b (S.drop k) i j o = if i < a.length ∨ j < b.length then none else some o := by
  rw [List.drop_of_length_le (by omega)]; rfl
/-- how far a play has come. -/
structure PI (w : World) (a b : List ByteArray) (S : List Sti) (k i j : Nat) (o : List ByteArray) (v : Value) (wr : World) : Prop where
  own : OwnT w.heap.size o v wr
  low : Below w.heap.size w wr
  res : plays a b S 0 0 [] = plays a b (S.drop k) i j o
  few : o.length ≤ k
theorem PI.box {w wr : World} {a b : List ByteArray} {S : List Sti} {k i j : Nat} {o : List ByteArray} {v : Value} (h : PI w a b S k i j o v wr) (O : Obj) : PI w a b S k i j o v (wr.alloc O) := ⟨own_alloc h.own _, h.low.alloc h.low.size _, h.res, h.few⟩
theorem PI.add {w wr w' : World} {a b : List ByteArray} {S : List Sti} {k i j i' j' : Nat} {o o' : List ByteArray} {v v' : Value} (h : PI w a b S k i j o v wr) (e : plays a b (S.drop k) i j o = plays a b (S.drop (k + 1)) i' j' o') (ho : OwnT w.heap.size o' v' w') (hl : Below w.heap.size w w') (hf : o'.length ≤ o.length + 1) : PI w a b S (k + 1) i' j' o' v' w' := ⟨ho, hl, h.res.trans e, by have := h.few; omega⟩
theorem PI.drewN {w wr : World} {a b : List ByteArray} {S : List Sti} {k i j : Nat} {o : List ByteArray} {v : Value} (h : PI w a b S k i j o v wr) (n : Nat) : PI w a b S k i j o v (wr.drewN n) := ⟨own_stays h.own (Below.drewN (Below.refl _ _) n), Below.drewN h.low n, h.res, h.few⟩
theorem PI.later {w wr w' : World} {a b : List ByteArray} {S : List Sti} {k i j : Nat} {o : List ByteArray} {v : Value} (h : PI w a b S k i j o v wr) (hb : Below wr.heap.size wr w') : PI w a b S k i j o v w' := ⟨own_stays h.own hb, h.low.trans (hb.mono h.low.size), h.res, h.few⟩
set_option maxRecDepth 100000 in
set_option maxHeartbeats 4000000 in
theorem play_any (a b : List ByteArray) (S : List Sti) (va vb vs : Value) (w : World) (hA : RdT a va w) (hB : RdT b vb w) (hS : RdS S vs w) (hn : S.length ≤ 1000) (_hza : ∀ x ∈ a, x.size ≤ 100000) (hzb : ∀ x ∈ b, x.size ≤ 100000) :
    Calls Try.prog 13 #[va, vb, vs] w fun e w' => ∃ v, e = .returned (.tuple #[v, .int .i64 (codeP (plays a b S 0 0 []))]) ∧ OwnT w.heap.size ((plays a b S 0 0 []).getD []) v w' ∧ Below w.heap.size w w' := by
  obtain ⟨A1, cc1, rfl, hcc1, hka⟩ := hA
  obtain ⟨A2, cc2, rfl, hcc2, hkb⟩ := hB
  obtain ⟨A3, cc3, rfl, hcc3, hks⟩ := hS
  obtain ⟨n, hn1⟩ : ∃ n, n = a.length := ⟨_, rfl⟩
  obtain ⟨m, hm⟩ : ∃ m, m = b.length := ⟨_, rfl⟩
  obtain ⟨N, hN⟩ : ∃ N, N = S.length := ⟨_, rfl⟩
  rw [← hn1] at hka ⊢
  rw [← hm] at hkb ⊢
  rw [← hN] at hks hn ⊢
  have HN1 := Lib.hid hn1
  have HM := Lib.hid hm
  have HN := Lib.hid hN
  have HKA := Lib.hid hka
  have HKB := Lib.hid hkb
  have HKS := Lib.hid hks
  have Hzb := Lib.hid hzb
  have Hst : Hid (PI w a b S 0 0 0 [] (.slice none 0 0) w) := ⟨OwnT.nil _ _, Below.refl _ _, by rw [List.drop_zero], Nat.le_refl _⟩
  clear hcc1 hcc2 hcc3 hka hkb hks hn1 hm hN hzb
  go_enter Try.func13, Try.ntmps13
  go_wp2
  go_loopw [8, 9, 10, 15] (fun v ii jj kk wr => ∃ k i j : Nat, kk = .int .i64 k ∧ ii = .int .i64 i ∧ jj = .int .i64 j ∧ k ≤ N ∧ i ≤ k ∧ j ≤ k ∧ ∃ o, Hid (PI w a b S k i j o v wr)) (fun _ _ _ kk _ => N - (intOf kk).toNat)
  case atStart => exact ⟨0, 0, 0, rfl, rfl, rfl, Nat.zero_le _, Nat.le_refl _, Nat.le_refl _, _, Hst⟩
  case round =>
    obtain ⟨k, i, j, rfl, rfl, rfl, hk, hik, hjk, o, HI⟩ := hrel
    clear Hst
    by_cases hp : k < N
    · have hpI : (k : Int) < N := by omega
      have hpl : k < S.length := by rw [← HN.out]; exact hp
      obtain ⟨g, off, rfl, hg, hc⟩ := HKS.out (by omega)
      obtain ⟨c0, c1, c2⟩ := hc k hp
      have c0 := (HI.out.low.cell (p := ⟨g, off + k * 3, none⟩) hg).trans c0
      have c1 := (HI.out.low.cell (p := ⟨g, off + k * 3 + 1, none⟩) hg).trans c1
      have c2 := (HI.out.low.cell (p := ⟨g, off + k * 3 + 2, none⟩) hg).trans c2
      have HGo := Lib.hid (fun i' j' t (e : pst a b (sth S k) i j = some (i', j', t)) => plays_go (o := o) hpl e)
      have HNo := Lib.hid (fun (e : pst a b (sth S k) i j = none) => plays_stop (o := o) hpl e)
      obtain ⟨g0, hg0⟩ : ∃ g0, g0 = wr.heap.size := ⟨_, rfl⟩
      have Hg0 := Lib.hid hg0
      obtain ⟨⟨t0, t1, t2⟩, ht⟩ : ∃ t, t = sth S k := ⟨_, rfl⟩
      rw [← ht] at c0 c1 c2 HGo HNo
      dsimp only at c0 c1 c2 HGo HNo
      have H5 := Lib.hid (HI.out.box (.cells #[.int .i64 t0, .int .i64 t1, .int .i64 t2] 43))
      have hbox : (wr.alloc (.cells #[.int .i64 t0, .int .i64 t1, .int .i64 t2] 43)).heap[g0]? = some (.cells #[.int .i64 t0, .int .i64 t1, .int .i64 t2] 43 (0, 0)) := by rw [hg0]; exact heap_alloc_new _ _
      clear ht HI hg0 hc
      go_upto_region 7 with (fail)
      generalize wr.alloc (.cells #[.int .i64 t0, .int .i64 t1, .int .i64 t2] 43) = w5 at H5 hbox ⊢
      rw [← Hg0.out]
      clear c0 c1 c2
      obtain ⟨d0, d1, d2⟩ : w5.cell? ⟨g0, 0, none⟩ = some (.int .i64 t0) ∧ w5.cell? ⟨g0, 1, none⟩ = some (.int .i64 t1) ∧ w5.cell? ⟨g0, 2, none⟩ = some (.int .i64 t2) := ⟨cell_row hbox 0, cell_row hbox 1, cell_row hbox 2⟩
      clear hbox
      have fi : ((i : Int) == i) = true := by simp
      have fj : ((j : Int) == j) = true := by simp
      by_cases h0 : t0 = 0
      · subst h0
        by_cases h1 : t1 = (i : Int)
        · subst h1
          by_cases h2 : t2 = (j : Int)
          · subst h2
            by_cases hi : i < n
            · have hiI : (i : Int) < n := by omega
              have hil : i < a.length := by rw [← HN1.out]; exact hi
              by_cases hj : j < m
              · have hjI : (j : Int) < m := by omega
                have hjl : j < b.length := by rw [← HM.out]; exact hj
                obtain ⟨gb, ob, rfl, hgb, hcb⟩ := HKB.out (by omega)
                have HCB := Lib.hid (hcb j hj)
                have HSZ := Lib.hid (Hzb.out _ (nth_mem (L := b) (k := j) hjl))
                clear hcb
                obtain ⟨ga, oa, rfl, hga, hca⟩ := HKA.out (by omega)
                have ca := (H5.out.low.cell (p := ⟨ga, oa + i, none⟩) hga).trans (hca i hi)
                have cb0 := (H5.out.low.cell (p := ⟨gb, ob + j, none⟩) hgb).trans HCB.out
                clear hca
                by_cases he : nth a i = nth b j
                · have HE : Hid (plays a b (S.drop k) i j o = plays a b (S.drop (k + 1)) (i + 1) (j + 1) (o ++ [nth b j])) := HGo.out _ _ true (pst_keep hil hjl he)
                  have hte : (nth a i).toList = (nth b j).toList := by rw [he]
                  clear HGo HNo he hil hjl
                  go_quiet (fail)
                  clear ca cb0 hte
                  have H6 := Lib.hid (H5.out.drewN nq)
                  generalize w5.drewN nq = w6 at H6 ⊢
                  clear H5 d0 d1 d2
                  have cb := (H6.out.low.cell (p := ⟨gb, ob + j, none⟩) hgb).trans HCB.out
                  go_wp2_with fail
                  refine (clone_any w6 (nth b j) HSZ.out).mono ?_
                  rintro e w7 ⟨rfl, b7⟩
                  have H7 := Lib.hid (H6.out.later b7)
                  have hws : Hid (w.heap.size ≤ w7.heap.size) := H7.out.low.size
                  have hfw : Hid (o.length ≤ 100000) := by have := H7.out.few; show _ ≤ 100000; omega
                  clear b7 H6 cb
                  go_wp2_with (at_builtin; refine wpList_append_txt rfl _ _ rfl w.heap.size u8 o (nth b j) rfl H7.out.own rfl hfw.out hws.out ?_; intro v8 w8 ho8 hb8; have H8 := Lib.hid (H7.out.add HE.out ho8 (hb8 _ _ H7.out.low (Nat.le_refl _)) (by simp)); clear ho8 hb8)
                  go_roundw
                  case rel => exact ⟨k + 1, i + 1, j + 1, by go_num, by go_num, by go_num, by omega, by omega, by omega, _, H8⟩
                  case measure => simp [intOf]; omega
                · have hte := ne_lists (a := nth a i) (b := nth b j) (fun h => he (bytes_eq h))
                  have HR : Hid (plays a b S 0 0 [] = none) := H5.out.res.trans (HNo.out (pst_keepNo (fun h => he h.2.2)))
                  have Hlow := Lib.hid H5.out.low
                  clear HGo HNo H5
                  go_quiet (fail)
                  revert nq
                  intro n0
                  go_wp2
                  go_ret2
                  exact ⟨_, by rw [HR.out]; rfl, by rw [HR.out]; exact OwnT.nil _ _, Below.drewN Hlow.out _⟩
              · have hjI : ¬ (j : Int) < m := by omega
                have HR : Hid (plays a b S 0 0 [] = none) := H5.out.res.trans (HNo.out (pst_keepNo (fun h => hj (by rw [HM.out]; exact h.2.1))))
                have Hlow := Lib.hid H5.out.low
                clear HGo HNo H5
                go_quiet (fail)
                revert nq
                intro n0
                go_wp2
                go_ret2
                exact ⟨_, by rw [HR.out]; rfl, by rw [HR.out]; exact OwnT.nil _ _, Below.drewN Hlow.out _⟩
            · have hiI : ¬ (i : Int) < n := by omega
              have HR : Hid (plays a b S 0 0 [] = none) := H5.out.res.trans (HNo.out (pst_keepNo (fun h => hi (by rw [HN1.out]; exact h.1))))
              have Hlow := Lib.hid H5.out.low
              clear HGo HNo H5
              go_quiet (fail)
              revert nq
              intro n0
              go_wp2
              go_ret2
              exact ⟨_, by rw [HR.out]; rfl, by rw [HR.out]; exact OwnT.nil _ _, Below.drewN Hlow.out _⟩
          · have h2b : (t2 == (j : Int)) = false := by simpa using h2
            have HR : Hid (plays a b S 0 0 [] = none) := H5.out.res.trans (HNo.out (pst_no (fun h => h2 (congrArg (fun x => x.2.2) h)) (fun h => by have := congrArg Prod.fst h; simp at this) (fun h => by have := congrArg Prod.fst h; simp at this)))
            have Hlow := Lib.hid H5.out.low
            clear HGo HNo H5
            go_quiet (fail)
            revert nq
            intro n0
            go_wp2
            go_ret2
            exact ⟨_, by rw [HR.out]; rfl, by rw [HR.out]; exact OwnT.nil _ _, Below.drewN Hlow.out _⟩
        · have h1b : (t1 == (i : Int)) = false := by simpa using h1
          have HR : Hid (plays a b S 0 0 [] = none) := H5.out.res.trans (HNo.out (pst_no (fun h => h1 (congrArg (fun x => x.2.1) h)) (fun h => by have := congrArg Prod.fst h; simp at this) (fun h => by have := congrArg Prod.fst h; simp at this)))
          have Hlow := Lib.hid H5.out.low
          clear HGo HNo H5
          go_quiet (fail)
          revert nq
          intro n0
          go_wp2
          go_ret2
          exact ⟨_, by rw [HR.out]; rfl, by rw [HR.out]; exact OwnT.nil _ _, Below.drewN Hlow.out _⟩
      · have h0b : (t0 == 0) = false := by simpa using h0
        by_cases h1 : t0 = 1
        · subst h1
          by_cases h1 : t1 = (i : Int)
          · subst h1
            by_cases h2 : t2 = 0
            · subst h2
              by_cases hi : i < n
              · have hiI : (i : Int) < n := by omega
                have HE : Hid (plays a b (S.drop k) i j o = plays a b (S.drop (k + 1)) (i + 1) j o) := HGo.out _ _ false (pst_gone (by rw [← HN1.out]; exact hi))
                clear HGo HNo
                go_quiet (fail)
                have H6 := Lib.hid (H5.out.drewN nq)
                have e6 : (w5.drewN nq).cell? ⟨g0, 0, none⟩ = some (.int .i64 1) ∧ (w5.drewN nq).cell? ⟨g0, 1, none⟩ = some (.int .i64 i) ∧ (w5.drewN nq).cell? ⟨g0, 2, none⟩ = some (.int .i64 0) := ⟨d0, d1, d2⟩
                obtain ⟨e0, e1, e2⟩ := e6
                clear d0 d1 d2
                generalize w5.drewN nq = w6 at H6 e0 e1 e2 ⊢
                have H8 := Lib.hid (H6.out.add HE.out H6.out.own H6.out.low (by omega))
                clear H5 H6
                go_wp2
                go_roundw
                case rel => exact ⟨k + 1, i + 1, j, by go_num, by go_num, rfl, by omega, by omega, by omega, _, H8⟩
                case measure => simp [intOf]; omega
              · have hiI : ¬ (i : Int) < n := by omega
                have HR : Hid (plays a b S 0 0 [] = none) := H5.out.res.trans (HNo.out (pst_goneNo (fun h => hi (by rw [HN1.out]; exact h))))
                have Hlow := Lib.hid H5.out.low
                clear HGo HNo H5
                go_quiet (fail)
                revert nq
                intro n0
                go_wp2
                go_ret2
                exact ⟨_, by rw [HR.out]; rfl, by rw [HR.out]; exact OwnT.nil _ _, Below.drewN Hlow.out _⟩
            · have h2b : (t2 == 0) = false := by simpa using h2
              have HR : Hid (plays a b S 0 0 [] = none) := H5.out.res.trans (HNo.out (pst_no (fun h => by have := congrArg Prod.fst h; simp at this) (fun h => h2 (congrArg (fun x => x.2.2) h)) (fun h => by have := congrArg Prod.fst h; simp at this)))
              have Hlow := Lib.hid H5.out.low
              clear HGo HNo H5
              go_quiet (fail)
              revert nq
              intro n0
              go_wp2
              go_ret2
              exact ⟨_, by rw [HR.out]; rfl, by rw [HR.out]; exact OwnT.nil _ _, Below.drewN Hlow.out _⟩
          · have h1b : (t1 == (i : Int)) = false := by simpa using h1
            have HR : Hid (plays a b S 0 0 [] = none) := H5.out.res.trans (HNo.out (pst_no (fun h => by have := congrArg Prod.fst h; simp at this) (fun h => h1 (congrArg (fun x => x.2.1) h)) (fun h => by have := congrArg Prod.fst h; simp at this)))
            have Hlow := Lib.hid H5.out.low
            clear HGo HNo H5
            go_quiet (fail)
            revert nq
            intro n0
            go_wp2
            go_ret2
            exact ⟨_, by rw [HR.out]; rfl, by rw [HR.out]; exact OwnT.nil _ _, Below.drewN Hlow.out _⟩
        · have h1c : (t0 == 1) = false := by simpa using h1
          by_cases h2 : t0 = 2
          · subst h2
            by_cases h1 : t1 = 0
            · subst h1
              by_cases h2 : t2 = (j : Int)
              · subst h2
                by_cases hj : j < m
                · have hjI : (j : Int) < m := by omega
                  have hjl : j < b.length := by rw [← HM.out]; exact hj
                  obtain ⟨gb, ob, rfl, hgb, hcb⟩ := HKB.out (by omega)
                  have HCB := Lib.hid (hcb j hj)
                  have HSZ := Lib.hid (Hzb.out _ (nth_mem (L := b) (k := j) hjl))
                  clear hcb
                  have HE : Hid (plays a b (S.drop k) i j o = plays a b (S.drop (k + 1)) i (j + 1) (o ++ [nth b j])) := HGo.out _ _ true (pst_new hjl)
                  clear HGo HNo hjl
                  go_quiet (fail)
                  have H6a := Lib.hid (H5.out.drewN nq)
                  have e6 : (w5.drewN nq).cell? ⟨g0, 0, none⟩ = some (.int .i64 2) ∧ (w5.drewN nq).cell? ⟨g0, 1, none⟩ = some (.int .i64 0) ∧ (w5.drewN nq).cell? ⟨g0, 2, none⟩ = some (.int .i64 j) := ⟨d0, d1, d2⟩
                  obtain ⟨e0, e1, e2⟩ := e6
                  have cb := (H6a.out.low.cell (p := ⟨gb, ob + j, none⟩) hgb).trans HCB.out
                  generalize w5.drewN nq = w6 at H6a e0 e1 e2 cb ⊢
                  clear H5 d0 d1 d2
                  go_wp2_with fail
                  refine (clone_any w6 (nth b j) HSZ.out).mono ?_
                  rintro e w7 ⟨rfl, b7⟩
                  have H7 := Lib.hid (H6a.out.later b7)
                  have hws : Hid (w.heap.size ≤ w7.heap.size) := H7.out.low.size
                  have hfw : Hid (o.length ≤ 100000) := by have := H7.out.few; show _ ≤ 100000; omega
                  clear b7 H6a cb e0 e1 e2
                  go_wp2_with (at_builtin; refine wpList_append_txt rfl _ _ rfl w.heap.size u8 o (nth b j) rfl H7.out.own rfl hfw.out hws.out ?_; intro v8 w8 ho8 hb8; have H8 := Lib.hid (H7.out.add HE.out ho8 (hb8 _ _ H7.out.low (Nat.le_refl _)) (by simp)); clear ho8 hb8)
                  go_roundw
                  case rel => exact ⟨k + 1, i, j + 1, by go_num, rfl, by go_num, by omega, by omega, by omega, _, H8⟩
                  case measure => simp [intOf]; omega
                · have hjI : ¬ (j : Int) < m := by omega
                  have HR : Hid (plays a b S 0 0 [] = none) := H5.out.res.trans (HNo.out (pst_newNo (fun h => hj (by rw [HM.out]; exact h))))
                  have Hlow := Lib.hid H5.out.low
                  clear HGo HNo H5
                  go_quiet (fail)
                  revert nq
                  intro n0
                  go_wp2
                  go_ret2
                  exact ⟨_, by rw [HR.out]; rfl, by rw [HR.out]; exact OwnT.nil _ _, Below.drewN Hlow.out _⟩
              · have h2b : (t2 == (j : Int)) = false := by simpa using h2
                have HR : Hid (plays a b S 0 0 [] = none) := H5.out.res.trans (HNo.out (pst_no (fun h => by have := congrArg Prod.fst h; simp at this) (fun h => by have := congrArg Prod.fst h; simp at this) (fun h => h2 (congrArg (fun x => x.2.2) h))))
                have Hlow := Lib.hid H5.out.low
                clear HGo HNo H5
                go_quiet (fail)
                revert nq
                intro n0
                go_wp2
                go_ret2
                exact ⟨_, by rw [HR.out]; rfl, by rw [HR.out]; exact OwnT.nil _ _, Below.drewN Hlow.out _⟩
            · have h1b : (t1 == 0) = false := by simpa using h1
              have HR : Hid (plays a b S 0 0 [] = none) := H5.out.res.trans (HNo.out (pst_no (fun h => by have := congrArg Prod.fst h; simp at this) (fun h => by have := congrArg Prod.fst h; simp at this) (fun h => h1 (congrArg (fun x => x.2.1) h))))
              have Hlow := Lib.hid H5.out.low
              clear HGo HNo H5
              go_quiet (fail)
              revert nq
              intro n0
              go_wp2
              go_ret2
              exact ⟨_, by rw [HR.out]; rfl, by rw [HR.out]; exact OwnT.nil _ _, Below.drewN Hlow.out _⟩
          · have h2b : (t0 == 2) = false := by simpa using h2
            have HR : Hid (plays a b S 0 0 [] = none) := H5.out.res.trans (HNo.out (pst_no (fun h => h0 (congrArg Prod.fst h)) (fun h => h1 (congrArg Prod.fst h)) (fun h => h2 (congrArg Prod.fst h))))
            have Hlow := Lib.hid H5.out.low
            clear HGo HNo H5
            go_quiet (fail)
            revert nq
            intro n0
            go_wp2
            go_ret2
            exact ⟨_, by rw [HR.out]; rfl, by rw [HR.out]; exact OwnT.nil _ _, Below.drewN Hlow.out _⟩
    · have hpI : ¬ (k : Int) < N := by omega
      have hpl : ¬ k < S.length := by rw [← HN.out]; exact hp
      have hr := HI.out.res
      rw [plays_end hpl, ← HN1.out, ← HM.out] at hr
      by_cases hi : i < n
      · have hiI : (i : Int) < n := by omega
        rw [if_pos (.inl hi)] at hr
        have HR := Lib.hid hr
        have Hlow := Lib.hid HI.out.low
        clear hr HI
        go_wp2
        go_ret2
        exact ⟨_, by rw [HR.out]; rfl, by rw [HR.out]; exact OwnT.nil _ _, Hlow.out⟩
      · have hiI : ¬ (i : Int) < n := by omega
        by_cases hj : j < m
        · have hjI : (j : Int) < m := by omega
          rw [if_pos (.inr hj)] at hr
          have HR := Lib.hid hr
          have Hlow := Lib.hid HI.out.low
          clear hr HI
          go_wp2
          go_ret2
          exact ⟨_, by rw [HR.out]; rfl, by rw [HR.out]; exact OwnT.nil _ _, Hlow.out⟩
        · have hjI : ¬ (j : Int) < m := by omega
          rw [if_neg (fun h => h.elim hi hj)] at hr
          have HR := Lib.hid hr
          have HQ := Lib.hid (And.intro HI.out.own HI.out.low)
          clear hr HI
          go_wp2
          go_ret2
          exact ⟨_, by rw [HR.out]; rfl, by rw [HR.out]; exact HQ.out.1, HQ.out.2⟩
end Go.Proofs.Ytnpbogioehpeoaa.Myr
