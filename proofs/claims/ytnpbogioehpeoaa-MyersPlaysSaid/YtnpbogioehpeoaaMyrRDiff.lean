/- DERIVED. The contract of the reference's Diff. -/
import Derived.Test.YtnpbogioehpeoaaMyrKeepsW
namespace Go.Proofs.Ytnpbogioehpeoaa.Myr
open Go.RowKit Lns
theorem infoRz : (Try.prog.info? 33).map (fun i => (i.zero, i.size, i.bytes)) = some (some stepZ, 3, 24) := by kernel_rfl
/-- how far the script has come, over texts. -/
def AtT (x y : List ByteArray) (S : List Sti) (i j : Nat) : Prop := S ++ (selF (x.length - i + (y.length - j)) (x.drop i) (y.drop j) i j).map up = (sel x y).map up
theorem AtT.len {x y : List ByteArray} {S : List Sti} {i j : Nat} (h : AtT x y S i j) : S.length ≤ x.length + y.length := by
  have e := congrArg List.length h
  simp only [List.length_append, List.length_map] at e
  have := sel_len x y
  omega
theorem AtT.done {x y : List ByteArray} {S : List Sti} (h : AtT x y S x.length y.length) : S = (sel x y).map up := by
  unfold AtT at h
  rwa [Nat.sub_self, Nat.sub_self, List.drop_length, List.drop_length, selF_nil, List.map_nil, List.append_nil] at h
theorem AtT.keep {x y : List ByteArray} {S : List Sti} {i j : Nat} (h : AtT x y S i j) (hi : i < x.length) (hj : j < y.length) (he : nth x i = nth y j) : AtT x y (S ++ [(0, (i : Int), (j : Int))]) (i + 1) (j + 1) := by
  unfold AtT at h ⊢
  rw [← h, dropT2 hi, dropT2 hj, show x.length - i + (y.length - j) = x.length - (i + 1) + (y.length - (j + 1)) + 1 + 1 by omega, selF, if_pos he, selF_more _ _ _ _ _ (by simp)]
  simp [up]
theorem AtT.gone {x y : List ByteArray} {S : List Sti} {i j : Nat} (h : AtT x y S i j) (hi : i < x.length) (hj : j < y.length) (he : nth x i ≠ nth y j) (hl : LL x y i (j + 1) ≤ LL x y (i + 1) j) : AtT x y (S ++ [(1, (i : Int), 0)]) (i + 1) j := by
  unfold AtT at h ⊢
  unfold LL at hl
  rw [← h]
  have e1 := dropT2 hi
  have e2 := dropT2 hj
  rw [e1, e2] at hl
  rw [e1, e2, show x.length - i + (y.length - j) = x.length - (i + 1) + (y.length - j) + 1 by omega, selF, if_neg he, if_pos hl, ← e2]
  simp [up]
theorem AtT.goneEnd {x y : List ByteArray} {S : List Sti} {i : Nat} (h : AtT x y S i y.length) (hi : i < x.length) : AtT x y (S ++ [(1, (i : Int), 0)]) (i + 1) y.length := by
  unfold AtT at h ⊢
  rw [← h, dropT2 hi, List.drop_length, show x.length - i + (y.length - y.length) = x.length - (i + 1) + (y.length - y.length) + 1 by omega, selF]
  simp [up]
theorem AtT.new {x y : List ByteArray} {S : List Sti} {i j : Nat} (h : AtT x y S i j) (hi : i < x.length) (hj : j < y.length) (he : nth x i ≠ nth y j) (hl : ¬ LL x y i (j + 1) ≤ LL x y (i + 1) j) : AtT x y (S ++ [(2, 0, (j : Int))]) i (j + 1) := by
  unfold AtT at h ⊢
  unfold LL at hl
  rw [← h]
  have e1 := dropT2 hi
  have e2 := dropT2 hj
  rw [e1, e2] at hl
  rw [e1, e2, show x.length - i + (y.length - j) = x.length - i + (y.length - (j + 1)) + 1 by omega, selF, if_neg he, if_neg hl, ← e1]
  simp [up]
theorem AtT.newEnd {x y : List ByteArray} {S : List Sti} {j : Nat} (h : AtT x y S x.length j) (hj : j < y.length) : AtT x y (S ++ [(2, 0, (j : Int))]) x.length (j + 1) := by
  unfold AtT at h ⊢
  rw [← h, dropT2 hj, List.drop_length, show x.length - x.length + (y.length - j) = x.length - x.length + (y.length - (j + 1)) + 1 by omega, selF]
  simp [up]
structure TI (w w1 : World) (x y : List ByteArray) (i j : Nat) (v : Value) (wr : World) (S : List Sti) : Prop where
  own : OwnS 33 w1.heap.size S v wr
  at_ : AtT x y S i j
  low : Below w1.heap.size w1 wr
theorem TI.drewN {w w1 wr : World} {x y : List ByteArray} {i j : Nat} {v : Value} {S : List Sti} (h : TI w w1 x y i j v wr S) (k : Nat) : TI w w1 x y i j v (wr.drewN k) S := ⟨own_stays h.own (Below.drewN (Below.refl _ _) k), h.at_, Below.drewN h.low k⟩
theorem TI.next {w w1 wr w4 : World} {x y : List ByteArray} {i j i' j' : Nat} {v v' : Value} {S S' : List Sti} (h : TI w w1 x y i j v wr S) (ho : OwnS 33 w1.heap.size S' v' w4) (hb : ∀ B u, Below B u wr → B ≤ w1.heap.size → Below B u w4) (ha : AtT x y S' i' j') : TI w w1 x y i' j' v' w4 S' := ⟨ho, ha, hb _ _ h.low (Nat.le_refl _)⟩
set_option maxRecDepth 100000 in
set_option maxHeartbeats 4000000 in
theorem rdiff_any (a b : List ByteArray) (va vb : Value) (w : World) (hA : RdT a va w) (hB : RdT b vb w) (hn : a.length ≤ 1024) (hm : b.length ≤ 1024) :
    Calls Try.prog 10 #[va, vb] w fun e w' => ∃ v, e = .returned (.tuple #[v, .int .i64 0]) ∧ OwnS 33 w.heap.size ((sel a b).map up) v w' ∧ Below w.heap.size w w' := by
  have Hkeeps := Lib.hid (keeps_any a b va vb w hA hB hn hm)
  obtain ⟨A1, cc1, rfl, hcc1, hka⟩ := hA
  obtain ⟨A2, cc2, rfl, hcc2, hkb⟩ := hB
  have hT0 : (a.length + 1) * (b.length + 1) ≤ 1050625 := Nat.le_trans (Nat.mul_le_mul (show a.length + 1 ≤ 1025 by omega) (show b.length + 1 ≤ 1025 by omega)) (by decide)
  obtain ⟨T, hT⟩ : ∃ T, T = (a.length + 1) * (b.length + 1) := ⟨_, rfl⟩
  obtain ⟨n, hn1⟩ : ∃ n, n = a.length := ⟨_, rfl⟩
  obtain ⟨m, hm1⟩ : ∃ m, m = b.length := ⟨_, rfl⟩
  rw [← hT, ← hn1, ← hm1] at Hkeeps
  rw [← hT] at hT0
  rw [← hn1] at hka hn hT ⊢
  rw [← hm1] at hkb hm hT ⊢
  have hnI : ¬ (1024 : Int) < n := by omega
  have hmI : ¬ (1024 : Int) < m := by omega
  have HN := Lib.hid hn1
  have HM := Lib.hid hm1
  have HKA := Lib.hid hka
  have HKB := Lib.hid hkb
  have HT := Lib.hid hT
  clear hcc1 hcc2 hka hkb hn1 hm1 hT
  go_enter Try.func10, Try.ntmps10
  go_wp2_with fail
  refine Hkeeps.out.mono ?_
  rintro e w1 ⟨L, rfl, hK⟩
  have HK := Lib.hid hK
  have Hst : Hid (TI w w1 a b 0 0 (.slice none 0 0) w1 []) := ⟨OwnS.nil _ _ _, rfl, Below.refl _ _⟩
  clear hK Hkeeps
  go_wp2
  go_loopw [8, 9, 10] (fun i j v wr => ∃ (p q : Nat), i = .int .i64 p ∧ j = .int .i64 q ∧ p ≤ n ∧ q ≤ m ∧ ∃ S, Hid (TI w w1 a b p q v wr S)) (fun i j _ _ => n + m - ((intOf i).toNat + (intOf j).toNat))
  case atStart => exact ⟨0, 0, rfl, rfl, Nat.zero_le _, Nat.zero_le _, _, Hst⟩
  case round =>
    obtain ⟨p, q, rfl, rfl, hp, hq, S, HI⟩ := hrel
    clear Hst
    have Hsl : Hid (S.length ≤ 100000) := by have := HI.out.at_.len; have := HN.out; have := HM.out; show S.length ≤ 100000; omega
    by_cases hpn : p < n
    · by_cases hqm : q < m
      · have hpI : (p : Int) < n := by omega
        have hqI : (q : Int) < m := by omega
        have hpl : p < a.length := by rw [← HN.out]; exact hpn
        have hql : q < b.length := by rw [← HM.out]; exact hqm
        obtain ⟨ga, oa, rfl, hga, hca⟩ := HKA.out (by omega)
        obtain ⟨gb, ob, rfl, hgb, hcb⟩ := HKB.out (by omega)
        have hlow := HI.out.low
        have hws1 := HK.out.low.size
        have cx : wr.cell? ⟨ga, oa + p, none⟩ = some (.string (nth a p)) := (hlow.cell (p := ⟨ga, oa + p, none⟩) (Nat.lt_of_lt_of_le hga hws1)).trans ((HK.out.low.cell (p := ⟨ga, oa + p, none⟩) hga).trans (hca p hpn))
        have cy : wr.cell? ⟨gb, ob + q, none⟩ = some (.string (nth b q)) := (hlow.cell (p := ⟨gb, ob + q, none⟩) (Nat.lt_of_lt_of_le hgb hws1)).trans ((HK.out.low.cell (p := ⟨gb, ob + q, none⟩) hgb).trans (hcb q hqm))
        by_cases he : nth a p = nth b q
        · have Hat := Lib.hid (HI.out.at_.keep hpl hql he)
          have hte : (nth a p).toList = (nth b q).toList := by rw [he]
          clear hpl hql hlow hws1 he hca hcb
          go_wp2
          go_quiet (fail)
          have HW := Lib.hid (HI.out.drewN nq)
          generalize wr.drewN nq = w3 at HW ⊢
          have Hws : Hid (w1.heap.size ≤ w3.heap.size) := HW.out.low.size
          clear HI
          go_wp2_with (at_builtin; refine wpList_append_step rfl _ _ 28 33 Try.underlying28 infoRz rfl w1.heap.size u10 S (0, (p : Int), (q : Int)) rfl HW.out.own rfl Hsl.out Hws.out ?_; intro v4 w4 ho4 hb4; have H4 := Lib.hid (HW.out.next ho4 hb4 Hat.out); clear ho4 hb4)
          go_roundw
          case rel => exact ⟨p + 1, q + 1, by go_num, by go_num, by omega, by omega, _, H4⟩
          case measure => simp [intOf]; omega
        · have hte := ne_lists (a := nth a p) (b := nth b q) (fun h => he (bytes_eq h))
          have hkr := HK.out.row.lt
          have cu := (hlow.cell (p := ⟨w.heap.size, (p + 1) * (b.length + 1) + q, none⟩) hkr).trans (HK.out.done (p + 1) q (by omega) (by omega))
          have cl := (hlow.cell (p := ⟨w.heap.size, p * (b.length + 1) + (q + 1), none⟩) hkr).trans (HK.out.done p (q + 1) (by omega) (by omega))
          have Hgo : Hid (LL a b p (q + 1) ≤ LL a b (p + 1) q → AtT a b (S ++ [(1, (p : Int), 0)]) (p + 1) q) := fun h => HI.out.at_.gone hpl hql he h
          have Hne : Hid (¬ LL a b p (q + 1) ≤ LL a b (p + 1) q → AtT a b (S ++ [(2, 0, (q : Int))]) p (q + 1)) := fun h => HI.out.at_.new hpl hql he h
          obtain ⟨vu, hvu⟩ : ∃ vu, vu = LL a b (p + 1) q := ⟨_, rfl⟩
          obtain ⟨vl, hvl⟩ : ∃ vl, vl = LL a b p (q + 1) := ⟨_, rfl⟩
          obtain ⟨x0, hx0⟩ : ∃ x0, x0 = p * (b.length + 1) := ⟨_, rfl⟩
          obtain ⟨x1, hx1⟩ : ∃ x1, x1 = (p + 1) * (b.length + 1) := ⟨_, rfl⟩
          have hx10 : x1 = x0 + m + 1 := by rw [hx1, hx0, Nat.succ_mul, HM.out]; rfl
          have hxT : x1 + m + 1 ≤ T := by
            have h1 := Nat.mul_le_mul_right (b.length + 1) (show p + 2 ≤ n + 1 by omega)
            rw [HT.out, hx1, HM.out]
            rw [Nat.succ_mul] at h1
            omega
          rw [← hvu, ← hx1] at cu
          rw [← hvl, ← hx0] at cl
          rw [← hvu, ← hvl] at Hgo Hne
          have w1' : IntKind.i64.wrap (((p : Int) + 1) * ((m : Int) + 1)) = (x1 : Int) := by
            have e : ((p : Int) + 1) * ((m : Int) + 1) = (x1 : Int) := by rw [hx1, ← HM.out]; push_cast; rfl
            rw [e, IntKind.wrap_i64]; omega
          have w0' : IntKind.i64.wrap ((p : Int) * ((m : Int) + 1)) = (x0 : Int) := by
            have e : (p : Int) * ((m : Int) + 1) = (x0 : Int) := by rw [hx0, ← HM.out]; push_cast; rfl
            rw [e, IntKind.wrap_i64]; omega
          have hqe : ((q : Int) == m) = false := by simp; omega
          have l1 : IntKind.i64.wrap ((p : Int) + 1) = (p : Int) + 1 := by rw [IntKind.wrap_i64]; omega
          have l2 : IntKind.i64.wrap ((x1 : Int) + q) = (x1 : Int) + q := by rw [IntKind.wrap_i64]; omega
          have l5 : IntKind.i64.wrap ((x0 : Int) + q) = (x0 : Int) + q := by rw [IntKind.wrap_i64]; omega
          have l6 : IntKind.i64.wrap ((x0 : Int) + q + 1) = (x0 : Int) + q + 1 := by rw [IntKind.wrap_i64]; omega
          have t1 : (x1 : Int) + q < T := by omega
          have t3 : (x0 : Int) + q + 1 < T := by omega
          have u1 : x1 + q < T := by omega
          have u3 : x0 + q + 1 < T := by omega
          have s1 : ((x1 : Int) + q).toNat = x1 + q := by omega
          have s2 : ((x0 : Int) + q + 1).toNat = x0 + q + 1 := by omega
          have z1 : (0 : Int) ≤ (x1 : Int) + q := by omega
          have z2 : (0 : Int) ≤ (x0 : Int) + q + 1 := by omega
          rw [show x0 + (q + 1) = x0 + q + 1 from rfl] at cl
          have HX10 := Lib.hid hx10
          clear hpl hql hlow hws1 he hca hcb hvu hvl hx0 hx1 hx10 hkr
          by_cases hle : vl ≤ vu
          · have Hat := Lib.hid (Hgo.out hle)
            have hge : (vl : Int) ≤ (vu : Int) := by omega
            clear Hgo Hne
            go_wp2
            go_quiet (fail)
            revert nq
            intro n0
            go_wp2
            go_quiet (fail)
            have HW := Lib.hid ((HI.out.drewN n0).drewN nq)
            generalize (wr.drewN n0).drewN nq = w3 at HW ⊢
            have Hws : Hid (w1.heap.size ≤ w3.heap.size) := HW.out.low.size
            clear HI
            go_wp2_with (at_builtin; refine wpList_append_step rfl _ _ 28 33 Try.underlying28 infoRz rfl w1.heap.size u10 S (1, (p : Int), 0) rfl HW.out.own rfl Hsl.out Hws.out ?_; intro v4 w4 ho4 hb4; have H4 := Lib.hid (HW.out.next ho4 hb4 Hat.out); clear ho4 hb4)
            go_roundw
            case rel => exact ⟨p + 1, q, by go_num, rfl, by omega, by omega, _, H4⟩
            case measure => simp [intOf]; omega
          · have Hat := Lib.hid (Hne.out hle)
            have hge : ¬ (vl : Int) ≤ (vu : Int) := by omega
            clear Hgo Hne
            go_wp2
            go_quiet (fail)
            revert nq
            intro n0
            go_wp2
            go_quiet (fail)
            have HW := Lib.hid ((HI.out.drewN n0).drewN nq)
            generalize (wr.drewN n0).drewN nq = w3 at HW ⊢
            have Hws : Hid (w1.heap.size ≤ w3.heap.size) := HW.out.low.size
            clear HI
            go_wp2_with (at_builtin; refine wpList_append_step rfl _ _ 28 33 Try.underlying28 infoRz rfl w1.heap.size u10 S (2, 0, (q : Int)) rfl HW.out.own rfl Hsl.out Hws.out ?_; intro v4 w4 ho4 hb4; have H4 := Lib.hid (HW.out.next ho4 hb4 Hat.out); clear ho4 hb4)
            go_roundw
            case rel => exact ⟨p, q + 1, rfl, by go_num, by omega, by omega, _, H4⟩
            case measure => simp [intOf]; omega
      · obtain rfl : q = m := by omega
        have hpI : (p : Int) < n := by omega
        have hqI : ¬ (q : Int) < q := by omega
        have hqe : ((q : Int) == q) = true := by simp
        have Hat : Hid (AtT a b (S ++ [(1, (p : Int), 0)]) (p + 1) q) := by
          have h := HI.out.at_
          rw [HM.out] at h ⊢
          exact h.goneEnd (by rw [← HN.out]; exact hpn)
        go_wp2
        go_quiet (fail)
        revert nq
        intro n0
        go_wp2
        go_quiet (fail)
        have HW := Lib.hid ((HI.out.drewN n0).drewN nq)
        generalize (wr.drewN n0).drewN nq = w3 at HW ⊢
        have Hws : Hid (w1.heap.size ≤ w3.heap.size) := HW.out.low.size
        clear HI
        go_wp2_with (at_builtin; refine wpList_append_step rfl _ _ 28 33 Try.underlying28 infoRz rfl w1.heap.size u10 S (1, (p : Int), 0) rfl HW.out.own rfl Hsl.out Hws.out ?_; intro v4 w4 ho4 hb4; have H4 := Lib.hid (HW.out.next ho4 hb4 Hat.out); clear ho4 hb4)
        go_roundw
        case rel => exact ⟨p + 1, q, by go_num, rfl, by omega, by omega, _, H4⟩
        case measure => simp [intOf]; omega
    · by_cases hqm : q < m
      · obtain rfl : p = n := by omega
        have hpI : ¬ (p : Int) < p := by omega
        have hqI : (q : Int) < m := by omega
        have Hat : Hid (AtT a b (S ++ [(2, 0, (q : Int))]) p (q + 1)) := by
          have h := HI.out.at_
          rw [HN.out] at h ⊢
          exact h.newEnd (by rw [← HM.out]; exact hqm)
        go_wp2
        go_quiet (fail)
        revert nq
        intro n0
        go_wp2
        go_quiet (fail)
        have HW := Lib.hid ((HI.out.drewN n0).drewN nq)
        generalize (wr.drewN n0).drewN nq = w3 at HW ⊢
        have Hws : Hid (w1.heap.size ≤ w3.heap.size) := HW.out.low.size
        clear HI
        go_wp2_with (at_builtin; refine wpList_append_step rfl _ _ 28 33 Try.underlying28 infoRz rfl w1.heap.size u10 S (2, 0, (q : Int)) rfl HW.out.own rfl Hsl.out Hws.out ?_; intro v4 w4 ho4 hb4; have H4 := Lib.hid (HW.out.next ho4 hb4 Hat.out); clear ho4 hb4)
        go_roundw
        case rel => exact ⟨p, q + 1, rfl, by go_num, by omega, by omega, _, H4⟩
        case measure => simp [intOf]; omega
      · have hpI : ¬ (p : Int) < n := by omega
        have hqI : ¬ (q : Int) < m := by omega
        obtain rfl : p = n := by omega
        obtain rfl : q = m := by omega
        have HR : Hid (OwnS 33 w.heap.size ((sel a b).map up) u10 wr ∧ Below w.heap.size w wr) := by
          obtain ⟨h1, h2, h3⟩ := HI.out
          rw [HN.out, HM.out] at h2
          rw [h2.done] at h1
          exact ⟨h1.mono HK.out.low.size, HK.out.low.trans (h3.mono HK.out.low.size)⟩
        clear HI
        go_wp2
        go_ret2
        exact ⟨_, rfl, HR.out.1, HR.out.2⟩
end Go.Proofs.Ytnpbogioehpeoaa.Myr
