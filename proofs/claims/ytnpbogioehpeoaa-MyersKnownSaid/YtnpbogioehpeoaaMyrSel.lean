/- DERIVED. The contract of myers.selected. -/
import Derived.Test.YtnpbogioehpeoaaMyrStep
import Derived.Test.YtnpbogioehpeoaaMyrMostW
namespace Go.Proofs.Ytnpbogioehpeoaa.Myr
open Go.RowKit Lns
/-- behind i and j: the script so far, in a row of the call's own. -/
structure SI (w w1 : World) (x y : List Int) (i j : Nat) (v : Value) (wr : World) (S : List Sti) : Prop where
  own : OwnS 43 w1.heap.size S v wr
  at_ : AtS x y S i j
  low : Below w1.heap.size w1 wr
theorem SI.drewN {w w1 wr : World} {x y : List Int} {i j : Nat} {v : Value} {S : List Sti} (h : SI w w1 x y i j v wr S) (k : Nat) : SI w w1 x y i j v (wr.drewN k) S := ⟨own_stays h.own (Below.drewN (Below.refl _ _) k), h.at_, Below.drewN h.low k⟩
theorem SI.next {w w1 wr w4 : World} {x y : List Int} {i j i' j' : Nat} {v v' : Value} {S S' : List Sti} (h : SI w w1 x y i j v wr S) (ho : OwnS 43 w1.heap.size S' v' w4) (hb : ∀ B u, Below B u wr → B ≤ w1.heap.size → Below B u w4) (ha : AtS x y S' i' j') : SI w w1 x y i' j' v' w4 S' := ⟨ho, ha, hb _ _ h.low (Nat.le_refl _)⟩
set_option maxRecDepth 100000 in
set_option maxHeartbeats 4000000 in
theorem selected_any (x y : List Int) (gx gy : Nat) (w : World) (hx : RowI .i64 3 w gx x) (hy : RowI .i64 3 w gy y) (hn : x.length ≤ 1024) (hm : y.length ≤ 1024) :
    Calls Try.prog 19 #[.slice (some ⟨gx, 0, none⟩) x.length x.length, .slice (some ⟨gy, 0, none⟩) y.length y.length] w fun e w' => ∃ v, e = .returned v ∧ OwnS 43 w.heap.size ((sel x y).map up) v w' ∧ Below w.heap.size w w' := by
  have Hmost := Lib.hid (most_any x y gx gy w hx hy hn hm)
  have hgx : gx < w.heap.size := hx.lt
  have hgy : gy < w.heap.size := hy.lt
  have Hx := Lib.hid hx
  have Hy := Lib.hid hy
  have Hgx := Lib.hid hgx
  have Hgy := Lib.hid hgy
  obtain ⟨n, hn0⟩ : ∃ n, n = x.length := ⟨_, rfl⟩
  obtain ⟨m, hm0⟩ : ∃ m, m = y.length := ⟨_, rfl⟩
  rw [← hn0, ← hm0] at Hmost
  rw [← hn0] at hn ⊢
  rw [← hm0] at hm ⊢
  have Hn := Lib.hid hn0
  have Hm := Lib.hid hm0
  clear hx hy hgx hgy hn0 hm0
  go_enter Try.func19, Try.ntmps19
  go_wp2_with fail
  refine Hmost.out.mono ?_
  rintro e w1 ⟨rfl, hT⟩
  have HT := Lib.hid hT
  have Hst : Hid (SI w w1 x y 0 0 (.slice none 0 0) w1 []) := ⟨OwnS.nil _ _ _, AtS.start x y, Below.refl _ _⟩
  clear hT Hmost
  go_wp2
  go_loopw [5, 7, 8] (fun v i j wr => ∃ (p q : Nat), i = .int .i64 p ∧ j = .int .i64 q ∧ p ≤ n ∧ q ≤ m ∧ ∃ S, Hid (SI w w1 x y p q v wr S)) (fun _ i j _ => n + m - ((intOf i).toNat + (intOf j).toNat))
  case atStart => exact ⟨0, 0, rfl, rfl, Nat.zero_le _, Nat.zero_le _, _, Hst⟩
  case round =>
    obtain ⟨p, q, rfl, rfl, hp, hq, S, HI⟩ := hrel
    clear Hst
    have Hsl : Hid (S.length ≤ 100000) := by have := HI.out.at_.len; have := Hn.out; have := Hm.out; show S.length ≤ 100000; omega
    by_cases hpn : p < n
    · by_cases hqm : q < m
      · have hpI : (p : Int) < n := by omega
        have hqI : (q : Int) < m := by omega
        have hpl : p < x.length := by rw [← Hn.out]; exact hpn
        have hql : q < y.length := by rw [← Hm.out]; exact hqm
        have hlow := HI.out.low
        have hws1 := (HT.out.low.size)
        have cx : wr.cell? ⟨gx, p, none⟩ = some (.int .i64 (x.getD p 0)) := (hlow.cell (p := ⟨gx, p, none⟩) (Nat.lt_of_lt_of_le Hgx.out hws1)).trans ((HT.out.low.cell (p := ⟨gx, p, none⟩) Hgx.out).trans (Hx.out.cell p hpl))
        have cy : wr.cell? ⟨gy, q, none⟩ = some (.int .i64 (y.getD q 0)) := (hlow.cell (p := ⟨gy, q, none⟩) (Nat.lt_of_lt_of_le Hgy.out hws1)).trans ((HT.out.low.cell (p := ⟨gy, q, none⟩) Hgy.out).trans (Hy.out.cell q hql))
        by_cases he : x.getD p 0 = y.getD q 0
        · have Hat := Lib.hid (HI.out.at_.keep hpl hql he)
          have hq1 : (x.getD p 0 == y.getD q 0) = true := by simpa using he
          obtain ⟨xv, hxv⟩ : ∃ xv, xv = x.getD p 0 := ⟨_, rfl⟩
          obtain ⟨yv, hyv⟩ : ∃ yv, yv = y.getD q 0 := ⟨_, rfl⟩
          rw [← hxv] at cx hq1
          rw [← hyv] at cy hq1
          clear hpl hql hlow hws1 he hxv hyv
          go_wp2
          go_quiet (fail)
          have HW := Lib.hid (HI.out.drewN nq)
          generalize wr.drewN nq = w3 at HW ⊢
          have Hws : Hid (w1.heap.size ≤ w3.heap.size) := HW.out.low.size
          clear HI
          go_wp2_with (at_builtin; refine wpList_append_step rfl _ _ 24 43 Try.underlying24 infoSz rfl w1.heap.size u5 S (0, (p : Int), (q : Int)) rfl HW.out.own rfl Hsl.out Hws.out ?_; intro v4 w4 ho4 hb4; have H4 := Lib.hid (HW.out.next ho4 hb4 Hat.out); clear ho4 hb4)
          go_roundw
          case rel => exact ⟨p + 1, q + 1, by go_num, by go_num, by omega, by omega, _, H4⟩
          case measure => simp [intOf]; omega
        · have hq1 : (x.getD p 0 == y.getD q 0) = false := by simpa using he
          obtain ⟨a0, a1, ha0, ha1, ha2, f0, f1, f2, f3⟩ := HT.out.facts hpl hql
          have co0 := (hlow.cell (p := ⟨w.heap.size, p, none⟩) ha2).trans f0
          have co1 := (hlow.cell (p := ⟨w.heap.size, p + 1, none⟩) ha2).trans f1
          have cu := (hlow.cell (p := ⟨a1, q, none⟩) ha1).trans f2
          have cl := (hlow.cell (p := ⟨a0, q + 1, none⟩) ha0).trans f3
          rw [← Hm.out] at co0 co1
          have Hgo : Hid (lcs (x.drop p) (y.drop (q + 1)) ≤ lcs (x.drop (p + 1)) (y.drop q) → AtS x y (S ++ [(1, (p : Int), 0)]) (p + 1) q) := fun h => HI.out.at_.gone hpl hql he h
          have Hne : Hid (¬ lcs (x.drop p) (y.drop (q + 1)) ≤ lcs (x.drop (p + 1)) (y.drop q) → AtS x y (S ++ [(2, 0, (q : Int))]) p (q + 1)) := fun h => HI.out.at_.new hpl hql he h
          obtain ⟨xv, hxv⟩ : ∃ xv, xv = x.getD p 0 := ⟨_, rfl⟩
          obtain ⟨yv, hyv⟩ : ∃ yv, yv = y.getD q 0 := ⟨_, rfl⟩
          obtain ⟨vu, hvu⟩ : ∃ vu, vu = lcs (x.drop (p + 1)) (y.drop q) := ⟨_, rfl⟩
          obtain ⟨vl, hvl⟩ : ∃ vl, vl = lcs (x.drop p) (y.drop (q + 1)) := ⟨_, rfl⟩
          rw [← hxv] at cx hq1
          rw [← hyv] at cy hq1
          rw [← hvu] at cu
          rw [← hvl] at cl
          rw [← hvu, ← hvl] at Hgo Hne
          have hqe : ((q : Int) == m) = false := by simp; omega
          have l1 : IntKind.i64.wrap ((p : Int) + 1) = (p : Int) + 1 := by rw [IntKind.wrap_i64]; omega
          have l2 : IntKind.i64.wrap ((q : Int) + 1) = (q : Int) + 1 := by rw [IntKind.wrap_i64]; omega
          have j1 : (p : Int) ≤ n := by omega
          have j2 : (q : Int) ≤ m := by omega
          have o1 : (0 : Int) ≤ (p : Int) + 1 := by omega
          have o3 : (0 : Int) ≤ (q : Int) + 1 := by omega
          have q1 : p < n := by omega
          have q2 : q < m := by omega
          have q3 : p + 1 ≤ n := by omega
          have q6 : ((p : Int) + 1).toNat = p + 1 := by omega
          have q7 : ((q : Int) + 1).toNat = q + 1 := by omega
          clear hpl hql hlow hws1 he hxv hyv hvu hvl f0 f1 f2 f3 ha0 ha1 ha2
          by_cases hle : vl ≤ vu
          · have Hat := Lib.hid (Hgo.out hle)
            have hge : (vl : Int) ≤ (vu : Int) := by omega
            clear Hgo Hne
            go_wp2
            go_quiet (fail)
            revert nq
            intro n0
            go_wp2
            go_quiet (fail)
            have HW := Lib.hid ((HI.out.drewN n0).drewN nq)
            generalize (wr.drewN n0).drewN nq = w3 at HW ⊢
            have Hws : Hid (w1.heap.size ≤ w3.heap.size) := HW.out.low.size
            clear HI
            go_wp2_with (at_builtin; refine wpList_append_step rfl _ _ 24 43 Try.underlying24 infoSz rfl w1.heap.size u5 S (1, (p : Int), 0) rfl HW.out.own rfl Hsl.out Hws.out ?_; intro v4 w4 ho4 hb4; have H4 := Lib.hid (HW.out.next ho4 hb4 Hat.out); clear ho4 hb4)
            go_roundw
            case rel => exact ⟨p + 1, q, by go_num, rfl, by omega, by omega, _, H4⟩
            case measure => simp [intOf]; omega
          · have Hat := Lib.hid (Hne.out hle)
            have hge : ¬ (vl : Int) ≤ (vu : Int) := by omega
            clear Hgo Hne
            go_wp2
            go_quiet (fail)
            revert nq
            intro n0
            go_wp2
            go_quiet (fail)
            have HW := Lib.hid ((HI.out.drewN n0).drewN nq)
            generalize (wr.drewN n0).drewN nq = w3 at HW ⊢
            have Hws : Hid (w1.heap.size ≤ w3.heap.size) := HW.out.low.size
            clear HI
            go_wp2_with (at_builtin; refine wpList_append_step rfl _ _ 24 43 Try.underlying24 infoSz rfl w1.heap.size u5 S (2, 0, (q : Int)) rfl HW.out.own rfl Hsl.out Hws.out ?_; intro v4 w4 ho4 hb4; have H4 := Lib.hid (HW.out.next ho4 hb4 Hat.out); clear ho4 hb4)
            go_roundw
            case rel => exact ⟨p, q + 1, rfl, by go_num, by omega, by omega, _, H4⟩
            case measure => simp [intOf]; omega
      · obtain rfl : q = m := by omega
        have hpI : (p : Int) < n := by omega
        have hqI : ¬ (q : Int) < q := by omega
        have hqe : ((q : Int) == q) = true := by simp
        have Hat : Hid (AtS x y (S ++ [(1, (p : Int), 0)]) (p + 1) q) := by
          have h := HI.out.at_
          rw [Hm.out] at h ⊢
          exact h.goneEnd (by rw [← Hn.out]; exact hpn)
        go_wp2
        go_quiet (fail)
        revert nq
        intro n0
        go_wp2
        go_quiet (fail)
        have HW := Lib.hid ((HI.out.drewN n0).drewN nq)
        generalize (wr.drewN n0).drewN nq = w3 at HW ⊢
        have Hws : Hid (w1.heap.size ≤ w3.heap.size) := HW.out.low.size
        clear HI
        go_wp2_with (at_builtin; refine wpList_append_step rfl _ _ 24 43 Try.underlying24 infoSz rfl w1.heap.size u5 S (1, (p : Int), 0) rfl HW.out.own rfl Hsl.out Hws.out ?_; intro v4 w4 ho4 hb4; have H4 := Lib.hid (HW.out.next ho4 hb4 Hat.out); clear ho4 hb4)
        go_roundw
        case rel => exact ⟨p + 1, q, by go_num, rfl, by omega, by omega, _, H4⟩
        case measure => simp [intOf]; omega
    · by_cases hqm : q < m
      · obtain rfl : p = n := by omega
        have hpI : ¬ (p : Int) < p := by omega
        have hqI : (q : Int) < m := by omega
        have Hat : Hid (AtS x y (S ++ [(2, 0, (q : Int))]) p (q + 1)) := by
          have h := HI.out.at_
          rw [Hn.out] at h ⊢
          exact h.newEnd (by rw [← Hm.out]; exact hqm)
        go_wp2
        go_quiet (fail)
        revert nq
        intro n0
        go_wp2
        go_quiet (fail)
        have HW := Lib.hid ((HI.out.drewN n0).drewN nq)
        generalize (wr.drewN n0).drewN nq = w3 at HW ⊢
        have Hws : Hid (w1.heap.size ≤ w3.heap.size) := HW.out.low.size
        clear HI
        go_wp2_with (at_builtin; refine wpList_append_step rfl _ _ 24 43 Try.underlying24 infoSz rfl w1.heap.size u5 S (2, 0, (q : Int)) rfl HW.out.own rfl Hsl.out Hws.out ?_; intro v4 w4 ho4 hb4; have H4 := Lib.hid (HW.out.next ho4 hb4 Hat.out); clear ho4 hb4)
        go_roundw
        case rel => exact ⟨p, q + 1, rfl, by go_num, by omega, by omega, _, H4⟩
        case measure => simp [intOf]; omega
      · have hpI : ¬ (p : Int) < n := by omega
        have hqI : ¬ (q : Int) < m := by omega
        obtain rfl : p = n := by omega
        obtain rfl : q = m := by omega
        have HR : Hid (OwnS 43 w.heap.size ((sel x y).map up) u5 wr ∧ Below w.heap.size w wr) := by
          obtain ⟨h1, h2, h3⟩ := HI.out
          rw [Hn.out, Hm.out] at h2
          rw [h2.done] at h1
          exact ⟨h1.mono HT.out.low.size, HT.out.low.trans (h3.mono HT.out.low.size)⟩
        clear HI
        go_wp2
        go_ret
        exact ⟨_, rfl, HR.out.1, HR.out.2⟩
end Go.Proofs.Ytnpbogioehpeoaa.Myr
