/- DERIVED. The contract of the reference's Keeps. -/
import Derived.Test.YtnpbogioehpeoaaMyrKeeps
namespace Go.Proofs.Ytnpbogioehpeoaa.Myr
open Go.RowKit Lns
set_option maxRecDepth 100000 in
set_option maxHeartbeats 4000000 in
theorem keeps_any (a b : List ByteArray) (va vb : Value) (w : World) (hA : RdT a va w) (hB : RdT b vb w) (hn : a.length ≤ 1024) (hm : b.length ≤ 1024) :
    Calls Try.prog 21 #[va, vb] w fun e w' => ∃ L, e = .returned (.slice (some ⟨w.heap.size, 0, none⟩) ((a.length + 1) * (b.length + 1)) ((a.length + 1) * (b.length + 1))) ∧ KT w a b w.heap.size 0 0 L w' := by
  obtain ⟨A1, cc1, rfl, hcc1, hka⟩ := hA
  obtain ⟨A2, cc2, rfl, hcc2, hkb⟩ := hB
  have hT0 : (a.length + 1) * (b.length + 1) ≤ 1050625 := Nat.le_trans (Nat.mul_le_mul (show a.length + 1 ≤ 1025 by omega) (show b.length + 1 ≤ 1025 by omega)) (by decide)
  have hmk := mk_ints ((a.length + 1) * (b.length + 1)) (by omega)
  have Hst := Lib.hid (KT.start (w := w) (a := a) (b := b))
  obtain ⟨T, hT⟩ : ∃ T, T = (a.length + 1) * (b.length + 1) := ⟨_, rfl⟩
  rw [← hT] at hmk Hst hT0 ⊢
  obtain ⟨Z, hZ⟩ : ∃ Z, Z = List.replicate T (0 : Int) := ⟨_, rfl⟩
  rw [← hZ] at hmk Hst
  obtain ⟨n, hn1⟩ : ∃ n, n = a.length := ⟨_, rfl⟩
  obtain ⟨m, hm1⟩ : ∃ m, m = b.length := ⟨_, rfl⟩
  rw [← hn1] at hka hn hT ⊢
  rw [← hm1] at hkb hm hT ⊢
  rw [← hn1] at Hst
  have hTI : IntKind.i64.wrap (((n : Int) + 1) * ((m : Int) + 1)) = (T : Int) := by
    have e : ((n : Int) + 1) * ((m : Int) + 1) = (T : Int) := by rw [hT]; push_cast; rfl
    rw [e, IntKind.wrap_i64]; omega
  have HN := Lib.hid hn1
  have HM := Lib.hid hm1
  have HKA := Lib.hid hka
  have HKB := Lib.hid hkb
  have HT := Lib.hid hT
  clear hcc1 hcc2 hka hkb hn1 hm1 hZ hT
  go_enter Try.func21, Try.ntmps21
  go_wp2
  clear hmk
  go_loopw [7] (fun i wr => ∃ k : Nat, i = .int .i64 ((k : Int) - 1) ∧ k ≤ n ∧ ∃ L, Hid (KT w a b w.heap.size k 0 L wr)) (fun i _ => (intOf i + 1).toNat)
  case atStart => exact ⟨n, rfl, Nat.le_refl _, _, Hst⟩
  case round =>
    obtain ⟨k, rfl, hk, L, HI⟩ := hrel
    clear Hst
    cases k with
    | zero =>
      go_wp2
      go_ret
      exact ⟨L, rfl, HI.out⟩
    | succ p =>
      have e1 : (((p + 1 : Nat) : Int) - 1) = (p : Int) := by omega
      rw [e1]
      clear e1
      have hpl : p < a.length := by rw [← HN.out]; omega
      have HP := Lib.hid (HI.out.nextRow hpl)
      rw [← HM.out] at HP
      have hpI : (p : Int) < n := by omega
      clear HI
      go_wp2
      go_loopw [8] (fun j wr => ∃ q : Nat, j = .int .i64 ((q : Int) - 1) ∧ q ≤ m ∧ ∃ L, Hid (KT w a b w.heap.size p q L wr)) (fun j _ => (intOf j + 1).toNat)
      case atStart => exact ⟨m, rfl, Nat.le_refl _, _, HP⟩
      case round =>
        obtain ⟨q, rfl, hq, L2, HJ⟩ := hrel
        clear HP
        cases q with
        | zero =>
          go_wp2
          go_roundw
          case rel => exact ⟨p, rfl, by omega, _, HJ⟩
          case measure => first | (simp [intOf]; done) | (simp [intOf]; omega)
        | succ r =>
          have e1 : (((r + 1 : Nat) : Int) - 1) = (r : Int) := by omega
          rw [e1]
          clear e1
          have hrI : (r : Int) < m := by omega
          have hrl : r < b.length := by rw [← HM.out]; omega
          obtain ⟨ga, oa, rfl, hga, hca⟩ := HKA.out (by omega)
          obtain ⟨gb, ob, rfl, hgb, hcb⟩ := HKB.out (by omega)
          have hlow := HJ.out.low
          have ca := (hlow.cell (p := ⟨ga, oa + p, none⟩) hga).trans (hca p (by omega))
          have cb := (hlow.cell (p := ⟨gb, ob + r, none⟩) hgb).trans (hcb r (by omega))
          have cu := HJ.out.cell (i := p + 1) (j := r) (by omega) (by omega) (.inl (by omega))
          have cl := HJ.out.cell (i := p) (j := r + 1) (by omega) (by omega) (.inr ⟨rfl, by omega⟩)
          have cd := HJ.out.cell (i := p + 1) (j := r + 1) (by omega) (by omega) (.inl (by omega))
          obtain ⟨⟨ov, co⟩, cf⟩ := HJ.out.old (i := p) (j := r) (by omega) (by omega)
          have Hput := Lib.hid (fun x hx => HJ.out.put hpl hrl x hx)
          have Hyes := Lib.hid (fun e => LL_yes hpl hrl e)
          have Hno := Lib.hid (fun e => LL_no hpl hrl e)
          have bd := LL_le a b (p + 1) (r + 1)
          obtain ⟨vu, hvu⟩ : ∃ x, x = LL a b (p + 1) r := ⟨_, rfl⟩
          obtain ⟨vl, hvl⟩ : ∃ x, x = LL a b p (r + 1) := ⟨_, rfl⟩
          obtain ⟨vd, hvd⟩ : ∃ x, x = LL a b (p + 1) (r + 1) := ⟨_, rfl⟩
          obtain ⟨x0, hx0⟩ : ∃ x0, x0 = p * (b.length + 1) := ⟨_, rfl⟩
          obtain ⟨x1, hx1⟩ : ∃ x1, x1 = (p + 1) * (b.length + 1) := ⟨_, rfl⟩
          have hx10 : x1 = x0 + m + 1 := by rw [hx1, hx0, Nat.succ_mul, HM.out]; rfl
          have hxT : x1 + m + 1 ≤ T := by
            have h1 := Nat.mul_le_mul_right (b.length + 1) (show p + 2 ≤ n + 1 by omega)
            rw [HT.out, hx1, HM.out]
            rw [Nat.succ_mul] at h1
            omega
          rw [← hvu, ← hx1] at cu
          rw [← hvl, ← hx0] at cl
          rw [← hvd, ← hx1] at cd
          rw [← hx0] at co cf Hput
          rw [← hvu, ← hvl] at Hno
          rw [← hvu, ← hvl, ← hvd] at Hyes
          rw [← hvd, ← HN.out] at bd
          have w1 : IntKind.i64.wrap (((p : Int) + 1) * ((m : Int) + 1)) = (x1 : Int) := by
            have e : ((p : Int) + 1) * ((m : Int) + 1) = (x1 : Int) := by rw [hx1, ← HM.out]; push_cast; rfl
            rw [e, IntKind.wrap_i64]; omega
          have w0 : IntKind.i64.wrap ((p : Int) * ((m : Int) + 1)) = (x0 : Int) := by
            have e : (p : Int) * ((m : Int) + 1) = (x0 : Int) := by rw [hx0, ← HM.out]; push_cast; rfl
            rw [e, IntKind.wrap_i64]; omega
          have l1 : IntKind.i64.wrap ((p : Int) + 1) = (p : Int) + 1 := by rw [IntKind.wrap_i64]; omega
          have l2 : IntKind.i64.wrap ((x1 : Int) + r) = (x1 : Int) + r := by rw [IntKind.wrap_i64]; omega
          have l3 : IntKind.i64.wrap ((x1 : Int) + r + 1) = (x1 : Int) + r + 1 := by rw [IntKind.wrap_i64]; omega
          have l4 : IntKind.i64.wrap ((vd : Int) + 1) = (vd : Int) + 1 := by rw [IntKind.wrap_i64]; omega
          have t1 : (x1 : Int) + r < T := by omega
          have t2 : (x0 : Int) + r < T := by omega
          have t3 : (x0 : Int) + r + 1 < T := by omega
          have t4 : (x1 : Int) + r + 1 < T := by omega
          have u1 : x1 + r < T := by omega
          have u2 : x0 + r < T := by omega
          have u3 : x0 + r + 1 < T := by omega
          have u4 : x1 + r + 1 < T := by omega
          have s1 : ((x1 : Int) + r).toNat = x1 + r := by omega
          have s2 : ((x1 : Int) + r + 1).toNat = x1 + r + 1 := by omega
          have z1 : (0 : Int) ≤ (x1 : Int) + r := by omega
          have z2 : (0 : Int) ≤ (x1 : Int) + r + 1 := by omega
          rw [show x1 + (r + 1) = x1 + r + 1 from rfl] at cd
          rw [show x0 + (r + 1) = x0 + r + 1 from rfl] at cl
          have HX0 := Lib.hid hx0
          have HPL := Lib.hid hpl
          have HRL := Lib.hid hrl
          have HX10 := Lib.hid hx10
          clear hlow hca hcb hvu hvl hvd hx0 hx1 hpl hrl hx10
          by_cases he : nth a p = nth b r
          · have hte : (nth a p).toList = (nth b r).toList := by rw [he]
            have hv := Hyes.out he
            by_cases h1 : (vu : Int) < vl
            · have h1c : True := trivial
              by_cases h2 : (vl : Int) < (vd : Int) + 1
              · have Hx : Hid (∀ w9, KT w a b w.heap.size p (r + 1) L2 w9 → KT w a b w.heap.size p r (L2.set (x0 + r) ((vd : Int) + 1)) (w9.setCell ⟨w.heap.size, x0 + r, none⟩ (.int .i64 ((vd : Int) + 1)))) := fun w9 h9 => by rw [HX0.out]; exact h9.put HPL.out HRL.out _ (by rw [hv]; omega)
                clear hv Hyes Hno Hput he
                go_wp2
                go_quiet (fail)
                have HQ := Lib.hid (Hx.out _ (HJ.out.drewN nq))
                have co' : (wr.drewN nq).cell? ⟨w.heap.size, x0 + r, none⟩ = some (.int .i64 ov) := co
                have cf' : (wr.drewN nq).frozen? ⟨w.heap.size, x0 + r, none⟩ = false := cf
                have cd' : (wr.drewN nq).cell? ⟨w.heap.size, x1 + r + 1, none⟩ = some (.int .i64 (vd : Nat)) := cd
                generalize wr.drewN nq = w5 at HQ co' cf' cd' ⊢
                clear co cf cu cl cd ca cb HJ
                go_wp2
                go_roundw
                case rel => exact ⟨r, by go_num, by omega, _, HQ⟩
                case measure => first | (simp [intOf]; done) | (simp [intOf]; omega)
              · have Hx : Hid (∀ w9, KT w a b w.heap.size p (r + 1) L2 w9 → KT w a b w.heap.size p r (L2.set (x0 + r) ((vl : Int))) (w9.setCell ⟨w.heap.size, x0 + r, none⟩ (.int .i64 ((vl : Int))))) := fun w9 h9 => by rw [HX0.out]; exact h9.put HPL.out HRL.out _ (by rw [hv]; omega)
                clear hv Hyes Hno Hput he
                go_wp2
                go_quiet (fail)
                have HQ := Lib.hid (Hx.out _ (HJ.out.drewN nq))
                have co' : (wr.drewN nq).cell? ⟨w.heap.size, x0 + r, none⟩ = some (.int .i64 ov) := co
                have cf' : (wr.drewN nq).frozen? ⟨w.heap.size, x0 + r, none⟩ = false := cf
                have cd' : (wr.drewN nq).cell? ⟨w.heap.size, x1 + r + 1, none⟩ = some (.int .i64 (vd : Nat)) := cd
                generalize wr.drewN nq = w5 at HQ co' cf' cd' ⊢
                clear co cf cu cl cd ca cb HJ
                go_wp2
                go_roundw
                case rel => exact ⟨r, by go_num, by omega, _, HQ⟩
                case measure => first | (simp [intOf]; done) | (simp [intOf]; omega)
            · have h1c : True := trivial
              by_cases h2 : (vu : Int) < (vd : Int) + 1
              · have Hx : Hid (∀ w9, KT w a b w.heap.size p (r + 1) L2 w9 → KT w a b w.heap.size p r (L2.set (x0 + r) ((vd : Int) + 1)) (w9.setCell ⟨w.heap.size, x0 + r, none⟩ (.int .i64 ((vd : Int) + 1)))) := fun w9 h9 => by rw [HX0.out]; exact h9.put HPL.out HRL.out _ (by rw [hv]; omega)
                clear hv Hyes Hno Hput he
                go_wp2
                go_quiet (fail)
                have HQ := Lib.hid (Hx.out _ (HJ.out.drewN nq))
                have co' : (wr.drewN nq).cell? ⟨w.heap.size, x0 + r, none⟩ = some (.int .i64 ov) := co
                have cf' : (wr.drewN nq).frozen? ⟨w.heap.size, x0 + r, none⟩ = false := cf
                have cd' : (wr.drewN nq).cell? ⟨w.heap.size, x1 + r + 1, none⟩ = some (.int .i64 (vd : Nat)) := cd
                generalize wr.drewN nq = w5 at HQ co' cf' cd' ⊢
                clear co cf cu cl cd ca cb HJ
                go_wp2
                go_roundw
                case rel => exact ⟨r, by go_num, by omega, _, HQ⟩
                case measure => first | (simp [intOf]; done) | (simp [intOf]; omega)
              · have Hx : Hid (∀ w9, KT w a b w.heap.size p (r + 1) L2 w9 → KT w a b w.heap.size p r (L2.set (x0 + r) ((vu : Int))) (w9.setCell ⟨w.heap.size, x0 + r, none⟩ (.int .i64 ((vu : Int))))) := fun w9 h9 => by rw [HX0.out]; exact h9.put HPL.out HRL.out _ (by rw [hv]; omega)
                clear hv Hyes Hno Hput he
                go_wp2
                go_quiet (fail)
                have HQ := Lib.hid (Hx.out _ (HJ.out.drewN nq))
                have co' : (wr.drewN nq).cell? ⟨w.heap.size, x0 + r, none⟩ = some (.int .i64 ov) := co
                have cf' : (wr.drewN nq).frozen? ⟨w.heap.size, x0 + r, none⟩ = false := cf
                have cd' : (wr.drewN nq).cell? ⟨w.heap.size, x1 + r + 1, none⟩ = some (.int .i64 (vd : Nat)) := cd
                generalize wr.drewN nq = w5 at HQ co' cf' cd' ⊢
                clear co cf cu cl cd ca cb HJ
                go_wp2
                go_roundw
                case rel => exact ⟨r, by go_num, by omega, _, HQ⟩
                case measure => first | (simp [intOf]; done) | (simp [intOf]; omega)
          · have hte := ne_lists (a := nth a p) (b := nth b r) (fun h => he (bytes_eq h))
            have hv := Hno.out he
            by_cases h1 : (vu : Int) < vl
            · have Hx : Hid (∀ w9, KT w a b w.heap.size p (r + 1) L2 w9 → KT w a b w.heap.size p r (L2.set (x0 + r) (vl : Int)) (w9.setCell ⟨w.heap.size, x0 + r, none⟩ (.int .i64 (vl : Int)))) := fun w9 h9 => by rw [HX0.out]; exact h9.put HPL.out HRL.out _ (by rw [hv]; omega)
              clear hv Hyes Hno Hput he
              go_wp2
              go_quiet (fail)
              have HQ := Lib.hid (Hx.out _ (HJ.out.drewN nq))
              have co' : (wr.drewN nq).cell? ⟨w.heap.size, x0 + r, none⟩ = some (.int .i64 ov) := co
              have cf' : (wr.drewN nq).frozen? ⟨w.heap.size, x0 + r, none⟩ = false := cf
              have cd' : (wr.drewN nq).cell? ⟨w.heap.size, x1 + r + 1, none⟩ = some (.int .i64 (vd : Nat)) := cd
              generalize wr.drewN nq = w5 at HQ co' cf' cd' ⊢
              clear co cf cu cl cd ca cb HJ
              go_wp2
              go_roundw
              case rel => exact ⟨r, by go_num, by omega, _, HQ⟩
              case measure => first | (simp [intOf]; done) | (simp [intOf]; omega)
            · have Hx : Hid (∀ w9, KT w a b w.heap.size p (r + 1) L2 w9 → KT w a b w.heap.size p r (L2.set (x0 + r) (vu : Int)) (w9.setCell ⟨w.heap.size, x0 + r, none⟩ (.int .i64 (vu : Int)))) := fun w9 h9 => by rw [HX0.out]; exact h9.put HPL.out HRL.out _ (by rw [hv]; omega)
              clear hv Hyes Hno Hput he
              go_wp2
              go_quiet (fail)
              have HQ := Lib.hid (Hx.out _ (HJ.out.drewN nq))
              have co' : (wr.drewN nq).cell? ⟨w.heap.size, x0 + r, none⟩ = some (.int .i64 ov) := co
              have cf' : (wr.drewN nq).frozen? ⟨w.heap.size, x0 + r, none⟩ = false := cf
              have cd' : (wr.drewN nq).cell? ⟨w.heap.size, x1 + r + 1, none⟩ = some (.int .i64 (vd : Nat)) := cd
              generalize wr.drewN nq = w5 at HQ co' cf' cd' ⊢
              clear co cf cu cl cd ca cb HJ
              go_wp2
              go_roundw
              case rel => exact ⟨r, by go_num, by omega, _, HQ⟩
              case measure => first | (simp [intOf]; done) | (simp [intOf]; omega)
end Go.Proofs.Ytnpbogioehpeoaa.Myr
