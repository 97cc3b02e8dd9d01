/- DERIVED. The contract of the reference's Primes of layer 1: the first so many. -/
import Derived.Test.YtblgblhoolpmiaaDoorProg
import Derived.Test.YtblgblhoolpmiaaDoorRef1Math
import Derived.Test.YtblgblhoolpmiaaDoorOwn
import Derived.Deep.QuietTactic
import Derived.BigQuiet
namespace Go.Proofs.YtblgblhoolpmiaaDoor
open Go.RowKit
theorem info64 : (Tryd.prog.info? 54).map (fun i => (i.zero, i.size, i.bytes)) = some (some (.int .u64 0), 1, 8) := by kernel_rfl
theorem info32k : (Tryd.prog.info? 22).map (fun i => (i.zero, i.size, i.bytes)) = some (some (.int .u32 0), 1, 4) := by kernel_rfl
theorem info8k : (Tryd.prog.info? 5).map (fun i => (i.zero, i.size, i.bytes)) = some (some (.int .u8 0), 1, 1) := by kernel_rfl
theorem prN_at (k : Nat) (h : k < 312) (j : Nat) (hj : j < (prN k).length) : 2 ≤ (prN k).getD j 0 ∧ (prN k).getD j 0 < 312 := by
  have hl := prN_in_all ⟨k, h⟩
  have e := prN_take k h
  have : (prN k).getD j 0 = PR.getD j 0 := by
    rw [e]
    simp only [List.getD_eq_getElem?_getD, List.getElem?_take, if_pos hj]
  rw [this]
  exact PR_in j (by simp only at hl; omega)
attribute [local irreducible] prN runP
set_option maxRecDepth 100000 in
set_option maxHeartbeats 2000000 in
theorem primes_any (m : Nat) (hm0 : 0 < m) (hm : m ≤ 64) (w : World) :
    Calls Tryd.prog 26 #[.int .i64 (m : Int)] w fun e w' => ∃ g cap, e = .returned (.slice (some ⟨g, 0, none⟩) m cap) ∧ w.heap.size ≤ g ∧ RowK .u64 w' g (PR.take m) ∧ Below w.heap.size w w' := by
  obtain ⟨i64, hi64, hz640, hz641, hz642⟩ := partsK info64
  have gi := Lib.hid hi64
  have gz0 := Lib.hid hz640
  have gz1 := Lib.hid hz641
  have gz2 := Lib.hid hz642
  clear hi64 hz640 hz641 hz642
  go_enter Tryd.func26, Tryd.ntmps26
  go_wp2
  go_loopw [3, 4] (fun v c wr => ∃ k : Nat, k ≤ 310 ∧ c = .int .u64 ((k : Int) + 2) ∧ Hid (wr.ownsRow w.heap.size 54 1 v (prN k).length (valsK .u64 (prN k)) ∧ Below w.heap.size w wr ∧ (prN k).length ≤ m)) (fun _ c _ => 400 - (intOf c).toNat)
  case atStart => exact ⟨0, by omega, rfl, by { have := World.ownsRow_nil w w.heap.size 54 1; rw [prN_zero]; exact this }, Below.refl _ _, by rw [prN_zero]; exact Nat.zero_le _⟩
  case round =>
    obtain ⟨k, hk, rfl, hr⟩ := hrel
    obtain ⟨A, cap, rfl⟩ := own_nilK hr.out.1
    obtain ⟨n, hn⟩ : ∃ n, (prN k).length = n := ⟨_, rfl⟩
    have Hn := Lib.hid hn
    have hnm : n ≤ m := by rw [← hn]; exact hr.out.2.2
    by_cases hlt : n < m
    · have hk2 : k < 310 := prN_few k (by omega) (by omega)
      obtain ⟨c, hc⟩ : ∃ c, c = (k : Int) + 2 := ⟨_, rfl⟩
      have c0 : 2 ≤ c := by omega
      have c1 : c < 400 := by omega
      have hltI : (n : Int) < m := by omega
      have Hc := Lib.hid hc
      rw [← hc]
      rw [hn]
      have own : Hid (wr.ownsRow w.heap.size 54 1 (.slice A n cap) n (valsK .u64 (prN k))) := by have h := hr.out.1; rw [hn] at h; exact h
      have low := Lib.hid hr.out.2.1
      clear hc hr hn
      obtain ⟨wo, hwo⟩ : ∃ wo, wo = wr := ⟨_, rfl⟩
      subst hwo
      go_wp2
      go_loopw [5, 6] (fun b i wx => ∃ (j : Nat) (t : Bool), j ≤ n ∧ i = .int .i64 j ∧ b = .bool t ∧ Hid (∃ q, wx = wo.drewN q) ∧ Hid (runP (prN k) c = if t = true then runP ((prN k).drop j) c else false)) (fun _ i _ => n - (intOf i).toNat)
      case atStart => exact ⟨0, true, by omega, rfl, rfl, ⟨0, rfl⟩, by show _ = _; simp⟩
      case round =>
        obtain ⟨j, t, hj, rfl, rfl, hwx, hru⟩ := hrel
        obtain ⟨q0, hwq⟩ := hwx.out
        have Hwx := Lib.hid hwq
        clear hwx hwq
        cases t with
        | false =>
          have hstep : prN (k + 1) = prN k := by
            rw [prN_step k (by omega), ← Hc.out, hru.out]; rfl
          have Hst := Lib.hid hstep
          have hcn : ((k + 1 : Nat) : Int) + 2 = c + 1 := by rw [Hc.out]; omega
          have Hcn := Lib.hid hcn
          have fin : ∀ q, ((wo.drewN q).ownsRow w.heap.size 54 1 (.slice A n cap) (prN (k + 1)).length (valsK .u64 (prN (k + 1))) ∧ Below w.heap.size w (wo.drewN q) ∧ (prN (k + 1)).length ≤ m) := fun q => by
            rw [hstep, Hn.out]; exact ⟨own_stays own.out (Below.drewN (Below.refl _ _) q), Below.drewN low.out q, hnm⟩
          have Fin := Lib.hid fin
          clear hstep hcn fin
          by_cases hjn : j < n
          · have hjI : (j : Int) < n := by omega
            go_wp2
            go_quiet (fail)
            go_wp2
            go_roundw
            case rel => exact ⟨k + 1, by omega, by rw [Hcn.out], by rw [Hwx.out, World.drewN_drewN]; exact Fin.out _⟩
            case measure => simp [intOf]; omega
          · have hjI : ¬ (j : Int) < n := by omega
            go_wp2
            go_quiet (fail)
            go_wp2
            go_roundw
            case rel => exact ⟨k + 1, by omega, by rw [Hcn.out], by rw [Hwx.out, World.drewN_drewN]; exact Fin.out _⟩
            case measure => simp [intOf]; omega
        | true =>
          by_cases hjn : j < n
          · obtain ⟨g, c2, hv, _, hg, hrow⟩ := own_rowK own.out Hn.out (by omega)
            injection hv with hA hn2 hc2
            subst hA hc2
            obtain ⟨x, hx⟩ : ∃ x, (prN k).getD j 0 = x := ⟨_, rfl⟩
            have hxr := prN_at k (by omega) j (by rw [Hn.out]; exact hjn)
            rw [hx] at hxr
            obtain ⟨x0, x1⟩ := hxr
            have cell : wr.cell? ⟨g, j, none⟩ = some (.int .u64 x) := by rw [Hwx.out, ← hx]; exact hrow.2 j (by rw [Hn.out]; exact hjn)
            have hrs := hru.out
            simp only [if_true] at hrs
            rw [runP_step j (by rw [Hn.out]; exact hjn), hx] at hrs
            have hjI : (j : Int) < n := by omega
            have hxx0 : 0 ≤ x * x := Int.mul_nonneg (by omega) (by omega)
            have hxx1 : x * x < 100000 := by
              have h1 : x * x ≤ 311 * x := Int.mul_le_mul_of_nonneg_right (by omega) (by omega)
              omega
            have hxw : IntKind.u64.wrap (x * x) = x * x := by rw [show IntKind.u64.wrap (x * x) = (x * x) % 18446744073709551616 by simp [IntKind.wrap, IntKind.bits, IntKind.signed]]; omega
            have Hrs := Lib.hid hrs
            have hmod0 : 0 ≤ c % x := Int.emod_nonneg c (by omega)
            have hmod1 : c % x < x := Int.emod_lt_of_pos c (by omega)
            clear hx hrs hrow hg hru
            by_cases hsq : x * x ≤ c
            · by_cases hmod : c % x = 0
              · go_wp2
                go_quiet (fail)
                go_wp2
                go_roundw
                case rel => exact ⟨j + 1, false, by omega, by go_num, by simp, ⟨q0 + nq, by rw [Hwx.out, World.drewN_drewN]⟩, by show _ = _; rw [Hrs.out, if_pos hsq, if_pos hmod]; simp⟩
                case measure => simp [intOf]; omega
              · go_wp2
                go_quiet (fail)
                go_wp2
                go_roundw
                case rel => exact ⟨j + 1, true, by omega, by go_num, by simp [hmod], ⟨q0 + nq, by rw [Hwx.out, World.drewN_drewN]⟩, by show _ = _; rw [Hrs.out, if_pos hsq, if_neg hmod]; simp⟩
                case measure => simp [intOf]; omega
            · have hrt : runP (prN k) c = true := by rw [Hrs.out, if_neg hsq]
              have hstep : prN (k + 1) = prN k ++ [c] := by
                rw [prN_step k (by omega), ← Hc.out, hrt]; rfl
              have Hst := Lib.hid hstep
              have hcn : ((k + 1 : Nat) : Int) + 2 = c + 1 := by rw [Hc.out]; omega
              have Hcn := Lib.hid hcn
              have own2 := fun q => own_stays own.out (Below.drewN (Below.refl wo.heap.size wo) q)
              have low2 := fun q => Below.drewN low.out q
              have Own2 := Lib.hid own2
              have Low2 := Lib.hid low2
              clear hstep hcn hrt own2 low2
              go_wp2
              go_quiet (fail)
              go_wp2_with (at_builtin; refine wpList_append_mine rfl (.tmp 43) (.tmp 45) 51 rfl w.heap.size 54 i64 (.int .u64 0) 8 Tryd.underlying51 gi.out gz0.out gz1.out gz2.out rfl (by decide) _ n (prN k) c rfl (by rw [Hwx.out, World.drewN_drewN]; exact Own2.out _) rfl (by omega) (by rw [Hwx.out, World.drewN_drewN]; exact (Low2.out _).size) ?_; intro v' w' hg; have Hg := Lib.hid hg; clear hg)
              go_roundw
              case rel => exact ⟨k + 1, by omega, by rw [Hcn.out], by rw [Hst.out, List.length_append, Hn.out]; exact ⟨Hg.out.own, Hg.out.low _ _ (by rw [Hwx.out, World.drewN_drewN]; exact Low2.out _) (Nat.le_refl _), by simp; omega⟩⟩
              case measure => simp [intOf]; omega
          · obtain rfl : n = j := by omega
            have hrs := hru.out
            simp only [if_true] at hrs
            rw [runP_end _ (by rw [Hn.out]; exact Nat.le_refl _)] at hrs
            have hrt := hrs
            clear hrs hru
            have hstep : prN (k + 1) = prN k ++ [c] := by
              rw [prN_step k (by omega), ← Hc.out, hrt]; rfl
            have Hst := Lib.hid hstep
            have hcn : ((k + 1 : Nat) : Int) + 2 = c + 1 := by rw [Hc.out]; omega
            have Hcn := Lib.hid hcn
            have own2 := fun q => own_stays own.out (Below.drewN (Below.refl wo.heap.size wo) q)
            have low2 := fun q => Below.drewN low.out q
            have Own2 := Lib.hid own2
            have Low2 := Lib.hid low2
            clear hstep hcn hrt own2 low2
            go_wp2
            go_quiet (fail)
            go_wp2_with (at_builtin; refine wpList_append_mine rfl (.tmp 43) (.tmp 45) 51 rfl w.heap.size 54 i64 (.int .u64 0) 8 Tryd.underlying51 gi.out gz0.out gz1.out gz2.out rfl (by decide) _ n (prN k) c rfl (by rw [Hwx.out, World.drewN_drewN]; exact Own2.out _) rfl (by omega) (by rw [Hwx.out, World.drewN_drewN]; exact (Low2.out _).size) ?_; intro v' w' hg; have Hg := Lib.hid hg; clear hg)
            go_roundw
            case rel => exact ⟨k + 1, by omega, by rw [Hcn.out], by rw [Hst.out, List.length_append, Hn.out]; exact ⟨Hg.out.own, Hg.out.low _ _ (by rw [Hwx.out, World.drewN_drewN]; exact Low2.out _) (Nat.le_refl _), by simp; omega⟩⟩
            case measure => simp [intOf]; omega
    · have e : n = m := by omega
      subst e
      have hrow := hr.out.1
      have low := hr.out.2.1
      obtain ⟨g, c2, hv, _, hg, hrw⟩ := own_rowK hrow rfl (by omega)
      rw [hn] at hv
      injection hv with hA hn2 hc2
      subst hA hc2
      rw [prN_take k (by omega), hn] at hrw
      rw [hn]
      have Hrw := Lib.hid hrw
      have Low := Lib.hid low
      have hltI : ¬ (n : Int) < n := by omega
      clear hrw low hrow hr hn Hn
      go_wp2
      go_ret
      exact ⟨g, ⟨cap, rfl⟩, hg, Hrw.out, Low.out⟩
end Go.Proofs.YtblgblhoolpmiaaDoor
