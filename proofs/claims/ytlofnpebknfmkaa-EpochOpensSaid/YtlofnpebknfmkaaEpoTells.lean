/- DERIVED. The reference of layer 10: Tells. -/
import Derived.Test.YtlofnpebknfmkaaEpoSpec
import Derived.Test.YtlofnpebknfmkaaProg
import Derived.Deep.DeepCutAuto
namespace Go.Proofs.Ytlofnpebknfmkaa.Epo
open Go.RowKit Dsk
theorem tell_yes {L : List Int} {p : Nat} (hp : p = lead 1 L) (h : p + lead 0 (restL L) = L.length) : tellV L = p ∧ tellE L = 0 := by
  have hl : (restL L).length = L.length - p := by rw [restL, List.length_drop, hp]
  have : ¬ lead 0 (restL L) < (restL L).length := by omega
  exact ⟨by rw [tellV, if_neg this, hp], by rw [tellE, if_neg this]⟩
theorem tell_no {L : List Int} {p : Nat} (hp : p = lead 1 L) (h : p + lead 0 (restL L) < L.length) : tellV L = 0 ∧ tellE L = 9 := by
  have hl : (restL L).length = L.length - p := by rw [restL, List.length_drop, hp]
  have : lead 0 (restL L) < (restL L).length := by omega
  exact ⟨by rw [tellV, if_pos this], by rw [tellE, if_pos this]⟩
theorem rest_get {L : List Int} {p j : Nat} (hp : p = lead 1 L) (hj : p ≤ j) : (restL L).getD (j - p) 0 = L.getD j 0 := by
  rw [restL, getD_drop'', ← hp, show p + (j - p) = j by omega]
theorem rest_more {L : List Int} {p j : Nat} (hp : p = lead 1 L) (hj : p ≤ j) (hle : j ≤ p + lead 0 (restL L)) (hlt : j < L.length) (h0 : L.getD j 0 = 0) : j + 1 ≤ p + lead 0 (restL L) := by
  rcases Nat.lt_or_ge j (p + lead 0 (restL L)) with h | h
  · omega
  · have e : lead 0 (restL L) = j - p := by omega
    have hl : (restL L).length = L.length - p := by rw [restL, List.length_drop, hp]
    have := lead_stop 0 (restL L) (by omega)
    rw [e, rest_get hp hj] at this
    exact absurd h0 this
theorem rest_stop {L : List Int} {p j : Nat} (hp : p = lead 1 L) (hj : p ≤ j) (hle : j ≤ p + lead 0 (restL L)) (h0 : L.getD j 0 ≠ 0) : p + lead 0 (restL L) = j := by
  rcases Nat.lt_or_ge j (p + lead 0 (restL L)) with h | h
  · have := lead_get 0 (restL L) (j - p) (by omega)
    rw [rest_get hp hj] at this
    exact absurd this h0
  · omega
set_option maxRecDepth 100000 in
set_option maxHeartbeats 2000000 in
theorem tells_any (A : Option Addr) (c n : Nat) (L : List Int) (w : World) (hB : Byt w A c L) (hn : L.length = n) (hmax : n ≤ 4194304) :
    Calls Try.prog 13 #[.slice A n c] w fun e w' => e = .returned (.tuple #[.int .i64 (tellV L), .int .i64 (tellE L)]) ∧ w = w' := by
  have HB := Lib.hid hB
  have Hn := Lib.hid hn
  have Hle := Lib.hid (lead_le 1 L)
  clear hB hn
  go_enter Try.func13, Try.ntmps13
  go_upto_region 2 with (fail)
  go_loopw [4] (fun v wr => ∃ k : Nat, k ≤ lead 1 L ∧ v = .int .i64 k ∧ wr = w) (fun v _ => n - (intOf v).toNat)
  case atStart => exact ⟨0, Nat.zero_le _, rfl, rfl⟩
  case round =>
    obtain ⟨k, hk, rfl, rfl⟩ := hrel
    have hkn : k ≤ n := by have := Hle.out; have := Hn.out; omega
    by_cases hlt : k < n
    · have hltI : (k : Int) < (n : Int) := by omega
      obtain ⟨y, hy⟩ : ∃ y, y = L.getD k 0 := ⟨_, rfl⟩
      have hck : ∃ b off, A = some ⟨b, off, none⟩ ∧ wr.cell? ⟨b, off + k, none⟩ = some (.int .u8 y) := by
        obtain ⟨b, off, e, hb, hcell⟩ := HB.out.2.2 (by have := Hn.out; omega)
        exact ⟨b, off, e, by rw [hy]; exact hcell k (by have := Hn.out; omega)⟩
      have Hy := Lib.hid hy
      obtain ⟨b, off, rfl, hck⟩ := hck
      have hkc : k < c := by have := HB.out.1; have := Hn.out; omega
      clear hy
      by_cases e : y = 1
      · have He := Lib.hid e
        subst e
        go_wp2
        refine ⟨⟨k + 1, ?_, by go_num, trivial⟩, by simp [intOf] <;> omega⟩
        rcases Nat.lt_or_ge k (lead 1 L) with h | h
        · omega
        · have e1 : lead 1 L = k := by omega
          have := lead_stop 1 L (by have := Hn.out; omega)
          rw [e1, ← Hy.out] at this
          exact absurd rfl this
      · have hp : k = lead 1 L := by
          rcases Nat.lt_or_ge k (lead 1 L) with h | h
          · have := lead_get 1 L k h
            rw [← Hy.out] at this
            exact absurd this e
          · omega
        have Hp := Lib.hid hp
        clear hp
        go_upto_region 5 with (fail)
        go_loopw [5] (fun v wx => ∃ j : Nat, k ≤ j ∧ j ≤ n ∧ v = .int .i64 j ∧ wx = wr ∧ Hid (j ≤ k + lead 0 (restL L))) (fun v _ => n - (intOf v).toNat)
        case atStart => exact ⟨k, Nat.le_refl _, hkn, rfl, rfl, Nat.le_add_right _ _⟩
        case round =>
          obtain ⟨j, hkj, hj, rfl, rfl, hle⟩ := hrel
          by_cases hlt2 : j < n
          · have hltI2 : (j : Int) < (n : Int) := by omega
            obtain ⟨b2, off2, e2, hb, hcell⟩ := HB.out.2.2 (by have := Hn.out; omega)
            cases e2
            have hck := hcell j (by have := Hn.out; omega)
            obtain ⟨y, hy⟩ : ∃ y, y = L.getD j 0 := ⟨_, rfl⟩
            rw [← hy] at hck
            have Hy := Lib.hid hy
            have hjc : j < c := by have := HB.out.1; have := Hn.out; omega
            clear hcell hy hb
            by_cases e : y = 0
            · have He := Lib.hid e
              subst e
              go_wp2
              refine ⟨⟨j + 1, by omega, by omega, by go_num, trivial, rest_more Hp.out hkj hle.out (by have := Hn.out; omega) Hy.out.symm⟩, by simp [intOf] <;> omega⟩
            · have He := Lib.hid e
              go_wp2
              go_ret2
              have hst := rest_stop Hp.out hkj hle.out (by rw [← Hy.out]; exact He.out)
              obtain ⟨t1, t2⟩ := tell_no Hp.out (by rw [hst, Hn.out]; exact hlt2)
              rw [t1, t2]
              exact ⟨rfl, rfl⟩
          · have hltI2 : ¬ (j : Int) < (n : Int) := by omega
            go_wp2
            go_ret2
            have hl9 := lead_le 0 (restL L)
            have hl8 : (restL L).length = L.length - k := by rw [restL, List.length_drop, Hp.out]
            obtain ⟨t1, t2⟩ := tell_yes Hp.out (by have := hle.out; have := Hn.out; omega)
            rw [t1, t2]
            exact ⟨rfl, rfl⟩
    · have hltI : ¬ (k : Int) < (n : Int) := by omega
      have hp : k = lead 1 L := by have := Hle.out; have := Hn.out; omega
      have Hp := Lib.hid hp
      clear hp
      go_upto_region 5 with (fail)
      go_loopw [5] (fun v wx => ∃ j : Nat, k ≤ j ∧ j ≤ n ∧ v = .int .i64 j ∧ wx = wr ∧ Hid (j ≤ k + lead 0 (restL L))) (fun v _ => n - (intOf v).toNat)
      case atStart => exact ⟨k, Nat.le_refl _, hkn, rfl, rfl, Nat.le_add_right _ _⟩
      case round =>
        obtain ⟨j, hkj, hj, rfl, rfl, hle⟩ := hrel
        by_cases hlt2 : j < n
        · exfalso; omega
        · have hltI2 : ¬ (j : Int) < (n : Int) := by omega
          go_wp2
          go_ret2
          have hl9 := lead_le 0 (restL L)
          have hl8 : (restL L).length = L.length - k := by rw [restL, List.length_drop, Hp.out]
          obtain ⟨t1, t2⟩ := tell_yes Hp.out (by have := hle.out; have := Hn.out; omega)
          rw [t1, t2]
          exact ⟨rfl, rfl⟩
end Go.Proofs.Ytlofnpebknfmkaa.Epo
