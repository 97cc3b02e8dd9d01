/- DERIVED. The reference's Join of any texts. -/
import Derived.Test.YtpaolndgagedkaaLnsRef2
import Derived.Test.YtpaolndgagedkaaLnsJoin
namespace Go.Proofs.Ytpaolndgagedkaa.Lns
open Go.RowKit
theorem jnB_next {L : List ByteArray} {k : Nat} (h : k < L.length) : mkB (jn L k) ++ nth L k ++ ⟨#[10]⟩ = mkB (jn L (k + 1)) := by
  refine bytes_eq ?_
  rw [mkB_data, jn_next h]
  simp [mkB]
set_option maxHeartbeats 2000000 in
theorem rjoin_any (L : List ByteArray) (v : Value) (w : World) (hR : RdT L v w) (hj : (joinB L).size ≤ 500000) : Calls Try.prog 21 #[v] w fun e w' => e = .returned (.string (joinB L)) ∧ w = w' := by
  obtain ⟨A, c, rfl, _, hk⟩ := hR
  obtain ⟨n, hn⟩ : ∃ n, n = L.length := ⟨_, rfl⟩
  have hn9 : n ≤ 500000 := by have := joinB_len L; omega
  rw [← hn]
  have Hk := Lib.hid hk
  have Hn := Lib.hid hn
  have Hj := Lib.hid hj
  clear hk hn hj
  go_enter Try.func21, Try.ntmps21
  go_wp2
  go_loop [3, 4] (fun s i => ∃ k : Nat, k ≤ n ∧ i = .int .i64 k ∧ s = .string (mkB (jn L k))) (fun _ i => n - (intOf i).toNat)
  case atStart => exact ⟨0, Nat.zero_le _, rfl, rfl⟩
  case round =>
    obtain ⟨k, hk, rfl, rfl⟩ := hrel
    by_cases hp : k < n
    · have hpI : (k : Int) < n := by omega
      have hpl : k < L.length := by rw [← Hn.out]; exact hp
      obtain ⟨g, off, rfl, hg, hcell⟩ := Hk.out (by omega)
      have hc := hcell k hpl
      have hnx := jnB_next hpl
      have hle : (mkB (jn L (k + 1))).size ≤ 500000 := Nat.le_trans (by rw [mkB_size]; exact jn_le) Hj.out
      rw [← hnx, ByteArray.size_append, ByteArray.size_append] at hle
      have h1 : (mkB (jn L k)).size + (nth L k).size ≤ 500000 := by omega
      have Hnx := Lib.hid hnx
      clear hcell hnx
      go_wp2
      go_round
      case rel => exact ⟨k + 1, by omega, by go_num, by rw [← Hnx.out]⟩
      case measure => simp [intOf]; omega
    · have hpI : ¬ (k : Int) < n := by omega
      have HR : Hid (mkB (jn L k) = joinB L) := by rw [Hid, jn_all (by rw [← Hn.out]; exact hp), mkB_of]
      go_wp2
      go_ret
      exact ⟨ret_s HR.out, rfl⟩
end Go.Proofs.Ytpaolndgagedkaa.Lns
