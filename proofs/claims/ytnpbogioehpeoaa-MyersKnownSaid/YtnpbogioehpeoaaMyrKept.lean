/- DERIVED. The law's kept, letters. -/
import Derived.Test.YtnpbogioehpeoaaMyrWorks
namespace Go.Proofs.Ytnpbogioehpeoaa.Myr
open Go.RowKit Lns
def keptS (S : List Sti) : Nat := (S.filter (·.1 = 0)).length
theorem keptS_up (l : List St) : keptS (l.map up) = keptN l := by
  unfold keptS keptN
  rw [List.filter_map, List.length_map]
  congr 1
  refine List.filter_congr fun s _ => ?_
  simp [up]
theorem takeS {S : List Sti} {k : Nat} (h : k < S.length) : S.take (k + 1) = S.take k ++ [sth S k] := by
  rw [sth_lt h, List.take_succ_eq_append_getElem h]
theorem keptS_yes {S : List Sti} {k : Nat} (h : k < S.length) (e : (sth S k).1 = 0) : keptS (S.take (k + 1)) = keptS (S.take k) + 1 := by
  unfold keptS; rw [takeS h, List.filter_append, List.length_append]; simp [e]
theorem keptS_no {S : List Sti} {k : Nat} (h : k < S.length) (e : (sth S k).1 ≠ 0) : keptS (S.take (k + 1)) = keptS (S.take k) := by
  unfold keptS; rw [takeS h, List.filter_append, List.length_append]; simp [e]
theorem keptS_le (S : List Sti) : keptS S ≤ S.length := List.length_filter_le _ _
set_option maxHeartbeats 1000000 in
theorem kept_any (S : List Sti) (v : Value) (w : World) (hR : RdS S v w) (hn9 : S.length ≤ 100000) : Calls Try.prog 17 #[v] w fun e w' => e = .returned (.int .i64 (keptS S)) ∧ w = w' := by
  obtain ⟨A, c, rfl, _, hk⟩ := hR
  obtain ⟨n, hn⟩ : ∃ n, n = S.length := ⟨_, rfl⟩
  have HK := Lib.hid hk
  have Hn := Lib.hid hn
  rw [← hn] at hn9 ⊢
  clear hk hn
  go_enter Try.func17, Try.ntmps17
  go_wp2
  go_loopw [3, 4] (fun t i wr => ∃ k m : Nat, i = .int .i64 k ∧ t = .int .i64 m ∧ k ≤ n ∧ m ≤ k ∧ Hid (m = keptS (S.take k)) ∧ w = wr) (fun _ i _ => n - (intOf i).toNat)
  case atStart => exact ⟨0, 0, rfl, rfl, Nat.zero_le _, Nat.le_refl _, rfl, rfl⟩
  case round =>
    obtain ⟨k, m, rfl, rfl, hk, hmk, HM, rfl⟩ := hrel
    by_cases hp : k < n
    · have hpI : (k : Int) < n := by omega
      have hpl : k < S.length := by rw [← Hn.out]; exact hp
      obtain ⟨g, off, rfl, hg, hc⟩ := HK.out (by omega)
      obtain ⟨c0, _, _⟩ := hc k hpl
      by_cases he : (sth S k).1 = 0
      · have HM2 : Hid (m + 1 = keptS (S.take (k + 1))) := by show _ = _; rw [keptS_yes hpl he, ← HM.out]
        rw [he] at c0
        clear hc HM he
        go_wp2
        go_roundw
        case rel => exact ⟨k + 1, m + 1, by go_num, by go_num, by omega, by omega, HM2, trivial⟩
        case measure => simp [intOf]; omega
      · have HM2 : Hid (m = keptS (S.take (k + 1))) := by show _ = _; rw [keptS_no hpl he, ← HM.out]
        have hq : ((sth S k).1 == 0) = false := by simpa using he
        obtain ⟨z, hz⟩ : ∃ z, z = (sth S k).1 := ⟨_, rfl⟩
        rw [← hz] at c0 hq
        clear hc HM he hz
        go_wp2
        go_roundw
        case rel => exact ⟨k + 1, m, by go_num, rfl, by omega, by omega, HM2, trivial⟩
        case measure => simp [intOf]; omega
    · have hpI : ¬ (k : Int) < n := by omega
      have HR : Hid (m = keptS S) := by
        have h := HM.out
        rwa [List.take_of_length_le (by rw [← Hn.out]; omega)] at h
      clear HM
      go_wp2
      go_ret
      exact ⟨ret_i (by have := HR.out; omega), rfl⟩
/-- a text's bytes as texts. -/
def letL (s : ByteArray) (k : Nat) : List ByteArray := (List.range k).map fun i => s.extract i (i + 1)
theorem letL_next (s : ByteArray) (k : Nat) : letL s k ++ [s.extract k (k + 1)] = letL s (k + 1) := by
  unfold letL; rw [List.range_succ, List.map_append]; rfl
theorem letL_len (s : ByteArray) (k : Nat) : (letL s k).length = k := by simp [letL]
set_option maxRecDepth 100000 in
set_option maxHeartbeats 1000000 in
theorem letters_any (s : ByteArray) (w : World) (hs : s.size ≤ 1000) : Calls Try.prog 18 #[.string s] w fun e w' => ∃ v, e = .returned v ∧ OwnT w.heap.size (letL s s.size) v w' ∧ Below w.heap.size w w' := by
  have Hst : Hid (OwnT w.heap.size (letL s 0) (.slice none 0 0) w ∧ Below w.heap.size w w) := ⟨OwnT.nil _ _, Below.refl _ _⟩
  go_enter Try.func18, Try.ntmps18
  go_wp2
  go_loopw [3, 4] (fun v i wr => ∃ k : Nat, i = .int .i64 k ∧ k ≤ s.size ∧ Hid (OwnT w.heap.size (letL s k) v wr ∧ Below w.heap.size w wr)) (fun _ i _ => s.size - (intOf i).toNat)
  case atStart => exact ⟨0, rfl, Nat.zero_le _, Hst⟩
  case round =>
    obtain ⟨k, rfl, hk, HI⟩ := hrel
    clear Hst
    by_cases hp : k < s.size
    · have hpI : (k : Int) < s.size := by omega
      have hsz : Hid (w.heap.size ≤ wr.heap.size) := HI.out.2.size
      have hln : Hid ((letL s k).length ≤ 100000) := by show _ ≤ _; rw [letL_len]; omega
      have hnx := Lib.hid (letL_next s k)
      have e1 : (k : Int) + 1 ≤ s.size := by omega
      have e2 : k + 1 ≤ s.size := by omega
      have e3 : (0 : Int) ≤ (k : Int) + 1 := by omega
      have e4 : ((k : Int) + 1).toNat = k + 1 := by omega
      have e5 : (k : Int) ≤ (k : Int) + 1 := by omega
      go_wp2_with (at_builtin; refine wpList_append_txt rfl _ _ rfl w.heap.size u3 (letL s k) (s.extract k (k + 1)) rfl HI.out.1 rfl hln.out hsz.out ?_; intro v4 w4 ho4 hb4; rw [hnx.out] at ho4; have H4 := Lib.hid (And.intro ho4 (hb4 _ _ HI.out.2 (Nat.le_refl _))); clear ho4 hb4)
      go_roundw
      case rel => exact ⟨k + 1, by go_num, by omega, H4⟩
      case measure => simp [intOf]; omega
    · have hpI : ¬ (k : Int) < s.size := by omega
      obtain rfl : k = s.size := by omega
      go_wp2
      go_ret
      exact ⟨_, rfl, HI.out.1, HI.out.2⟩
end Go.Proofs.Ytnpbogioehpeoaa.Myr
