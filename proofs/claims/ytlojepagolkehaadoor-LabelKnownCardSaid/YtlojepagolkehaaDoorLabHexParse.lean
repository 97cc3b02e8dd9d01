/- DERIVED. The contracts of strconv.ParseUint, base 16, at the texts of LabelKnown. -/
import Derived.Test.YtlojepagolkehaaDoorLabText
import Derived.Test.YtlojepagolkehaaDoorStr
namespace Go.Proofs.YtlojepagolkehaaDoor.Lab
open Go.RowKit Str
theorem lower_f (w : World) : Calls Tryd.prog 62 #[.int .u8 102] w fun e w' => e = .returned (.int .u8 102) ∧ w = w' := by
  go_enter Tryd.func62, Tryd.ntmps62
  go_wp2
  go_ret
  exact ⟨rfl, rfl⟩
set_option maxRecDepth 100000 in
theorem pu_empty (w : World) : Calls Tryd.prog 35 #[.string ⟨#[]⟩, .int .i64 16, .int .i64 64] w fun e w' => (∃ v, e = .returned (.tuple #[.int .u64 0, v]) ∧ v = .iface 80 (.int .i64 2)) ∧ w = w' := by
  go_enter Tryd.func35, Tryd.ntmps35
  go_wp2
  go_ret2
  exact ⟨⟨_, rfl, rfl⟩, rfl⟩
theorem max64 : IntKind.u64.wrap (IntKind.u64.wrap 18446744073709551616 - 1) = 18446744073709551615 := by kernel_rfl
def pw (k : Nat) : Nat := 16 ^ k - 1
theorem pw_small : ∀ k, k < 16 → pw k ≤ 1152921504606846975 := by decide
theorem pw_next (k : Nat) : pw (k + 1) = pw k * 16 + 15 := by
  have : 0 < 16 ^ k := Nat.pow_pos (by decide)
  unfold pw
  rw [Nat.pow_succ]
  omega
def fs : ByteArray := ⟨#[102, 102, 102, 102, 102, 102, 102, 102, 102, 102, 102, 102, 102, 102, 102, 102]⟩
theorem fs_b : bOf fs = List.replicate 16 102 := by decide
theorem fs_cells (w : World) : ∀ k, k < 16 → (Lib.bytesWorld w 5 fs).cell? ⟨w.heap.size, k, none⟩ = some (.int .u8 102) := by
  intro k hk
  have hB := byt_string w fs
  obtain ⟨g, off, e, _, hc⟩ := hB.2.2 (by rw [fs_b]; decide)
  cases e
  have := hc k (by rw [fs_b]; simpa using hk)
  rw [Nat.zero_add, fs_b] at this
  rw [this, List.getD_eq_getElem?_getD, List.getElem?_replicate, if_pos hk]
  rfl
set_option maxRecDepth 100000 in
set_option maxHeartbeats 2000000 in
theorem pu_fs (w : World) : Calls Tryd.prog 35 #[.string ⟨#[102, 102, 102, 102, 102, 102, 102, 102, 102, 102, 102, 102, 102, 102, 102, 102]⟩, .int .i64 16, .int .i64 64] w fun e w' => e = .returned (.tuple #[.int .u64 18446744073709551615, .nilIface]) ∧ Below w.heap.size w w' := by
  have hconv := run_bytes w fs
  have hlow := below_string w fs
  have hcells := fs_cells w
  obtain ⟨c, hc⟩ : ∃ c, c = grownCap w fs.size 0 5 := ⟨_, rfl⟩
  have hcap : 16 ≤ c := by rw [hc]; exact grownCap_ge _ _ _ _
  rw [← hc] at hconv
  obtain ⟨w1, hw1⟩ : ∃ w1, w1 = Lib.bytesWorld w 5 fs := ⟨_, rfl⟩
  rw [← hw1] at hconv hlow hcells
  change (convert _ _ (.string ⟨#[102, 102, 102, 102, 102, 102, 102, 102, 102, 102, 102, 102, 102, 102, 102, 102]⟩)).run Tryd.prog w = .ok (.slice (some ⟨w.heap.size, 0, none⟩) 16 c) w1 at hconv
  have Hlow := Lib.hid hlow
  have Hcells := Lib.hid hcells
  clear hlow hcells hc hw1
  go_enter Tryd.func35, Tryd.ntmps35
  go_wp2
  rw [max64]
  go_loopw [12, 13, 101] (fun v12 v13 v101 wr => v12 = .bool false ∧ (∃ k : Nat, k ≤ 16 ∧ v101 = .int .i64 k ∧ v13 = .int .u64 (pw k : Nat)) ∧ wr = w1) (fun _ _ v101 _ => 16 - (intOf v101).toNat)
  case atStart => exact ⟨rfl, ⟨0, Nat.zero_le _, rfl, rfl⟩, rfl⟩
  case round =>
    obtain ⟨rfl, ⟨k, hk, rfl, rfl⟩, rfl⟩ := hrel
    by_cases hlt : k < 16
    · have cc := Hcells.out k hlt
      have hb := pw_small k hlt
      have hn := pw_next k
      obtain ⟨n, hnn⟩ : ∃ n : Int, n = (pw k : Nat) := ⟨_, rfl⟩
      have hb0 : 0 ≤ n := by omega
      have hb' : n < 1152921504606846976 := by omega
      have hn : ((pw (k + 1) : Nat) : Int) = n * 16 + 15 := by omega
      rw [← hnn]
      have hlt' : (k : Int) < 16 := by omega
      have Hn := Lib.hid hn
      clear hnn hn hb
      go_wp2_with (go_at_call 62; refine (lower_f _).mono ?_; rintro e w' ⟨rfl, rfl⟩)
      go_roundw
      case rel => exact ⟨rfl, ⟨k + 1, by omega, by go_num, by rw [Hn.out]⟩, trivial⟩
      case measure => simp [intOf]; omega
    · have hk16 : ¬ (k : Int) < 16 := by omega
      have hp : pw k = 18446744073709551615 := by
        rw [show k = 16 by omega]; kernel_rfl
      obtain ⟨n, hn⟩ : ∃ n : Int, n = (pw k : Nat) := ⟨_, rfl⟩
      rw [← hn]
      have Hn := Lib.hid (hn.trans (congrArg Int.ofNat hp))
      clear hn hp
      go_wp2
      go_ret2
      have e := Hn.out
      subst e
      exact ⟨rfl, Hlow.out⟩
def s0 : ByteArray := ⟨#[48]⟩
theorem s0_b : bOf s0 = [48] := by decide
theorem s0_cells (w : World) : ∀ k, k < 1 → (Lib.bytesWorld w 5 s0).cell? ⟨w.heap.size, k, none⟩ = some (.int .u8 (([48] : List Int).getD k 0)) := by
  intro k hk
  have hB := byt_string w s0
  obtain ⟨g, off, e, _, hc⟩ := hB.2.2 (by rw [s0_b]; decide)
  cases e
  have := hc k (by rw [s0_b]; simpa using hk)
  rw [Nat.zero_add, s0_b] at this
  exact this
set_option maxRecDepth 100000 in
set_option maxHeartbeats 2000000 in
theorem pu_s0 (w : World) : Calls Tryd.prog 35 #[.string ⟨#[48]⟩, .int .i64 16, .int .i64 64] w fun e w' => e = .returned (.tuple #[.int .u64 0, .nilIface]) ∧ Below w.heap.size w w' := by
  have hconv := run_bytes w s0
  have hlow := below_string w s0
  have hcells := s0_cells w
  obtain ⟨c, hc⟩ : ∃ c, c = grownCap w s0.size 0 5 := ⟨_, rfl⟩
  have hcap : 1 ≤ c := by rw [hc]; exact grownCap_ge _ _ _ _
  rw [← hc] at hconv
  obtain ⟨w1, hw1⟩ : ∃ w1, w1 = Lib.bytesWorld w 5 s0 := ⟨_, rfl⟩
  rw [← hw1] at hconv hlow hcells
  change (convert _ _ (.string ⟨#[48]⟩)).run Tryd.prog w = .ok (.slice (some ⟨w.heap.size, 0, none⟩) 1 c) w1 at hconv
  have Hlow := Lib.hid hlow
  have Hcells := Lib.hid hcells
  clear hlow hcells hc hw1
  go_enter Tryd.func35, Tryd.ntmps35
  go_wp2
  rw [max64]
  go_loopw [12, 13, 101] (fun v12 v13 v101 wr => v12 = .bool false ∧ (∃ k : Nat, k ≤ 1 ∧ v101 = .int .i64 k ∧ v13 = .int .u64 (if k = 2 then 1 else 0)) ∧ wr = w1) (fun _ _ v101 _ => 1 - (intOf v101).toNat)
  case atStart => exact ⟨rfl, ⟨0, Nat.zero_le _, rfl, rfl⟩, rfl⟩
  case round =>
    obtain ⟨rfl, ⟨k, hk, rfl, rfl⟩, rfl⟩ := hrel
    obtain rfl | rfl := (by omega : k = 0 ∨ k = 1)
    · have cc := Hcells.out 0 (by decide)
      simp only [List.getD_cons_zero] at cc
      go_wp2_with (go_at_call 62; refine (lower_f _).mono ?_; rintro e w' ⟨rfl, rfl⟩)
      go_roundw
      case rel => exact ⟨rfl, ⟨1, by omega, rfl, rfl⟩, trivial⟩
      case measure => simp [intOf]
    · go_wp2
      go_ret2
      exact ⟨rfl, Hlow.out⟩
def s01 : ByteArray := ⟨#[48, 49]⟩
theorem s01_b : bOf s01 = [48, 49] := by decide
theorem s01_cells (w : World) : ∀ k, k < 2 → (Lib.bytesWorld w 5 s01).cell? ⟨w.heap.size, k, none⟩ = some (.int .u8 (([48, 49] : List Int).getD k 0)) := by
  intro k hk
  have hB := byt_string w s01
  obtain ⟨g, off, e, _, hc⟩ := hB.2.2 (by rw [s01_b]; decide)
  cases e
  have := hc k (by rw [s01_b]; simpa using hk)
  rw [Nat.zero_add, s01_b] at this
  exact this
set_option maxRecDepth 100000 in
set_option maxHeartbeats 2000000 in
theorem pu_s01 (w : World) : Calls Tryd.prog 35 #[.string ⟨#[48, 49]⟩, .int .i64 16, .int .i64 64] w fun e w' => e = .returned (.tuple #[.int .u64 1, .nilIface]) ∧ Below w.heap.size w w' := by
  have hconv := run_bytes w s01
  have hlow := below_string w s01
  have hcells := s01_cells w
  obtain ⟨c, hc⟩ : ∃ c, c = grownCap w s01.size 0 5 := ⟨_, rfl⟩
  have hcap : 2 ≤ c := by rw [hc]; exact grownCap_ge _ _ _ _
  rw [← hc] at hconv
  obtain ⟨w1, hw1⟩ : ∃ w1, w1 = Lib.bytesWorld w 5 s01 := ⟨_, rfl⟩
  rw [← hw1] at hconv hlow hcells
  change (convert _ _ (.string ⟨#[48, 49]⟩)).run Tryd.prog w = .ok (.slice (some ⟨w.heap.size, 0, none⟩) 2 c) w1 at hconv
  have Hlow := Lib.hid hlow
  have Hcells := Lib.hid hcells
  clear hlow hcells hc hw1
  go_enter Tryd.func35, Tryd.ntmps35
  go_wp2
  rw [max64]
  go_loopw [12, 13, 101] (fun v12 v13 v101 wr => v12 = .bool false ∧ (∃ k : Nat, k ≤ 2 ∧ v101 = .int .i64 k ∧ v13 = .int .u64 (if k = 2 then 1 else 0)) ∧ wr = w1) (fun _ _ v101 _ => 2 - (intOf v101).toNat)
  case atStart => exact ⟨rfl, ⟨0, Nat.zero_le _, rfl, rfl⟩, rfl⟩
  case round =>
    obtain ⟨rfl, ⟨k, hk, rfl, rfl⟩, rfl⟩ := hrel
    obtain rfl | rfl | rfl := (by omega : k = 0 ∨ k = 1 ∨ k = 2)
    · have cc := Hcells.out 0 (by decide)
      simp only [List.getD_cons_zero] at cc
      go_wp2_with (go_at_call 62; refine (lower_f _).mono ?_; rintro e w' ⟨rfl, rfl⟩)
      go_roundw
      case rel => exact ⟨rfl, ⟨1, by omega, rfl, rfl⟩, trivial⟩
      case measure => simp [intOf]
    · have cc := Hcells.out 1 (by decide)
      simp only [List.getD_cons_zero, List.getD_cons_succ] at cc
      go_wp2_with (go_at_call 62; refine (lower_f _).mono ?_; rintro e w' ⟨rfl, rfl⟩)
      go_roundw
      case rel => exact ⟨rfl, ⟨2, by omega, rfl, rfl⟩, trivial⟩
      case measure => simp [intOf]
    · go_wp2
      go_ret2
      exact ⟨rfl, Hlow.out⟩
end Go.Proofs.YtlojepagolkehaaDoor.Lab
