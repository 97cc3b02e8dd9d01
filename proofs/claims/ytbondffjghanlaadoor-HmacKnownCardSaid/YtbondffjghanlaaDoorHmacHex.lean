/- DERIVED. The contract of the statements' own hex: bytes of hexadecimal digits. -/
import Derived.Test.YtbondffjghanlaaDoorHmacKeep
import Derived.Test.YtbondffjghanlaaDoorShaOf
import Derived.Deep.RegionWith
import Derived.IntWalk
namespace Go.Proofs.YtbondffjghanlaaDoor
open Go.RowKit lawAnybody
attribute [local go_sem ↓ high] appendS_eq
/-- what a digit stands for. -/
def hexd (c : Int) : Int := if 97 ≤ c then c - 97 + 10 else (c - 48) % 256
theorem hexd_any (c : Int) (h0 : 0 ≤ c) (h1 : c < 256) (w : World) :
    Calls Tryd.prog 62 #[.int .u8 c] w fun e w' => e = .returned (.int .u8 (hexd c)) ∧ w = w' := by
  by_cases h : 97 ≤ c
  · have e : hexd c = c - 97 + 10 := by unfold hexd; rw [if_pos h]
    rw [e]
    clear e
    go_enter Tryd.func62, Tryd.ntmps62
    go_wp2
    go_ret
    exact ⟨rfl, rfl⟩
  · have e : hexd c = (c - 48) % 256 := by unfold hexd; rw [if_neg h]
    rw [e]
    clear e
    go_enter Tryd.func62, Tryd.ntmps62
    go_wp2
    go_ret
    exact ⟨rfl, rfl⟩
theorem hexd_same (c : Int) (h0 : 0 ≤ c) (h1 : c < 256) (w : World) :
    Calls Tryd.prog 62 #[.int .u8 c] w fun e w' => e = .returned (.int .u8 (hexd c)) ∧ w' = w := (hexd_any c h0 h1 w).mono fun _ _ h => ⟨h.1, h.2.symm⟩
theorem hexd_in (c : Int) (h0 : 0 ≤ c) (h1 : c < 256) : 0 ≤ hexd c ∧ hexd c < 256 := by unfold hexd; split <;> omega
def hexF (B : List Int) (j : Nat) : Int := (16 * hexd (B.getD (2 * j) 0) + hexd (B.getD (2 * j + 1) 0)) % 256
def hexL (B : List Int) (k : Nat) : List Int := (List.range k).map (hexF B)
theorem hexL_snoc (B : List Int) (k : Nat) : hexL B k ++ [hexF B k] = hexL B (k + 1) := by
  unfold hexL
  rw [List.range_succ, List.map_append]
  rfl
theorem hexL_length (B : List Int) (k : Nat) : (hexL B k).length = k := by simp [hexL]
attribute [irreducible] hexd
def HexPost (B : List Int) (n : Nat) (w : World) (e : Ending) (w' : World) : Prop := (∃ v, e = .returned v ∧ w'.ownsRow w.heap.size 5 1 v n (vals (hexL B n))) ∧ Below w.heap.size w w'
/-- what the loop keeps. -/
def HexI (B : List Int) (n : Nat) (w : World) (v i : Value) (wr : World) : Prop :=
  ∃ k : Nat, 2 * k ≤ n ∧ i = .int .i64 (2 * (k : Int)) ∧ Hid (wr.ownsRow w.heap.size 5 1 v k (vals (hexL B k))) ∧ Hid (Below w.heap.size w wr)
set_option maxRecDepth 100000 in
set_option maxHeartbeats 1000000 in
theorem hex_any (s : ByteArray) (n : Nat) (w : World) (hn : s.size = 2 * n) (hs : n ≤ 1000) :
    Calls Tryd.prog 42 #[.string s] w (HexPost (bytesOf s) n w) := by
  have Hn := Lib.hid hn
  have hin := Lib.hid (bytesOf_in s)
  have hsI : (s.size : Int) = 2 * (n : Int) := by omega
  clear hn
  go_enter Tryd.func42, Tryd.ntmps42
  go_wp2
  go_loopw [3, 4] (fun v i wr => HexI (bytesOf s) (2 * n) w v i wr) (fun _ i _ => 2 * n - (intOf i).toNat)
  case atStart => exact ⟨0, by omega, rfl, World.ownsRow_nil w _ 5 1, Below.refl _ _⟩
  case round =>
    obtain ⟨k, hk, rfl, own, low⟩ := hrel
    by_cases hlt : k < n
    · have i0 := fun W => index_str s (2 * k) (by rw [Hn.out]; omega) W
      have i1 := fun W => index_str s (2 * k + 1) (by rw [Hn.out]; omega) W
      obtain ⟨x, hx⟩ : ∃ x, x = (bytesOf s).getD (2 * k) 0 := ⟨_, rfl⟩
      obtain ⟨y, hy⟩ : ∃ y, y = (bytesOf s).getD (2 * k + 1) 0 := ⟨_, rfl⟩
      have x0 := hin.out (2 * k)
      have y0 := hin.out (2 * k + 1)
      rw [← hx] at i0 x0
      rw [← hy] at i1 y0
      rw [show ((2 * k : Nat) : Int) = 2 * (k : Int) by omega] at i0
      rw [show ((2 * k + 1 : Nat) : Int) = 2 * (k : Int) + 1 by omega] at i1
      obtain ⟨x1, x2⟩ := x0
      obtain ⟨y1, y2⟩ := y0
      have Hx := Lib.hid hx
      have Hy := Lib.hid hy
      have hltI : (k : Int) < n := by omega
      have hnI : (n : Int) ≤ 1000 := by omega
      clear hx hy
      go_wp2
      obtain ⟨V, hV⟩ : ∃ V, V = IntKind.u8.wrap (IntKind.u8.wrap (16 * hexd x) + hexd y) := ⟨_, rfl⟩
      obtain ⟨v2, w2, hrun, own2, hlow2, _⟩ := run_append_byt (w := (wr.alloc (.cells #[.int .u8 V] 5)).drew) 26 w.heap.size u3 k (hexL (bytesOf s) k) (own_below own.out (((Below.refl _ _).alloc (Nat.le_refl _) _).drew)) (some ⟨wr.heap.size, 0, none⟩) 1 1 [V] rfl (byt_rowF (l := [V]) (fr := (0, 0)) (t := 5) (w := (wr.alloc (.cells #[.int .u8 V] 5)).drew) (Go.heap_alloc_new wr _) rfl) (by omega) (Nat.le_trans low.out.size (by simp))
      have HV : Hid (V = hexF (bytesOf s) k) := by show _ = _; rw [hV, IntKind.wrap_u8', IntKind.wrap_u8', Hx.out, Hy.out]; unfold hexF; omega
      have low2 := hlow2 w.heap.size w (low.out.alloc low.out.size _).drew (Nat.le_refl _)
      have Low2 := Lib.hid low2
      have Own2 := Lib.hid own2
      rw [hV] at hrun
      clear own2 hlow2 low2 hV
      have e2 : 2 * (k : Int) + 1 < 2 * (n : Int) := by omega
      have e1 : IntKind.i64.wrap (2 * (k : Int) + 1) = 2 * (k : Int) + 1 := IntWalk.i64_in _ (by omega)
      go_region_with (go_at_call 62; refine (hexd_any _ (by assumption) (by assumption) _).mono ?_; rintro e w' ⟨rfl, rfl⟩)
      all_goals
        go_wp2
        go_roundw
        case rel => exact ⟨k + 1, by omega, by go_num, by have h := Own2.out; rw [HV.out, hexL_snoc] at h; exact h, Low2⟩
        case measure => simp [intOf]; omega
    · obtain rfl : k = n := by omega
      have own' := own.out
      have Own' := Lib.hid own'
      clear own own'
      go_wp2
      go_ret
      exact ⟨⟨_, rfl, Own'.out⟩, low.out⟩
end Go.Proofs.YtbondffjghanlaaDoor
