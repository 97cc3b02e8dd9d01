/- DERIVED. The contract of codec.cutNum. -/
import Derived.Test.YtigfcmnknijobaaCodNumAt
import Derived.Deep.QuietTactic
import Derived.BigQuiet
namespace Go.Proofs.Ytigfcmnknijobaa.Cod
open Go.RowKit Str
/-- the number at the front, at most most; what is behind it; the failure. -/
def cutL (L : List Int) (most : Nat) : Nat × List Int × Int :=
  if (numAt L).2 = 0 then (0, [], 4) else if most < (numAt L).1 then (0, [], 3) else ((numAt L).1, L.drop (numAt L).2, 0)
theorem slb_nil (w : World) : SlB [] (.slice none 0 0) w := ⟨none, 0, rfl, Nat.le_refl _, fun _ => rfl, fun h => absurd h (Nat.lt_irrefl 0)⟩
theorem slb_cut {w : World} {A : Option Addr} {c n s : Nat} {L : List Int} (h : Byt w A c L) (hn : L.length = n) (hs : s ≤ n) : SlB (L.drop s) (.slice (if c = s then A else A.map (·.add s)) (n - s) (c - s)) w :=
  ⟨_, _, by rw [List.length_drop, hn], h.cut (by omega)⟩
set_option maxRecDepth 100000 in
set_option maxHeartbeats 1000000 in
theorem cut_any0 (L : List Int) (v : Value) (most : Nat) (hle : L.length ≤ 100000) (hb : InB L) (w0 w : World) (hB : SlB L v w0) (hb0 : Below w0.heap.size w0 w) :
    Calls Try.prog 37 #[v, .int .u64 (most : Nat)] w fun e w' => ∃ v', e = .returned (.tuple #[.int .u64 ((cutL L most).1 : Nat), v', .int .i64 (cutL L most).2.2]) ∧ SlB (cutL L most).2.1 v' w0 ∧ Below w.heap.size w w' := by
  obtain ⟨A, c, rfl, hByt⟩ := hB
  obtain ⟨n, hn⟩ : ∃ n, n = L.length := ⟨_, rfl⟩
  rw [← hn] at hle ⊢
  have Hna := Lib.hid (numAt_any A c n L hn.symm hle hb w (hByt.below hb0 (Nat.le_refl _)))
  obtain ⟨N, s, hNs⟩ : ∃ N s, numAt L = (N, s) := ⟨_, _, rfl⟩
  rw [hNs] at Hna
  have hcap := hByt.1
  rw [← hn] at hcap
  have HByt := Lib.hid hByt
  have Hn := Lib.hid hn
  clear hb0
  unfold cutL
  rw [hNs]
  simp only
  by_cases hs : s = 0
  · subst hs
    rw [if_pos rfl]
    clear hNs hByt hn
    go_enter Try.func37, Try.ntmps37
    go_wp2_with (go_at_call 49; refine Hna.out.mono ?_; rintro e w1 ⟨rfl, low1⟩; have Low1 := Lib.hid low1; clear low1)
    go_ret3
    exact ⟨_, rfl, slb_nil _, Low1.out⟩
  · rw [if_neg hs]
    have hs1 : ¬ (s : Int) = 0 := by omega
    obtain ⟨_, _, hsl, _⟩ := numAt_yes hNs hs
    have hsn : s ≤ n := by omega
    clear hNs hByt hn hs hsl
    by_cases hm : most < N
    · rw [if_pos hm]
      have hm' : (most : Int) < (N : Int) := by omega
      go_enter Try.func37, Try.ntmps37
      go_wp2_with (go_at_call 49; refine Hna.out.mono ?_; rintro e w1 ⟨rfl, low1⟩; have Low1 := Lib.hid low1; clear low1)
      go_ret3
      exact ⟨_, rfl, slb_nil _, Low1.out⟩
    · rw [if_neg hm]
      have hm' : ¬ (most : Int) < (N : Int) := by omega
      have hcut := Lib.hid (slb_cut HByt.out Hn.out.symm hsn)
      obtain ⟨A', hA'⟩ : ∃ B, (if c = s then A else A.map (·.add s)) = B := ⟨_, rfl⟩
      rw [hA'] at hcut
      go_enter Try.func37, Try.ntmps37
      go_upto_region 6 with (go_at_call 49; refine Hna.out.mono ?_; rintro e w1 ⟨rfl, low1⟩; have Low1 := Lib.hid low1; clear low1)
      go_quiet (fail)
      go_wp2
      go_ret3
      exact ⟨_, rfl, hcut.out, Below.drewN Low1.out _⟩
theorem cut_any (L : List Int) (v : Value) (most : Nat) (hle : L.length ≤ 100000) (hb : InB L) (w : World) (hB : SlB L v w) :
    Calls Try.prog 37 #[v, .int .u64 (most : Nat)] w fun e w' => ∃ v', e = .returned (.tuple #[.int .u64 ((cutL L most).1 : Nat), v', .int .i64 (cutL L most).2.2]) ∧ SlB (cutL L most).2.1 v' w' ∧ Below w.heap.size w w' :=
  (cut_any0 L v most hle hb w w hB (Below.refl _ _)).mono (by rintro e w' ⟨v', he, hs, hl⟩; exact ⟨v', he, hs.later hl, hl⟩)
end Go.Proofs.Ytigfcmnknijobaa.Cod
