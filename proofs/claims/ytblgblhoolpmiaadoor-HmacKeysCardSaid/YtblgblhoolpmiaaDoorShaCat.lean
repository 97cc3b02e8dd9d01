/- DERIVED. The contracts of slices.Grow at a nil slice and of slices.Concat at two slices. -/
import Derived.Test.YtblgblhoolpmiaaDoorShaPad
import Derived.Lib.AppendZeros
import Derived.Laws.AppendOwnNone
namespace Go.Proofs.YtblgblhoolpmiaaDoor
open Go.RowKit
set_option maxRecDepth 100000 in
set_option maxHeartbeats 1000000 in
theorem grow_any (n : Nat) (h0 : 0 < n) (h1 : n ≤ 100000) (w : World) :
    Calls Tryd.prog 53 #[.slice none 0 0, .int .i64 (n : Int)] w fun e' w' => ∃ c C, e' = .returned (.slice (some ⟨w.heap.size, 0, none⟩) 0 c) ∧ n ≤ c ∧ c ≤ maxLen ∧ C.size = c ∧ w'.heap[w.heap.size]? = some (.cells C 5 (0, 0)) ∧ Below w.heap.size w w' := by
  obtain ⟨i0, hi0, hz00, hz10, hz20⟩ := info_parts info5
  have hi := Lib.hid hi0
  have hz0 := Lib.hid hz00
  have hz1 := Lib.hid hz10
  have hz2 := Lib.hid hz20
  have hpos : (0 : Int) < n := by omega
  clear hi0 hz00 hz10 hz20
  go_enter Tryd.func53, Tryd.ntmps53
  go_wp2_with (at_builtin; refine Lib.wpList_append_run _ rfl (.tmp 20) (.tmp 21) 26 3 rfl _ _ rfl rfl _ _ (Lib.run_append_nil_zeros w 26 3 26 5 i0 (.int .u8 0) .i64 .i64 Tryd.underlying26 Tryd.underlying3 hi.out hz0.out n h0 (by rw [hz1.out]; decide) (by omega) (by rw [hz2.out]; omega)) ?_; generalize hc : grownCap w n 0 5 = c; have Hc := Lib.hid hc; clear hc)
  go_ret
  have h2 := grownCap_ge w n 0 5
  have h3 := grownCap_le_maxLen w n 0 5 (by unfold maxLen; omega)
  rw [Hc.out] at h2 h3
  refine ⟨c, _, rfl, h2, h3, ?_, Go.heap_alloc_new w.drew _, ((Below.refl _ _).drew).alloc (Nat.le_refl _) _⟩
  simp [Builtin.zeroCells]
  omega
/-- what the second loop of Concat keeps. -/
structure CInv (B c : Nat) (L : List Int) (w wr : World) : Prop where
  own : wr.ownsRow B 5 1 (.slice (some ⟨B, 0, none⟩) L.length c) L.length (vals L)
  low : Below B w wr
theorem CInv.byt {B c : Nat} {L : List Int} {w wr : World} (h : CInv B c L w wr) : Byt wr (some ⟨B, 0, none⟩) c L := by
  obtain ⟨_, h⟩ := h.own
  rcases h with ⟨h, _⟩ | ⟨g', cap, cur, hv, _, hh, hcap, _, hs, ht⟩
  · cases h
  · simp only [Value.slice.injEq, Option.some.injEq, Addr.mk.injEq, and_true, true_and] at hv
    obtain ⟨rfl, rfl⟩ := hv
    refine ⟨hcap, (fun h => by cases h), fun _ => ⟨B, 0, rfl, (Array.getElem?_eq_some_iff.1 hh).1, fun j hj => ?_⟩⟩
    rw [Nat.zero_add, cell_row hh]
    have h2 : cur[j]? = cur.toList[j]? := by simp
    have h3 : (cur.toList.take (L.length * 1))[j]? = cur.toList[j]? := by rw [List.getElem?_take, if_pos (by omega)]
    rw [h2, ← h3, ht]
    simp [vals, hj]
set_option maxRecDepth 100000 in
set_option maxHeartbeats 1000000 in
theorem concat_any (A1 A2 : Option Addr) (c1 c2 gs n1 n2 : Nat) (L1 L2 : List Int) (w : World) (hn1 : L1.length = n1) (hn2 : L2.length = n2) (h1 : n1 ≤ 50000) (h2 : n2 ≤ 50000) (hp : 0 < n1 + n2)
    (hgs : w.heap[gs]? = some (.cells #[.slice A1 n1 c1, .slice A2 n2 c2] 26 (0, 0))) (b1 : Byt w A1 c1 L1) (b2 : Byt w A2 c2 L2) :
    Calls Tryd.prog 40 #[.slice (some ⟨gs, 0, none⟩) 2 2] w fun e' w' => ∃ g c, e' = .returned (.slice (some ⟨g, 0, none⟩) (n1 + n2) c) ∧ Byt w' (some ⟨g, 0, none⟩) c (L1 ++ L2) ∧ Below w.heap.size w w' := by
  have B1 := Lib.hid b1
  have B2 := Lib.hid b2
  have N1 := Lib.hid hn1
  have N2 := Lib.hid hn2
  have hlt : gs < w.heap.size := (Array.getElem?_eq_some_iff.1 hgs).1
  have d0 := cell_row hgs 0
  have d1 := cell_row hgs 1
  simp only [List.getElem?_toArray, List.getElem?_cons_zero, List.getElem?_cons_succ] at d0 d1
  have D0 := Lib.hid d0
  have D1 := Lib.hid d1
  clear hgs b1 b2 hn1 hn2
  go_enter Tryd.func40, Tryd.ntmps40
  go_wp2
  go_loop [3, 11] (fun s i => (i = .int .i64 0 ∧ s = .int .i64 0) ∨ (i = .int .i64 1 ∧ s = .int .i64 (n1 : Int)) ∨ (i = .int .i64 2 ∧ s = .int .i64 ((n1 : Int) + n2))) (fun _ i => 2 - (intOf i).toNat)
  case atStart => exact .inl ⟨rfl, rfl⟩
  case round =>
    rcases hrel with ⟨rfl, rfl⟩ | ⟨rfl, rfl⟩ | ⟨rfl, rfl⟩
    · go_wp2
      go_round
      case rel => exact .inr (.inl ⟨rfl, by simp⟩)
      case measure => simp [intOf]
    · go_wp2
      go_round
      case rel => exact .inr (.inr ⟨rfl, rfl⟩)
      case measure => simp [intOf]
    · have hsum : (n1 : Int) + n2 = ((n1 + n2 : Nat) : Int) := by omega
      rw [hsum]
      have Hg := Lib.hid (grow_any (n1 + n2) (by omega) (by omega) w)
      clear hsum
      go_wp2_with (go_at_call 53; refine Hg.out.mono ?_; rintro e w1 ⟨c, C, rfl, hc1, hc2, hC, hr, hlow⟩; have HC := Lib.hid hC; have Hr := Lib.hid hr; clear hC hr)
      obtain ⟨i0, hi0, hz00, hz10, hz20⟩ := info_parts info5
      have hi := Lib.hid hi0
      have hz1 := Lib.hid hz10
      clear hi0 hz00 hz10 hz20
      go_loopw [6, 27] (fun v i wr => (i = .int .i64 0 ∧ v = .slice (some ⟨w.heap.size, 0, none⟩) 0 c ∧ CInv w.heap.size c [] w wr) ∨ (i = .int .i64 1 ∧ v = .slice (some ⟨w.heap.size, 0, none⟩) n1 c ∧ CInv w.heap.size c L1 w wr) ∨ (i = .int .i64 2 ∧ v = .slice (some ⟨w.heap.size, 0, none⟩) (n1 + n2) c ∧ CInv w.heap.size c (L1 ++ L2) w wr)) (fun _ i _ => 2 - (intOf i).toNat)
      case atStart => exact .inl ⟨rfl, rfl, ⟨⟨by simp [vals], .inr ⟨_, c, C, rfl, Nat.le_refl _, Hr.out, Nat.zero_le _, hc2, by rw [HC.out]; omega, by simp [vals]⟩⟩, hlow⟩⟩
      case round =>
        clear Hr HC hlow
        rcases hrel with ⟨rfl, rfl, hinv⟩ | ⟨rfl, rfl, hinv⟩ | ⟨rfl, rfl, hinv⟩
        · have e0 : wr.cell? ⟨gs, 0, none⟩ = some (.slice A1 n1 c1) := (hinv.low.cell (p := ⟨gs, 0, none⟩) hlt).trans D0.out
          have hsz := hinv.low.size
          go_wp2_with (at_builtin; refine wpList_append_fits_any _ rfl (.tmp 31) (.tmp 32) 26 rfl w.heap.size 5 i0 1 Tryd.underlying26 hi.out hz1.out w.heap.size 0 c (vals []) rfl hinv.own A1 n1 c1 (vals L1) rfl (by rw [vals_length, N1.out]; omega) (fun h => ⟨by have := B1.out.1; have := B1.out.2.1 h; have := N1.out; omega, B1.out.2.1 h⟩) (fun ad h => B1.out.cells (fun p hp => hinv.low.cell hp) ad h) (vals_one _) (by omega) ?_; intro w2 hown2 hgrow2; have low2 := hinv.low.grown hgrow2 (by omega) (fun k hk => by cases hk; exact Nat.le_refl _); have Hown2 := Lib.hid hown2; clear hown2 hgrow2)
          go_roundw
          case rel => exact .inr (.inl ⟨rfl, by simp, ⟨by have := Hown2.out; rw [N1.out]; simpa [vals] using this, low2⟩⟩)
          case measure => simp [intOf]
        · have e1 : wr.cell? ⟨gs, 1, none⟩ = some (.slice A2 n2 c2) := (hinv.low.cell (p := ⟨gs, 1, none⟩) hlt).trans D1.out
          have hsz := hinv.low.size
          have hown : wr.ownsRow w.heap.size 5 1 (.slice (some ⟨w.heap.size, 0, none⟩) n1 c) n1 (vals L1) := by have := hinv.own; rwa [N1.out] at this
          have Hown := Lib.hid hown
          clear hown
          go_wp2_with (at_builtin; refine wpList_append_fits_any _ rfl (.tmp 31) (.tmp 32) 26 rfl w.heap.size 5 i0 1 Tryd.underlying26 hi.out hz1.out w.heap.size n1 c (vals L1) rfl Hown.out A2 n2 c2 (vals L2) rfl (by rw [vals_length, N2.out]; omega) (fun h => ⟨by have := B2.out.1; have := B2.out.2.1 h; have := N2.out; omega, B2.out.2.1 h⟩) (fun ad h => B2.out.cells (fun p hp => hinv.low.cell hp) ad h) (vals_one _) (by omega) ?_; intro w2 hown2 hgrow2; have low2 := hinv.low.grown hgrow2 (by omega) (fun k hk => by cases hk; exact Nat.le_refl _); have Hown2 := Lib.hid hown2; clear hown2 hgrow2)
          go_roundw
          case rel => exact .inr (.inr ⟨rfl, rfl, ⟨by have := Hown2.out; rw [List.length_append, N1.out, N2.out]; simpa [vals] using this, low2⟩⟩)
          case measure => simp [intOf]
        · go_wp2
          go_ret
          exact ⟨w.heap.size, c, rfl, hinv.byt, hinv.low⟩
end Go.Proofs.YtblgblhoolpmiaaDoor
