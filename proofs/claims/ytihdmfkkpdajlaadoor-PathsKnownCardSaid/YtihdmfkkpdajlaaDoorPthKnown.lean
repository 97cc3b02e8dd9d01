/- DERIVED. The walk of PathsKnown. -/
import Derived.Test.YtihdmfkkpdajlaaDoorPthWorks
import Derived.Deep.DeepCutAuto
namespace Go.Proofs.YtihdmfkkpdajlaaDoor.Pth
open Go.RowKit
def yesL : List ByteArray := [⟨#[97]⟩, ⟨#[97, 47, 98, 46, 99]⟩, ⟨#[46, 120, 47, 45]⟩, ⟨#[97, 46, 46, 98]⟩, ⟨#[49, 47, 50, 47, 51, 47, 52, 47, 53, 47, 54, 47, 55, 47, 56]⟩]
def noL : List ByteArray := [⟨#[]⟩, ⟨#[47, 97]⟩, ⟨#[97, 47]⟩, ⟨#[97, 47, 47, 98]⟩, ⟨#[46]⟩, ⟨#[97, 47, 46, 46]⟩, ⟨#[97, 32, 98]⟩, ⟨#[49, 47, 50, 47, 51, 47, 52, 47, 53, 47, 54, 47, 55, 47, 56, 47, 57]⟩, ⟨#[195, 169]⟩]
theorem yes_all : ∀ k, k < 5 → chk (nth yesL k) = 0 ∧ (nth yesL k).size ≤ 1000 := by decide +kernel
theorem no_all : ∀ k, k < 9 → chk (nth noL k) = 15 ∧ (nth noL k).size ≤ 1000 := by decide +kernel
def rep (k : Nat) : ByteArray := ⟨(List.replicate k 120).toArray⟩
theorem rep_snoc (k : Nat) : rep k ++ ⟨#[120]⟩ = rep (k + 1) := bytes_eq (by simp [rep, List.replicate_succ'])
theorem rep_size (k : Nat) : (rep k).size = k := by rw [Lib.size_eq]; simp [rep]
theorem rep60 : chk (rep 60) = 0 := by decide +kernel
theorem rep61 : chk (rep 60 ++ ⟨#[120]⟩) = 15 := by rw [rep_snoc]; exact chk_big (by rw [rep_size]; decide)
theorem rep61_size : (rep 60 ++ ⟨#[120]⟩).size ≤ 1000 := by rw [rep_snoc, rep_size]; decide
set_option maxHeartbeats 4000000 in
set_option maxRecDepth 100000 in
theorem known_walk (w : World) (hL : Laid w) :
    Calls Tryd.prog 7 #[] w fun e w' => e = .returned (.bool true) ∧ Below w.heap.size w w' := by
  have h0 := From.refl hL
  go_enter Tryd.func7, Tryd.ntmps7
  go_wp2
  have r1 : ((w.alloc (.cells (txts yesL) 9)).alloc (.cells (txts noL) 9)).heap[w.heap.size]? = some (.cells (txts yesL) 9 (0, 0)) := (two_new w _ _).1
  have r2 : ((w.alloc (.cells (txts yesL) 9)).alloc (.cells (txts noL) 9)).heap[w.heap.size + 1]? = some (.cells (txts noL) 9 (0, 0)) := (two_new w _ _).2
  have h2 : From w ((w.alloc (.cells (txts yesL) 9)).alloc (.cells (txts noL) 9)) := (h0.alloc _).alloc _
  go_loopw [3] (fun v wr => ∃ k : Nat, k ≤ 5 ∧ v = .int .i64 k ∧ wr.heap[w.heap.size]? = some (.cells (txts yesL) 9 (0, 0)) ∧ wr.heap[w.heap.size + 1]? = some (.cells (txts noL) 9 (0, 0)) ∧ From w wr) (fun v _ => 5 - (intOf v).toNat)
  case atStart => exact ⟨0, by omega, rfl, r1, r2, h2⟩
  case round =>
    obtain ⟨k, hk, rfl, g1, g2, hF⟩ := hrel
    clear r1 r2 h2
    by_cases hlt : k < 5
    · obtain ⟨hc, hz⟩ := yes_all k hlt
      have hcell := txts_cell g1 k hlt
      have hs1 := (Array.getElem?_eq_some_iff.1 g1).1
      have hs2 := (Array.getElem?_eq_some_iff.1 g2).1
      go_wp2_with fail
      refine (check_any _ _ hF.2 (by omega)).mono ?_
      rw [hc]
      rintro e w1 ⟨rfl, hb⟩
      clear hcell
      go_wp2
      go_roundw
      case rel => exact ⟨k + 1, by omega, by go_num, (hb.block _ hs1).trans g1, (hb.block _ hs2).trans g2, hF.next hb⟩
      case measure => simp [intOf]; omega
    · clear g1
      go_wp2
      go_loopw [4] (fun v wr => ∃ k : Nat, k ≤ 9 ∧ v = .int .i64 k ∧ wr.heap[w.heap.size + 1]? = some (.cells (txts noL) 9 (0, 0)) ∧ From w wr) (fun v _ => 9 - (intOf v).toNat)
      case atStart => exact ⟨0, by omega, rfl, g2, hF⟩
      case round =>
        clear g2 hF
        obtain ⟨j, hj, rfl, g2, hF⟩ := hrel
        by_cases hlt' : j < 9
        · obtain ⟨hc, hz⟩ := no_all j hlt'
          have hcell := txts_cell g2 j hlt'
          have hs2 := (Array.getElem?_eq_some_iff.1 g2).1
          go_wp2_with fail
          refine (check_any _ _ hF.2 (by omega)).mono ?_
          rw [hc]
          rintro e w1 ⟨rfl, hb⟩
          clear hcell
          go_wp2
          go_roundw
          case rel => exact ⟨j + 1, by omega, by go_num, (hb.block _ hs2).trans g2, hF.next hb⟩
          case measure => simp [intOf]; omega
        · clear g2
          go_wp2
          go_loop [5, 6] (fun v i => ∃ m : Nat, m ≤ 60 ∧ i = .int .i64 m ∧ v = .string (rep m)) (fun _ i => 60 - (intOf i).toNat)
          case atStart => exact ⟨0, by omega, rfl, rfl⟩
          case round =>
            obtain ⟨m, hm, rfl, rfl⟩ := hrel
            have hsz := rep_size m
            by_cases hlt2 : m < 60
            · go_wp2
              go_round
              case rel => exact ⟨m + 1, by omega, by go_num, by rw [← rep_snoc]⟩
              case measure => simp [intOf]; omega
            · obtain rfl : m = 60 := by omega
              have f0 := hF
              have p0 : pre ⟨#[]⟩ = 0 := by decide
              have u1 : undB ⟨#[97]⟩ ⟨#[97, 47, 98]⟩ = true := by decide
              have u2 : undB ⟨#[97, 47, 98]⟩ ⟨#[97]⟩ = false := by decide
              have u3 : undB ⟨#[]⟩ ⟨#[]⟩ = false := by decide
              have u4 : undB ⟨#[97, 47]⟩ ⟨#[97, 47, 98]⟩ = false := by decide
              go_wp2_with fail
              refine (check_from _ f0 (by omega)).mono ?_
              rw [rep60]
              rintro e w1 ⟨rfl, f1⟩
              go_wp2_with fail
              refine (check_from _ f1 rep61_size).mono ?_
              rw [rep61]
              rintro e w2 ⟨rfl, f2⟩
              go_wp2_with fail
              refine (prefix_from _ f2 (by decide)).mono ?_
              rw [p0]
              rintro e w3 ⟨rfl, f3⟩
              go_wp2_with fail
              refine (under_from _ _ f3 (by decide) (by decide)).mono ?_
              rw [u1]
              rintro e w4 ⟨rfl, f4⟩
              go_wp2_with fail
              refine (under_from _ _ f4 (by decide) (by decide)).mono ?_
              rw [u2]
              rintro e w5 ⟨rfl, f5⟩
              go_wp2_with fail
              refine (under_from _ _ f5 (by decide) (by decide)).mono ?_
              rw [u3]
              rintro e w6 ⟨rfl, f6⟩
              go_wp2_with fail
              refine (under_from _ _ f6 (by decide) (by decide)).mono ?_
              rw [u4]
              rintro e w7 ⟨rfl, f7⟩
              go_wp2_with fail
              refine (works_any f7).mono ?_
              rintro e w8 ⟨rfl, f8⟩
              go_wp2
              go_ret
              exact ⟨rfl, f8.1⟩
end Go.Proofs.YtihdmfkkpdajlaaDoor.Pth
