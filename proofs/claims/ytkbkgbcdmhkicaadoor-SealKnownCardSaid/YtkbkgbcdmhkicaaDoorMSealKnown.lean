/- DERIVED. The walk of SealKnown. -/
import Derived.Test.YtkbkgbcdmhkicaaDoorMseal14
namespace Go.Proofs.YtkbkgbcdmhkicaaDoor.Seal
open Go.RowKit
def keyZ : List Int := [0, 0, 0, 0, 0, 0, 0, 0, 0, 0, 0, 0, 0, 0, 0, 0, 0, 0, 0, 0, 0, 0, 0, 0, 0, 0, 0, 0, 0, 0, 0, 0]
theorem keyZ_in : InB keyZ := inB_of (by decide)
theorem key_zero : Value.agg (u8s keyZ) = .agg #[.int .u8 0, .int .u8 0, .int .u8 0, .int .u8 0, .int .u8 0, .int .u8 0, .int .u8 0, .int .u8 0, .int .u8 0, .int .u8 0, .int .u8 0, .int .u8 0, .int .u8 0, .int .u8 0, .int .u8 0, .int .u8 0, .int .u8 0, .int .u8 0, .int .u8 0, .int .u8 0, .int .u8 0, .int .u8 0, .int .u8 0, .int .u8 0, .int .u8 0, .int .u8 0, .int .u8 0, .int .u8 0, .int .u8 0, .int .u8 0, .int .u8 0, .int .u8 0] := rfl
theorem kn_no {g M : Nat} {w : World} (A2 : Option Addr) (hM : M = 131068) : Calls Tryd.prog 11 #[.agg #[.int .u8 0, .int .u8 0, .int .u8 0, .int .u8 0, .int .u8 0, .int .u8 0, .int .u8 0, .int .u8 0, .int .u8 0, .int .u8 0, .int .u8 0, .int .u8 0, .int .u8 0, .int .u8 0, .int .u8 0, .int .u8 0, .int .u8 0, .int .u8 0, .int .u8 0, .int .u8 0, .int .u8 0, .int .u8 0, .int .u8 0, .int .u8 0, .int .u8 0, .int .u8 0, .int .u8 0, .int .u8 0, .int .u8 0, .int .u8 0, .int .u8 0, .int .u8 0], .agg #[.slice (some ⟨g, 0, none⟩) 4 4, .int .u64 7, .int .u32 3], .slice A2 (M + 1) (M + 1)] w fun e w' => e = .returned (.tuple #[.slice none 0 0, .int .i64 3]) ∧ Below w.heap.size w w' := by
  have h := seal_no keyZ (.slice (some ⟨g, 0, none⟩) 4 4) 7 3 A2 (M + 1) (M + 1) (by omega) w
  rw [key_zero] at h
  exact h
theorem kn_length {Z SZ : List Int} (hZ : Z.length = 131068) (hS : SZ = sealL keyZ hereL 7 3 Z) : SZ.length = 131108 := by
  rw [hS, sealL_length _ _ _ _ (by rw [hZ]; exact Nat.le_refl _), hZ]
  decide
theorem kn_ok {g M Sl : Nat} {A2 : Option Addr} {w : World} {Z SZ : List Int} (hM : M = 131068) (hSl : SZ.length = Sl) (hZ : Z.length = M) (hZi : InB Z) (hS : SZ = sealL keyZ hereL 7 3 Z) (hL : SLaid w) (hB : Byt w (some ⟨g, 0, none⟩) 4 hereL) (hB2 : Byt w A2 M Z) :
    Calls Tryd.prog 11 #[.agg #[.int .u8 0, .int .u8 0, .int .u8 0, .int .u8 0, .int .u8 0, .int .u8 0, .int .u8 0, .int .u8 0, .int .u8 0, .int .u8 0, .int .u8 0, .int .u8 0, .int .u8 0, .int .u8 0, .int .u8 0, .int .u8 0, .int .u8 0, .int .u8 0, .int .u8 0, .int .u8 0, .int .u8 0, .int .u8 0, .int .u8 0, .int .u8 0, .int .u8 0, .int .u8 0, .int .u8 0, .int .u8 0, .int .u8 0, .int .u8 0, .int .u8 0, .int .u8 0], .agg #[.slice (some ⟨g, 0, none⟩) 4 4, .int .u64 7, .int .u32 3], .slice A2 M M] w fun e w' => ∃ A c, e = .returned (.tuple #[.slice A Sl c, .int .i64 0]) ∧ Byt w' A c SZ ∧ Below w.heap.size w w' := by
  have h := seal_ok keyZ hereL Z 7 3 (some ⟨g, 0, none⟩) A2 4 4 M M w rfl keyZ_in rfl hereL_in (by decide) hZ hZi (by omega) ⟨by decide, by decide⟩ hB hB2 hL
  rw [key_zero] at h
  refine h.mono ?_
  rintro e w' ⟨v, rfl, ho, hb⟩
  rw [← hS] at ho
  obtain ⟨A, c, rfl, hby⟩ := ho.sl
  exact ⟨A, c, by rw [hSl], hby, hb⟩
theorem kn_open {g c Sl : Nat} {A : Option Addr} {w : World} {Z SZ : List Int} (hSl : SZ.length = Sl) (hSl2 : Sl ≤ 200000) (hZ : Z.length ≤ 131068) (hZi : InB Z) (hS : SZ = sealL keyZ hereL 7 3 Z) (hL : SLaid w) (hB : Byt w (some ⟨g, 0, none⟩) 4 hereL) (hB2 : Byt w A c SZ) :
    Calls Tryd.prog 15 #[.agg #[.int .u8 0, .int .u8 0, .int .u8 0, .int .u8 0, .int .u8 0, .int .u8 0, .int .u8 0, .int .u8 0, .int .u8 0, .int .u8 0, .int .u8 0, .int .u8 0, .int .u8 0, .int .u8 0, .int .u8 0, .int .u8 0, .int .u8 0, .int .u8 0, .int .u8 0, .int .u8 0, .int .u8 0, .int .u8 0, .int .u8 0, .int .u8 0, .int .u8 0, .int .u8 0, .int .u8 0, .int .u8 0, .int .u8 0, .int .u8 0, .int .u8 0, .int .u8 0], .agg #[.slice (some ⟨g, 0, none⟩) 4 4, .int .u64 7, .int .u32 3], .slice A Sl c] w fun e w' => ∃ v, e = .returned (.tuple #[v, .int .u32 3, .int .i64 0]) ∧ Below w.heap.size w w' := by
  have h := open_any keyZ hereL SZ 7 3 (some ⟨g, 0, none⟩) A 4 4 Sl c w rfl keyZ_in rfl hereL_in (by decide) hSl (by rw [hS]; exact sealL_in hZi) hSl2 (by decide) hB hB2 hL
  have e : openL keyZ hereL 7 SZ = some (Z, 3) := by rw [hS]; exact open_seal keyZ hereL Z 7 3 hZi hZ (by decide)
  rw [key_zero, e] at h
  refine h.mono ?_
  rintro e w' ⟨⟨v, rfl, _⟩, hb⟩
  exact ⟨v, rfl, hb⟩
theorem kn_nil {g : Nat} {w : World} : Calls Tryd.prog 15 #[.agg #[.int .u8 0, .int .u8 0, .int .u8 0, .int .u8 0, .int .u8 0, .int .u8 0, .int .u8 0, .int .u8 0, .int .u8 0, .int .u8 0, .int .u8 0, .int .u8 0, .int .u8 0, .int .u8 0, .int .u8 0, .int .u8 0, .int .u8 0, .int .u8 0, .int .u8 0, .int .u8 0, .int .u8 0, .int .u8 0, .int .u8 0, .int .u8 0, .int .u8 0, .int .u8 0, .int .u8 0, .int .u8 0, .int .u8 0, .int .u8 0, .int .u8 0, .int .u8 0], .agg #[.slice (some ⟨g, 0, none⟩) 4 4, .int .u64 7, .int .u32 3], .slice none 0 0] w fun e w' => e = .returned (.tuple #[.slice none 0 0, .int .u32 0, .int .i64 9]) ∧ Below w.heap.size w w' := by
  have h := open_bad keyZ (.slice (some ⟨g, 0, none⟩) 4 4) 7 3 none 0 0 (by decide) (by decide) w
  rw [key_zero] at h
  exact h
theorem bk_at (n z : Int) (h : bktI n = z) (w : World) : Calls Tryd.prog 13 #[.int .i64 n] w fun e w' => e = .returned (.int .i64 z) ∧ w = w' := by
  subst h
  exact bucket_any n w
set_option maxRecDepth 100000 in
set_option maxHeartbeats 4000000 in
theorem known_walk (w : World) (hL : SLaid w) : Calls Tryd.prog 6 #[] w fun e w' => e = .returned (.bool true) ∧ Below w.heap.size w w' := by
  obtain ⟨M, hM⟩ : ∃ M : Nat, M = 131068 := ⟨_, rfl⟩
  obtain ⟨Z, hZ⟩ : ∃ Z, Z = zeros M := ⟨_, rfl⟩
  obtain ⟨Z1, hZ1⟩ : ∃ Z1, Z1 = zeros (M + 1) := ⟨_, rfl⟩
  obtain ⟨SZ, hSZ⟩ : ∃ SZ, SZ = sealL keyZ hereL 7 3 Z := ⟨_, rfl⟩
  obtain ⟨Sl, hSl⟩ : ∃ Sl, Sl = SZ.length := ⟨_, rfl⟩
  have hZl : Z.length = M := by rw [hZ, zeros, List.length_replicate]
  have hSl1 : Sl = 131108 := by rw [hSl, kn_length (hZl.trans hM) hSZ]
  have HM := Lib.hid hM
  have HZ : Hid (Z.length = M ∧ InB Z ∧ SZ = sealL keyZ hereL 7 3 Z) := ⟨hZl, by rw [hZ]; exact zeros_in _, hSZ⟩
  have HSl : Hid (SZ.length = Sl ∧ Sl ≤ 200000) := ⟨hSl.symm, by omega⟩
  have HSlI : Hid ((Sl : Int) = 131108) := by show _ = _; omega
  have km1 : Hid (∀ w, (Instr.makeSlice 24 (.int .i64 ((M : Int) + 1)) (.int .i64 ((M : Int) + 1))).run Tryd.prog w = .ok (.slice (some ⟨w.heap.size, 0, none⟩) (M + 1) (M + 1)) (w.alloc (.cells (u8s Z1) 5))) := fun w => by
    have h := mk_any (M + 1) (by omega) w
    rwa [← hZ1, show ((M + 1 : Nat) : Int) = (M : Int) + 1 by omega] at h
  have km2 : Hid (∀ w, (Instr.makeSlice 24 (.int .i64 (M : Int)) (.int .i64 (M : Int))).run Tryd.prog w = .ok (.slice (some ⟨w.heap.size, 0, none⟩) M M) (w.alloc (.cells (u8s Z) 5))) := fun w => by
    have h := mk_any M (by omega) w
    rwa [← hZ] at h
  have hms : Hid (∀ w, Calls Tryd.prog 17 #[] w fun e w' => e = .returned (.int .i64 (M : Nat)) ∧ w = w') := fun w => by rw [hM]; exact most_any w
  have hMI : (M : Int) ≤ 140000 := by omega
  clear hM hZ hZ1 hSZ hSl hSl1 hZl
  have HLD := Lib.hid hL
  clear hL
  have q0 : bktI 0 = 64 := by decide
  have q1 : bktI 60 = 64 := by decide
  have q2 : bktI 61 = 128 := by decide
  have q3 : bktI 131068 = 131072 := by decide
  have q4 : bktI 131069 = 0 := by decide
  have q5 : bktI (-1) = 0 := by decide
  have HMI := Lib.hid hMI
  clear hMI
  go_enter Tryd.func6, Tryd.ntmps6
  go_upto_region 3 with (first
    | (go_at_call 10; refine (awake_any _ HLD.out).mono ?_; rintro e w1 ⟨rfl, hb1⟩; have H1 := Lib.hid hb1; clear hb1)
    | (go_at_call 13; refine (bucket_any _ _).mono ?_; rintro e w' ⟨rfl, rfl⟩))
  clear q0 q1 q2 q3 q4 q5
  have km1' := km1.out
  have hMI := HMI.out
  clear km1
  go_upto_region 4 with (first
    | (go_at_call 18; refine (here_any _).mono ?_; rintro e w2 ⟨g2, rfl, hg, hb2⟩; have H2 := Lib.hid (H1.out.trans (hb2.mono H1.out.size)); clear hg hb2)
    | (go_at_call 17; refine (hms.out _).mono ?_; rintro e w' ⟨rfl, rfl⟩)
    | (go_at_call 11; refine (kn_no _ HM.out).mono ?_; rintro e w3 ⟨rfl, hb3⟩; have H3 := Lib.hid ((H2.out.alloc H2.out.size _).trans (hb3.mono (by rw [World.size_alloc]; exact Nat.le_succ_of_le H2.out.size))); clear hb3))
  have km2' := km2.out
  clear km1' km2 H1 H2
  go_upto_region 5 with (first
    | (go_at_call 18; refine (here_any _).mono ?_; rintro e w4 ⟨g4, rfl, hg, hb4⟩; have Hg4 := Lib.hid hg; have H4 := Lib.hid (H3.out.trans (hb4.mono H3.out.size)); clear hg hb4)
    | (go_at_call 17; refine (hms.out _).mono ?_; rintro e w' ⟨rfl, rfl⟩)
    | (go_at_call 11; refine (kn_ok HM.out HSl.out.1 HZ.out.1 HZ.out.2.1 HZ.out.2.2 (HLD.out.later (H4.out.alloc H4.out.size _)) (Hg4.out.alloc _) (byt_rowF (Go.heap_alloc_new w4 _) HZ.out.1)).mono ?_; rintro e w5 ⟨A5, c5, rfl, hs5, hb5⟩; have Hs5 := Lib.hid hs5; have H5 := Lib.hid ((H4.out.alloc H4.out.size _).trans (hb5.mono (by rw [World.size_alloc]; exact Nat.le_succ_of_le H4.out.size))); clear hs5 hb5))
  clear km2' H3 H4 Hg4
  go_upto_region 6 with (first
    | (go_at_call 18; refine (here_any _).mono ?_; rintro e w6 ⟨g6, rfl, hg, hb6⟩; have Hg6 := Lib.hid hg; have Hs6 := Lib.hid (Hs5.out.below hb6 (Nat.le_refl _)); have H6 := Lib.hid (H5.out.trans (hb6.mono H5.out.size)); clear hg hb6)
    | (go_at_call 15; refine (kn_open HSl.out.1 HSl.out.2 (by rw [HZ.out.1, HM.out]; exact Nat.le_refl _) HZ.out.2.1 HZ.out.2.2 (HLD.out.later H6.out) Hg6.out Hs6.out).mono ?_; rintro e w7 ⟨v7, rfl, hb7⟩; have H7 := Lib.hid (H6.out.trans (hb7.mono H6.out.size)); clear hb7))
  clear H5 H6 Hs5 Hs6 Hg6
  go_upto_region 7 with (first
    | (go_at_call 18; refine (here_any _).mono ?_; rintro e w8 ⟨g8, rfl, hg, hb8⟩; have H8 := Lib.hid (H7.out.trans (hb8.mono H7.out.size)); clear hg hb8)
    | (go_at_call 15; refine kn_nil.mono ?_; rintro e w9 ⟨rfl, hb9⟩; have H9 := Lib.hid (H8.out.trans (hb9.mono H8.out.size)); clear hb9))
  have hsl := HSlI.out
  clear hMI HMI
  go_wp2
  go_ret
  exact ⟨rfl, H9.out⟩
end Go.Proofs.YtkbkgbcdmhkicaaDoor.Seal
