/- DERIVED. The walk of EpochKnown. -/
import Derived.Test.YtlofnpebknfmkaaEpoEl
import Derived.BigQuiet
namespace Go.Proofs.Ytlofnpebknfmkaa.Epo
open Go.RowKit Dsk
theorem nil_read (w : World) : Calls Try.prog 10 #[.pointer none, .int .i64 0, .int .i64 1] w fun e w' => e = .returned (.tuple #[.slice none 0 0, .int .i64 1]) ∧ w = w' := by
  have h : BadD (.pointer none) w := .inl rfl
  have Hs := Lib.hid (bad_sectors h)
  have Hw := Lib.hid (within_any 0 1 0 w (by decide) (by decide) (by decide))
  rw [show withinI 0 1 0 = false by decide] at Hw
  have Hr := Lib.hid (bad_refuses h false)
  clear h
  go_enter Try.func10, Try.ntmps10
  go_wp2_with (first
    | (go_at_call 23; refine Hs.out.mono ?_; rintro e w' ⟨rfl, rfl⟩)
    | (go_at_call 21; refine Hw.out.mono ?_; rintro e w' ⟨rfl, rfl⟩)
    | (go_at_call 22; refine Hr.out.mono ?_; rintro e w' ⟨rfl, rfl⟩))
  go_ret2
  exact ⟨rfl, rfl⟩
theorem nil_open (w : World) : Calls Try.prog 11 #[.pointer none, .int .i64 0, .int .i64 1] w fun e w' => e = .returned (.tuple #[.pointer none, .int .i64 1]) ∧ w = w' := by
  go_enter Try.func11, Try.ntmps11
  go_wp2_with (go_at_call 10; refine (nil_read w).mono ?_; rintro e w' ⟨rfl, rfl⟩)
  go_ret2
  exact ⟨rfl, rfl⟩
def putD (D : DS) (b : List Int) : DS := { D with data := splice D.data 0 b }
def kn0 : DS := newD 1
def kn1 : DS := putD kn0 [1, 1]
def kn2 : DS := putD kn1 [0, 1]
def kn3 : DS := putD kn2 [1, 2]
theorem kn0_l : kn0.data.length = 128 := by kernel_rfl
theorem kn1_l : kn1.data.length = 128 := by kernel_rfl
theorem kn2_l : kn2.data.length = 128 := by kernel_rfl
theorem kn3_l : kn3.data.length = 128 := by kernel_rfl
theorem kn_secs {D : DS} (h : D.data.length = 128) : D.secs = 1 := by unfold DS.secs; rw [h]
theorem kn1_e : tellE (regL kn1 0 128) = 0 := by kernel_rfl
theorem kn1_v : lead 1 (regL kn1 0 128) = 2 := by kernel_rfl
theorem kn2_e : tellE (regL kn2 0 128) = 9 := by kernel_rfl
theorem kn3_e : tellE (regL kn3 0 128) = 9 := by kernel_rfl
theorem kn_two (x y : Int) (hx : 0 ≤ x ∧ x < 256) (hy : 0 ≤ y ∧ y < 256) : InB [x, y] := fun j => by
  match j with
  | 0 => exact hx
  | 1 => exact hy
  | _ + 2 => simp
theorem kn_new (w : World) : Calls Try.prog 8 #[.int .i64 1] w fun e w' => ∃ K : DK, e = .returned (.tuple #[.pointer (some ⟨K.g, 0, none⟩), .int .i64 0]) ∧ EL w w' K kn0 [] := el_new 1 w (by decide) (by decide)
theorem kn_open0 {w0 w : World} {K : DK} (h : EL w0 w K kn0 []) : Calls Try.prog 11 #[.pointer (some ⟨K.g, 0, none⟩), .int .i64 0, .int .i64 1] w fun e w' => ∃ g, e = .returned (.tuple #[.pointer (some ⟨g, 0, none⟩), .int .i64 0]) ∧ EL w0 w' K kn0 [(g, ⟨0, 128, 0⟩)] :=
  (el_open h 0 1 0 (by decide) (by rw [kn_secs kn0_l]; decide) rfl (cnt_new 1 0 128 (by decide))).mono fun _ _ ⟨g, e, h, _⟩ => ⟨g, e, h⟩
theorem kn_open1 {w0 w : World} {K : DK} {p : Nat × CV} (h : EL w0 w K kn1 [p]) : Calls Try.prog 11 #[.pointer (some ⟨K.g, 0, none⟩), .int .i64 0, .int .i64 1] w fun e w' => ∃ g, e = .returned (.tuple #[.pointer (some ⟨g, 0, none⟩), .int .i64 0]) ∧ EL w0 w' K kn1 [(g, ⟨0, 128, 2⟩), p] :=
  (el_open h 0 1 2 (by decide) (by rw [kn_secs kn1_l]; decide) rfl (by have := tell_te kn1_e; rw [kn1_v] at this; exact this)).mono fun _ _ ⟨g, e, h, _⟩ => ⟨g, e, h⟩
theorem kn_bad {w0 w : World} {K : DK} {D : DS} {L : List (Nat × CV)} (h : EL w0 w K D L) (hl : D.data.length = 128) (ho : D.off = false) (ht : tellE (regL D 0 128) = 9) : Calls Try.prog 11 #[.pointer (some ⟨K.g, 0, none⟩), .int .i64 0, .int .i64 1] w fun e w' => e = .returned (.tuple #[.pointer none, .int .i64 9]) ∧ EL w0 w' K D L :=
  (open_bad h.ed.dsk 0 1 (by decide) (by rw [kn_secs hl]; decide) ho ht).mono fun _ _ ⟨e, hb⟩ => ⟨e, h.later hb⟩
theorem kn_zero {w0 w : World} {K : DK} {L : List (Nat × CV)} (h : EL w0 w K kn3 L) : Calls Try.prog 11 #[.pointer (some ⟨K.g, 0, none⟩), .int .i64 0, .int .i64 0] w fun e w' => e = .returned (.tuple #[.pointer none, .int .i64 2]) ∧ EL w0 w' K kn3 L :=
  (open_zero h.ed.dsk 0 (Nat.zero_le _) rfl).mono fun _ _ ⟨e, hb⟩ => ⟨e, h.later hb⟩
theorem kn_out {w0 w : World} {K : DK} {L : List (Nat × CV)} (h : EL w0 w K kn3 L) : Calls Try.prog 11 #[.pointer (some ⟨K.g, 0, none⟩), .int .i64 1, .int .i64 1] w fun e w' => e = .returned (.tuple #[.pointer none, .int .i64 2]) ∧ w = w' := by
  have e : refE kn3 (withinI 1 1 kn3.secs) = 2 := by rw [kn_secs kn3_l]; rfl
  have := open_no h.ed.dsk 1 1 (by decide) (by rw [e]; decide)
  rw [e] at this
  exact this
theorem kn_put {w0 w : World} {K : DK} {D : DS} {L : List (Nat × CV)} (h : EL w0 w K D L) (hl : D.data.length = 128) (x y : Int) (hx : 0 ≤ x ∧ x < 256) (hy : 0 ≤ y ∧ y < 256) : Calls Try.prog 9 #[.pointer (some ⟨K.g, 0, none⟩), .int .i64 0, .slice (some ⟨w.heap.size, 0, none⟩) 2 2] (w.alloc (.cells #[.int .u8 x, .int .u8 y] 5)) fun e w' => e = .returned (.int .i64 0) ∧ EL w0 w' K (putD D [x, y]) L :=
  (el_put (h.later ((Below.refl _ _).alloc (Nat.le_refl _) _)) 0 2 (by rw [hl]; decide) _ 2 [x, y] rfl (kn_two x y hx hy) (Str.byt_rowT (l := [x, y]) (Go.heap_alloc_new w _) rfl)).mono fun _ _ ⟨e, h, _⟩ => ⟨e, h⟩
set_option maxRecDepth 100000 in
set_option maxHeartbeats 4000000 in
theorem known_walk (w : World) : Calls Try.prog 7 #[] w fun e w' => e = .returned (.bool true) ∧ Below w.heap.size w w' := by
  go_enter Try.func7, Try.ntmps7
  go_upto_region 14 with (first
    | (go_at_call 8; with_reducible refine (kn_new w).mono ?_; rintro e w1 ⟨K, rfl, hq1⟩; have Q1 := Lib.hid hq1; clear hq1)
    | (go_at_call 11; with_reducible refine (nil_open _).mono ?_; rintro e w' ⟨rfl, rfl⟩)
    | (go_at_call 11; with_reducible refine (kn_out Q9.out).mono ?_; rintro e w' ⟨rfl, rfl⟩)
    | (go_at_call 11; with_reducible refine (kn_zero Q8.out).mono ?_; rintro e w9 ⟨rfl, hq9⟩; have Q9 := Lib.hid hq9; clear hq9)
    | (go_at_call 11; with_reducible refine (kn_bad Q7.out kn3_l rfl kn3_e).mono ?_; rintro e w8 ⟨rfl, hq8⟩; have Q8 := Lib.hid hq8; clear hq8)
    | (go_at_call 11; with_reducible refine (kn_bad Q5.out kn2_l rfl kn2_e).mono ?_; rintro e w6 ⟨rfl, hq6⟩; have Q6 := Lib.hid hq6; clear hq6)
    | (go_at_call 11; with_reducible refine (kn_open1 Q3.out).mono ?_; rintro e w4 ⟨gb, rfl, hq4⟩; have Q4 := Lib.hid hq4; clear hq4)
    | (go_at_call 11; with_reducible refine (kn_open0 Q1.out).mono ?_; rintro e w2 ⟨ga, rfl, hq2⟩; have Q2 := Lib.hid hq2; clear hq2)
    | (go_at_call 9; refine (kn_put Q6.out kn2_l 1 2 (by decide) (by decide)).mono ?_; rintro e w7 ⟨rfl, hq7⟩; have Q7 : Hid (EL w w7 K kn3 [(gb, ⟨0, 128, 2⟩), (ga, ⟨0, 128, 0⟩)]) := hq7; clear hq7)
    | (go_at_call 9; refine (kn_put Q4.out kn1_l 0 1 (by decide) (by decide)).mono ?_; rintro e w5 ⟨rfl, hq5⟩; have Q5 : Hid (EL w w5 K kn2 [(gb, ⟨0, 128, 2⟩), (ga, ⟨0, 128, 0⟩)]) := hq5; clear hq5)
    | (go_at_call 9; refine (kn_put Q2.out kn0_l 1 1 (by decide) (by decide)).mono ?_; rintro e w3 ⟨rfl, hq3⟩; have Q3 : Hid (EL w w3 K kn1 [(ga, ⟨0, 128, 0⟩)]) := hq3; clear hq3))
  clear Q1 Q2 Q3 Q4 Q5 Q6 Q7 Q8
  go_upto_region 16 with (fail)
  generalize hw10 : World.alloc w9 _ = w10
  have hz : w10.heap[w9.heap.size]? = some (.cells #[.pointer none, .pointer none, .int .i64 0, .int .i64 0, .int .i64 0] 49 (0, 0)) := by rw [← hw10]; exact Go.heap_alloc_new w9 _
  have hb10 : Below w9.heap.size w9 w10 := by rw [← hw10]; exact (Below.refl _ _).alloc (Nat.le_refl _) _
  have Z : Hid (BadC (.pointer (some ⟨w9.heap.size, 0, none⟩)) w10) := .inr ⟨_, rfl, hz⟩
  have N : Hid (∀ w : World, BadC (.pointer none) w) := fun _ => .inl rfl
  have Q10 := Lib.hid (Q9.out.later hb10)
  clear hz hw10 hb10 Q9
  go_wp2_with (first
    | (go_at_call 14; with_reducible refine (bad_value (N.out _)).mono ?_; rintro e w' ⟨rfl, rfl⟩)
    | (go_at_call 14; with_reducible refine (bad_value Z.out).mono ?_; rintro e w' ⟨rfl, rfl⟩)
    | (go_at_call 16; with_reducible refine (bad_next (N.out _)).mono ?_; rintro e w' ⟨rfl, rfl⟩)
    | (go_at_call 16; with_reducible refine (bad_next Z.out).mono ?_; rintro e w' ⟨rfl, rfl⟩)
    | (go_at_call 14; with_reducible refine (el_value Q10.out (g := ga) (List.mem_cons_of_mem _ (List.mem_cons_self ..)) 0 rfl).mono ?_; rintro e w' ⟨rfl, rfl⟩)
    | (go_at_call 14; with_reducible refine (el_value Q10.out (g := gb) (List.mem_cons_self ..) 2 rfl).mono ?_; rintro e w' ⟨rfl, rfl⟩)
    | (go_at_call 12; with_reducible refine (works_any _).mono ?_; rintro e w11 ⟨rfl, hb11⟩; have L11 := Lib.hid (Q10.out.ed.low.trans (hb11.mono Q10.out.ed.low.size)); clear hb11))
  go_ret
  exact ⟨rfl, L11.out⟩
end Go.Proofs.Ytlofnpebknfmkaa.Epo
