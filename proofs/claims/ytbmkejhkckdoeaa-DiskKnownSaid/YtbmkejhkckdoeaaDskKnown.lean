/- DERIVED. The walk of DiskKnown. -/
import Derived.Test.YtbmkejhkckdoeaaDskBad
import Derived.Lib.SlBytesConst
namespace Go.Proofs.Ytbmkejhkckdoeaa.Dsk
open Go.RowKit
/-- a new disk of two sectors, in the law's own memory. -/
structure QK (w0 : World) (K : DK) (w : World) : Prop where
  dsk : Dsk w K (newD 2)
  low : Below w0.heap.size w0 w
  g : w0.heap.size ≤ K.g
  h : w0.heap.size ≤ K.h
theorem QK.alloc {w0 w : World} {K : DK} (h : QK w0 K w) (o : Obj) : QK w0 K (w.alloc o) := ⟨h.dsk.later ((Below.refl _ _).alloc (Nat.le_refl _) o), h.low.alloc h.low.size o, h.g, h.h⟩
theorem QK.at {w0 w w' : World} {K : DK} (h : QK w0 K w) (hd : Dsk w' K (newD 2)) (hc : Chg K.bl w w') : QK w0 K w' :=
  ⟨hd, hc.below h.low h.low.size (fun k hk => by have := h.g; have := h.h; simp [DK.bl] at hk; omega), h.g, h.h⟩
theorem splice_nil {α : Type} (L : List α) (o : Nat) : splice L o [] = L := by simp [splice]
theorem n2_secs : (newD 2).secs = 2 := by kernel_rfl
theorem n2_len : (newD 2).data.length = 256 := by kernel_rfl
theorem new_0 (w : World) : Calls Try.prog 6 #[.int .i64 0] w fun e w' => e = .returned (.tuple #[.pointer none, .int .i64 2]) ∧ w = w' := new_no 0 w (by decide)
theorem new_big (w : World) : Calls Try.prog 6 #[.int .i64 16385] w fun e w' => e = .returned (.tuple #[.pointer none, .int .i64 2]) ∧ w = w' := new_no 16385 w (by decide)
theorem k_new (w : World) : Calls Try.prog 6 #[.int .i64 2] w fun e w' => ∃ K : DK, e = .returned (.tuple #[.pointer (some ⟨K.g, 0, none⟩), .int .i64 0]) ∧ QK w K w' := (new_two w).mono (by
  rintro e w' ⟨K, rfl, h1, h2, h3, h4⟩
  exact ⟨K, rfl, h1, h2, h3, h4⟩)
theorem k_read12 {w0 w : World} {K : DK} (h : QK w0 K w) : Calls Try.prog 18 #[.pointer (some ⟨K.g, 0, none⟩), .int .i64 1, .int .i64 2] w fun e w' => e = .returned (.tuple #[.slice none 0 0, .int .i64 2]) ∧ w = w' := by
  have e : refE (newD 2) (withinI 1 2 (newD 2).secs) = 2 := by rw [n2_secs]; rfl
  have := read_no h.dsk 1 2 (by decide) (by rw [e]; decide)
  rw [e] at this
  exact this
theorem k_read20 {w0 w : World} {K : DK} (h : QK w0 K w) : Calls Try.prog 18 #[.pointer (some ⟨K.g, 0, none⟩), .int .i64 2, .int .i64 0] w fun e w' => ∃ v', e = .returned (.tuple #[v', .int .i64 0]) ∧ QK w0 K w' :=
  (read_ok h.dsk 2 0 (by rw [n2_secs]; decide) rfl).mono (by
    rintro e w' ⟨v, rfl, hb, _⟩
    exact ⟨v, rfl, h.dsk.later hb, h.low.trans (hb.mono h.low.size), h.g, h.h⟩)
theorem k_write0 {w0 w : World} {K : DK} (h : QK w0 K w) (A : Option Addr) : Calls Try.prog 11 #[.pointer (some ⟨K.g, 0, none⟩), .int .i64 0, .slice A 1 1] w fun e w' => e = .returned (.int .i64 2) ∧ w = w' := by
  have e : refE (newD 2) (decide (1 % 128 = 0) && withinI 0 (1 / 128 : Nat) (newD 2).secs) = 2 := by rw [n2_secs]; rfl
  have := write_no h.dsk 0 (by decide) 1 (by decide) A 1 (by rw [e]; decide)
  rw [e] at this
  exact this
theorem k_write2 {w0 w : World} {K : DK} (h : QK w0 K w) : Calls Try.prog 11 #[.pointer (some ⟨K.g, 0, none⟩), .int .i64 2, .slice none 0 0] w fun e w' => e = .returned (.int .i64 0) ∧ QK w0 K w' :=
  (write_ok h.dsk 2 0 0 (by rw [n2_secs]; decide) rfl none 0 [] rfl rfl (fun j => by simp) ⟨Nat.le_refl _, fun _ => rfl, fun h => absurd h (Nat.lt_irrefl 0)⟩ (fun _ h => by cases h) (by decide)).mono (by
    rintro e w' ⟨rfl, hd, hc⟩
    exact ⟨rfl, h.at hd hc⟩)
theorem k_writen {w0 w : World} {K : DK} (h : QK w0 K w) : Calls Try.prog 11 #[.pointer (some ⟨K.g, 0, none⟩), .int .i64 (-1), .slice none 0 0] w fun e w' => e = .returned (.int .i64 2) ∧ w = w' := by
  have e : refE (newD 2) (decide (0 % 128 = 0) && withinI (-1) (0 / 128 : Nat) (newD 2).secs) = 2 := by rw [n2_secs]; rfl
  have := write_no h.dsk (-1) (by decide) 0 (by decide) none 0 (by rw [e]; decide)
  rw [e] at this
  exact this
theorem k_cut {w0 w : World} {K : DK} (h : QK w0 K w) : Calls Try.prog 10 #[.pointer (some ⟨K.g, 0, none⟩), .int .i64 (-1), .agg #[.int .u8 0, .int .u8 0, .int .u8 0, .int .u8 0, .int .u8 0, .int .u8 0, .int .u8 0, .int .u8 0, .int .u8 0, .int .u8 0, .int .u8 0, .int .u8 0, .int .u8 0, .int .u8 0, .int .u8 0, .int .u8 0]] w fun e w' => e = .returned (.int .i64 2) ∧ QK w0 K w' :=
  (cut_any h.dsk (-1) z16 (by decide) rfl inb16).mono (by
    rintro e w' ⟨rfl, hd, hc⟩
    exact ⟨rfl, h.at hd hc⟩)
theorem k_put {w0 w : World} {K : DK} (h : QK w0 K w) : Calls Try.prog 8 #[.pointer (some ⟨K.g, 0, none⟩), .int .i64 256, .slice none 0 0] w fun e w' => e = .returned (.int .i64 0) ∧ QK w0 K w' :=
  (put_ok h.dsk 256 0 (by rw [n2_len]; decide) none 0 [] rfl (fun j => by simp) ⟨Nat.le_refl _, fun _ => rfl, fun h => absurd h (Nat.lt_irrefl 0)⟩).mono (by
    rintro e w' ⟨rfl, hd, hc⟩
    refine ⟨rfl, h.at ?_ hc⟩
    rw [splice_nil] at hd
    exact hd)
theorem k_putx {w0 w : World} {K : DK} (h : QK w0 K w) (A : Option Addr) : Calls Try.prog 8 #[.pointer (some ⟨K.g, 0, none⟩), .int .i64 256, .slice A 1 1] w fun e w' => e = .returned (.int .i64 2) ∧ w = w' :=
  put_no h.dsk 256 (by decide) 1 (by decide) A 1 (by rw [n2_len]; rfl)
set_option maxRecDepth 100000 in
set_option maxHeartbeats 4000000 in
theorem known_walk (w : World) : Calls Try.prog 5 #[] w fun e w' => e = .returned (.bool true) ∧ Below w.heap.size w w' := by
  go_enter Try.func5, Try.ntmps5
  go_upto_region 8 with (first
    | (go_at_call 6; with_reducible refine (new_0 w).mono ?_; rintro e w' ⟨rfl, rfl⟩)
    | (go_at_call 6; with_reducible refine (new_big w).mono ?_; rintro e w' ⟨rfl, rfl⟩)
    | (go_at_call 6; with_reducible refine (k_new w).mono ?_; rintro e w1 ⟨K, rfl, hq1⟩; have Q1 := Lib.hid hq1; clear hq1)
    | (go_at_call 18; with_reducible refine (k_read12 Q1.out).mono ?_; rintro e w' ⟨rfl, rfl⟩)
    | (go_at_call 18; with_reducible refine (k_read20 Q1.out).mono ?_; rintro e w2 ⟨v2, rfl, hq2⟩; have Q2 := Lib.hid hq2; clear hq2))
  have kconst := fun (w : World) (C : Array Value) (n c : Nat) => Lib.run_convert_bytes_const (P := Try.prog) w 22 5 C n c Try.underlying22 Try.underlying5
  go_upto_region 11 with (first
    | (go_at_call 11; with_reducible refine (k_write0 (Q2.out.alloc _) _).mono ?_; rintro e w' ⟨rfl, rfl⟩)
    | (go_at_call 11; with_reducible refine (k_write2 (Q2.out.alloc _)).mono ?_; rintro e w3 ⟨rfl, hq3⟩; have Q3 := Lib.hid hq3; clear hq3)
    | (go_at_call 11; with_reducible refine (k_writen Q3.out).mono ?_; rintro e w' ⟨rfl, rfl⟩)
    | (go_at_call 10; with_reducible refine (k_cut Q3.out).mono ?_; rintro e w4 ⟨rfl, hq4⟩; have Q4 := Lib.hid hq4; clear hq4)
    | (go_at_call 8; with_reducible refine (k_putx (Q5.out.alloc _) _).mono ?_; rintro e w' ⟨rfl, rfl⟩)
    | (go_at_call 8; with_reducible refine (k_put Q4.out).mono ?_; rintro e w5 ⟨rfl, hq5⟩; have Q5 := Lib.hid hq5; clear hq5))
  have q5 := Q5.out.alloc (.cells #[.int .u8 120] 5 (1, 2))
  obtain ⟨w6, hw6⟩ : ∃ w6, w6 = w5.alloc (.cells #[.int .u8 120] 5 (1, 2)) := ⟨_, rfl⟩
  rw [← hw6] at q5 ⊢
  have L6 := Lib.hid q5.low
  clear q5 hw6 Q1 Q2 Q3 Q4 Q5 kconst
  go_upto_region 12 with (fail)
  generalize hw7 : World.alloc w6 _ = w7
  have hz : w7.heap[w6.heap.size]? = some (.cells zeroC 48 (0, 0)) := by rw [← hw7]; exact Go.heap_alloc_new w6 _
  have l7 : Below w.heap.size w w7 := by rw [← hw7]; exact L6.out.alloc L6.out.size _
  have Z : Hid (BadD (.pointer (some ⟨w6.heap.size, 0, none⟩)) w7) := .inr ⟨_, rfl, hz⟩
  have N : Hid (∀ w : World, BadD (.pointer none) w) := fun _ => .inl rfl
  have L7 := Lib.hid l7
  clear hz hw7 l7 L6
  go_wp2_with (first
    | (go_at_call 18; with_reducible refine (bad_read (N.out _)).mono ?_; rintro e w' ⟨rfl, rfl⟩)
    | (go_at_call 11; with_reducible refine (bad_write Z.out).mono ?_; rintro e w' ⟨rfl, rfl⟩)
    | (go_at_call 10; with_reducible refine (bad_cut (N.out _) _).mono ?_; rintro e w8 ⟨rfl, hb8⟩; have Z8 := Lib.hid (Z.out.later hb8); have L8 := Lib.hid (L7.out.trans (hb8.mono L7.out.size)); clear hb8)
    | (go_at_call 17; with_reducible refine (bad_restart Z8.out).mono ?_; rintro e w' ⟨rfl, rfl⟩)
    | (go_at_call 12; with_reducible refine (bad_off (N.out _)).mono ?_; rintro e w' ⟨rfl, rfl⟩)
    | (go_at_call 19; with_reducible refine (bad_sectors Z8.out).mono ?_; rintro e w' ⟨rfl, rfl⟩)
    | (go_at_call 9; with_reducible refine (bad_bytes (N.out _)).mono ?_; rintro e w' ⟨rfl, rfl⟩)
    | (go_at_call 8; with_reducible refine (bad_put Z8.out 0 none 0 0).mono ?_; rintro e w' ⟨rfl, rfl⟩)
    | (go_at_call 16; with_reducible refine (bad_copy (N.out _)).mono ?_; rintro e w' ⟨rfl, rfl⟩)
    | (go_at_call 16; with_reducible refine (bad_copy Z8.out).mono ?_; rintro e w' ⟨rfl, rfl⟩)
    | (go_at_call 13; with_reducible refine (works_any _).mono ?_; rintro e w9 ⟨rfl, hb9⟩; have L9 := Lib.hid (L8.out.trans (hb9.mono L8.out.size)); clear hb9))
  go_ret
  exact ⟨rfl, L9.out⟩
end Go.Proofs.Ytbmkejhkckdoeaa.Dsk
