/- DERIVED. The contract of the laws' works. -/
import Derived.Test.YtigfcmnknijobaaCodOpen
namespace Go.Proofs.Ytigfcmnknijobaa.Cod
open Go.RowKit Str
theorem num_is {rb : Nat} {L : List Int} {er : Int} {w : World} (most : Nat) (m z : Int) (N : Nat) (R : List Int) (E : Int) (hm : m = (most : Nat)) (he : readN L er most = (N, R, E)) (hz : z = (N : Nat)) (h : Rdr rb L er w) (hle : L.length ≤ 100000) (hb : InB L) :
    Calls Try.prog 15 #[.pointer (some ⟨rb, 0, none⟩), .int .u64 m] w fun e w' => e = .returned (.int .u64 z) ∧ Rdr rb R E w' ∧ Chg [rb] w w' := by
  have k := num_read most h hle hb
  rw [he] at k
  rw [hm, hz]
  exact k
theorem done_is {rb : Nat} {L : List Int} {er z : Int} {w : World} (hz : doneE L er = z) (h : Rdr rb L er w) :
    Calls Try.prog 7 #[.pointer (some ⟨rb, 0, none⟩)] w fun e w' => e = .returned (.int .i64 z) ∧ w = w' := by
  have k := done_any h
  rw [hz] at k
  exact k
theorem num_new (A : Option Addr) (x c n : Nat) (m : Int) (L M : List Int) (hm : m = (n : Nat)) (hM : L ++ encN n = M) (hn : n < 18446744073709551616) (hx : L.length = x) (hle : x ≤ 40000) (w : World) (hB : Byt w A c L) :
    Calls Try.prog 25 #[.slice A x c, .int .u64 m] w fun e w' => ∃ v, e = .returned v ∧ NewB w.heap.size M v w' ∧ Below w.heap.size w w' := by
  subst hm hM
  exact num_any A x c n L hn hx hle w hB
theorem enc300 : [] ++ encN 300 = [172, 2] := by decide
theorem rd1 : readN [172, 2] 0 300 = (300, [], 0) := by decide +kernel
theorem rd2 : readN [] 0 1 = (0, [], 4) := by decide +kernel
theorem in172 : InB [172, 2] := inB_mem (by decide)
theorem in0 : InB [] := inB_mem (by decide)
theorem newB_cells {B : Nat} {M : List Int} {v : Value} {w : World} (h : NewB B M v w) (h0 : 0 < M.length) : ∃ g c, v = .slice (some ⟨g, 0, none⟩) M.length c ∧ B ≤ g ∧ g < w.heap.size ∧ ∀ j, j < M.length → w.cell? ⟨g, j, none⟩ = some (.int .u8 (M.getD j 0)) := by
  obtain ⟨A, c, e, _, hB⟩ := own_byt h
  obtain ⟨_, h⟩ := h
  rcases h with ⟨_, h⟩ | ⟨g, cap, cur, hv, hb, hh, _⟩
  · omega
  · obtain ⟨g', off, hA, hg, hc⟩ := hB.2.2 h0
    rw [hv] at e
    simp only [Value.slice.injEq] at e
    obtain ⟨e1, _, _⟩ := e
    rw [hA] at e1
    simp only [Option.some.injEq, Addr.mk.injEq, and_true] at e1
    obtain ⟨rfl, rfl⟩ := e1
    exact ⟨g, cap, hv, hb, hg, fun j hj => by have := hc j hj; rwa [Nat.zero_add] at this⟩
set_option maxRecDepth 100000 in
set_option maxHeartbeats 1000000 in
theorem works_any (w : World) : Calls Try.prog 9 #[] w fun e w' => e = .returned (.bool true) ∧ Below w.heap.size w w' := by
  have HN := Lib.hid (num_new none 0 0 300 300 [] [172, 2] rfl enc300 (by decide) rfl (by omega) w ⟨Nat.le_refl _, fun _ => rfl, fun h => absurd h (Nat.lt_irrefl 0)⟩)
  go_enter Try.func9, Try.ntmps9
  go_wp2_with (first
    | (go_at_call 13; refine (err_any R4.out).mono ?_; rintro e w6 ⟨rfl, rfl⟩)
    | (go_at_call 15; refine (num_is 1 1 0 0 [] 4 rfl rd2 rfl R3.out (by decide) in0).mono ?_; rintro e w5 ⟨rfl, r4, ch5⟩; have R4 := Lib.hid r4; have Ch5 := Lib.hid ch5; clear r4 ch5)
    | (go_at_call 7; refine (done_is (z := 0) rfl R2.out).mono ?_; rintro e w4 ⟨rfl, rfl⟩; have R3 := Lib.hid R2.out)
    | (go_at_call 15; refine (num_is 300 300 300 300 [] 0 rfl rd1 rfl R1.out (by decide) in172).mono ?_; rintro e w3 ⟨rfl, r2, ch3⟩; have R2 := Lib.hid r2; have Ch3 := Lib.hid ch3; clear r2 ch3)
    | (go_at_call 5; refine (open_any Sl1.out (by decide)).mono ?_; rintro e w2 ⟨rb, rfl, hrb, r1, low2⟩; have c0 := (low2.cell (p := ⟨g, 0, none⟩) hg).trans Hc0.out; have c1 := (low2.cell (p := ⟨g, 1, none⟩) hg).trans Hc1.out; have R1 := Lib.hid r1; have Low2 := Lib.hid low2; clear r1 low2)
    | (go_at_call 25; refine HN.out.mono ?_; rintro e w1 ⟨v1, rfl, own1, low1⟩; have Sl1 := Lib.hid own1.sl; obtain ⟨g, c, rfl, _, hg, hcell⟩ := newB_cells own1 (by decide); have Hc0 := Lib.hid (hcell 0 (by decide)); have Hc1 := Lib.hid (hcell 1 (by decide)); have Low1 := Lib.hid low1; clear own1 low1 hcell))
  go_ret
  have h1 := Low1.out.trans (Low2.out.mono Low1.out.size)
  have hs : w.heap.size ≤ rb := Nat.le_trans Low1.out.size hrb
  have k : ∀ k ∈ [rb], w.heap.size ≤ k := fun k hk => by obtain rfl := List.mem_singleton.1 hk; exact hs
  have h2 := Ch3.out.below h1 h1.size k
  exact ⟨rfl, Ch5.out.below h2 h2.size k⟩
end Go.Proofs.Ytigfcmnknijobaa.Cod
