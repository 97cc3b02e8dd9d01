/- DERIVED. The contracts of the reference's Num, Text, Hash, Label of layer 4. -/
import Derived.Test.YtigfcmnknijobaaCodEq
import Derived.Test.YtigfcmnknijobaaAppend
import Derived.Test.YtigfcmnknijobaaCodOnceMath
import Derived.Lib.AppendStr
namespace Go.Proofs.Ytigfcmnknijobaa.Cod
open Go.RowKit Str
theorem own_one (w : World) (x : Int) : NewB w.heap.size [x] (.slice (some ⟨w.heap.size, 0, none⟩) 1 1) (w.alloc (.cells #[.int .u8 x] 5)) :=
  ⟨rfl, .inr ⟨_, 1, #[.int .u8 x], rfl, Nat.le_refl _, Go.heap_alloc_new w _, Nat.le_refl _, by unfold maxLen; decide, rfl, rfl⟩⟩
theorem encF_more {k n : Nat} (h : ¬ n < 128) : encF (k + 1) n = ((128 + n % 128 : Nat) : Int) :: encF k (n / 128) := by
  conv => lhs; unfold encF
  rw [if_neg h]
set_option maxRecDepth 100000 in
set_option maxHeartbeats 1000000 in
theorem rnum_any (k : Nat) : ∀ (n : Nat) (_ : n < 128 ^ (k + 1)) (_ : k ≤ 9) (_ : n < 18446744073709551616) (w : World),
    Calls Try.prog 26 #[.int .u64 (n : Nat)] w fun e w' => ∃ v, e = .returned v ∧ NewB w.heap.size (encF k n) v w' ∧ Below w.heap.size w w' := by
  induction k with
  | zero =>
    intro n hn _ _ w
    have hn' : (n : Int) < 128 := by simp at hn; omega
    have ho := Lib.hid (own_one w n)
    clear hn
    go_enter Try.func26, Try.ntmps26
    go_wp2
    go_ret
    exact ⟨_, rfl, ho.out, (Below.refl _ _).alloc (Nat.le_refl _) _⟩
  | succ k ih =>
    intro n hn hk h64 w
    by_cases hlt : n < 128
    · have hn' : (n : Int) < 128 := by omega
      have ho := Lib.hid (own_one w n)
      have he : Hid (encF (k + 1) n = [(n : Int)]) := by show _ = _; unfold encF; rw [if_pos hlt]
      clear hn hlt ih h64
      go_enter Try.func26, Try.ntmps26
      go_wp2
      go_ret
      exact ⟨_, rfl, by rw [he.out]; exact ho.out, (Below.refl _ _).alloc (Nat.le_refl _) _⟩
    · have hn' : ¬ (n : Int) < 128 := by omega
      have ih2 : Hid (∀ W, Calls Try.prog 26 #[.int .u64 ((n : Int) / 128)] W fun e w' => ∃ v, e = .returned v ∧ NewB W.heap.size (encF k (n / 128)) v w' ∧ Below W.heap.size W w') := fun W => by
        have h := ih (n / 128) (pow_lt hn) (by omega) (by omega) W
        rw [Int.natCast_ediv] at h
        exact h
      have he := Lib.hid (encF_more (k := k) hlt)
      have hwq : IntKind.u64.wrap ((n : Int) / 128) = (n : Int) / 128 := IntWalk.u64_in _ (by omega)
      have hr0 : 0 ≤ (n : Int) % 128 := by omega
      have hr1 : (n : Int) % 128 < 128 := by omega
      obtain ⟨x, hx⟩ : ∃ x, x = 128 + (n : Int) % 128 := ⟨_, rfl⟩
      have hel := Lib.hid (encF_le k (n / 128))
      have hone := Lib.hid (byt_rowT (Go.heap_alloc_new w (.cells (u8s [x]) 5)) (n := 1) rfl)
      have Hx := Lib.hid hx
      rw [hx] at hone
      clear hn hlt ih hx h64
      go_enter Try.func26, Try.ntmps26
      go_wp2_with (first
        | (go_at_call 26; refine (ih2.out _).mono ?_; rintro e w3 ⟨v3, rfl, own3, low3⟩; obtain ⟨A3, c3, rfl, b3⟩ := own3.sl; have Own2 := Lib.hid (own_keep Own1.out low3); have B3 := Lib.hid b3; have Low3 := Lib.hid (Low1.out.trans (low3.mono Low1.out.size)); clear own3 low3 b3)
        | (at_builtin; refine wpList_append_any rfl (.tmp 16) (.tmp 19) rfl w.heap.size v1 1 [128 + (n : Int) % 128] rfl Own2.out A3 (encF k (n / 128)).length c3 (encF k (n / 128)) rfl rfl B3.out (by have := hel.out; omega) Low3.out.size ?_; intro v4 w4 own4 hlow4; have Own4 := Lib.hid own4; have Low4 := Lib.hid (hlow4 _ _ Low3.out (Nat.le_refl _)); clear own4 hlow4)
        | (at_builtin; refine wpList_append_any rfl (.tmp 9) (.tmp 14) rfl w.heap.size (.slice none 0 0) 0 [] rfl (World.ownsRow_nil _ _ _ _) (some ⟨w.heap.size, 0, none⟩) 1 1 [128 + (n : Int) % 128] rfl rfl hone.out (by omega) (by rw [World.size_alloc]; omega) ?_; intro v1 w1 own1 hlow1; have Own1 := Lib.hid own1; have Low1 := Lib.hid (hlow1 _ _ ((Below.refl w.heap.size w).alloc (Nat.le_refl _) _) (Nat.le_refl _)); clear own1 hlow1))
      go_ret
      refine ⟨_, rfl, ?_, Low4.out⟩
      have h := Own4.out
      unfold NewB
      rw [he.out, List.length_cons, Nat.add_comm, show ((128 + n % 128 : Nat) : Int) = 128 + (n : Int) % 128 by omega]
      exact h
theorem rnum (n : Nat) (hn : n < 18446744073709551616) (w : World) :
    Calls Try.prog 26 #[.int .u64 (n : Nat)] w fun e w' => ∃ v, e = .returned v ∧ NewB w.heap.size (encN n) v w' ∧ Below w.heap.size w w' := rnum_any 9 n (lt70 hn) (by decide) hn w
theorem strCells_vals (s : ByteArray) : Lib.strCells s = vals (bOf s) := by simp [Lib.strCells, vals, bOf]
set_option maxRecDepth 100000 in
set_option maxHeartbeats 1000000 in
theorem rtext (s : ByteArray) (hs : s.size ≤ 5000) (w : World) :
    Calls Try.prog 28 #[.string s] w fun e w' => ∃ v, e = .returned v ∧ NewB w.heap.size (textL s) v w' ∧ Below w.heap.size w w' := by
  obtain ⟨i0, hi0, hz00, hz10, hz20⟩ := info_parts info8z
  have hi := Lib.hid hi0
  have hz0 := Lib.hid hz00
  have hz1 := Lib.hid hz10
  have hz2 := Lib.hid hz20
  have hsI : (s.size : Int) ≤ 5000 := by omega
  have hel := Lib.hid (encN_le s.size)
  clear hi0 hz00 hz10 hz20
  go_enter Try.func28, Try.ntmps28
  go_wp2_with (first
    | (go_at_call 26; refine (rnum s.size (by omega) w).mono ?_; rintro e w1 ⟨v1, rfl, own1, low1⟩; have Own1 := Lib.hid own1; have Low1 := Lib.hid low1; clear own1 low1)
    | (at_builtin; refine Lib.wpList_append_own_string _ rfl (.tmp 6) (.tmp 7) 22 9 rfl w.heap.size 5 i0 Try.underlying22 Try.underlying9 hi.out hz0.out hz1.out hz2.out v1 (encN s.size).length (vals (encN s.size)) rfl Own1.out s rfl (by unfold maxLen; have := hel.out; omega) (by have := hel.out; omega) Low1.out.size ?_; intro v2 w2 own2 hgrow _; have Own2 := Lib.hid own2; have Low2 := Lib.hid (Low1.out.grown hgrow Low1.out.size (fun k hk => (Own1.out.lt k hk).1)); clear own2 hgrow))
  go_ret
  refine ⟨_, rfl, ?_, Low2.out⟩
  have h := Own2.out
  rw [strCells_vals, vals_app] at h
  unfold NewB textL
  rw [List.length_append, bOf_length]
  exact h
set_option maxRecDepth 100000 in
set_option maxHeartbeats 1000000 in
theorem rhash (h : List Int) (hh : h.length = 32) (w : World) :
    Calls Try.prog 30 #[.agg (u8s h)] w fun e w' => ∃ v, e = .returned v ∧ NewB w.heap.size h v w' ∧ Below w.heap.size w w' := by
  have hrow := Lib.hid (Go.heap_alloc_new w (.cells (u8s h) 32))
  have hlow := Lib.hid ((Below.refl w.heap.size w).alloc (Nat.le_refl _) (.cells (u8s h) 32))
  have HH := Lib.hid hh
  clear hh
  go_enter Try.func30, Try.ntmps30
  go_wp2
  go_loopw [3, 4] (fun v i wr => ∃ j : Nat, j ≤ 32 ∧ i = .int .i64 (j : Nat) ∧ Hid (wr.ownsRow (w.heap.size + 1) 5 1 v j (vals (h.take j))) ∧ Hid (Below w.heap.size w wr) ∧ Hid (wr.heap[w.heap.size]? = some (.cells (u8s h) 32 (0, 0)))) (fun _ i _ => 32 - (intOf i).toNat)
  case atStart => exact ⟨0, by omega, rfl, World.ownsRow_nil _ _ _ _, hlow.out, hrow.out⟩
  case round =>
    obtain ⟨j, hj, rfl, own, low, row⟩ := hrel
    by_cases hlt : j < 32
    · obtain ⟨x, hx⟩ : ∃ x, x = h.getD j 0 := ⟨_, rfl⟩
      have cc : wr.cell? ⟨w.heap.size, j, none⟩ = some (.int .u8 x) := by rw [hx]; exact row8_cell row.out j (by rw [HH.out]; exact hlt)
      have htk : h.take (j + 1) = h.take j ++ [x] := by rw [hx, List.take_succ_eq_append_getElem (by rw [HH.out]; exact hlt)]; simp [List.getD_eq_getElem?_getD, HH.out, hlt]
      have Htk := Lib.hid htk
      have hsz := low.out.size
      have hone := Lib.hid (byt_rowT (Go.heap_alloc_new wr (.cells (u8s [x]) 5)) (n := 1) rfl)
      have hlt' : (j : Int) < 32 := by omega
      have hg : w.heap.size < wr.heap.size := (Array.getElem?_eq_some_iff.1 row.out).1
      clear hx htk
      go_wp2_with (at_builtin; refine wpList_append_any rfl (.tmp 9) (.tmp 13) rfl (w.heap.size + 1) u3 j (h.take j) rfl (own.out.alloc _) (some ⟨wr.heap.size, 0, none⟩) 1 1 [x] rfl rfl hone.out (by omega) (by rw [World.size_alloc]; omega) ?_; intro v2 w2 own2 hlow2; have Own2 := Lib.hid own2; have Low2 := Lib.hid hlow2; clear own2 hlow2)
      go_roundw
      case rel => exact ⟨j + 1, by omega, by go_num, by have := Own2.out; rwa [← Htk.out] at this, Low2.out _ _ (low.out.alloc hsz _) (by omega), ((Low2.out (w.heap.size + 1) wr ((Below.refl _ _).alloc (by omega) _) (Nat.le_refl _)).block _ (by omega)).trans row.out⟩
      case measure => simp [intOf]; omega
    · have hj3 : j = 32 := by omega
      subst hj3
      have hlt' : ¬ (32 : Int) < 32 := by omega
      clear hlt
      go_wp2
      go_ret
      refine ⟨_, rfl, ?_, low.out⟩
      have h2 := own.out
      rw [← HH.out, List.take_length] at h2
      exact own_base h2 (Nat.le_succ _)
theorem compL_drop (c k : Nat) (h : k < 8) : (compL c).drop (7 - k) = ((c / 256 ^ k % 256 : Nat) : Int) :: (compL c).drop (8 - k) := by
  obtain rfl | rfl | rfl | rfl | rfl | rfl | rfl | rfl : k = 0 ∨ k = 1 ∨ k = 2 ∨ k = 3 ∨ k = 4 ∨ k = 5 ∨ k = 6 ∨ k = 7 := by omega
  all_goals simp [compL]
end Go.Proofs.Ytigfcmnknijobaa.Cod
