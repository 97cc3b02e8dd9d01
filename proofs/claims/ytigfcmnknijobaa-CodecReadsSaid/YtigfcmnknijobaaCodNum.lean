/- DERIVED. The contracts of codec.digits, codec.Num. -/
import Derived.Test.YtigfcmnknijobaaCodCat
import Derived.Maps.AppendAt
import Derived.OwnWalk
import Derived.Deep.DeepCutAuto
import Derived.Outline
namespace Go.Proofs.Ytigfcmnknijobaa.Cod
open Go.RowKit
theorem vals8_one (x : Int) : ∀ u ∈ [Value.int .u8 x], u.oneCell' = true := by
  intro u hu
  simp at hu
  subst hu
  rfl
theorem more8 (L : List Int) (x : Int) : vals L ++ [.int .u8 x] = vals (L ++ [x]) := by simp [vals]
/-- a row of the call's own reads as its bytes. -/
theorem own_byt {w : World} {base n : Nat} {v : Value} {L : List Int} (h : w.ownsRow base 5 1 v n (vals L)) : ∃ A c, v = .slice A n c ∧ L.length = n ∧ Byt w A c L := by
  have hlen : L.length = n := by have := h.1; rw [vals_length] at this; omega
  rcases h.2 with ⟨rfl, hx⟩ | ⟨g, cap, cur, rfl, _, hh, hcap, _, hs, ht⟩
  · subst hx
    obtain rfl : L = [] := List.eq_nil_of_length_eq_zero hlen
    exact ⟨none, 0, rfl, rfl, Nat.le_refl _, fun _ => rfl, fun h => absurd h (Nat.lt_irrefl 0)⟩
  · refine ⟨_, _, rfl, hlen, by omega, (fun h => by cases h), fun _ => ⟨g, 0, rfl, (Array.getElem?_eq_some_iff.1 hh).1, fun j hj => ?_⟩⟩
    rw [Nat.zero_add, cell_row hh]
    have h2 : cur[j]? = cur.toList[j]? := by simp
    have h3 : (cur.toList.take (n * 1))[j]? = cur.toList[j]? := by rw [List.getElem?_take, if_pos (by omega)]
    rw [h2, ← h3, ht]
    simp [vals, hj]
set_option maxRecDepth 100000 in
set_option maxHeartbeats 1000000 in
theorem digits_any (n : Nat) (hn : n < 18446744073709551616) (w : World) :
    Calls Try.prog 47 #[.int .u64 (n : Nat)] w fun e w' => ∃ v, e = .returned v ∧ w'.ownsRow w.heap.size 5 1 v (encN n).length (vals (encN n)) ∧ Below w.heap.size w w' := by
  obtain ⟨i0, hi0, hz00, hz10, hz20⟩ := info_parts info8
  have hi := Lib.hid hi0
  have hz0 := Lib.hid hz00
  have hz1 := Lib.hid hz10
  have hz2 := Lib.hid hz20
  have H70 := Lib.hid (lt70 hn)
  clear hi0 hz00 hz10 hz20 hn
  go_enter Try.func47, Try.ntmps47
  go_wp2
  go_loopw [0, 3] (fun x v wr => ∃ (m k : Nat) (P : List Int), x = .int .u64 (m : Nat) ∧ Hid (encN n = P ++ encF k m) ∧ Hid (m < 128 ^ (k + 1)) ∧ P.length + k ≤ 9 ∧ Hid (wr.ownsRow w.heap.size 5 1 v P.length (vals P)) ∧ Hid (Below w.heap.size w wr)) (fun x _ _ => (intOf x).toNat)
  case atStart => exact ⟨n, 9, [], rfl, rfl, H70.out, by simp, World.ownsRow_nil _ _ _ _, Below.refl _ _⟩
  case round =>
    obtain ⟨m, k, P, rfl, he, hm, hk, own, low⟩ := hrel
    obtain ⟨p, hp⟩ : ∃ p, p = P.length := ⟨_, rfl⟩
    rw [← hp] at own hk
    have Hp := Lib.hid hp
    have hsz := low.out.size
    clear hp H70
    by_cases hlt : m < 128
    · have hlt' : (m : Int) < 128 := by omega
      have hge : ¬ (128 : Int) ≤ (m : Int) := by omega
      go_wp2_with (at_builtin; refine wpList_append_own_at _ rfl (.tmp 15) (.tmp 18) 22 rfl w.heap.size 5 i0 (.int .u8 0) 1 1 Try.underlying22 hi.out hz0.out hz1.out hz2.out rfl (by decide) u3 p (vals P) rfl (own.out.alloc _) ⟨wr.heap.size, 0, none⟩ 1 1 [.int .u8 (m : Nat)] rfl rfl (cell_one_new _ _ _) (vals8_one _) (by unfold maxLen; omega) (by omega) (by rw [World.size_alloc]; omega) ?_; intro v2 w2 hown2 hgrow2 _ _; have Hown2 := Lib.hid hown2; have Hgrow2 := Lib.hid hgrow2; clear hown2 hgrow2)
      go_ret
      have e : encN n = P ++ [(m : Int)] := by
        rw [he.out]
        cases k with
        | zero => rfl
        | succ k => unfold encF; rw [if_pos hlt]
      refine ⟨_, rfl, ?_, (low.out.alloc hsz _).grown Hgrow2.out (by rw [World.size_alloc]; omega) (fun k hk => (own.out.lt k hk).1)⟩
      have := Hown2.out
      rw [more8] at this
      rw [e, List.length_append, ← Hp.out]
      exact this
    · have hlt' : (128 : Int) ≤ (m : Int) := by omega
      have hr0 : 0 ≤ (m : Int) % 128 := by omega
      have hr1 : (m : Int) % 128 < 128 := by omega
      go_wp2_with (at_builtin; refine wpList_append_own_at _ rfl (.tmp 6) (.tmp 11) 22 rfl w.heap.size 5 i0 (.int .u8 0) 1 1 Try.underlying22 hi.out hz0.out hz1.out hz2.out rfl (by decide) u3 p (vals P) rfl (own.out.alloc _) ⟨wr.heap.size, 0, none⟩ 1 1 [.int .u8 ((m : Int) % 128 + 128)] rfl rfl (cell_one_new _ _ _) (vals8_one _) (by unfold maxLen; omega) (by omega) (by rw [World.size_alloc]; omega) ?_; intro v2 w2 hown2 hgrow2 _ _; have Hown2 := Lib.hid hown2; have Hgrow2 := Lib.hid hgrow2; clear hown2 hgrow2)
      go_roundw
      case rel =>
        cases k with
        | zero => have := hm.out; simp at this; omega
        | succ k =>
          refine ⟨m / 128, k, P ++ [((128 + m % 128 : Nat) : Int)], by simp, ?_, pow_lt hm.out, by rw [List.length_append, ← Hp.out]; simp; omega, ?_, (low.out.alloc hsz _).grown Hgrow2.out (by rw [World.size_alloc]; omega) (fun k hk => (own.out.lt k hk).1)⟩
          · show encN n = _
            rw [he.out]
            conv => lhs; unfold encF
            rw [if_neg hlt]
            simp
          · have := Hown2.out
            rw [more8] at this
            rw [List.length_append, ← Hp.out]
            have e : ((128 + m % 128 : Nat) : Int) = (m : Int) % 128 + 128 := by omega
            rw [e]
            exact this
      case measure => simp [intOf]; omega
end Go.Proofs.Ytigfcmnknijobaa.Cod
