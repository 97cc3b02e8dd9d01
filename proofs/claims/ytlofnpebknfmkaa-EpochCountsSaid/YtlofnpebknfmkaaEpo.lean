/- DERIVED. The contracts of epoch's functions on bytes: leading, only, valueOf. -/
import Derived.Test.YtlofnpebknfmkaaEpoSpec
import Derived.Test.YtlofnpebknfmkaaDskWrite
namespace Go.Proofs.Ytlofnpebknfmkaa.Epo
open Go.RowKit Dsk
theorem only_any (x : Int) (w : World) : Calls Try.prog 30 #[.int .u8 x] w fun e w' => e = .returned (.func (.func 32) #[] #[.pointer (some ⟨w.heap.size, 0, none⟩)]) ∧ w' = w.alloc (.cells #[.int .u8 x] 5) := by
  go_enter Try.func30, Try.ntmps30
  go_wp2
  go_ret
  exact ⟨rfl, rfl⟩
theorem only1_any (x y : Int) (g : Nat) (w : World) (hc : w.cell? ⟨g, 0, none⟩ = some (.int .u8 x)) : Calls Try.prog 32 #[.int .u8 y, .pointer (some ⟨g, 0, none⟩)] w fun e w' => e = .returned (.bool (decide (y = x))) ∧ w = w' := by
  by_cases e : y = x
  · subst e
    rw [decide_eq_true rfl]
    go_enter Try.func32, Try.ntmps32
    go_wp2
    go_ret
    simp
  · have hb : (y == x) = false := beq_eq_false_iff_ne.2 e
    rw [decide_eq_false e]
    go_enter Try.func32, Try.ntmps32
    go_wp2
    go_ret
    simp
set_option maxRecDepth 100000 in
theorem leading_any (x : Int) (g : Nat) (w : World) (hc : w.cell? ⟨g, 0, none⟩ = some (.int .u8 x)) (A : Option Addr) (c n : Nat) (L : List Int) (hB : Byt w A c L) (hn : L.length = n) (hmax : n ≤ 4194304) :
    Calls Try.prog 29 #[.slice A n c, .func (.func 32) #[] #[.pointer (some ⟨g, 0, none⟩)]] w fun e w' => e = .returned (.int .i64 (lead x L)) ∧ w = w' := by
  have HB := Lib.hid hB
  have Hn := Lib.hid hn
  have HC := Lib.hid hc
  have Hle := Lib.hid (lead_le x L)
  clear hB hn hc
  go_enter Try.func29, Try.ntmps29
  go_upto_region 2 with (fail)
  go_loopw [9] (fun v wr => ∃ k : Nat, k ≤ lead x L ∧ v = .int .i64 k ∧ wr = w) (fun v _ => n - (intOf v).toNat)
  case atStart => exact ⟨0, Nat.zero_le _, rfl, rfl⟩
  case round =>
    obtain ⟨k, hk, rfl, rfl⟩ := hrel
    by_cases hlt : k < n
    · have hltI : (k : Int) < (n : Int) := by omega
      obtain ⟨b, off, rfl, hb, hcell⟩ := HB.out.2.2 (by have := Hn.out; omega)
      have hck := hcell k (by have := Hn.out; omega)
      obtain ⟨y, hy⟩ : ∃ y, y = L.getD k 0 := ⟨_, rfl⟩
      rw [← hy] at hck
      have Hy := Lib.hid hy
      clear hcell hy hb
      by_cases e : y = x
      · have He := Lib.hid e
        have Hc := Lib.hid (only1_any x y g wr HC.out)
        rw [decide_eq_true e] at Hc
        clear e
        go_wp2_with (go_at_call 32; refine Hc.out.mono ?_; rintro e w' ⟨rfl, rfl⟩)
        refine ⟨⟨k + 1, ?_, by go_num, trivial⟩, by simp [intOf]; omega⟩
        rcases Nat.lt_or_ge k (lead x L) with h | h
        · omega
        · have e1 : lead x L = k := by omega
          have := lead_stop x L (by have := Hn.out; omega)
          rw [e1, ← Hy.out] at this
          exact absurd He.out this
      · have He := Lib.hid e
        have Hc := Lib.hid (only1_any x y g wr HC.out)
        rw [decide_eq_false e] at Hc
        clear e
        go_wp2_with (go_at_call 32; refine Hc.out.mono ?_; rintro e w' ⟨rfl, rfl⟩)
        go_ret
        refine ⟨?_, rfl⟩
        have e1 : lead x L = k := by
          rcases Nat.lt_or_ge k (lead x L) with h | h
          · have := lead_get x L k h
            rw [← Hy.out] at this
            exact absurd this He.out
          · omega
        rw [e1]
        rfl
    · have hltI : ¬ (k : Int) < (n : Int) := by omega
      go_wp2
      go_ret
      refine ⟨?_, rfl⟩
      have := Hle.out
      have := Hn.out
      rw [show lead x L = n by omega]
      rfl
theorem byt_from {w : World} {g off c n : Nat} {L : List Int} (h : Byt w (some ⟨g, off, none⟩) c L) (hn : L.length = n) (p : Nat) (hp : p ≤ n) : Byt w (if c = p then some ⟨g, 0, none⟩ else some ⟨g, off + p, none⟩) (c - p) (L.drop p) := by
  have h1 := h.1
  refine ⟨by rw [List.length_drop]; omega, (fun h => by split at h <;> cases h), fun hl => ?_⟩
  rw [List.length_drop] at hl
  obtain ⟨g', o', e', hlt, hb⟩ := h.2.2 (by omega)
  cases e'
  rw [if_neg (by omega)]
  refine ⟨g, off + p, rfl, hlt, fun j hj => ?_⟩
  rw [List.length_drop] at hj
  rw [Nat.add_assoc, hb _ (by omega), getD_drop'']
set_option maxRecDepth 100000 in
theorem valueOf_any (w : World) (g c n : Nat) (L : List Int) (hB : Byt w (some ⟨g, 0, none⟩) c L) (hn : L.length = n) (hmax : n ≤ 4194304) :
    Calls Try.prog 26 #[.slice (some ⟨g, 0, none⟩) n c] w fun e w' => e = .returned (.tuple #[.int .i64 (tellV L), .int .i64 (tellE L)]) ∧ Below w.heap.size w w' := by
  have hl1 : Below w.heap.size w (w.alloc (.cells #[.int .u8 1] 5)) := (Below.refl _ _).alloc (Nat.le_refl _) _
  have k1 : (w.alloc (.cells #[.int .u8 1] 5)).cell? ⟨w.heap.size, 0, none⟩ = some (.int .u8 1) := cell_row (Go.heap_alloc_new w _) 0
  obtain ⟨w1, hw1⟩ : ∃ w1, w1 = w.alloc (.cells #[.int .u8 1] 5) := ⟨_, rfl⟩
  rw [← hw1] at hl1 k1
  have Hw1 := Lib.hid hw1.symm
  have H1 := Lib.hid (leading_any 1 _ w1 k1 (some ⟨g, 0, none⟩) c n L (hB.below hl1 (Nat.le_refl _)) hn hmax)
  obtain ⟨p, hp⟩ : ∃ p, p = lead 1 L := ⟨_, rfl⟩
  have hpn : p ≤ n := by rw [hp, ← hn]; exact lead_le 1 L
  have hcn : n ≤ c := by rw [← hn]; exact hB.1
  have hB2 := byt_from hB hn p hpn
  have hl2 : Below w1.heap.size w1 (w1.alloc (.cells #[.int .u8 0] 5)) := (Below.refl _ _).alloc (Nat.le_refl _) _
  have k2 : (w1.alloc (.cells #[.int .u8 0] 5)).cell? ⟨w1.heap.size, 0, none⟩ = some (.int .u8 0) := cell_row (Go.heap_alloc_new w1 _) 0
  obtain ⟨w2, hw2⟩ : ∃ w2, w2 = w1.alloc (.cells #[.int .u8 0] 5) := ⟨_, rfl⟩
  rw [← hw2] at hl2 k2
  have Hw2 := Lib.hid hw2.symm
  have hl12 := hl1.trans (hl2.mono hl1.size)
  have H2 := Lib.hid (leading_any 0 _ w2 k2 _ (c - p) (n - p) (L.drop p) (hB2.below hl12 (Nat.le_refl _)) (by rw [List.length_drop, hn]) (by omega))
  have Low := Lib.hid hl12
  rw [← hp] at H1
  have hr : restL L = L.drop p := by rw [restL, hp]
  have hrl : (restL L).length = n - p := by rw [hr, List.length_drop, hn]
  rw [tellV, tellE, hrl, ← hp]
  rw [← hr] at H2
  obtain ⟨q, hq⟩ : ∃ q, q = lead 0 (restL L) := ⟨_, rfl⟩
  rw [← hq] at H2 ⊢
  have O1 : Hid (Calls Try.prog 30 #[.int .u8 1] w fun e w' => e = .returned (.func (.func 32) #[] #[.pointer (some ⟨w.heap.size, 0, none⟩)]) ∧ w' = w1) := (only_any 1 w).mono (fun e w' h => ⟨h.1, h.2.trans Hw1.out⟩)
  have O2 : Hid (Calls Try.prog 30 #[.int .u8 0] w1 fun e w' => e = .returned (.func (.func 32) #[] #[.pointer (some ⟨w1.heap.size, 0, none⟩)]) ∧ w' = w2) := (only_any 0 w1).mono (fun e w' h => ⟨h.1, h.2.trans Hw2.out⟩)
  obtain ⟨b1, hb1⟩ : ∃ b, b = w.heap.size := ⟨_, rfl⟩
  obtain ⟨b2, hb2⟩ : ∃ b, b = w1.heap.size := ⟨_, rfl⟩
  rw [← hb1] at H1 O1
  rw [← hb2] at H2 O2
  clear hB hB2 hn hp hr hrl hq hl1 hl2 hl12 k1 k2 hw1 hw2 hb1 hb2 Hw1 Hw2
  by_cases e : c = p
  · have hpn' : p = n := by omega
    rw [if_pos e, show n - p = 0 by omega, show c - p = 0 by omega] at H2
    rw [if_neg (by omega), if_neg (by omega)]
    subst e hpn'
    have hqI : ¬ (q : Int) < 0 := by omega
    go_enter Try.func26, Try.ntmps26
    go_wp2_with (first
      | (go_at_call 30; with_reducible refine O1.out.mono ?_; rintro e w' ⟨rfl, rfl⟩)
      | (go_at_call 30; with_reducible refine O2.out.mono ?_; rintro e w' ⟨rfl, rfl⟩)
      | (go_at_call 29; with_reducible refine H1.out.mono ?_; rintro e w' ⟨rfl, rfl⟩)
      | (go_at_call 29; with_reducible refine H2.out.mono ?_; rintro e w' ⟨rfl, rfl⟩))
    go_ret2
    exact ⟨rfl, Low.out⟩
  · rw [if_neg e, Nat.zero_add] at H2
    obtain ⟨m, hm⟩ : ∃ m, m = n - p := ⟨_, rfl⟩
    obtain ⟨d, hd⟩ : ∃ d, d = c - p := ⟨_, rfl⟩
    have Hd := Lib.hid hd
    have Hm := Lib.hid hm
    by_cases hqn : q < n - p
    · rw [if_pos hqn, if_pos hqn]
      have hqI : (q : Int) < ((n - p : Nat) : Int) := by omega
      clear hd hm
      go_enter Try.func26, Try.ntmps26
      go_wp2_with (first
        | (go_at_call 30; with_reducible refine O1.out.mono ?_; rintro e w' ⟨rfl, rfl⟩)
        | (go_at_call 30; with_reducible refine O2.out.mono ?_; rintro e w' ⟨rfl, rfl⟩)
        | (go_at_call 29; with_reducible refine H1.out.mono ?_; rintro e w' ⟨rfl, rfl⟩)
        | (go_at_call 29; with_reducible refine H2.out.mono ?_; rintro e w' ⟨rfl, rfl⟩))
      go_ret2
      exact ⟨rfl, Low.out⟩
    · rw [if_neg hqn, if_neg hqn]
      have hqI : ¬ (q : Int) < ((n - p : Nat) : Int) := by omega
      clear hd hm
      go_enter Try.func26, Try.ntmps26
      go_wp2_with (first
        | (go_at_call 30; with_reducible refine O1.out.mono ?_; rintro e w' ⟨rfl, rfl⟩)
        | (go_at_call 30; with_reducible refine O2.out.mono ?_; rintro e w' ⟨rfl, rfl⟩)
        | (go_at_call 29; with_reducible refine H1.out.mono ?_; rintro e w' ⟨rfl, rfl⟩)
        | (go_at_call 29; with_reducible refine H2.out.mono ?_; rintro e w' ⟨rfl, rfl⟩))
      go_ret2
      exact ⟨rfl, Low.out⟩
end Go.Proofs.Ytlofnpebknfmkaa.Epo
