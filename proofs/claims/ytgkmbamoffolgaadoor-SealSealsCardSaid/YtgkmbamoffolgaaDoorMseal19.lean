/- DERIVED. Texts of ours, merged: XRef1Sched XRef1Mix. -/
import Derived.Test.YtgkmbamoffolgaaDoorMseal18
import Derived.Test.YtgkmbamoffolgaaDoorMseal1
import Derived.Test.YtgkmbamoffolgaaDoorMseal2
import Derived.StillTailTactics
import Derived.Deep.WholeRow
/- DERIVED. The contracts of the reference's r, s and Schedule of layer 1: the words of a block. -/
namespace Go.Proofs.YtgkmbamoffolgaaDoor
open Go.RowKit
theorem bits_or_comm (a b : Int) : bits .or .u32 a b = bits .or .u32 b a := by
  simp [bits, BitVec.or_comm]
theorem rotr_eq2 (x : Int) (n : Nat) : bits .or .u32 (x / 2 ^ n) (x * 2 ^ (32 - n) % 4294967296) = rotr x n := by
  rw [bits_or_comm]; unfold rotr; rfl
set_option maxHeartbeats 400000 in
theorem rr_any (x : Int) (n : Nat) (h1 : 1 ≤ n) (h2 : n ≤ 31) (w : World) :
    Calls Tryd.prog 85 #[.int .u32 x, .int .u64 (n : Int)] w fun e w' => e = .returned (.int .u32 (rotr x n)) ∧ w' = w := by
  have e1 : IntKind.u64.wrap (32 - (n : Int)) = ((32 - n : Nat) : Int) := by rw [show IntKind.u64.wrap (32 - (n : Int)) = (32 - (n : Int)) % 18446744073709551616 by simp [IntKind.wrap, IntKind.bits, IntKind.signed]]; omega
  have e2 : (((32 - n : Nat) : Int)).toNat = 32 - n := by omega
  have b1 : ((32 - n : Nat) : Int) ≤ 31 := by omega
  have b2 : (0 : Int) ≤ ((32 - n : Nat) : Int) := by omega
  go_enter Tryd.func85, Tryd.ntmps85
  go_wp2
  go_ret
  exact ⟨ret_u32 (rotr_eq2 x n), rfl⟩
theorem rr_same (x n : Int) (h1 : 1 ≤ n) (h2 : n ≤ 31) (w : World) :
    Calls Tryd.prog 85 #[.int .u32 x, .int .u64 n] w fun e w' => e = .returned (.int .u32 (rotr x n.toNat)) ∧ w' = w := by
  obtain ⟨m, rfl⟩ := Int.eq_ofNat_of_zero_le (show 0 ≤ n by omega)
  exact rr_any x m (by omega) (by omega) w
set_option maxHeartbeats 400000 in
theorem rs3 (x : Int) (w : World) : Calls Tryd.prog 88 #[.int .u32 x, .int .u64 3] w fun e w' => e = .returned (.int .u32 (x / 8)) ∧ w' = w := by
  go_enter Tryd.func88, Tryd.ntmps88
  go_wp2
  go_ret
  exact ⟨rfl, rfl⟩
set_option maxHeartbeats 400000 in
theorem rs10 (x : Int) (w : World) : Calls Tryd.prog 88 #[.int .u32 x, .int .u64 10] w fun e w' => e = .returned (.int .u32 (x / 1024)) ∧ w' = w := by
  go_enter Tryd.func88, Tryd.ntmps88
  go_wp2
  go_ret
  exact ⟨rfl, rfl⟩
def sh (n : Int) : Int := if n = 3 then 8 else 1024
theorem rs_same (x n : Int) (h : n = 3 ∨ n = 10) (w : World) : Calls Tryd.prog 88 #[.int .u32 x, .int .u64 n] w fun e w' => e = .returned (.int .u32 (x / sh n)) ∧ w' = w := by
  rcases h with rfl | rfl
  · exact rs3 x w
  · exact rs10 x w
theorem or_sum (n : Nat) (hi lo : Int) (b1 : 0 ≤ lo) (b2 : lo < 4294967296) (b3 : 0 ≤ hi) (b4 : hi < 4294967296) (h1 : hi.toNat % 2 ^ n = 0) (h2 : lo.toNat < 2 ^ n) : bits .or .u32 hi lo = hi + lo := by
  rw [u32_or hi lo b3 b4 b1 b2]
  have : hi.toNat ||| lo.toNat = hi.toNat + lo.toNat := by
    have h3 : hi.toNat = 2 ^ n * (hi.toNat / 2 ^ n) := by have := Nat.div_add_mod hi.toNat (2 ^ n); omega
    rw [h3, ← Nat.two_pow_add_eq_or_of_lt h2]
  rw [this]
  omega
theorem word4_big (a b c d : Int) (ha : 0 ≤ a ∧ a < 256) (hb : 0 ≤ b ∧ b < 256) (hc : 0 ≤ c ∧ c < 256) (hd : 0 ≤ d ∧ d < 256) : word4 a b c d = a * 16777216 + b * 65536 + c * 256 + d := by
  unfold word4
  rw [or_sum 24 (a * 16777216) (b * 65536) (by omega) (by omega) (by omega) (by omega) (by omega) (by omega), or_sum 16 (a * 16777216 + b * 65536) (c * 256) (by omega) (by omega) (by omega) (by omega) (by omega) (by omega), or_sum 8 (a * 16777216 + b * 65536 + c * 256) d (by omega) (by omega) (by omega) (by omega) (by omega) (by omega)]
/-- the reference's word, so many bytes being in. -/
def accB (a b c d : Int) : Nat → Int
  | 0 => 0
  | 1 => a
  | 2 => 256 * a + b
  | 3 => 65536 * a + 256 * b + c
  | _ => 16777216 * a + 65536 * b + 256 * c + d
theorem sched_take (l : List Int) (j : Nat) (h : j < 64) : (sched l).take j ++ [W l j] = (sched l).take (j + 1) := by
  rw [W_of_sched]; exact take_getD (by rw [sched_length]; exact h)
set_option maxRecDepth 100000 in
set_option maxHeartbeats 2000000 in
theorem rsched_any (l : List Int) (hb : InB l) (g off cap : Nat) (w : World) (hg : g < w.heap.size) (hc : ∀ j, j < 64 → w.cell? ⟨g, off + j, none⟩ = some (.int .u8 (l.getD j 0))) :
    Calls Tryd.prog 84 #[.slice (some ⟨g, off, none⟩) 64 cap] w fun e w' => ∃ g' c', e = .returned (.slice (some ⟨g', 0, none⟩) 64 c') ∧ w.heap.size ≤ g' ∧ RowK .u32 w' g' (sched l) ∧ Below w.heap.size w w' := by
  obtain ⟨i32, hi32, hz320, hz321, hz322⟩ := partsK info32k
  have gi := Lib.hid hi32
  have gz0 := Lib.hid hz320
  have gz1 := Lib.hid hz321
  have gz2 := Lib.hid hz322
  have HC := Lib.hid hc
  have HB := Lib.hid hb
  clear hi32 hz320 hz321 hz322 hc hb
  go_enter Tryd.func84, Tryd.ntmps84
  go_wp2
  go_loopw [3, 4] (fun v i wr => ∃ k : Nat, k ≤ 64 ∧ i = .int .i64 k ∧ Hid (wr.ownsRow w.heap.size 26 1 v k (valsK .u32 ((sched l).take k)) ∧ Below w.heap.size w wr)) (fun _ i _ => 64 - (intOf i).toNat)
  case atStart => exact ⟨0, by omega, rfl, World.ownsRow_nil _ _ _ _, Below.refl _ _⟩
  case round =>
    obtain ⟨k, hk, rfl, hr⟩ := hrel
    by_cases hlt : k < 64
    · have hltI : (k : Int) < 64 := by omega
      by_cases h16 : k < 16
      · have h16I : (k : Int) < 16 := by omega
        obtain ⟨a, ha⟩ : ∃ a, l.getD (4 * k) 0 = a := ⟨_, rfl⟩
        obtain ⟨b, hb⟩ : ∃ a, l.getD (4 * k + 1) 0 = a := ⟨_, rfl⟩
        obtain ⟨c, hc⟩ : ∃ a, l.getD (4 * k + 2) 0 = a := ⟨_, rfl⟩
        obtain ⟨d, hd⟩ : ∃ a, l.getD (4 * k + 3) 0 = a := ⟨_, rfl⟩
        have ra := HB.out (4 * k)
        have rb := HB.out (4 * k + 1)
        have rc := HB.out (4 * k + 2)
        have rd := HB.out (4 * k + 3)
        rw [ha] at ra
        rw [hb] at rb
        rw [hc] at rc
        rw [hd] at rd
        have hW : W l k = accB a b c d 4 := by
          rw [W_lt l k h16, ha, hb, hc, hd, word4_big a b c d ra rb rc rd]
          simp only [accB]; omega
        have cl : ∀ j, j < 64 → wr.cell? ⟨g, off + j, none⟩ = some (.int .u8 (l.getD j 0)) := fun j hj => (hr.out.2.cell (p := ⟨g, off + j, none⟩) hg).trans (HC.out j hj)
        have ca := cl (4 * k) (by omega)
        have cb := cl (4 * k + 1) (by omega)
        have cc := cl (4 * k + 2) (by omega)
        have cd := cl (4 * k + 3) (by omega)
        rw [ha] at ca
        rw [hb] at cb
        rw [hc] at cc
        rw [hd] at cd
        have hmore := sched_take l k hlt
        rw [hW] at hmore
        have Ca := Lib.hid ca
        have Cb := Lib.hid cb
        have Cc := Lib.hid cc
        have Cd := Lib.hid cd
        have Ra := Lib.hid ra
        have Rb := Lib.hid rb
        have Rc := Lib.hid rc
        have Rd := Lib.hid rd
        have Hmore := Lib.hid hmore
        have t0 : (4 * (k : Int)).toNat = 4 * k := by omega
        have t1 : (4 * (k : Int) + 1).toNat = 4 * k + 1 := by omega
        have t2 : (4 * (k : Int) + 2).toNat = 4 * k + 2 := by omega
        have t3 : (4 * (k : Int) + 3).toNat = 4 * k + 3 := by omega
        have l0 : (4 * (k : Int)) < 64 := by omega
        have l1 : (4 * (k : Int) + 1) < 64 := by omega
        have l2 : (4 * (k : Int) + 2) < 64 := by omega
        have l3 : (4 * (k : Int) + 3) < 64 := by omega
        clear ha hb hc hd ra rb rc rd hW cl ca cb cc cd hmore
        obtain ⟨wo, hwo⟩ : ∃ wo, wo = wr := ⟨_, rfl⟩
        subst hwo
        go_wp2
        go_loopw [5, 6] (fun n i wx => ∃ j : Nat, j ≤ 4 ∧ i = .int .i64 (4 * (k : Int) + (j : Int)) ∧ n = .int .u32 (accB a b c d j) ∧ Hid (wx = wo)) (fun _ i _ => (4 * (k : Int) + 4 - intOf i).toNat)
        case atStart => exact ⟨0, by omega, by simp, rfl, rfl⟩
        case round =>
          obtain ⟨j, hj, rfl, rfl, hwx⟩ := hrel
          have hw0 := hwx.out
          subst hw0
          obtain rfl | rfl | rfl | rfl | rfl : j = 0 ∨ j = 1 ∨ j = 2 ∨ j = 3 ∨ j = 4 := by omega
          · have cell := Ca.out
            go_wp2
            go_roundw
            case rel => exact ⟨1, by omega, by go_num, congrArg (Value.int .u32) (by { have := Ra.out; have := Rb.out; have := Rc.out; have := Rd.out; simp only [accB]; omega }), Lib.hid trivial⟩
            case measure => simp [intOf]; omega
          · have cell := Cb.out
            go_wp2
            go_roundw
            case rel => exact ⟨2, by omega, by go_num, congrArg (Value.int .u32) (by { have := Ra.out; have := Rb.out; have := Rc.out; have := Rd.out; simp only [accB]; omega }), Lib.hid trivial⟩
            case measure => simp [intOf]; omega
          · have cell := Cc.out
            go_wp2
            go_roundw
            case rel => exact ⟨3, by omega, by go_num, congrArg (Value.int .u32) (by { have := Ra.out; have := Rb.out; have := Rc.out; have := Rd.out; simp only [accB]; omega }), Lib.hid trivial⟩
            case measure => simp [intOf]; omega
          · have cell := Cd.out
            go_wp2
            go_roundw
            case rel => exact ⟨4, by omega, by go_num, congrArg (Value.int .u32) (by { have := Ra.out; have := Rb.out; have := Rc.out; have := Rd.out; simp only [accB]; omega }), Lib.hid trivial⟩
            case measure => simp [intOf]; omega
          · obtain ⟨y, hy⟩ : ∃ y, y = accB a b c d 4 := ⟨_, rfl⟩
            rw [← hy]
            have Hy := Lib.hid hy
            clear hy Ra Rb Rc Rd Ca Cb Cc Cd
            go_wp2_with (at_builtin; refine wpList_append_mine rfl (.tmp 33) (.tmp 35) 97 rfl w.heap.size 26 i32 (.int .u32 0) 4 Tryd.underlying97 gi.out gz0.out gz1.out gz2.out rfl (by decide) _ k ((sched l).take k) y rfl hr.out.1 rfl (by omega) hr.out.2.size ?_; intro v' w' hgr; have Hgr := Lib.hid hgr; clear hgr)
            go_roundw
            case rel => exact ⟨k + 1, by omega, by go_num, by rw [← Hmore.out, ← Hy.out]; exact ⟨Hgr.out.own, Hgr.out.low _ _ hr.out.2 (Nat.le_refl _)⟩⟩
            case measure => simp [intOf]; omega
      · have h16I : ¬ (k : Int) < 16 := by omega
        obtain ⟨g2, c2, rfl, _, hg2, hrow⟩ := own_rowK hr.out.1 (by rw [List.length_take, sched_length]; omega) (by omega)
        have cl : ∀ j, j < k → wr.cell? ⟨g2, j, none⟩ = some (.int .u32 (W l j)) := fun j hj => by
          rw [hrow.2 j (by rw [List.length_take, sched_length]; omega), W_of_sched]
          simp [List.getD_eq_getElem?_getD, hj]
        obtain ⟨x, hx⟩ : ∃ x, W l (k - 15) = x := ⟨_, rfl⟩
        obtain ⟨y, hy⟩ : ∃ x, W l (k - 2) = x := ⟨_, rfl⟩
        obtain ⟨p, hp⟩ : ∃ x, W l (k - 16) = x := ⟨_, rfl⟩
        obtain ⟨q, hq⟩ : ∃ x, W l (k - 7) = x := ⟨_, rfl⟩
        have c15 := cl (k - 15) (by omega)
        have c2' := cl (k - 2) (by omega)
        have c16 := cl (k - 16) (by omega)
        have c7 := cl (k - 7) (by omega)
        rw [hx] at c15
        rw [hy] at c2'
        rw [hp] at c16
        rw [hq] at c7
        have hW : W l k = (p + s0 x + q + s1 y) % 4294967296 := by
          rw [W_ge l k (by omega) hlt]; unfold nextW; rw [hx, hy, hp, hq]
        have hmore := sched_take l k hlt
        rw [hW] at hmore
        have Hmore := Lib.hid hmore
        have i15 : (0 : Int) ≤ (k : Int) - 15 := by omega
        have i2 : (0 : Int) ≤ (k : Int) - 2 := by omega
        have i16 : (0 : Int) ≤ (k : Int) - 16 := by omega
        have i7 : (0 : Int) ≤ (k : Int) - 7 := by omega
        have t15 : ((k : Int) - 15).toNat = k - 15 := by omega
        have t2 : ((k : Int) - 2).toNat = k - 2 := by omega
        have t16 : ((k : Int) - 16).toNat = k - 16 := by omega
        have t7 : ((k : Int) - 7).toNat = k - 7 := by omega
        have b15 : (k : Int) - 15 < k := by omega
        have b2 : (k : Int) - 2 < k := by omega
        have b16 : (k : Int) - 16 < k := by omega
        have b7 : (k : Int) - 7 < k := by omega
        clear hx hy hp hq hW hmore cl hrow
        go_wp2
        go_quiet (first | (go_at_call 85; exact Calls.quiet_of_same (rr_same _ _ (by decide) (by decide) _)) | (go_at_call 88; exact Calls.quiet_of_same (rs_same _ _ (by decide) _)))
        go_wp2_with (at_builtin; refine wpList_append_mine rfl (.tmp 76) (.tmp 78) 97 rfl w.heap.size 26 i32 (.int .u32 0) 4 Tryd.underlying97 gi.out gz0.out gz1.out gz2.out rfl (by decide) _ k ((sched l).take k) _ rfl (own_stays hr.out.1 (Below.drewN (Below.refl _ _) nq)) rfl (by omega) (Below.drewN hr.out.2 nq).size ?_; intro v' w' hgr; have Hgr := Lib.hid hgr; clear hgr)
        go_roundw
        case rel => exact ⟨k + 1, by omega, by go_num, by rw [← Hmore.out]; exact ⟨Hgr.out.own, Hgr.out.low _ _ (Below.drewN hr.out.2 nq) (Nat.le_refl _)⟩⟩
        case measure => simp [intOf]; omega
    · obtain rfl : k = 64 := by omega
      have own := hr.out.1
      rw [List.take_of_length_le (Nat.le_of_eq (sched_length l))] at own
      obtain ⟨g2, c2, rfl, _, hg2, hrow2⟩ := own_rowK own (sched_length l) (by decide)
      have low2 := hr.out.2
      have Hrow2 := Lib.hid hrow2
      have Low2 := Lib.hid low2
      clear own hr hrow2 low2
      go_wp2
      go_ret
      exact ⟨g2, c2, rfl, hg2, Hrow2.out, Low2.out⟩
end Go.Proofs.YtgkmbamoffolgaaDoor
/- DERIVED. The contract of the reference's mix of layer 1: a state mixed with a block. -/
namespace Go.Proofs.YtgkmbamoffolgaaDoor
open Go.RowKit
/-- the state's words, the first k of them with those that were there at first added. -/
def addN (A B : List Int) (k : Nat) : List Int := (List.range 8).map fun j => if j < k then ad (A.getD j 0) (B.getD j 0) else B.getD j 0
theorem addN_length (A B : List Int) (k : Nat) : (addN A B k).length = 8 := by simp [addN]
theorem addN_zero (A B : List Int) (h : B.length = 8) : addN A B 0 = B := by
  apply List.ext_getElem
  · rw [addN_length, h]
  · intro j h1 h2
    simp [addN, h2]
theorem addN_at (A B : List Int) (k : Nat) (h : k < 8) : (addN A B k).getD k 0 = B.getD k 0 := by
  simp [addN, h]
theorem addN_next (A B : List Int) (k : Nat) : (addN A B k).set k (ad (A.getD k 0) (B.getD k 0)) = addN A B (k + 1) := by
  apply List.ext_getElem
  · simp [addN_length]
  · intro j h1 h2
    rw [List.getElem_set]
    by_cases e : k = j
    · subst e; simp [addN]
    · rw [if_neg e]
      by_cases hj : j < k
      · simp [addN, hj, show j < k + 1 by omega]
      · simp [addN, hj, show ¬ j < k + 1 by omega]
theorem addN_all (s t : W8) : addN s.list t.list 8 = [ad s.a t.a, ad s.b t.b, ad s.c t.c, ad s.d t.d, ad s.e t.e, ad s.f t.f, ad s.g t.g, ad s.h t.h] := rfl
attribute [irreducible] addN
/-- what the loops of mix keep: the row of the state, all else of the world in which they began. -/
structure MxI (X : List Int) (V N : Nat) (w w2 wr : World) : Prop where
  st : wr.heap[V]? = some (.cells (u32s X) 76 (0, 0))
  old : ∀ g, g < w2.heap.size → g ≠ V → wr.heap[g]? = w2.heap[g]?
  low : Below N w wr
theorem MxI.drewN {X : List Int} {V N : Nat} {w w2 wr : World} (h : MxI X V N w w2 wr) (q : Nat) : MxI X V N w w2 (wr.drewN q) := ⟨h.st, h.old, Below.drewN h.low q⟩
theorem MxI.row {X : List Int} {V N : Nat} {w w2 wr : World} (h : MxI X V N w w2 wr) (hV : N ≤ V) (Y : List Int) : MxI Y V N w w2 (wr.setRow V (u32s Y)) :=
  ⟨setRow_heap wr _ _ _ _ _ h.st, fun g hg hne => by rw [setRow_other wr _ _ _ hne]; exact h.old g hg hne, below_setRow h.low hV _⟩
theorem MxI.set {X : List Int} {V N : Nat} {w w2 wr : World} (h : MxI X V N w w2 wr) (hV : N ≤ V) (k : Nat) (x : Int) : MxI (X.set k x) V N w w2 (wr.setCell ⟨V, k, none⟩ (.int .u32 x)) :=
  ⟨row32_set h.st k x, fun g hg hne => by rw [heap_setCell_other _ _ _ _ (by simp; omega)]; exact h.old g hg hne, h.low.setCell (by simp; omega) _⟩
theorem add_mod1 (a b : Int) : (a + b) % 4294967296 = (a % 4294967296 + b % 4294967296) % 4294967296 := by omega
theorem add_mod2 (a b : Int) : (a + b) % 4294967296 = (a + b % 4294967296) % 4294967296 := by omega
theorem round_agg (a b c d e f g h Kk Wk Z1 Z5 : Int) (h1 : Z1 = ad (roundU ⟨a, b, c, d, e, f, g, h⟩ Kk Wk) (roundV ⟨a, b, c, d, e, f, g, h⟩)) (h5 : Z5 = ad d (roundU ⟨a, b, c, d, e, f, g, h⟩ Kk Wk)) :
    Value.agg #[.int .u32 Z1, .int .u32 a, .int .u32 b, .int .u32 c, .int .u32 Z5, .int .u32 e, .int .u32 f, .int .u32 g] = .agg (u32s (round ⟨a, b, c, d, e, f, g, h⟩ Kk Wk).list) := by
  rw [h1, h5]; rfl
set_option maxRecDepth 100000 in
set_option maxHeartbeats 2000000 in
theorem rmix_any (s : W8) (l : List Int) (hb : InB l) (gb off cap ga capa : Nat) (w : World) (hgb : gb < w.heap.size) (hc : ∀ j, j < 64 → w.cell? ⟨gb, off + j, none⟩ = some (.int .u8 (l.getD j 0))) (hA : RowK .u32 w ga KW) :
    Calls Tryd.prog 77 #[.agg (u32s s.list), .slice (some ⟨gb, off, none⟩) 64 cap, .slice (some ⟨ga, 0, none⟩) 64 capa] w
      fun e' w' => e' = .returned (.agg (u32s (mixK KW s l).list)) ∧ Below w.heap.size w w' := by
  have Hc := Lib.hid hc
  have HA := Lib.hid hA
  have Hb := Lib.hid hb
  obtain ⟨S, hS⟩ : ∃ S, S = s.list := ⟨_, rfl⟩
  have hS8 : S.length = 8 := by rw [hS]; rfl
  rw [← hS]
  have HS := Lib.hid hS
  have HS8 := Lib.hid hS8
  have HI : Hid ((Tryd.prog.info? 76).map (·.size) = some (u32s S).size) := by show _ = _; rw [u32s_size, hS8]; exact info23
  have HZ8 : Hid ((#[.int .u32 0, .int .u32 0, .int .u32 0, .int .u32 0, .int .u32 0, .int .u32 0, .int .u32 0, .int .u32 0] : Array Value).size = (u32s S).size) := by show _ = _; rw [u32s_size, hS8]; rfl
  clear hb hc hA hS hS8
  go_enter Tryd.func77, Tryd.ntmps77
  have h2 := two_new w (.cells (u32s S) 76) (.cells #[.int .u32 0, .int .u32 0, .int .u32 0, .int .u32 0, .int .u32 0, .int .u32 0, .int .u32 0, .int .u32 0] 76)
  have k2 : Below w.heap.size w ((w.alloc (.cells (u32s S) 76)).alloc (.cells #[.int .u32 0, .int .u32 0, .int .u32 0, .int .u32 0, .int .u32 0, .int .u32 0, .int .u32 0, .int .u32 0] 76)) := ((Below.refl _ _).alloc (Nat.le_refl _) _).alloc (by simp) _
  have s2 : ((w.alloc (.cells (u32s S) 76)).alloc (.cells #[.int .u32 0, .int .u32 0, .int .u32 0, .int .u32 0, .int .u32 0, .int .u32 0, .int .u32 0, .int .u32 0] 76)).heap.size = w.heap.size + 2 := by simp
  have H2 := Lib.hid h2
  have K2 := Lib.hid k2
  have S2 := Lib.hid s2
  clear h2 k2 s2
  go_wp2_with (first
    | (go_at_call 84; refine (rsched_any l Hb.out gb off cap _ (Nat.lt_of_lt_of_le hgb K2.out.size) (fun j hj => (K2.out.cell (p := ⟨gb, off + j, none⟩) hgb).trans (Hc.out j hj))).mono ?_; rintro e w1 ⟨gl, cl, rfl, hgl, hrow, low⟩; have Hrow := Lib.hid hrow; have Low := Lib.hid low; have Hgl := Lib.hid hgl; have HN := Lib.hid ((low.block _ (by rw [S2.out]; omega)).trans H2.out.1); have HZ := Lib.hid ((low.block _ (by rw [S2.out]; omega)).trans H2.out.2); clear hrow low hgl)
    | (refine wpList_load_row rfl 76 (.tmp 3) rfl w.heap.size rfl 76 (u32s S) (0, 0) _ HN.out Tryd.underlying76 rfl HI.out ?_)
    | (refine wpList_store_row rfl 76 (.tmp 8) (.tmp 23) rfl w1.heap.size (u32s S) rfl rfl 76 _ (Go.heap_alloc_new _ _) HI.out HZ8.out (u32s_one _) ?_; rw [World.setRow_alloc_new]; generalize hw2 : World.alloc w1 _ = w2; have Hw2 := Lib.hid hw2; clear hw2))
  have hs1 := Low.out.size
  rw [S2.out] at hs1
  have low1 : Below w.heap.size w w1 := K2.out.trans (Low.out.mono K2.out.size)
  have hbase : MxI S w1.heap.size w.heap.size w w2 w2 := by
    rw [← Hw2.out]
    exact ⟨Go.heap_alloc_new _ _, fun _ _ _ => rfl, low1.alloc low1.size _⟩
  have size2 : w2.heap.size = w1.heap.size + 1 := by rw [← Hw2.out, World.size_alloc]
  have old2 : ∀ q, q < w1.heap.size → w2.heap[q]? = w1.heap[q]? := fun q hq => by rw [← Hw2.out]; exact Go.heap_alloc_old _ _ hq
  have hsl : ∀ wr X, MxI X w1.heap.size w.heap.size w w2 wr → RowK .u32 wr gl (sched l) := fun wr X hm => by
    have hq := Hrow.out.1
    have hb2 : wr.heap[gl]? = w1.heap[gl]? := (hm.old gl (by omega) (by omega)).trans (old2 gl hq)
    exact ⟨by have := (Array.getElem?_eq_some_iff.1 hm.st).1; omega, fun j hj => (World.cell?_of_block hb2).trans (Hrow.out.2 j hj)⟩
  have hsa : ∀ wr X, MxI X w1.heap.size w.heap.size w w2 wr → RowK .u32 wr ga KW := fun wr X hm => HA.out.later hm.low
  have hsn : ∀ wr X, MxI X w1.heap.size w.heap.size w w2 wr → wr.heap[w.heap.size]? = some (.cells (u32s S) 76 (0, 0)) := fun wr X hm => ((hm.old _ (by omega) (by omega)).trans (old2 _ (by omega))).trans HN.out
  have hsz : ∀ wr X, MxI X w1.heap.size w.heap.size w w2 wr → wr.heap[w.heap.size + 1]? = some (.cells #[.int .u32 0, .int .u32 0, .int .u32 0, .int .u32 0, .int .u32 0, .int .u32 0, .int .u32 0, .int .u32 0] 76 (0, 0)) := fun wr X hm => ((hm.old _ (by omega) (by omega)).trans (old2 _ (by omega))).trans HZ.out
  have hNV : w.heap.size ≤ w1.heap.size := by omega
  have Base := Lib.hid hbase
  have Hsl := Lib.hid hsl
  have Hsa := Lib.hid hsa
  have Hsn := Lib.hid hsn
  have Hsz := Lib.hid hsz
  clear hbase hsl hsa hsn hsz size2 old2 low1 hs1 HN HZ Hrow Low Hgl Hw2 H2 K2 S2 HA Hc
  generalize w1.heap.size = V at *
  go_wp2
  go_loopw [9] (fun i wr => ∃ k : Nat, k ≤ 64 ∧ i = .int .i64 k ∧ Hid (MxI (rounds KW l s k).list V w.heap.size w w2 wr)) (fun i _ => 64 - (intOf i).toNat)
  case atStart => exact ⟨0, by omega, rfl, by { have h := Base.out; rw [HS.out] at h; exact h }⟩
  case round =>
    obtain ⟨k, hk, rfl, hm⟩ := hrel
    by_cases hlt : k < 64
    · have hltI : (k : Int) < 64 := by omega
      obtain ⟨t, ht⟩ : ∃ t, rounds KW l s k = t := ⟨_, rfl⟩
      have hm1 := hm.out
      rw [ht] at hm1
      obtain ⟨a', b', c', d', e', f', g', h'⟩ := t
      have Hst := Lib.hid ht
      have ck := (Hsa.out _ _ hm1).2 k hlt
      have cs := (Hsl.out _ _ hm1).2 k (by rw [sched_length]; exact hlt)
      rw [← W_of_sched] at cs
      obtain ⟨Kk, hKk⟩ : ∃ x, x = KW.getD k 0 := ⟨_, rfl⟩
      rw [← hKk] at ck
      have HKk := Lib.hid hKk
      have c0 := cell_row hm1.st 0
      have c1 := cell_row hm1.st 1
      have c2 := cell_row hm1.st 2
      have c3 := cell_row hm1.st 3
      have c4 := cell_row hm1.st 4
      have c5 := cell_row hm1.st 5
      have c6 := cell_row hm1.st 6
      have c7 := cell_row hm1.st 7
      simp only [u32s, W8.list, List.map_cons, List.map_nil, List.getElem?_toArray, List.getElem?_cons_zero, List.getElem?_cons_succ] at c0 c1 c2 c3 c4 c5 c6 c7
      have Hm1 := Lib.hid hm1
      clear ht hKk hm hm1
      go_wp2
      go_quiet (fail)
      go_wp2
      obtain ⟨wa, hwa⟩ : ∃ wa, wa = wr.drewN nq := ⟨_, rfl⟩
      rw [← hwa]
      have Hm2 : Hid (MxI (W8.mk a' b' c' d' e' f' g' h').list V w.heap.size w w2 wa) := by rw [hwa]; exact Hm1.out.drewN nq
      have ck2 : wa.cell? ⟨ga, k, none⟩ = some (.int .u32 Kk) := by rw [hwa]; exact ck
      have cs2 : wa.cell? ⟨gl, k, none⟩ = some (.int .u32 (W l k)) := by rw [hwa]; exact cs
      clear hwa c0 c1 c2 c3 c4 c5 c6 c7 ck cs Hm1
      go_quiet ((go_at_call 85; exact Calls.quiet_of_same (rr_same _ _ (by decide) (by decide) _)))
      go_wp2_with (first
        | (go_at_call 85; refine (rr_same _ _ (by decide) (by decide) _).mono ?_; rintro e0 w0 ⟨rfl, rfl⟩)
        | (refine wpList_store_row rfl 76 (.tmp 8) (.tmp 105) rfl V (u32s (rounds KW l s (k + 1)).list) rfl (by rw [rounds_step Hst.out HKk.out]; exact round_agg a' b' c' d' e' f' g' h' Kk (W l k) _ _ (add_mod1 _ _) (add_mod2 _ _)) 76 _ Hm2.out.st info23 rfl (u32s_one _) ?_))
      go_roundw
      case rel => exact ⟨k + 1, by omega, by go_num, (Hm2.out.drewN _).row hNV _⟩
      case measure => simp [intOf]; omega
    · have hge : ¬ (k : Int) < 64 := by omega
      have e64 : k = 64 := by omega
      obtain ⟨t, ht⟩ : ∃ t, rounds KW l s 64 = t := ⟨_, rfl⟩
      have hm1 := hm.out
      rw [e64, ht] at hm1
      have Hst := Lib.hid ht
      have ht8 : t.list.length = 8 := rfl
      obtain ⟨T, hT⟩ : ∃ T, T = t.list := ⟨_, rfl⟩
      rw [← hT] at hm1 ht8
      have HT := Lib.hid hT
      have Ht8 := Lib.hid ht8
      have Hm1 := Lib.hid hm1
      clear ht hT ht8 hm hm1 e64 hk hlt
      obtain ⟨wo, hwo⟩ : ∃ wo, wo = wr := ⟨_, rfl⟩
      subst hwo
      go_wp2
      go_loopw [20] (fun i wr => ∃ j : Nat, j ≤ 8 ∧ i = .int .i64 j ∧ Hid (MxI (addN S T j) V w.heap.size w w2 wr)) (fun i _ => 8 - (intOf i).toNat)
      case atStart => exact ⟨0, by omega, rfl, by rw [addN_zero _ _ Ht8.out]; exact Hm1.out⟩
      case round =>
        obtain ⟨j, hk, rfl, hm⟩ := hrel
        by_cases hlt : j < 8
        · have hltI : (j : Int) < 8 := by omega
          obtain ⟨x, hx⟩ : ∃ x, x = S.getD j 0 := ⟨_, rfl⟩
          obtain ⟨y, hy⟩ : ∃ y, y = T.getD j 0 := ⟨_, rfl⟩
          have cy : wr.cell? ⟨V, j, none⟩ = some (.int .u32 y) := by rw [row32_cell hm.out.st j (by rw [addN_length]; exact hlt), addN_at _ _ _ hlt, hy]
          have cx : wr.cell? ⟨w.heap.size, j, none⟩ = some (.int .u32 x) := by
            rw [row32_cell (Hsn.out _ _ hm.out) j (by rw [HS8.out]; exact hlt), hx]
          have hfz := free_row hm.out.st j
          have hn := addN_next S T j
          rw [← hx, ← hy] at hn
          have hn2 : (addN S T j).set j ((y + x) % 4294967296) = addN S T (j + 1) := by rw [← hn, Int.add_comm]; rfl
          have Hn := Lib.hid hn2
          clear hx hy hn hn2
          go_wp2
          refine wp_region_still_tail 9 (by kernel_rfl) (by kernel_rfl) ?_
          simp only [List.take_succ_cons, List.take_zero, List.drop_succ_cons, List.drop_zero]
          change wpStill _ _ wr.drew _ _ _
          repeat (refine wpStill_step (fun K hK => ?_); go_simp; refine hK _ ?_; clear hK K)
          refine wpStill_nil ?_
          change wpList _ _ _ _ _ wr.drew
          go_wp2
          go_roundw
          case rel => exact ⟨j + 1, by omega, by go_num, by rw [← Hn.out]; exact (hm.out.drewN 1).set hNV j _⟩
          case measure => simp [intOf]; omega
        · have hge8 : ¬ (j : Int) < 8 := by omega
          have e8 : j = 8 := by omega
          have hfin : addN S T 8 = (mixK KW s l).list := by
            rw [HS.out, HT.out, addN_all, mixK_eq Hst.out]; rfl
          have hm1 := hm.out
          rw [e8, hfin] at hm1
          obtain ⟨R, hR⟩ : ∃ R, R = (mixK KW s l).list := ⟨_, rfl⟩
          have hRl : R.length = 8 := by rw [hR]; rfl
          rw [← hR] at hm1
          have Hz := Lib.hid (Hsz.out _ _ hm1)
          have Hsz8 : Hid ((Tryd.prog.info? 76).map (·.size) = some (u32s R).size) := by show _ = _; rw [u32s_size, hRl]; exact info23
          have Hzz : Hid ((#[.int .u32 0, .int .u32 0, .int .u32 0, .int .u32 0, .int .u32 0, .int .u32 0, .int .u32 0, .int .u32 0] : Array Value).size = (u32s R).size) := by show _ = _; rw [u32s_size, hRl]; rfl
          have Hm1 := Lib.hid hm1
          have HR := Lib.hid hR
          have low := hm1.low
          clear hm hm1 hfin hR hRl e8 hk hlt
          go_wp2_with (first | (refine wpList_load_row rfl 76 (.tmp 8) rfl V rfl 76 (u32s R) (0, 0) _ Hm1.out.st Tryd.underlying76 rfl Hsz8.out ?_) | (refine wpList_store_row rfl 76 (.tmp 6) (.tmp 119) rfl (w.heap.size + 1) (u32s R) rfl rfl 76 _ Hz.out Hsz8.out Hzz.out (u32s_one _) ?_))
          rw [← HR.out]
          exact bodyPost_ret (v := .agg (u32s R)) (results_cell_row rfl _ _ (w.heap.size + 1) 76 _ (0, 0) _ rfl (setRow_heap wr _ _ _ _ _ Hz.out) Tryd.underlying76 rfl Hsz8.out) rfl ⟨rfl, below_setRow low (by omega) _⟩
end Go.Proofs.YtgkmbamoffolgaaDoor
