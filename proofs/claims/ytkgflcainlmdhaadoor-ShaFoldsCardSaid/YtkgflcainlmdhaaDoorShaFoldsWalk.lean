/- DERIVED. The walk of ShaFolds: it answers true at every slice of bytes. -/
import Derived.Test.YtkgflcainlmdhaaDoorShaFoldsMath
import Derived.Test.YtkgflcainlmdhaaDoorShaTold
import Derived.Test.YtkgflcainlmdhaaDoorShaAwake
import Derived.Test.YtkgflcainlmdhaaDoorShaEq
import Derived.StillTailTactics
namespace Go.Proofs.YtkgflcainlmdhaaDoor.lawFolds
open Go.RowKit
attribute [local go_sem ↓] exec_load24 exec_store24
set_option maxRecDepth 100000 in
set_option maxHeartbeats 1000000 in
theorem walk_long (A : Option Addr) (c m : Nat) (w : World) (hL : Laid w) (hm : 3000 < m) (hx : m ≤ 9223372036854775807) :
    Calls Tryd.prog 8 #[.slice A m c] w fun e' w' => e' = .returned (.bool true) ∧ Below w.heap.size w w' := by
  have HL := Lib.hid hL
  have hm' : (3000 : Int) < m := by omega
  clear hL hx hm
  go_enter Tryd.func8, Tryd.ntmps8
  go_wp2_with (go_at_call 17; refine (awake_any _ HL.out).mono ?_; rintro e w1 ⟨rfl, low1⟩)
  go_ret
  exact ⟨rfl, low1⟩
set_option maxRecDepth 100000 in
set_option maxHeartbeats 2000000 in
theorem walk_short (L : List Int) (A : Option Addr) (c m : Nat) (w : World) (hm : L.length = m) (hb : InB L) (hB : Byt w A c L) (hL : Laid w) (hs : m ≤ 3000) (ad : Addr) (hA : A = some ad) :
    Calls Tryd.prog 8 #[.slice A m c] w fun e' w' => e' = .returned (.bool true) ∧ Below w.heap.size w w' := by
  subst hA
  have Hm := Lib.hid hm
  have Hb := Lib.hid hb
  have HB := Lib.hid hB
  have HL := Lib.hid hL
  have hsz := hL.sz
  have hs' : ¬ (3000 : Int) < m := by omega
  obtain ⟨P, hP⟩ : ∃ P, P = padLen m := ⟨_, rfl⟩
  have hP1 : 9 ≤ P := by rw [hP]; unfold padLen; omega
  have hP2 : P ≤ 72 := by have := zeros_lt m; rw [hP]; unfold padLen; omega
  have hT : (((m + P : Nat) : Int) % 64) = 0 := by have := whole_blocks m; rw [← hP] at this; omega
  have HT := Lib.hid hT
  have hT1 : ((m + P : Nat) : Int) = (m : Int) + P := by omega
  have hmod : ((m : Int) + P) % 64 = 0 := by omega
  have Hmod := Lib.hid hmod
  clear hT1 hmod
  have HP := Lib.hid hP
  obtain ⟨i0, hi0, hz00, hz10, hz20⟩ := info_parts info5
  have hi := Lib.hid hi0
  have hz0 := Lib.hid hz00
  have hz1 := Lib.hid hz10
  have hz2 := Lib.hid hz20
  clear hi0 hz00 hz10 hz20 hm hb hB hL hT hP
  have o0 := Lib.hid (own_empty w)
  have low0 := Lib.hid ((Below.refl w.heap.size w).alloc (Nat.le_refl _) (.cells #[] 5))
  go_enter Tryd.func8, Tryd.ntmps8
  go_wp2_with (first
    | (at_builtin; refine wpList_append_own _ rfl (.tmp 11) (.tmp 12) 26 rfl w.heap.size 5 i0 (.int .u8 0) 1 1 Tryd.underlying26 hi.out hz0.out hz1.out hz2.out rfl (by decide) _ 0 (vals []) rfl o0.out ad m c (vals L) rfl (by rw [vals_length, Hm.out]; omega) (HB.out.cells (fun p hp => low0.out.cell hp) ad rfl) (vals_one _) (by unfold maxLen; omega) (by omega) (by simp) ?_; intro v1 w1 hown1 hgrow1 _; have low1 : Below w.heap.size w w1 := low0.out.grown hgrow1 (by simp) (fun k hk => by cases hk; exact Nat.le_refl _); simp only [vals, List.map_nil, List.nil_append, Nat.zero_add] at hown1; have Own1 := Lib.hid hown1; have Low1 := Lib.hid low1; clear hown1 hgrow1 low1)
    | (go_at_call 15; refine (behind_any m (by omega) w1).mono ?_; rintro e w2 ⟨rfl, hp2, low2⟩; rw [← HP.out]; have Hp2 := Lib.hid hp2; have Low2 := Lib.hid low2; have Own2 := Lib.hid (own_below Own1.out low2); have lowA := Lib.hid (Low1.out.trans (low2.mono Low1.out.size)); clear hp2 low2)
    | (at_builtin; refine wpList_append_own _ rfl (.tmp 13) (.tmp 16) 26 rfl w.heap.size 5 i0 (.int .u8 0) 1 1 Tryd.underlying26 hi.out hz0.out hz1.out hz2.out rfl (by decide) v1 m (vals L) rfl Own2.out ⟨w1.heap.size, 0, none⟩ P P (vals (padL m)) rfl (by rw [vals_length, padL_length, ← HP.out]; omega) ((byt_row Hp2.out).cells (fun p _ => rfl) _ rfl) (vals_one _) (by unfold maxLen; omega) (by omega) lowA.out.size ?_; intro v2 w3 hown3 hgrow3 _; have low3 : Below w.heap.size w w3 := lowA.out.grown hgrow3 lowA.out.size (own_ge Own1.out); rw [vals_append] at hown3; obtain ⟨g, c3, hv2, byt3, hlen3, hg3⟩ := own_form hown3 (by omega); rw [hv2]; have Byt3 := Lib.hid byt3; have Hlen3 := Lib.hid hlen3; have Low3 := Lib.hid low3; clear hown3 hgrow3 hv2 byt3 hlen3 low3)
    | (go_at_call 11; refine (start_any _ (HL.out.below Low3.out hsz)).mono ?_; rintro e w4 ⟨rfl, low4⟩; have Low4 := Lib.hid (Low3.out.trans (low4.mono Low3.out.size)); have Byt4 := Lib.hid (Byt3.out.below low4 (Nat.le_refl _)); have s4 := store_first w4 S0; clear low4))
  have hNB := Lib.hid (Go.heap_alloc_new w4 (.cells (u32s S0.list) 24))
  have hcap := Byt4.out.1
  rw [Hlen3.out] at hcap
  go_loopw [5] (fun i wr => ∃ k : Nat, 64 * k ≤ m + P ∧ i = .int .i64 (64 * (k : Int)) ∧ wr.heap[w4.heap.size]? = some (.cells (u32s (foldB S0 (L ++ padL m) k).list) 24 (0, 0)) ∧ Below w4.heap.size w4 wr) (fun i _ => m + P - (intOf i).toNat)
  case atStart => exact ⟨0, Nat.zero_le _, rfl, hNB.out, (Below.refl _ _).alloc (Nat.le_refl _) _⟩
  case round =>
    obtain ⟨k, hk, rfl, hst, hlow⟩ := hrel
    clear hNB s4
    by_cases hlt : 64 * k + 64 ≤ m + P
    · have hlen : (blk (L ++ padL m) k).length = 64 := blk_length (by rw [Hlen3.out]; omega)
      obtain ⟨g', off', hgg, hgl, hcell⟩ := Byt4.out.2.2 (by rw [Hlen3.out]; omega)
      cases hgg
      have hwr := hlow.size
      have hNlt := (Array.getElem?_eq_some_iff.1 hst).1
      obtain ⟨w6, hw6⟩ : ∃ w6, w6 = (wr.alloc (.cells (u8s (blk (L ++ padL m) k)) 25)).drew := ⟨_, rfl⟩
      have low6 : Below w4.heap.size w4 w6 := by rw [hw6]; exact (hlow.alloc hwr _).drew
      have st6 : w6.heap[w4.heap.size]? = some (.cells (u32s (foldB S0 (L ++ padL m) k).list) 24 (0, 0)) := by rw [hw6]; exact (Go.heap_alloc_old wr _ hNlt).trans hst
      have bl6 : w6.heap[wr.heap.size]? = some (.cells (u8s (blk (L ++ padL m) k)) 25 (0, 0)) := by rw [hw6]; exact Go.heap_alloc_new wr _
      have hs6 : wr.heap.size + 1 = w6.heap.size := by rw [hw6]; simp
      have laid6 : Laid w6 := HL.out.below (Low4.out.trans (low6.mono Low4.out.size)) hsz
      have Hsrc : Hid (∀ j v, (vals (blk (L ++ padL m) k))[j]? = some v → ((wr.alloc (.cells zero64 25)).drew).cell? ((⟨g, 64 * k, none⟩ : Addr).add j) = some v) := by
        intro j v hv
        obtain ⟨hj, rfl⟩ := vals_get hv
        rw [Addr.add_mid]
        show (wr.alloc _).cell? _ = _
        rw [World.cell?_alloc_past _ _ _ (by omega), hlow.cell (p := ⟨g, 64 * k + j, none⟩) hgl]
        have := hcell (64 * k + j) (by rw [Hlen3.out]; omega)
        rw [Nat.zero_add] at this
        rw [this]
        simp [blk, List.getD_eq_getElem?_getD, List.getElem?_drop, show j < 64 by omega]
      have l6 := opLoad_eq (s := foldB S0 (L ++ padL m) k) st6
      have Hlen := Lib.hid hlen
      have Hw6 := Lib.hid hw6
      have St6 := Lib.hid st6
      have Bl6 := Lib.hid bl6
      have Hlow := Lib.hid hlow
      have Hi64 : Hid ((Tryd.prog.info? 25).map (·.size) = some (u8s (blk (L ++ padL m) k)).size) := by show _ = _; rw [u8s_size, hlen]; exact info25
      have Hmin : Hid ((vals (blk (L ++ padL m) k)).length = Nat.min (m + P - 64 * k) 64) := by show _ = _; rw [vals_length, hlen]; exact (Nat.min_eq_right (by omega)).symm
      have hne : ¬ c3 = 64 * k := by omega
      have t64 : (64 * (k : Int)).toNat = 64 * k := by omega
      have u1 : 0 ≤ 64 * (k : Int) := by omega
      have u2 : 64 * (k : Int) ≤ (m : Int) + P := by omega
      have u3 : 64 * (k : Int) + 64 ≤ (m : Int) + P := by omega
      have u4 : 64 * (k : Int) ≤ ((m + P : Nat) : Int) := by omega
      clear hw6 st6 bl6 hlen hcell hst hlow hs6
      go_wp2_with fail
      go_still_tail 4, (by kernel_rfl)
      change wpList _ _ _ _ _ ((wr.alloc (.cells zero64 25)).drew)
      refine wpList_copy_own rfl (.tmp 46) (.tmp 49) 26 26 rfl 5 Tryd.underlying26 info26 wr.heap.size 0 64 64 ⟨g, 64 * k, none⟩ (m + P - 64 * k) (c3 - 64 * k) rfl rfl zero64 25 (Go.heap_alloc_new wr _) (vals (blk (L ++ padL m) k)) Hmin.out Hsrc.out (by rw [vals_length, Hlen.out]; decide) (vals_one _) ?_
      rw [setRow_new_drew, copied _ _ rfl Hlen.out, ← Hw6.out]
      go_wp2_with (first
        | (refine wpList_load_row rfl 25 (.tmp 6) rfl wr.heap.size rfl 25 (u8s (blk (L ++ padL m) k)) (0, 0) _ Bl6.out Tryd.underlying25 rfl Hi64.out ?_)
        | (go_at_call 13; refine (mix_any (foldB S0 (L ++ padL m) k) (blk (L ++ padL m) k) Hlen.out ((Hb.out.append (padL_in m)).blk k) _ laid6).mono ?_; rintro e w7 ⟨rfl, low7⟩; have st7 := (low7.block _ (Array.getElem?_eq_some_iff.1 St6.out).1).trans St6.out; have s7 := opStore_eq (t := foldB S0 (L ++ padL m) (k + 1)) st7; have s7 := (show opStore (.pointer (some ⟨w4.heap.size, 0, none⟩)) (.agg (u32s (mixK KW (foldB S0 (L ++ padL m) k) (blk (L ++ padL m) k)).list)) w7 = _ from s7); have St7 := Lib.hid st7; clear st7))
      go_roundw
      case rel =>
        exact ⟨k + 1, by omega, by go_num, setRow_heap w7 _ _ _ _ _ St7.out, below_setRow (low6.trans (low7.mono low6.size)) (Nat.le_refl _) _⟩
      case measure => simp [intOf]; omega
    · have hk64 : k = (m + P) / 64 := by have := HT.out; omega
      have hk65 : ¬ 64 * (k : Int) + 64 ≤ (m : Int) + P := by omega
      have Hk64 := Lib.hid hk64
      obtain ⟨t, ht⟩ : ∃ t, t = foldB S0 (L ++ padL m) k := ⟨_, rfl⟩
      have hsum : sumL L = hashL t.list := by rw [sumL, fin_eq, Hm.out, ← HP.out, ht, hk64]
      rw [← ht] at hst
      obtain ⟨ta, tb, tc, td, te, tf, tg, th⟩ := t
      have Hsum := Lib.hid hsum
      have p0 := cell_row hst 0
      have p1 := cell_row hst 1
      have p2 := cell_row hst 2
      have p3 := cell_row hst 3
      have p4 := cell_row hst 4
      have p5 := cell_row hst 5
      have p6 := cell_row hst 6
      have p7 := cell_row hst 7
      simp only [u32s, W8.list, List.map_cons, List.map_nil, List.getElem?_toArray, List.getElem?_cons_zero, List.getElem?_cons_succ] at p0 p1 p2 p3 p4 p5 p6 p7
      have hNlt := (Array.getElem?_eq_some_iff.1 hst).1
      have lowr : Below w.heap.size w wr.drew := (Low4.out.trans (hlow.mono Low4.out.size)).drew
      have Lowr := Lib.hid lowr
      have Hst := Lib.hid hst
      have hX : (hashL (W8.mk ta tb tc td te tf tg th).list).length = 32 := hashL_length _
      obtain ⟨X, hXe⟩ : ∃ X, X = hashL (W8.mk ta tb tc td te tf tg th).list := ⟨_, rfl⟩
      rw [← hXe] at hX
      have e0 := fun W => eql35_same X hX W
      have e1 := fun W => equal35_same X hX W
      have HXe := Lib.hid hXe
      clear hk64 ht hsum hst hlow lowr hX hXe hlt
      go_wp2_with fail
      go_region_with (first
        | (go_at_call 18; refine (sum_any L (some ad) c m _ Hm.out Hb.out (HB.out.below Lowr.out (Nat.le_refl _)) (HL.out.below Lowr.out hsz) (by omega)).mono ?_; rintro e w8 ⟨rfl, low8⟩; rw [Hsum.out, ← HXe.out]; have st8 := (low8.block _ hNlt).trans Hst.out; have q0 := cell_row st8 0; have q1 := cell_row st8 1; have q2 := cell_row st8 2; have q3 := cell_row st8 3; have q4 := cell_row st8 4; have q5 := cell_row st8 5; have q6 := cell_row st8 6; have q7 := cell_row st8 7; simp only [u32s, W8.list, List.map_cons, List.map_nil, List.getElem?_toArray, List.getElem?_cons_zero, List.getElem?_cons_succ] at q0 q1 q2 q3 q4 q5 q6 q7; have Low8 := Lib.hid (Lowr.out.trans (low8.mono Lowr.out.size)); clear low8 st8)
        | (go_at_call 27; refine (told_any (W8.mk ta tb tc td te tf tg th).list rfl _).mono ?_; rintro e w9 ⟨rfl, low9⟩; rw [← HXe.out]; have Low9 := Lib.hid (Low8.out.trans (low9.mono Low8.out.size)); clear low9)
        | (go_at_call 17; refine (awake_any _ (HL.out.below Low9.out hsz)).mono ?_; rintro e wA ⟨rfl, lowA'⟩; have LowA := Lib.hid (Low9.out.trans (lowA'.mono Low9.out.size)); clear lowA'))
      all_goals
        go_wp2
        go_ret
        exact ⟨rfl, LowA.out⟩
set_option maxRecDepth 100000 in
set_option maxHeartbeats 2000000 in
theorem walk_nil (L : List Int) (A : Option Addr) (c m : Nat) (w : World) (hm : L.length = m) (hb : InB L) (hB : Byt w A c L) (hL : Laid w) (hs : m ≤ 3000) (hA : A = none) :
    Calls Tryd.prog 8 #[.slice A m c] w fun e' w' => e' = .returned (.bool true) ∧ Below w.heap.size w w' := by
  subst hA
  have Hc0 := Lib.hid (hB.2.1 rfl)
  have Hm0 : Hid (m = 0) := by show m = 0; have h1 := hB.1; have h2 := hB.2.1 rfl; omega
  have HL0 : Hid (L = []) := List.eq_nil_of_length_eq_zero (hm.trans Hm0.out)
  have Hm := Lib.hid hm
  have Hb := Lib.hid hb
  have HB := Lib.hid hB
  have HL := Lib.hid hL
  have hsz := hL.sz
  have hs' : ¬ (3000 : Int) < m := by omega
  obtain ⟨P, hP⟩ : ∃ P, P = padLen m := ⟨_, rfl⟩
  have hP1 : 9 ≤ P := by rw [hP]; unfold padLen; omega
  have hP2 : P ≤ 72 := by have := zeros_lt m; rw [hP]; unfold padLen; omega
  have hT : (((m + P : Nat) : Int) % 64) = 0 := by have := whole_blocks m; rw [← hP] at this; omega
  have HT := Lib.hid hT
  have hT1 : ((m + P : Nat) : Int) = (m : Int) + P := by omega
  have hmod : ((m : Int) + P) % 64 = 0 := by omega
  have Hmod := Lib.hid hmod
  clear hT1 hmod
  have HP := Lib.hid hP
  obtain ⟨i0, hi0, hz00, hz10, hz20⟩ := info_parts info5
  have hi := Lib.hid hi0
  have hz0 := Lib.hid hz00
  have hz1 := Lib.hid hz10
  have hz2 := Lib.hid hz20
  clear hi0 hz00 hz10 hz20 hm hb hB hL hT hP
  have o0 := Lib.hid (own_empty w)
  have low0 := Lib.hid ((Below.refl w.heap.size w).alloc (Nat.le_refl _) (.cells #[] 5))
  go_enter Tryd.func8, Tryd.ntmps8
  go_wp2_with (first
    | (at_builtin; refine wpList_append_own_none rfl (.tmp 11) (.tmp 12) 26 rfl w.heap.size 5 i0 1 Tryd.underlying26 hi.out _ 0 (vals []) rfl o0.out (by show Value.slice none m c = _; rw [Hm0.out, Hc0.out]) ?_; have own1 : (w.alloc (.cells #[] 5)).ownsRow w.heap.size 5 1 (.slice (some ⟨w.heap.size, 0, none⟩) 0 0) m (vals L) := (by rw [Hm0.out, HL0.out]; exact o0.out); have low1 := low0.out; generalize hv1 : Value.slice (some ⟨w.heap.size, 0, none⟩) 0 0 = v1 at own1 ⊢; generalize hw1 : World.alloc w _ = w1 at own1 low1 ⊢; have Own1 := Lib.hid own1; have Low1 := Lib.hid low1; clear own1 low1 hv1 hw1)
    | (go_at_call 15; refine (behind_any m (by omega) w1).mono ?_; rintro e w2 ⟨rfl, hp2, low2⟩; rw [← HP.out]; have Hp2 := Lib.hid hp2; have Low2 := Lib.hid low2; have Own2 := Lib.hid (own_below Own1.out low2); have lowA := Lib.hid (Low1.out.trans (low2.mono Low1.out.size)); clear hp2 low2)
    | (at_builtin; refine wpList_append_own _ rfl (.tmp 13) (.tmp 16) 26 rfl w.heap.size 5 i0 (.int .u8 0) 1 1 Tryd.underlying26 hi.out hz0.out hz1.out hz2.out rfl (by decide) v1 m (vals L) rfl Own2.out ⟨w1.heap.size, 0, none⟩ P P (vals (padL m)) rfl (by rw [vals_length, padL_length, ← HP.out]; omega) ((byt_row Hp2.out).cells (fun p _ => rfl) _ rfl) (vals_one _) (by unfold maxLen; omega) (by omega) lowA.out.size ?_; intro v2 w3 hown3 hgrow3 _; have low3 : Below w.heap.size w w3 := lowA.out.grown hgrow3 lowA.out.size (own_ge Own1.out); rw [vals_append] at hown3; obtain ⟨g, c3, hv2, byt3, hlen3, hg3⟩ := own_form hown3 (by omega); rw [hv2]; have Byt3 := Lib.hid byt3; have Hlen3 := Lib.hid hlen3; have Low3 := Lib.hid low3; clear hown3 hgrow3 hv2 byt3 hlen3 low3)
    | (go_at_call 11; refine (start_any _ (HL.out.below Low3.out hsz)).mono ?_; rintro e w4 ⟨rfl, low4⟩; have Low4 := Lib.hid (Low3.out.trans (low4.mono Low3.out.size)); have Byt4 := Lib.hid (Byt3.out.below low4 (Nat.le_refl _)); have s4 := store_first w4 S0; clear low4))
  have hNB := Lib.hid (Go.heap_alloc_new w4 (.cells (u32s S0.list) 24))
  have hcap := Byt4.out.1
  rw [Hlen3.out] at hcap
  go_loopw [5] (fun i wr => ∃ k : Nat, 64 * k ≤ m + P ∧ i = .int .i64 (64 * (k : Int)) ∧ wr.heap[w4.heap.size]? = some (.cells (u32s (foldB S0 (L ++ padL m) k).list) 24 (0, 0)) ∧ Below w4.heap.size w4 wr) (fun i _ => m + P - (intOf i).toNat)
  case atStart => exact ⟨0, Nat.zero_le _, rfl, hNB.out, (Below.refl _ _).alloc (Nat.le_refl _) _⟩
  case round =>
    obtain ⟨k, hk, rfl, hst, hlow⟩ := hrel
    clear hNB s4
    by_cases hlt : 64 * k + 64 ≤ m + P
    · have hlen : (blk (L ++ padL m) k).length = 64 := blk_length (by rw [Hlen3.out]; omega)
      obtain ⟨g', off', hgg, hgl, hcell⟩ := Byt4.out.2.2 (by rw [Hlen3.out]; omega)
      cases hgg
      have hwr := hlow.size
      have hNlt := (Array.getElem?_eq_some_iff.1 hst).1
      obtain ⟨w6, hw6⟩ : ∃ w6, w6 = (wr.alloc (.cells (u8s (blk (L ++ padL m) k)) 25)).drew := ⟨_, rfl⟩
      have low6 : Below w4.heap.size w4 w6 := by rw [hw6]; exact (hlow.alloc hwr _).drew
      have st6 : w6.heap[w4.heap.size]? = some (.cells (u32s (foldB S0 (L ++ padL m) k).list) 24 (0, 0)) := by rw [hw6]; exact (Go.heap_alloc_old wr _ hNlt).trans hst
      have bl6 : w6.heap[wr.heap.size]? = some (.cells (u8s (blk (L ++ padL m) k)) 25 (0, 0)) := by rw [hw6]; exact Go.heap_alloc_new wr _
      have hs6 : wr.heap.size + 1 = w6.heap.size := by rw [hw6]; simp
      have laid6 : Laid w6 := HL.out.below (Low4.out.trans (low6.mono Low4.out.size)) hsz
      have Hsrc : Hid (∀ j v, (vals (blk (L ++ padL m) k))[j]? = some v → ((wr.alloc (.cells zero64 25)).drew).cell? ((⟨g, 64 * k, none⟩ : Addr).add j) = some v) := by
        intro j v hv
        obtain ⟨hj, rfl⟩ := vals_get hv
        rw [Addr.add_mid]
        show (wr.alloc _).cell? _ = _
        rw [World.cell?_alloc_past _ _ _ (by omega), hlow.cell (p := ⟨g, 64 * k + j, none⟩) hgl]
        have := hcell (64 * k + j) (by rw [Hlen3.out]; omega)
        rw [Nat.zero_add] at this
        rw [this]
        simp [blk, List.getD_eq_getElem?_getD, List.getElem?_drop, show j < 64 by omega]
      have l6 := opLoad_eq (s := foldB S0 (L ++ padL m) k) st6
      have Hlen := Lib.hid hlen
      have Hw6 := Lib.hid hw6
      have St6 := Lib.hid st6
      have Bl6 := Lib.hid bl6
      have Hlow := Lib.hid hlow
      have Hi64 : Hid ((Tryd.prog.info? 25).map (·.size) = some (u8s (blk (L ++ padL m) k)).size) := by show _ = _; rw [u8s_size, hlen]; exact info25
      have Hmin : Hid ((vals (blk (L ++ padL m) k)).length = Nat.min (m + P - 64 * k) 64) := by show _ = _; rw [vals_length, hlen]; exact (Nat.min_eq_right (by omega)).symm
      have hne : ¬ c3 = 64 * k := by omega
      have t64 : (64 * (k : Int)).toNat = 64 * k := by omega
      have u1 : 0 ≤ 64 * (k : Int) := by omega
      have u2 : 64 * (k : Int) ≤ (m : Int) + P := by omega
      have u3 : 64 * (k : Int) + 64 ≤ (m : Int) + P := by omega
      have u4 : 64 * (k : Int) ≤ ((m + P : Nat) : Int) := by omega
      clear hw6 st6 bl6 hlen hcell hst hlow hs6
      go_wp2_with fail
      go_still_tail 4, (by kernel_rfl)
      change wpList _ _ _ _ _ ((wr.alloc (.cells zero64 25)).drew)
      refine wpList_copy_own rfl (.tmp 46) (.tmp 49) 26 26 rfl 5 Tryd.underlying26 info26 wr.heap.size 0 64 64 ⟨g, 64 * k, none⟩ (m + P - 64 * k) (c3 - 64 * k) rfl rfl zero64 25 (Go.heap_alloc_new wr _) (vals (blk (L ++ padL m) k)) Hmin.out Hsrc.out (by rw [vals_length, Hlen.out]; decide) (vals_one _) ?_
      rw [setRow_new_drew, copied _ _ rfl Hlen.out, ← Hw6.out]
      go_wp2_with (first
        | (refine wpList_load_row rfl 25 (.tmp 6) rfl wr.heap.size rfl 25 (u8s (blk (L ++ padL m) k)) (0, 0) _ Bl6.out Tryd.underlying25 rfl Hi64.out ?_)
        | (go_at_call 13; refine (mix_any (foldB S0 (L ++ padL m) k) (blk (L ++ padL m) k) Hlen.out ((Hb.out.append (padL_in m)).blk k) _ laid6).mono ?_; rintro e w7 ⟨rfl, low7⟩; have st7 := (low7.block _ (Array.getElem?_eq_some_iff.1 St6.out).1).trans St6.out; have s7 := opStore_eq (t := foldB S0 (L ++ padL m) (k + 1)) st7; have s7 := (show opStore (.pointer (some ⟨w4.heap.size, 0, none⟩)) (.agg (u32s (mixK KW (foldB S0 (L ++ padL m) k) (blk (L ++ padL m) k)).list)) w7 = _ from s7); have St7 := Lib.hid st7; clear st7))
      go_roundw
      case rel =>
        exact ⟨k + 1, by omega, by go_num, setRow_heap w7 _ _ _ _ _ St7.out, below_setRow (low6.trans (low7.mono low6.size)) (Nat.le_refl _) _⟩
      case measure => simp [intOf]; omega
    · have hk64 : k = (m + P) / 64 := by have := HT.out; omega
      have hk65 : ¬ 64 * (k : Int) + 64 ≤ (m : Int) + P := by omega
      have Hk64 := Lib.hid hk64
      obtain ⟨t, ht⟩ : ∃ t, t = foldB S0 (L ++ padL m) k := ⟨_, rfl⟩
      have hsum : sumL L = hashL t.list := by rw [sumL, fin_eq, Hm.out, ← HP.out, ht, hk64]
      rw [← ht] at hst
      obtain ⟨ta, tb, tc, td, te, tf, tg, th⟩ := t
      have Hsum := Lib.hid hsum
      have p0 := cell_row hst 0
      have p1 := cell_row hst 1
      have p2 := cell_row hst 2
      have p3 := cell_row hst 3
      have p4 := cell_row hst 4
      have p5 := cell_row hst 5
      have p6 := cell_row hst 6
      have p7 := cell_row hst 7
      simp only [u32s, W8.list, List.map_cons, List.map_nil, List.getElem?_toArray, List.getElem?_cons_zero, List.getElem?_cons_succ] at p0 p1 p2 p3 p4 p5 p6 p7
      have hNlt := (Array.getElem?_eq_some_iff.1 hst).1
      have lowr : Below w.heap.size w wr.drew := (Low4.out.trans (hlow.mono Low4.out.size)).drew
      have Lowr := Lib.hid lowr
      have Hst := Lib.hid hst
      have hX : (hashL (W8.mk ta tb tc td te tf tg th).list).length = 32 := hashL_length _
      obtain ⟨X, hXe⟩ : ∃ X, X = hashL (W8.mk ta tb tc td te tf tg th).list := ⟨_, rfl⟩
      rw [← hXe] at hX
      have e0 := fun W => eql35_same X hX W
      have e1 := fun W => equal35_same X hX W
      have HXe := Lib.hid hXe
      clear hk64 ht hsum hst hlow lowr hX hXe hlt
      go_wp2_with fail
      go_region_with (first
        | (go_at_call 18; refine (sum_any L none c m _ Hm.out Hb.out (HB.out.below Lowr.out (Nat.le_refl _)) (HL.out.below Lowr.out hsz) (by omega)).mono ?_; rintro e w8 ⟨rfl, low8⟩; rw [Hsum.out, ← HXe.out]; have st8 := (low8.block _ hNlt).trans Hst.out; have q0 := cell_row st8 0; have q1 := cell_row st8 1; have q2 := cell_row st8 2; have q3 := cell_row st8 3; have q4 := cell_row st8 4; have q5 := cell_row st8 5; have q6 := cell_row st8 6; have q7 := cell_row st8 7; simp only [u32s, W8.list, List.map_cons, List.map_nil, List.getElem?_toArray, List.getElem?_cons_zero, List.getElem?_cons_succ] at q0 q1 q2 q3 q4 q5 q6 q7; have Low8 := Lib.hid (Lowr.out.trans (low8.mono Lowr.out.size)); clear low8 st8)
        | (go_at_call 27; refine (told_any (W8.mk ta tb tc td te tf tg th).list rfl _).mono ?_; rintro e w9 ⟨rfl, low9⟩; rw [← HXe.out]; have Low9 := Lib.hid (Low8.out.trans (low9.mono Low8.out.size)); clear low9)
        | (go_at_call 17; refine (awake_any _ (HL.out.below Low9.out hsz)).mono ?_; rintro e wA ⟨rfl, lowA'⟩; have LowA := Lib.hid (Low9.out.trans (lowA'.mono Low9.out.size)); clear lowA'))
      all_goals
        go_wp2
        go_ret
        exact ⟨rfl, LowA.out⟩
end Go.Proofs.YtkgflcainlmdhaaDoor.lawFolds
