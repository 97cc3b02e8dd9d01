/- DERIVED. The contract of the reference's mix of layer 1: a state mixed with a block. -/
import Derived.Test.YtblgblhoolpmiaaDoorRef1Sched
import Derived.Test.YtblgblhoolpmiaaDoorShaStart
import Derived.StillTailTactics
import Derived.Deep.WholeRow
namespace Go.Proofs.YtblgblhoolpmiaaDoor
open Go.RowKit
/-- the state's words, the first k of them with those that were there at first added. -/
def addN (A B : List Int) (k : Nat) : List Int := (List.range 8).map fun j => if j < k then ad (A.getD j 0) (B.getD j 0) else B.getD j 0
theorem addN_length (A B : List Int) (k : Nat) : (addN A B k).length = 8 := by simp [addN]
theorem addN_zero (A B : List Int) (h : B.length = 8) : addN A B 0 = B := by
  apply List.ext_getElem
  · rw [addN_length, h]
  · intro j h1 h2
    simp [addN, h2]
theorem addN_at (A B : List Int) (k : Nat) (h : k < 8) : (addN A B k).getD k 0 = B.getD k 0 := by
  simp [addN, h]
theorem addN_next (A B : List Int) (k : Nat) : (addN A B k).set k (ad (A.getD k 0) (B.getD k 0)) = addN A B (k + 1) := by
  apply List.ext_getElem
  · simp [addN_length]
  · intro j h1 h2
    rw [List.getElem_set]
    by_cases e : k = j
    · subst e; simp [addN]
    · rw [if_neg e]
      by_cases hj : j < k
      · simp [addN, hj, show j < k + 1 by omega]
      · simp [addN, hj, show ¬ j < k + 1 by omega]
theorem addN_all (s t : W8) : addN s.list t.list 8 = [ad s.a t.a, ad s.b t.b, ad s.c t.c, ad s.d t.d, ad s.e t.e, ad s.f t.f, ad s.g t.g, ad s.h t.h] := rfl
attribute [irreducible] addN
/-- what the loops of mix keep: the row of the state, all else of the world in which they began. -/
structure MxI (X : List Int) (V N : Nat) (w w2 wr : World) : Prop where
  st : wr.heap[V]? = some (.cells (u32s X) 23 (0, 0))
  old : ∀ g, g < w2.heap.size → g ≠ V → wr.heap[g]? = w2.heap[g]?
  low : Below N w wr
theorem MxI.drewN {X : List Int} {V N : Nat} {w w2 wr : World} (h : MxI X V N w w2 wr) (q : Nat) : MxI X V N w w2 (wr.drewN q) := ⟨h.st, h.old, Below.drewN h.low q⟩
theorem MxI.row {X : List Int} {V N : Nat} {w w2 wr : World} (h : MxI X V N w w2 wr) (hV : N ≤ V) (Y : List Int) : MxI Y V N w w2 (wr.setRow V (u32s Y)) :=
  ⟨setRow_heap wr _ _ _ _ _ h.st, fun g hg hne => by rw [setRow_other wr _ _ _ hne]; exact h.old g hg hne, below_setRow h.low hV _⟩
theorem MxI.set {X : List Int} {V N : Nat} {w w2 wr : World} (h : MxI X V N w w2 wr) (hV : N ≤ V) (k : Nat) (x : Int) : MxI (X.set k x) V N w w2 (wr.setCell ⟨V, k, none⟩ (.int .u32 x)) :=
  ⟨row32_set h.st k x, fun g hg hne => by rw [heap_setCell_other _ _ _ _ (by simp; omega)]; exact h.old g hg hne, h.low.setCell (by simp; omega) _⟩
theorem add_mod1 (a b : Int) : (a + b) % 4294967296 = (a % 4294967296 + b % 4294967296) % 4294967296 := by omega
theorem add_mod2 (a b : Int) : (a + b) % 4294967296 = (a + b % 4294967296) % 4294967296 := by omega
theorem round_agg (a b c d e f g h Kk Wk Z1 Z5 : Int) (h1 : Z1 = ad (roundU ⟨a, b, c, d, e, f, g, h⟩ Kk Wk) (roundV ⟨a, b, c, d, e, f, g, h⟩)) (h5 : Z5 = ad d (roundU ⟨a, b, c, d, e, f, g, h⟩ Kk Wk)) :
    Value.agg #[.int .u32 Z1, .int .u32 a, .int .u32 b, .int .u32 c, .int .u32 Z5, .int .u32 e, .int .u32 f, .int .u32 g] = .agg (u32s (round ⟨a, b, c, d, e, f, g, h⟩ Kk Wk).list) := by
  rw [h1, h5]; rfl
set_option maxRecDepth 100000 in
set_option maxHeartbeats 2000000 in
theorem rmix_any (s : W8) (l : List Int) (hb : InB l) (gb off cap ga capa : Nat) (w : World) (hgb : gb < w.heap.size) (hc : ∀ j, j < 64 → w.cell? ⟨gb, off + j, none⟩ = some (.int .u8 (l.getD j 0))) (hA : RowK .u32 w ga KW) :
    Calls Tryd.prog 30 #[.agg (u32s s.list), .slice (some ⟨gb, off, none⟩) 64 cap, .slice (some ⟨ga, 0, none⟩) 64 capa] w
      fun e' w' => e' = .returned (.agg (u32s (mixK KW s l).list)) ∧ Below w.heap.size w w' := by
  have Hc := Lib.hid hc
  have HA := Lib.hid hA
  have Hb := Lib.hid hb
  obtain ⟨S, hS⟩ : ∃ S, S = s.list := ⟨_, rfl⟩
  have hS8 : S.length = 8 := by rw [hS]; rfl
  rw [← hS]
  have HS := Lib.hid hS
  have HS8 := Lib.hid hS8
  have HI : Hid ((Tryd.prog.info? 23).map (·.size) = some (u32s S).size) := by show _ = _; rw [u32s_size, hS8]; exact info23
  have HZ8 : Hid ((#[.int .u32 0, .int .u32 0, .int .u32 0, .int .u32 0, .int .u32 0, .int .u32 0, .int .u32 0, .int .u32 0] : Array Value).size = (u32s S).size) := by show _ = _; rw [u32s_size, hS8]; rfl
  clear hb hc hA hS hS8
  go_enter Tryd.func30, Tryd.ntmps30
  have h2 := two_new w (.cells (u32s S) 23) (.cells #[.int .u32 0, .int .u32 0, .int .u32 0, .int .u32 0, .int .u32 0, .int .u32 0, .int .u32 0, .int .u32 0] 23)
  have k2 : Below w.heap.size w ((w.alloc (.cells (u32s S) 23)).alloc (.cells #[.int .u32 0, .int .u32 0, .int .u32 0, .int .u32 0, .int .u32 0, .int .u32 0, .int .u32 0, .int .u32 0] 23)) := ((Below.refl _ _).alloc (Nat.le_refl _) _).alloc (by simp) _
  have s2 : ((w.alloc (.cells (u32s S) 23)).alloc (.cells #[.int .u32 0, .int .u32 0, .int .u32 0, .int .u32 0, .int .u32 0, .int .u32 0, .int .u32 0, .int .u32 0] 23)).heap.size = w.heap.size + 2 := by simp
  have H2 := Lib.hid h2
  have K2 := Lib.hid k2
  have S2 := Lib.hid s2
  clear h2 k2 s2
  go_wp2_with (first
    | (go_at_call 48; refine (rsched_any l Hb.out gb off cap _ (Nat.lt_of_lt_of_le hgb K2.out.size) (fun j hj => (K2.out.cell (p := ⟨gb, off + j, none⟩) hgb).trans (Hc.out j hj))).mono ?_; rintro e w1 ⟨gl, cl, rfl, hgl, hrow, low⟩; have Hrow := Lib.hid hrow; have Low := Lib.hid low; have Hgl := Lib.hid hgl; have HN := Lib.hid ((low.block _ (by rw [S2.out]; omega)).trans H2.out.1); have HZ := Lib.hid ((low.block _ (by rw [S2.out]; omega)).trans H2.out.2); clear hrow low hgl)
    | (refine wpList_load_row rfl 23 (.tmp 3) rfl w.heap.size rfl 23 (u32s S) (0, 0) _ HN.out Tryd.underlying23 rfl HI.out ?_)
    | (refine wpList_store_row rfl 23 (.tmp 8) (.tmp 23) rfl w1.heap.size (u32s S) rfl rfl 23 _ (Go.heap_alloc_new _ _) HI.out HZ8.out (u32s_one _) ?_; rw [World.setRow_alloc_new]; generalize hw2 : World.alloc w1 _ = w2; have Hw2 := Lib.hid hw2; clear hw2))
  have hs1 := Low.out.size
  rw [S2.out] at hs1
  have low1 : Below w.heap.size w w1 := K2.out.trans (Low.out.mono K2.out.size)
  have hbase : MxI S w1.heap.size w.heap.size w w2 w2 := by
    rw [← Hw2.out]
    exact ⟨Go.heap_alloc_new _ _, fun _ _ _ => rfl, low1.alloc low1.size _⟩
  have size2 : w2.heap.size = w1.heap.size + 1 := by rw [← Hw2.out, World.size_alloc]
  have old2 : ∀ q, q < w1.heap.size → w2.heap[q]? = w1.heap[q]? := fun q hq => by rw [← Hw2.out]; exact Go.heap_alloc_old _ _ hq
  have hsl : ∀ wr X, MxI X w1.heap.size w.heap.size w w2 wr → RowK .u32 wr gl (sched l) := fun wr X hm => by
    have hq := Hrow.out.1
    have hb2 : wr.heap[gl]? = w1.heap[gl]? := (hm.old gl (by omega) (by omega)).trans (old2 gl hq)
    exact ⟨by have := (Array.getElem?_eq_some_iff.1 hm.st).1; omega, fun j hj => (World.cell?_of_block hb2).trans (Hrow.out.2 j hj)⟩
  have hsa : ∀ wr X, MxI X w1.heap.size w.heap.size w w2 wr → RowK .u32 wr ga KW := fun wr X hm => HA.out.later hm.low
  have hsn : ∀ wr X, MxI X w1.heap.size w.heap.size w w2 wr → wr.heap[w.heap.size]? = some (.cells (u32s S) 23 (0, 0)) := fun wr X hm => ((hm.old _ (by omega) (by omega)).trans (old2 _ (by omega))).trans HN.out
  have hsz : ∀ wr X, MxI X w1.heap.size w.heap.size w w2 wr → wr.heap[w.heap.size + 1]? = some (.cells #[.int .u32 0, .int .u32 0, .int .u32 0, .int .u32 0, .int .u32 0, .int .u32 0, .int .u32 0, .int .u32 0] 23 (0, 0)) := fun wr X hm => ((hm.old _ (by omega) (by omega)).trans (old2 _ (by omega))).trans HZ.out
  have hNV : w.heap.size ≤ w1.heap.size := by omega
  have Base := Lib.hid hbase
  have Hsl := Lib.hid hsl
  have Hsa := Lib.hid hsa
  have Hsn := Lib.hid hsn
  have Hsz := Lib.hid hsz
  clear hbase hsl hsa hsn hsz size2 old2 low1 hs1 HN HZ Hrow Low Hgl Hw2 H2 K2 S2 HA Hc
  generalize w1.heap.size = V at *
  go_wp2
  go_loopw [9] (fun i wr => ∃ k : Nat, k ≤ 64 ∧ i = .int .i64 k ∧ Hid (MxI (rounds KW l s k).list V w.heap.size w w2 wr)) (fun i _ => 64 - (intOf i).toNat)
  case atStart => exact ⟨0, by omega, rfl, by { have h := Base.out; rw [HS.out] at h; exact h }⟩
  case round =>
    obtain ⟨k, hk, rfl, hm⟩ := hrel
    by_cases hlt : k < 64
    · have hltI : (k : Int) < 64 := by omega
      obtain ⟨t, ht⟩ : ∃ t, rounds KW l s k = t := ⟨_, rfl⟩
      have hm1 := hm.out
      rw [ht] at hm1
      obtain ⟨a', b', c', d', e', f', g', h'⟩ := t
      have Hst := Lib.hid ht
      have ck := (Hsa.out _ _ hm1).2 k hlt
      have cs := (Hsl.out _ _ hm1).2 k (by rw [sched_length]; exact hlt)
      rw [← W_of_sched] at cs
      obtain ⟨Kk, hKk⟩ : ∃ x, x = KW.getD k 0 := ⟨_, rfl⟩
      rw [← hKk] at ck
      have HKk := Lib.hid hKk
      have c0 := cell_row hm1.st 0
      have c1 := cell_row hm1.st 1
      have c2 := cell_row hm1.st 2
      have c3 := cell_row hm1.st 3
      have c4 := cell_row hm1.st 4
      have c5 := cell_row hm1.st 5
      have c6 := cell_row hm1.st 6
      have c7 := cell_row hm1.st 7
      simp only [u32s, W8.list, List.map_cons, List.map_nil, List.getElem?_toArray, List.getElem?_cons_zero, List.getElem?_cons_succ] at c0 c1 c2 c3 c4 c5 c6 c7
      have Hm1 := Lib.hid hm1
      clear ht hKk hm hm1
      go_wp2
      go_quiet (fail)
      go_wp2
      obtain ⟨wa, hwa⟩ : ∃ wa, wa = wr.drewN nq := ⟨_, rfl⟩
      rw [← hwa]
      have Hm2 : Hid (MxI (W8.mk a' b' c' d' e' f' g' h').list V w.heap.size w w2 wa) := by rw [hwa]; exact Hm1.out.drewN nq
      have ck2 : wa.cell? ⟨ga, k, none⟩ = some (.int .u32 Kk) := by rw [hwa]; exact ck
      have cs2 : wa.cell? ⟨gl, k, none⟩ = some (.int .u32 (W l k)) := by rw [hwa]; exact cs
      clear hwa c0 c1 c2 c3 c4 c5 c6 c7 ck cs Hm1
      go_quiet ((go_at_call 49; exact Calls.quiet_of_same (rr_same _ _ (by decide) (by decide) _)))
      go_wp2_with (first
        | (go_at_call 49; refine (rr_same _ _ (by decide) (by decide) _).mono ?_; rintro e0 w0 ⟨rfl, rfl⟩)
        | (refine wpList_store_row rfl 23 (.tmp 8) (.tmp 105) rfl V (u32s (rounds KW l s (k + 1)).list) rfl (by rw [rounds_step Hst.out HKk.out]; exact round_agg a' b' c' d' e' f' g' h' Kk (W l k) _ _ (add_mod1 _ _) (add_mod2 _ _)) 23 _ Hm2.out.st info23 rfl (u32s_one _) ?_))
      go_roundw
      case rel => exact ⟨k + 1, by omega, by go_num, (Hm2.out.drewN _).row hNV _⟩
      case measure => simp [intOf]; omega
    · have hge : ¬ (k : Int) < 64 := by omega
      have e64 : k = 64 := by omega
      obtain ⟨t, ht⟩ : ∃ t, rounds KW l s 64 = t := ⟨_, rfl⟩
      have hm1 := hm.out
      rw [e64, ht] at hm1
      have Hst := Lib.hid ht
      have ht8 : t.list.length = 8 := rfl
      obtain ⟨T, hT⟩ : ∃ T, T = t.list := ⟨_, rfl⟩
      rw [← hT] at hm1 ht8
      have HT := Lib.hid hT
      have Ht8 := Lib.hid ht8
      have Hm1 := Lib.hid hm1
      clear ht hT ht8 hm hm1 e64 hk hlt
      obtain ⟨wo, hwo⟩ : ∃ wo, wo = wr := ⟨_, rfl⟩
      subst hwo
      go_wp2
      go_loopw [20] (fun i wr => ∃ j : Nat, j ≤ 8 ∧ i = .int .i64 j ∧ Hid (MxI (addN S T j) V w.heap.size w w2 wr)) (fun i _ => 8 - (intOf i).toNat)
      case atStart => exact ⟨0, by omega, rfl, by rw [addN_zero _ _ Ht8.out]; exact Hm1.out⟩
      case round =>
        obtain ⟨j, hk, rfl, hm⟩ := hrel
        by_cases hlt : j < 8
        · have hltI : (j : Int) < 8 := by omega
          obtain ⟨x, hx⟩ : ∃ x, x = S.getD j 0 := ⟨_, rfl⟩
          obtain ⟨y, hy⟩ : ∃ y, y = T.getD j 0 := ⟨_, rfl⟩
          have cy : wr.cell? ⟨V, j, none⟩ = some (.int .u32 y) := by rw [row32_cell hm.out.st j (by rw [addN_length]; exact hlt), addN_at _ _ _ hlt, hy]
          have cx : wr.cell? ⟨w.heap.size, j, none⟩ = some (.int .u32 x) := by
            rw [row32_cell (Hsn.out _ _ hm.out) j (by rw [HS8.out]; exact hlt), hx]
          have hfz := free_row hm.out.st j
          have hn := addN_next S T j
          rw [← hx, ← hy] at hn
          have hn2 : (addN S T j).set j ((y + x) % 4294967296) = addN S T (j + 1) := by rw [← hn, Int.add_comm]; rfl
          have Hn := Lib.hid hn2
          clear hx hy hn hn2
          go_wp2
          refine wp_region_still_tail 9 (by kernel_rfl) (by kernel_rfl) ?_
          simp only [List.take_succ_cons, List.take_zero, List.drop_succ_cons, List.drop_zero]
          change wpStill _ _ wr.drew _ _ _
          repeat (refine wpStill_step (fun K hK => ?_); go_simp; refine hK _ ?_; clear hK K)
          refine wpStill_nil ?_
          change wpList _ _ _ _ _ wr.drew
          go_wp2
          go_roundw
          case rel => exact ⟨j + 1, by omega, by go_num, by rw [← Hn.out]; exact (hm.out.drewN 1).set hNV j _⟩
          case measure => simp [intOf]; omega
        · have hge8 : ¬ (j : Int) < 8 := by omega
          have e8 : j = 8 := by omega
          have hfin : addN S T 8 = (mixK KW s l).list := by
            rw [HS.out, HT.out, addN_all, mixK_eq Hst.out]; rfl
          have hm1 := hm.out
          rw [e8, hfin] at hm1
          obtain ⟨R, hR⟩ : ∃ R, R = (mixK KW s l).list := ⟨_, rfl⟩
          have hRl : R.length = 8 := by rw [hR]; rfl
          rw [← hR] at hm1
          have Hz := Lib.hid (Hsz.out _ _ hm1)
          have Hsz8 : Hid ((Tryd.prog.info? 23).map (·.size) = some (u32s R).size) := by show _ = _; rw [u32s_size, hRl]; exact info23
          have Hzz : Hid ((#[.int .u32 0, .int .u32 0, .int .u32 0, .int .u32 0, .int .u32 0, .int .u32 0, .int .u32 0, .int .u32 0] : Array Value).size = (u32s R).size) := by show _ = _; rw [u32s_size, hRl]; rfl
          have Hm1 := Lib.hid hm1
          have HR := Lib.hid hR
          have low := hm1.low
          clear hm hm1 hfin hR hRl e8 hk hlt
          go_wp2_with (first | (refine wpList_load_row rfl 23 (.tmp 8) rfl V rfl 23 (u32s R) (0, 0) _ Hm1.out.st Tryd.underlying23 rfl Hsz8.out ?_) | (refine wpList_store_row rfl 23 (.tmp 6) (.tmp 119) rfl (w.heap.size + 1) (u32s R) rfl rfl 23 _ Hz.out Hsz8.out Hzz.out (u32s_one _) ?_))
          rw [← HR.out]
          exact bodyPost_ret (v := .agg (u32s R)) (results_cell_row rfl _ _ (w.heap.size + 1) 23 _ (0, 0) _ rfl (setRow_heap wr _ _ _ _ _ Hz.out) Tryd.underlying23 rfl Hsz8.out) rfl ⟨rfl, below_setRow low (by omega) _⟩
end Go.Proofs.YtblgblhoolpmiaaDoor
