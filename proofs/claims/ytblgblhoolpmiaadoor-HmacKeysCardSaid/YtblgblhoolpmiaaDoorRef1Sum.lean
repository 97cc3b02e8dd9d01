/- DERIVED. The contracts of the reference's fold and Sum of layer 1. -/
import Derived.Test.YtblgblhoolpmiaaDoorRef1Mix
import Derived.Test.YtblgblhoolpmiaaDoorRef1Adds
import Derived.Test.YtblgblhoolpmiaaDoorRef1Pad
import Derived.Test.YtblgblhoolpmiaaDoorRef1Fold
import Derived.Test.YtblgblhoolpmiaaDoorShaApp
namespace Go.Proofs.YtblgblhoolpmiaaDoor
open Go.RowKit
/-- a state's words of the reference, loaded as a whole. -/
noncomputable def load8A (v : Value) : Sem Value := Instr.loadAt 23 v
theorem loadAt8A (v : Value) : Instr.loadAt 23 v = load8A v := rfl
theorem load8A_eq {w : World} {g : Nat} {L : List Int} (hl : L.length = 8) (h : w.heap[g]? = some (.cells (u32s L) 23 (0, 0))) : (load8A (.pointer (some ⟨g, 0, none⟩))).run Tryd.prog w = .ok (.agg (u32s L)) w := by
  have hi : (Tryd.prog.info? 23).map (·.size) = some (u32s L).size := by rw [u32s_size, hl]; exact info23
  unfold load8A
  simp only [Instr.loadAt, Instr.sureAddr, Sem.run_bind, Sem.run_pure, Result.andThen_ok, run_loadVar_row w g 23 23 _ (0, 0) _ h Tryd.underlying23 rfl hi]
attribute [irreducible] load8A
attribute [local go_sem ↓ high] loadAt8A
/-- what the loop of fold keeps. -/
structure FoI (X : List Int) (N : Nat) (w w1 wr : World) : Prop where
  st : wr.heap[N]? = some (.cells (u32s X) 23 (0, 0))
  old : ∀ g, g < w1.heap.size → g ≠ N → wr.heap[g]? = w1.heap[g]?
  sz : w1.heap.size ≤ wr.heap.size
  low : Below N w wr
theorem FoI.later {X : List Int} {N : Nat} {w w1 wr wx : World} (h : FoI X N w w1 wr) (hb : Below wr.heap.size wr wx) : FoI X N w w1 wx := by
  have h1 := (Array.getElem?_eq_some_iff.1 h.st).1
  exact ⟨(hb.block _ h1).trans h.st, fun g hg hne => (hb.block g (Nat.lt_of_lt_of_le hg h.sz)).trans (h.old g hg hne), Nat.le_trans h.sz hb.size, h.low.trans (hb.mono (by omega))⟩
theorem FoI.row {X : List Int} {N : Nat} {w w1 wr : World} (h : FoI X N w w1 wr) (Y : List Int) : FoI Y N w w1 (wr.setRow N (u32s Y)) :=
  ⟨setRow_heap wr _ _ _ _ _ h.st, fun g hg hne => by rw [setRow_other wr _ _ _ hne]; exact h.old g hg hne, by have := (below_setRow (Below.refl N wr) (Nat.le_refl _) (u32s Y)).size; exact Nat.le_trans h.sz this, below_setRow h.low (Nat.le_refl _) _⟩
set_option maxRecDepth 100000 in
set_option maxHeartbeats 2000000 in
theorem rfold_any (s : W8) (L : List Int) (g c n : Nat) (w : World) (hn : L.length = n) (hb : InB L) (hB : Byt w (some ⟨g, 0, none⟩) c L) (hn1 : n ≤ 1000000) (h0 : 0 < n) :
    Calls Tryd.prog 36 #[.agg (u32s s.list), .slice (some ⟨g, 0, none⟩) n c] w fun e' w' => e' = .returned (.agg (u32s (foldB s L (n / 64)).list)) ∧ Below w.heap.size w w' := by
  have Hn := Lib.hid hn
  have Hb := Lib.hid hb
  obtain ⟨g', off', hgg, hgl, hcell⟩ := hB.2.2 (by omega)
  injection hgg with hgg
  injection hgg with e1 e2 e3
  subst e1 e2
  have hcn := hB.1
  rw [hn] at hcn
  have Hcell := Lib.hid hcell
  obtain ⟨S, hS⟩ : ∃ S, S = s.list := ⟨_, rfl⟩
  have hS8 : S.length = 8 := by rw [hS]; rfl
  rw [← hS]
  have HS := Lib.hid hS
  have h2 := two_new w (.cells (u32s S) 23) (.cells #[.int .u32 0, .int .u32 0, .int .u32 0, .int .u32 0, .int .u32 0, .int .u32 0, .int .u32 0, .int .u32 0] 23)
  have k2 : Below w.heap.size w ((w.alloc (.cells (u32s S) 23)).alloc (.cells #[.int .u32 0, .int .u32 0, .int .u32 0, .int .u32 0, .int .u32 0, .int .u32 0, .int .u32 0, .int .u32 0] 23)) := ((Below.refl _ _).alloc (Nat.le_refl _) _).alloc (by simp) _
  have s2 : ((w.alloc (.cells (u32s S) 23)).alloc (.cells #[.int .u32 0, .int .u32 0, .int .u32 0, .int .u32 0, .int .u32 0, .int .u32 0, .int .u32 0, .int .u32 0] 23)).heap.size = w.heap.size + 2 := by simp
  have H2 := Lib.hid h2
  have K2 := Lib.hid k2
  have S2 := Lib.hid s2
  clear hn hb hB hS hS8 h2 k2 s2 hcell
  go_enter Tryd.func36, Tryd.ntmps36
  go_wp2_with (go_at_call 31; refine (adds_any _).mono ?_; rintro e w1 ⟨ga, capa, rfl, hga, hrow, low⟩; have Hrow := Lib.hid hrow; have Low := Lib.hid low; have Hga := Lib.hid hga; have HN := Lib.hid ((low.block _ (by rw [S2.out]; omega)).trans H2.out.1); have HZ := Lib.hid ((low.block _ (by rw [S2.out]; omega)).trans H2.out.2); clear hrow low hga)
  have hs1 := Low.out.size
  rw [S2.out] at hs1
  have hga := Hga.out
  rw [S2.out] at hga
  have hbase : FoI S w.heap.size w w1 w1 := ⟨HN.out, fun _ _ _ => rfl, Nat.le_refl _, K2.out.trans (Low.out.mono K2.out.size)⟩
  have hsa : ∀ wr X, FoI X w.heap.size w w1 wr → RowK .u32 wr ga KW := fun wr X hm => ⟨Nat.lt_of_lt_of_le Hrow.out.1 hm.sz, fun j hj => (World.cell?_of_block (hm.old ga Hrow.out.1 (by omega))).trans (Hrow.out.2 j hj)⟩
  have hsz : ∀ wr X, FoI X w.heap.size w w1 wr → wr.heap[w.heap.size + 1]? = some (.cells #[.int .u32 0, .int .u32 0, .int .u32 0, .int .u32 0, .int .u32 0, .int .u32 0, .int .u32 0, .int .u32 0] 23 (0, 0)) := fun wr X hm => (hm.old _ (by omega) (by omega)).trans HZ.out
  have Base := Lib.hid hbase
  have Hsa := Lib.hid hsa
  have Hsz := Lib.hid hsz
  clear hbase hsa hsz hs1 hga HN HZ Hrow Low Hga H2 K2 S2
  go_loopw [6] (fun i wr => ∃ k : Nat, 64 * k ≤ n ∧ i = .int .i64 (64 * (k : Int)) ∧ Hid (FoI (foldB s L k).list w.heap.size w w1 wr)) (fun i _ => n + 64 - (intOf i).toNat)
  case atStart => exact ⟨0, by omega, rfl, by { have h := Base.out; rw [HS.out] at h; exact h }⟩
  case round =>
    obtain ⟨k, hk, rfl, hm⟩ := hrel
    by_cases hlt : 64 * k + 64 ≤ n
    · have hltI : 64 * (k : Int) + 64 ≤ n := by omega
      have l6 := load8A_eq (L := (foldB s L k).list) rfl (hm.out.later (Below.refl _ _).drew).st
      obtain ⟨X, hX⟩ : ∃ X, X = (foldB s L k).list := ⟨_, rfl⟩
      have hne : ¬ c = 64 * k := by omega
      have t64 : (64 * (k : Int)).toNat = 64 * k := by omega
      have t65 : (64 * (k : Int) + 64).toNat = 64 * k + 64 := by omega
      have u1 : 0 ≤ 64 * (k : Int) := by omega
      have u2 : 64 * (k : Int) ≤ (c : Int) := by omega
      have u3 : 64 * (k : Int) + 64 ≤ (c : Int) := by omega
      have u4 : 64 * (k : Int) ≤ 64 * (k : Int) + 64 := by omega
      have u5 : 64 * k + 64 - 64 * k = 64 := by omega
      have ew : IntKind.i64.wrap (64 * (k : Int) + 64) = 64 * (k : Int) + 64 := IntWalk.i64_in _ (by omega)
      have hmd := hm.out.later (wx := wr.drew) (Below.refl _ _).drew
      have hcl : ∀ j, j < 64 → wr.drew.cell? ⟨g, 64 * k + j, none⟩ = some (.int .u8 ((blk L k).getD j 0)) := fun j hj => by
        rw [hmd.low.cell (p := ⟨g, 64 * k + j, none⟩) hgl]
        have h := Hcell.out (64 * k + j) (by rw [Hn.out]; omega)
        rw [Nat.zero_add] at h
        rw [h]
        simp [blk, List.getD_eq_getElem?_getD, List.getElem?_drop, hj]
      have hmix := rmix_any (foldB s L k) (blk L k) (Hb.out.blk k) g (64 * k) (c - 64 * k) ga capa wr.drew (Nat.lt_of_lt_of_le hgl hmd.low.size) hcl (Hsa.out _ _ hmd)
      rw [← hX] at l6 hmix hmd
      have HX := Lib.hid hX
      have Hmix := Lib.hid hmix
      have Hmd := Lib.hid hmd
      clear hX hcl hmix hmd hm
      go_wp2_with fail
      refine wp_region_still_tail 7 (by kernel_rfl) (by kernel_rfl) ?_
      simp only [List.take_succ_cons, List.take_zero, List.drop_succ_cons, List.drop_zero]
      change wpStill _ _ wr.drew _ _ _
      repeat (refine wpStill_step (fun K hK => ?_); go_simp; refine hK _ ?_; clear hK K)
      refine wpStill_nil ?_
      change wpList _ _ _ _ _ wr.drew
      go_wp2_with (first
        | (go_at_call 30; refine Hmix.out.mono ?_; rintro e w7 ⟨rfl, low7⟩; have Hm7 := Lib.hid (Hmd.out.later low7); have Hi8 : Hid ((Tryd.prog.info? 23).map (·.size) = some (u32s (foldB s L (k + 1)).list).size) := info23; clear low7)
        | (refine wpList_store_row rfl 23 (.tmp 2) (.tmp 22) rfl w.heap.size (u32s (foldB s L (k + 1)).list) rfl rfl 23 _ Hm7.out.st Hi8.out (by rw [HX.out]; rfl) (u32s_one _) ?_))
      go_roundw
      case rel => exact ⟨k + 1, by omega, by go_num, Hm7.out.row _⟩
      case measure => simp [intOf]; omega
    · have hltI : ¬ 64 * (k : Int) + 64 ≤ n := by omega
      obtain ⟨R, hR⟩ : ∃ R, R = (foldB s L k).list := ⟨_, rfl⟩
      have hk2 : k = n / 64 := by omega
      have hRl : R.length = 8 := by rw [hR]; rfl
      have hm1 := hm.out
      rw [← hR] at hm1
      have hR2 : R = (foldB s L (n / 64)).list := by rw [hR, hk2]
      have Hz := Lib.hid (Hsz.out _ _ hm1)
      have Hsz8 : Hid ((Tryd.prog.info? 23).map (·.size) = some (u32s R).size) := by show _ = _; rw [u32s_size, hRl]; exact info23
      have Hzz : Hid ((#[.int .u32 0, .int .u32 0, .int .u32 0, .int .u32 0, .int .u32 0, .int .u32 0, .int .u32 0, .int .u32 0] : Array Value).size = (u32s R).size) := by show _ = _; rw [u32s_size, hRl]; rfl
      have Hm1 := Lib.hid hm1
      have HR := Lib.hid hR2
      have low := hm1.low
      clear hm hm1 hR hRl hR2 hk2
      go_wp2_with (first | (refine wpList_load_row rfl 23 (.tmp 2) rfl w.heap.size rfl 23 (u32s R) (0, 0) _ Hm1.out.st Tryd.underlying23 rfl Hsz8.out ?_) | (refine wpList_store_row rfl 23 (.tmp 4) (.tmp 23) rfl (w.heap.size + 1) (u32s R) rfl rfl 23 _ Hz.out Hsz8.out Hzz.out (u32s_one _) ?_))
      rw [← HR.out]
      exact bodyPost_ret (v := .agg (u32s R)) (results_cell_row rfl _ _ (w.heap.size + 1) 23 _ (0, 0) _ rfl (setRow_heap wr _ _ _ _ _ Hz.out) Tryd.underlying23 rfl Hsz8.out) rfl ⟨rfl, below_setRow low (by omega) _⟩
set_option maxRecDepth 100000 in
set_option maxHeartbeats 2000000 in
theorem rsum_any (L : List Int) (A : Option Addr) (c m : Nat) (w : World) (hm : L.length = m) (hb : InB L) (hB : Byt w A c L) (hn : m ≤ 90000) :
    Calls Tryd.prog 16 #[.slice A m c] w fun e' w' => e' = .returned (.agg (u8s (sumL L))) ∧ Below w.heap.size w w' := by
  have Hm := Lib.hid hm
  have Hb := Lib.hid hb
  obtain ⟨W1, hW1⟩ : ∃ W1, W1 = w.alloc (.cells zero32 35) := ⟨_, rfl⟩
  have low0 : Below w.heap.size w W1 := by rw [hW1]; exact (Below.refl _ _).alloc (Nat.le_refl _) _
  have new0 : W1.heap[w.heap.size]? = some (.cells zero32 35 (0, 0)) := by rw [hW1]; exact Go.heap_alloc_new w _
  have sz0 : W1.heap.size = w.heap.size + 1 := by rw [hW1, World.size_alloc]
  have HW1 : Hid (w.alloc (.cells #[.int .u8 0, .int .u8 0, .int .u8 0, .int .u8 0, .int .u8 0, .int .u8 0, .int .u8 0, .int .u8 0, .int .u8 0, .int .u8 0, .int .u8 0, .int .u8 0, .int .u8 0, .int .u8 0, .int .u8 0, .int .u8 0, .int .u8 0, .int .u8 0, .int .u8 0, .int .u8 0, .int .u8 0, .int .u8 0, .int .u8 0, .int .u8 0, .int .u8 0, .int .u8 0, .int .u8 0, .int .u8 0, .int .u8 0, .int .u8 0, .int .u8 0, .int .u8 0] 35) = W1) := hW1.symm
  have byt0 : Byt W1 A c L := hB.below low0 (Nat.le_refl _)
  obtain ⟨P, hP⟩ : ∃ P, P = padLen m := ⟨_, rfl⟩
  have hP1 : 9 ≤ P := by rw [hP]; unfold padLen; omega
  have hP2 : P ≤ 72 := by have := zeros_lt m; rw [hP]; unfold padLen; omega
  have hsum : sumL L = hashL (foldB S0 (L ++ padL m) ((m + P) / 64)).list := by rw [sumL, fin_eq, hm, ← hP]
  have Low0 := Lib.hid low0
  have New0 := Lib.hid new0
  have Sz0 := Lib.hid sz0
  have Byt0 := Lib.hid byt0
  have HP := Lib.hid hP
  have Hsum := Lib.hid hsum
  have Hbh : Hid (∀ W : World, Calls Tryd.prog 13 #[.int .i64 (m : Int)] W fun e' w' => ∃ g c, e' = .returned (.slice (some ⟨g, 0, none⟩) P c) ∧ P ≤ c ∧ W.heap.size ≤ g ∧ RowK .u8 w' g (padL m) ∧ Below W.heap.size W w') := by
    show ∀ W : World, _
    intro W; rw [hP]; exact rbehind_any m (by omega) W
  clear hm hb hB hW1 low0 new0 sz0 byt0 hP hsum
  go_enter Tryd.func16, Tryd.ntmps16
  go_upto_region 1 with fail
  rw [HW1.out]
  go_wp2_with (first
    | (at_builtin; refine lawAnybody.wpList_append_byt rfl (.tmp 4) (.tmp 5) rfl W1.heap.size _ 0 [] rfl (World.ownsRow_nil _ _ _ _) A m c L rfl Hm.out Byt0.out (by omega) (Nat.le_refl _) ?_; intro v1 w1 hown1 hlow1 _; have Low1 := Lib.hid (hlow1 _ _ (Below.refl W1.heap.size W1) (Nat.le_refl _)); simp only [List.nil_append, Nat.zero_add] at hown1; have Own1 := Lib.hid hown1; clear hown1 hlow1)
    | (go_at_call 13; refine (Hbh.out w1).mono ?_; rintro e w2 ⟨gp, cp, rfl, hcp, hgp, hrow2, low2⟩; have Hp2 := Lib.hid (hrow2.byt (c := cp) (by rw [padL_length, ← HP.out]; exact hcp)); have Own2 := Lib.hid (own_below Own1.out low2); have Low2 := Lib.hid (Low1.out.trans (low2.mono Low1.out.size)); clear hrow2 low2)
    | (at_builtin; refine lawAnybody.wpList_append_byt rfl (.tmp 7) (.tmp 10) rfl W1.heap.size v1 m L rfl Own2.out (some ⟨gp, 0, none⟩) P cp (padL m) rfl (by rw [padL_length, ← HP.out]) Hp2.out (by omega) Low2.out.size ?_; intro v2 w3 hown3 hlow3 _; have Low3 := Lib.hid (hlow3 _ _ Low2.out (Nat.le_refl _)); obtain ⟨g, c3, hv2, byt3, hlen3, hg3⟩ := own_form hown3 (by omega); subst hv2; have Byt3 := Lib.hid byt3; have Hlen3 := Lib.hid hlen3; clear hown3 hlow3 byt3 hlen3)
    | (go_at_call 9; refine (rstart_any w3).mono ?_; rintro e w4 ⟨rfl, low4⟩; have Byt4 := Lib.hid (Byt3.out.below low4 (Nat.le_refl _)); have Low4 := Lib.hid (Low3.out.trans (low4.mono Low3.out.size)); clear low4)
    | (go_at_call 36; refine (rfold_any S0 (L ++ padL m) g c3 (m + P) w4 Hlen3.out (Hb.out.append (padL_in m)) Byt4.out (by omega) (by omega)).mono ?_; rintro e w5 ⟨rfl, low5⟩; have Low5 := Lib.hid (Low4.out.trans (low5.mono Low4.out.size)); clear low5)
    | (go_at_call 35; refine (rtold_any _ rfl w5).mono ?_; rintro e w6 ⟨rfl, low6⟩; rw [← Hsum.out]; have Low6 := Lib.hid (Low5.out.trans (low6.mono Low5.out.size)); have Hz := Lib.hid ((Low6.out.block _ (by rw [Sz0.out]; omega)).trans New0.out); have H35 : Hid ((Tryd.prog.info? 35).map (·.size) = some (u8s (sumL L)).size) := (by show _ = _; rw [u8s_size, sumL, fin, hashL_length]; exact info35); clear low6)
    | (refine wpList_store_row rfl 35 (.tmp 2) (.tmp 15) rfl w.heap.size (u8s (sumL L)) rfl rfl 35 _ Hz.out H35.out (by rw [u8s_size, sumL, fin, hashL_length]; rfl) (u8s_one _) ?_))
  exact bodyPost_ret (v := .agg (u8s (sumL L))) (results_cell_row rfl _ _ w.heap.size 35 _ (0, 0) _ rfl (setRow_heap w6 _ _ _ _ _ Hz.out) Tryd.underlying35 rfl H35.out) rfl ⟨rfl, below_setRow (Low0.out.trans (Low6.out.mono Low0.out.size)) (Nat.le_refl _) _⟩
end Go.Proofs.YtblgblhoolpmiaaDoor
