/- DERIVED. Texts of ours, merged: XRef1Sum XOwn2 XRef2Sum. -/
import Derived.Test.YtgkmbamoffolgaaDoorMseal19
import Derived.Test.YtgkmbamoffolgaaDoorMseal20
import Derived.Test.YtgkmbamoffolgaaDoorMseal5
import Derived.Test.YtgkmbamoffolgaaDoorMseal18
import Derived.Test.YtgkmbamoffolgaaDoorMseal3
/- DERIVED. The contracts of the reference's fold and Sum of layer 1. -/
namespace Go.Proofs.YtgkmbamoffolgaaDoor
open Go.RowKit
/-- a state's words of the reference, loaded as a whole. -/
noncomputable def load8A (v : Value) : Sem Value := Instr.loadAt 76 v
theorem loadAt8A (v : Value) : Instr.loadAt 76 v = load8A v := rfl
theorem load8A_eq {w : World} {g : Nat} {L : List Int} (hl : L.length = 8) (h : w.heap[g]? = some (.cells (u32s L) 76 (0, 0))) : (load8A (.pointer (some ⟨g, 0, none⟩))).run Tryd.prog w = .ok (.agg (u32s L)) w := by
  have hi : (Tryd.prog.info? 76).map (·.size) = some (u32s L).size := by rw [u32s_size, hl]; exact info23
  unfold load8A
  simp only [Instr.loadAt, Instr.sureAddr, Sem.run_bind, Sem.run_pure, Result.andThen_ok, run_loadVar_row w g 76 76 _ (0, 0) _ h Tryd.underlying76 rfl hi]
attribute [irreducible] load8A
attribute [local go_sem ↓ high] loadAt8A
/-- what the loop of fold keeps. -/
structure FoI (X : List Int) (N : Nat) (w w1 wr : World) : Prop where
  st : wr.heap[N]? = some (.cells (u32s X) 76 (0, 0))
  old : ∀ g, g < w1.heap.size → g ≠ N → wr.heap[g]? = w1.heap[g]?
  sz : w1.heap.size ≤ wr.heap.size
  low : Below N w wr
theorem FoI.later {X : List Int} {N : Nat} {w w1 wr wx : World} (h : FoI X N w w1 wr) (hb : Below wr.heap.size wr wx) : FoI X N w w1 wx := by
  have h1 := (Array.getElem?_eq_some_iff.1 h.st).1
  exact ⟨(hb.block _ h1).trans h.st, fun g hg hne => (hb.block g (Nat.lt_of_lt_of_le hg h.sz)).trans (h.old g hg hne), Nat.le_trans h.sz hb.size, h.low.trans (hb.mono (by omega))⟩
theorem FoI.row {X : List Int} {N : Nat} {w w1 wr : World} (h : FoI X N w w1 wr) (Y : List Int) : FoI Y N w w1 (wr.setRow N (u32s Y)) :=
  ⟨setRow_heap wr _ _ _ _ _ h.st, fun g hg hne => by rw [setRow_other wr _ _ _ hne]; exact h.old g hg hne, by have := (below_setRow (Below.refl N wr) (Nat.le_refl _) (u32s Y)).size; exact Nat.le_trans h.sz this, below_setRow h.low (Nat.le_refl _) _⟩
set_option maxRecDepth 100000 in
set_option maxHeartbeats 2000000 in
theorem rfold_any (s : W8) (L : List Int) (g c n : Nat) (w : World) (hn : L.length = n) (hb : InB L) (hB : Byt w (some ⟨g, 0, none⟩) c L) (hn1 : n ≤ 1000000) (h0 : 0 < n) :
    Calls Tryd.prog 69 #[.agg (u32s s.list), .slice (some ⟨g, 0, none⟩) n c] w fun e' w' => e' = .returned (.agg (u32s (foldB s L (n / 64)).list)) ∧ Below w.heap.size w w' := by
  have Hn := Lib.hid hn
  have Hb := Lib.hid hb
  obtain ⟨g', off', hgg, hgl, hcell⟩ := hB.2.2 (by omega)
  injection hgg with hgg
  injection hgg with e1 e2 e3
  subst e1 e2
  have hcn := hB.1
  rw [hn] at hcn
  have Hcell := Lib.hid hcell
  obtain ⟨S, hS⟩ : ∃ S, S = s.list := ⟨_, rfl⟩
  have hS8 : S.length = 8 := by rw [hS]; rfl
  rw [← hS]
  have HS := Lib.hid hS
  have h2 := two_new w (.cells (u32s S) 76) (.cells #[.int .u32 0, .int .u32 0, .int .u32 0, .int .u32 0, .int .u32 0, .int .u32 0, .int .u32 0, .int .u32 0] 76)
  have k2 : Below w.heap.size w ((w.alloc (.cells (u32s S) 76)).alloc (.cells #[.int .u32 0, .int .u32 0, .int .u32 0, .int .u32 0, .int .u32 0, .int .u32 0, .int .u32 0, .int .u32 0] 76)) := ((Below.refl _ _).alloc (Nat.le_refl _) _).alloc (by simp) _
  have s2 : ((w.alloc (.cells (u32s S) 76)).alloc (.cells #[.int .u32 0, .int .u32 0, .int .u32 0, .int .u32 0, .int .u32 0, .int .u32 0, .int .u32 0, .int .u32 0] 76)).heap.size = w.heap.size + 2 := by simp
  have H2 := Lib.hid h2
  have K2 := Lib.hid k2
  have S2 := Lib.hid s2
  clear hn hb hB hS hS8 h2 k2 s2 hcell
  go_enter Tryd.func69, Tryd.ntmps69
  go_wp2_with (go_at_call 76; refine (adds_any _).mono ?_; rintro e w1 ⟨ga, capa, rfl, hga, hrow, low⟩; have Hrow := Lib.hid hrow; have Low := Lib.hid low; have Hga := Lib.hid hga; have HN := Lib.hid ((low.block _ (by rw [S2.out]; omega)).trans H2.out.1); have HZ := Lib.hid ((low.block _ (by rw [S2.out]; omega)).trans H2.out.2); clear hrow low hga)
  have hs1 := Low.out.size
  rw [S2.out] at hs1
  have hga := Hga.out
  rw [S2.out] at hga
  have hbase : FoI S w.heap.size w w1 w1 := ⟨HN.out, fun _ _ _ => rfl, Nat.le_refl _, K2.out.trans (Low.out.mono K2.out.size)⟩
  have hsa : ∀ wr X, FoI X w.heap.size w w1 wr → RowK .u32 wr ga KW := fun wr X hm => ⟨Nat.lt_of_lt_of_le Hrow.out.1 hm.sz, fun j hj => (World.cell?_of_block (hm.old ga Hrow.out.1 (by omega))).trans (Hrow.out.2 j hj)⟩
  have hsz : ∀ wr X, FoI X w.heap.size w w1 wr → wr.heap[w.heap.size + 1]? = some (.cells #[.int .u32 0, .int .u32 0, .int .u32 0, .int .u32 0, .int .u32 0, .int .u32 0, .int .u32 0, .int .u32 0] 76 (0, 0)) := fun wr X hm => (hm.old _ (by omega) (by omega)).trans HZ.out
  have Base := Lib.hid hbase
  have Hsa := Lib.hid hsa
  have Hsz := Lib.hid hsz
  clear hbase hsa hsz hs1 hga HN HZ Hrow Low Hga H2 K2 S2
  go_loopw [6] (fun i wr => ∃ k : Nat, 64 * k ≤ n ∧ i = .int .i64 (64 * (k : Int)) ∧ Hid (FoI (foldB s L k).list w.heap.size w w1 wr)) (fun i _ => n + 64 - (intOf i).toNat)
  case atStart => exact ⟨0, by omega, rfl, by { have h := Base.out; rw [HS.out] at h; exact h }⟩
  case round =>
    obtain ⟨k, hk, rfl, hm⟩ := hrel
    by_cases hlt : 64 * k + 64 ≤ n
    · have hltI : 64 * (k : Int) + 64 ≤ n := by omega
      have l6 := load8A_eq (L := (foldB s L k).list) rfl (hm.out.later (Below.refl _ _).drew).st
      obtain ⟨X, hX⟩ : ∃ X, X = (foldB s L k).list := ⟨_, rfl⟩
      have hne : ¬ c = 64 * k := by omega
      have t64 : (64 * (k : Int)).toNat = 64 * k := by omega
      have t65 : (64 * (k : Int) + 64).toNat = 64 * k + 64 := by omega
      have u1 : 0 ≤ 64 * (k : Int) := by omega
      have u2 : 64 * (k : Int) ≤ (c : Int) := by omega
      have u3 : 64 * (k : Int) + 64 ≤ (c : Int) := by omega
      have u4 : 64 * (k : Int) ≤ 64 * (k : Int) + 64 := by omega
      have u5 : 64 * k + 64 - 64 * k = 64 := by omega
      have ew : IntKind.i64.wrap (64 * (k : Int) + 64) = 64 * (k : Int) + 64 := IntWalk.i64_in _ (by omega)
      have hmd := hm.out.later (wx := wr.drew) (Below.refl _ _).drew
      have hcl : ∀ j, j < 64 → wr.drew.cell? ⟨g, 64 * k + j, none⟩ = some (.int .u8 ((blk L k).getD j 0)) := fun j hj => by
        rw [hmd.low.cell (p := ⟨g, 64 * k + j, none⟩) hgl]
        have h := Hcell.out (64 * k + j) (by rw [Hn.out]; omega)
        rw [Nat.zero_add] at h
        rw [h]
        simp [blk, List.getD_eq_getElem?_getD, List.getElem?_drop, hj]
      have hmix := rmix_any (foldB s L k) (blk L k) (Hb.out.blk k) g (64 * k) (c - 64 * k) ga capa wr.drew (Nat.lt_of_lt_of_le hgl hmd.low.size) hcl (Hsa.out _ _ hmd)
      rw [← hX] at l6 hmix hmd
      have HX := Lib.hid hX
      have Hmix := Lib.hid hmix
      have Hmd := Lib.hid hmd
      clear hX hcl hmix hmd hm
      go_wp2_with fail
      refine wp_region_still_tail 7 (by kernel_rfl) (by kernel_rfl) ?_
      simp only [List.take_succ_cons, List.take_zero, List.drop_succ_cons, List.drop_zero]
      change wpStill _ _ wr.drew _ _ _
      repeat (refine wpStill_step (fun K hK => ?_); go_simp; refine hK _ ?_; clear hK K)
      refine wpStill_nil ?_
      change wpList _ _ _ _ _ wr.drew
      go_wp2_with (first
        | (go_at_call 77; refine Hmix.out.mono ?_; rintro e w7 ⟨rfl, low7⟩; have Hm7 := Lib.hid (Hmd.out.later low7); have Hi8 : Hid ((Tryd.prog.info? 76).map (·.size) = some (u32s (foldB s L (k + 1)).list).size) := info23; clear low7)
        | (refine wpList_store_row rfl 76 (.tmp 2) (.tmp 22) rfl w.heap.size (u32s (foldB s L (k + 1)).list) rfl rfl 76 _ Hm7.out.st Hi8.out (by rw [HX.out]; rfl) (u32s_one _) ?_))
      go_roundw
      case rel => exact ⟨k + 1, by omega, by go_num, Hm7.out.row _⟩
      case measure => simp [intOf]; omega
    · have hltI : ¬ 64 * (k : Int) + 64 ≤ n := by omega
      obtain ⟨R, hR⟩ : ∃ R, R = (foldB s L k).list := ⟨_, rfl⟩
      have hk2 : k = n / 64 := by omega
      have hRl : R.length = 8 := by rw [hR]; rfl
      have hm1 := hm.out
      rw [← hR] at hm1
      have hR2 : R = (foldB s L (n / 64)).list := by rw [hR, hk2]
      have Hz := Lib.hid (Hsz.out _ _ hm1)
      have Hsz8 : Hid ((Tryd.prog.info? 76).map (·.size) = some (u32s R).size) := by show _ = _; rw [u32s_size, hRl]; exact info23
      have Hzz : Hid ((#[.int .u32 0, .int .u32 0, .int .u32 0, .int .u32 0, .int .u32 0, .int .u32 0, .int .u32 0, .int .u32 0] : Array Value).size = (u32s R).size) := by show _ = _; rw [u32s_size, hRl]; rfl
      have Hm1 := Lib.hid hm1
      have HR := Lib.hid hR2
      have low := hm1.low
      clear hm hm1 hR hRl hR2 hk2
      go_wp2_with (first | (refine wpList_load_row rfl 76 (.tmp 2) rfl w.heap.size rfl 76 (u32s R) (0, 0) _ Hm1.out.st Tryd.underlying76 rfl Hsz8.out ?_) | (refine wpList_store_row rfl 76 (.tmp 4) (.tmp 23) rfl (w.heap.size + 1) (u32s R) rfl rfl 76 _ Hz.out Hsz8.out Hzz.out (u32s_one _) ?_))
      rw [← HR.out]
      exact bodyPost_ret (v := .agg (u32s R)) (results_cell_row rfl _ _ (w.heap.size + 1) 76 _ (0, 0) _ rfl (setRow_heap wr _ _ _ _ _ Hz.out) Tryd.underlying76 rfl Hsz8.out) rfl ⟨rfl, below_setRow low (by omega) _⟩
set_option maxRecDepth 100000 in
set_option maxHeartbeats 2000000 in
theorem rsum_any (L : List Int) (A : Option Addr) (c m : Nat) (w : World) (hm : L.length = m) (hb : InB L) (hB : Byt w A c L) (hn : m ≤ 90000) :
    Calls Tryd.prog 55 #[.slice A m c] w fun e' w' => e' = .returned (.agg (u8s (sumL L))) ∧ Below w.heap.size w w' := by
  have Hm := Lib.hid hm
  have Hb := Lib.hid hb
  obtain ⟨W1, hW1⟩ : ∃ W1, W1 = w.alloc (.cells zero32 23) := ⟨_, rfl⟩
  have low0 : Below w.heap.size w W1 := by rw [hW1]; exact (Below.refl _ _).alloc (Nat.le_refl _) _
  have new0 : W1.heap[w.heap.size]? = some (.cells zero32 23 (0, 0)) := by rw [hW1]; exact Go.heap_alloc_new w _
  have sz0 : W1.heap.size = w.heap.size + 1 := by rw [hW1, World.size_alloc]
  have HW1 : Hid (w.alloc (.cells #[.int .u8 0, .int .u8 0, .int .u8 0, .int .u8 0, .int .u8 0, .int .u8 0, .int .u8 0, .int .u8 0, .int .u8 0, .int .u8 0, .int .u8 0, .int .u8 0, .int .u8 0, .int .u8 0, .int .u8 0, .int .u8 0, .int .u8 0, .int .u8 0, .int .u8 0, .int .u8 0, .int .u8 0, .int .u8 0, .int .u8 0, .int .u8 0, .int .u8 0, .int .u8 0, .int .u8 0, .int .u8 0, .int .u8 0, .int .u8 0, .int .u8 0, .int .u8 0] 23) = W1) := hW1.symm
  have byt0 : Byt W1 A c L := hB.below low0 (Nat.le_refl _)
  obtain ⟨P, hP⟩ : ∃ P, P = padLen m := ⟨_, rfl⟩
  have hP1 : 9 ≤ P := by rw [hP]; unfold padLen; omega
  have hP2 : P ≤ 72 := by have := zeros_lt m; rw [hP]; unfold padLen; omega
  have hsum : sumL L = hashL (foldB S0 (L ++ padL m) ((m + P) / 64)).list := by rw [sumL, fin_eq, hm, ← hP]
  have Low0 := Lib.hid low0
  have New0 := Lib.hid new0
  have Sz0 := Lib.hid sz0
  have Byt0 := Lib.hid byt0
  have HP := Lib.hid hP
  have Hsum := Lib.hid hsum
  have Hbh : Hid (∀ W : World, Calls Tryd.prog 67 #[.int .i64 (m : Int)] W fun e' w' => ∃ g c, e' = .returned (.slice (some ⟨g, 0, none⟩) P c) ∧ P ≤ c ∧ W.heap.size ≤ g ∧ RowK .u8 w' g (padL m) ∧ Below W.heap.size W w') := by
    show ∀ W : World, _
    intro W; rw [hP]; exact rbehind_any m (by omega) W
  clear hm hb hB hW1 low0 new0 sz0 byt0 hP hsum
  go_enter Tryd.func55, Tryd.ntmps55
  go_upto_region 1 with fail
  rw [HW1.out]
  go_wp2_with (first
    | (at_builtin; refine lawAnybody.wpList_append_byt rfl (.tmp 4) (.tmp 5) rfl W1.heap.size _ 0 [] rfl (World.ownsRow_nil _ _ _ _) A m c L rfl Hm.out Byt0.out (by omega) (Nat.le_refl _) ?_; intro v1 w1 hown1 hlow1 _; have Low1 := Lib.hid (hlow1 _ _ (Below.refl W1.heap.size W1) (Nat.le_refl _)); simp only [List.nil_append, Nat.zero_add] at hown1; have Own1 := Lib.hid hown1; clear hown1 hlow1)
    | (go_at_call 67; refine (Hbh.out w1).mono ?_; rintro e w2 ⟨gp, cp, rfl, hcp, hgp, hrow2, low2⟩; have Hp2 := Lib.hid (hrow2.byt (c := cp) (by rw [padL_length, ← HP.out]; exact hcp)); have Own2 := Lib.hid (own_below Own1.out low2); have Low2 := Lib.hid (Low1.out.trans (low2.mono Low1.out.size)); clear hrow2 low2)
    | (at_builtin; refine lawAnybody.wpList_append_byt rfl (.tmp 7) (.tmp 10) rfl W1.heap.size v1 m L rfl Own2.out (some ⟨gp, 0, none⟩) P cp (padL m) rfl (by rw [padL_length, ← HP.out]) Hp2.out (by omega) Low2.out.size ?_; intro v2 w3 hown3 hlow3 _; have Low3 := Lib.hid (hlow3 _ _ Low2.out (Nat.le_refl _)); obtain ⟨g, c3, hv2, byt3, hlen3, hg3⟩ := own_form hown3 (by omega); subst hv2; have Byt3 := Lib.hid byt3; have Hlen3 := Lib.hid hlen3; clear hown3 hlow3 byt3 hlen3)
    | (go_at_call 70; refine (rstart_any w3).mono ?_; rintro e w4 ⟨rfl, low4⟩; have Byt4 := Lib.hid (Byt3.out.below low4 (Nat.le_refl _)); have Low4 := Lib.hid (Low3.out.trans (low4.mono Low3.out.size)); clear low4)
    | (go_at_call 69; refine (rfold_any S0 (L ++ padL m) g c3 (m + P) w4 Hlen3.out (Hb.out.append (padL_in m)) Byt4.out (by omega) (by omega)).mono ?_; rintro e w5 ⟨rfl, low5⟩; have Low5 := Lib.hid (Low4.out.trans (low5.mono Low4.out.size)); clear low5)
    | (go_at_call 68; refine (rtold_any _ rfl w5).mono ?_; rintro e w6 ⟨rfl, low6⟩; rw [← Hsum.out]; have Low6 := Lib.hid (Low5.out.trans (low6.mono Low5.out.size)); have Hz := Lib.hid ((Low6.out.block _ (by rw [Sz0.out]; omega)).trans New0.out); have H35 : Hid ((Tryd.prog.info? 23).map (·.size) = some (u8s (sumL L)).size) := (by show _ = _; rw [u8s_size, sumL, fin, hashL_length]; exact info35); clear low6)
    | (refine wpList_store_row rfl 23 (.tmp 2) (.tmp 15) rfl w.heap.size (u8s (sumL L)) rfl rfl 23 _ Hz.out H35.out (by rw [u8s_size, sumL, fin, hashL_length]; rfl) (u8s_one _) ?_))
  exact bodyPost_ret (v := .agg (u8s (sumL L))) (results_cell_row rfl _ _ w.heap.size 23 _ (0, 0) _ rfl (setRow_heap w6 _ _ _ _ _ Hz.out) Tryd.underlying23 rfl H35.out) rfl ⟨rfl, below_setRow (Low0.out.trans (Low6.out.mono Low0.out.size)) (Nat.le_refl _) _⟩
end Go.Proofs.YtgkmbamoffolgaaDoor
/- DERIVED. A row of the call's own, empty or not, as bytes. No program. -/
namespace Go.Proofs.YtgkmbamoffolgaaDoor
open Go.RowKit
/-- a row of the call's own, empty or not, as bytes. -/
theorem own_bytK {w : World} {base n : Nat} {t : TypeId} {v : Value} {L : List Int} (h : w.ownsRow base t 1 v n (valsK .u8 L)) (hl : L.length = n) : ∃ A c, v = .slice A n c ∧ Byt w A c L := by
  by_cases h0 : 0 < n
  · obtain ⟨g, c, hv, hc, _, hr⟩ := own_rowK h hl h0
    exact ⟨_, c, hv, by omega, (fun h => by cases h), fun _ => ⟨g, 0, rfl, hr.1, fun j hj => by rw [Nat.zero_add]; exact hr.2 j hj⟩⟩
  · obtain rfl : n = 0 := by omega
    obtain rfl : L = [] := List.eq_nil_of_length_eq_zero hl
    obtain ⟨_, h⟩ := h
    rcases h with ⟨h, _⟩ | ⟨g, cap, cur, hv, _⟩
    · exact ⟨none, 0, h, Nat.le_refl _, fun _ => rfl, fun h => absurd h (Nat.lt_irrefl 0)⟩
    · exact ⟨_, cap, hv, Nat.zero_le _, (fun h => by cases h), fun h => absurd h (Nat.lt_irrefl 0)⟩
theorem own_lower {w : World} {base b s n : Nat} {t : TypeId} {v : Value} {L : List Value} (h : w.ownsRow base t s v n L) (hb : b ≤ base) : w.ownsRow b t s v n L := by
  obtain ⟨h1, h⟩ := h
  refine ⟨h1, ?_⟩
  rcases h with h | ⟨g, cap, cur, h1, h2, h3⟩
  · exact .inl h
  · exact .inr ⟨g, cap, cur, h1, by omega, h3⟩
end Go.Proofs.YtgkmbamoffolgaaDoor
/- DERIVED. The contracts of the reference's Block, changed and Sum of layer 2. Written by mkref2.py. -/
namespace Go.Proofs.YtgkmbamoffolgaaDoor
open Go.RowKit
set_option maxRecDepth 100000 in
set_option maxHeartbeats 2000000 in
theorem rblock2_any (K : List Int) (A : Option Addr) (c n : Nat) (w : World) (hn : K.length = n) (hb : InB K) (hB : Byt w A c K) (hx : n ≤ 90000) :
    Calls Tryd.prog 57 #[.slice A n c] w fun e w' => ∃ A' c', e = .returned (.slice A' 64 c') ∧ Byt w' A' c' (blockL K) ∧ Below w.heap.size w w' := by
  obtain ⟨i8, hi8, hz80, hz81, hz82⟩ := partsK info8k
  have gi := Lib.hid hi8
  have gz0 := Lib.hid hz80
  have gz1 := Lib.hid hz81
  have gz2 := Lib.hid hz82
  have Hn := Lib.hid hn
  have Hb := Lib.hid hb
  have HB := Lib.hid hB
  clear hi8 hz80 hz81 hz82 hn hb hB
  by_cases h64 : n ≤ 64
  · have h64I : ¬ (64 : Int) < n := by omega
    go_enter Tryd.func57, Tryd.ntmps57
    go_wp2_with (at_builtin; refine lawAnybody.wpList_append_byt rfl (.tmp 21) (.tmp 22) rfl w.heap.size _ 0 [] rfl (World.ownsRow_nil _ _ _ _) A n c K rfl Hn.out HB.out (by omega) (Nat.le_refl _) ?_; intro v1 w1 hown1 hlow1 _; have Low1 := Lib.hid (hlow1 _ _ (Below.refl w.heap.size w) (Nat.le_refl _)); simp only [List.nil_append, Nat.zero_add] at hown1; obtain ⟨A1, c1, hv1⟩ := own_nilK hown1; subst hv1; have Own1 := Lib.hid hown1; clear hown1 hlow1)
    go_loopw [3] (fun v wr => ∃ (j c : Nat) (A : Option Addr), n + j ≤ 64 ∧ v = .slice A (n + j) c ∧ Hid (wr.ownsRow w.heap.size 5 1 v (n + j) (valsK .u8 (K ++ List.replicate j 0)) ∧ Below w.heap.size w wr)) (fun v _ => match v with | .slice _ m _ => 64 - m | _ => 0)
    case atStart => exact ⟨0, _, _, by omega, rfl, by rw [List.replicate_zero, List.append_nil]; exact ⟨Own1.out, Low1.out⟩⟩
    case round =>
      obtain ⟨j, c', A', hj, rfl, hr⟩ := hrel
      by_cases hlt : n + j < 64
      · have hltI : ((n : Nat) : Int) + (j : Int) < 64 := by omega
        go_wp2_with (at_builtin; refine wpList_append_mine rfl (.tmp 27) (.tmp 28) 24 rfl w.heap.size 5 i8 (.int .u8 0) 1 Tryd.underlying24 gi.out gz0.out gz1.out gz2.out rfl (by decide) _ (n + j) (K ++ List.replicate j 0) 0 rfl hr.out.1 rfl (by omega) hr.out.2.size ?_; intro v' w' hgr; obtain ⟨A2, c2, hv'⟩ := own_nilK hgr.own; subst hv'; have Hgr := Lib.hid hgr; clear hgr)
        go_roundw
        case rel => exact ⟨j + 1, c2, A2, by omega, by rw [show n + j + 1 = n + (j + 1) by omega], by { have h := Hgr.out.own; rw [List.append_assoc, ← List.replicate_succ'] at h; exact ⟨h, Hgr.out.low _ _ hr.out.2 (Nat.le_refl _)⟩ }⟩
        case measure => show 64 - (n + j + 1) < 64 - (n + j); omega
      · have hltI : ¬ ((n : Nat) : Int) + (j : Int) < 64 := by omega
        have hown := hr.out.1
        have e64 : n + j = 64 := by omega
        have hbl : K ++ List.replicate j 0 = blockL K := by unfold blockL keyL; rw [if_pos (by rw [Hn.out]; exact h64), pad64, Hn.out, show 64 - n = j by omega]
        rw [hbl] at hown
        have hlen : (blockL K).length = n + j := by rw [blockL_length, e64]
        have hq : ∃ A2 c2, Value.slice A' (n + j) c' = .slice A2 (n + j) c2 ∧ Byt wr A2 c2 (blockL K) := own_bytK hown hlen
        obtain ⟨A2, c2, hv, hbyt⟩ := hq
        injection hv with hA hn2 hc
        subst hA hc
        have Hbyt := Lib.hid hbyt
        have Low2 := Lib.hid hr.out.2
        have E64 := Lib.hid e64
        clear hown hr hbyt hbl e64 hlen
        go_wp2
        go_ret
        refine ⟨A', c', ?_, Hbyt.out, Low2.out⟩
        show Ending.returned (Value.slice A' (n + j) c') = _
        rw [E64.out]
  · have h64I : (64 : Int) < n := by omega
    obtain ⟨X, hX⟩ : ∃ X, X = sumL K := ⟨_, rfl⟩
    have hX32 : X.length = 32 := by rw [hX, sumL_length]
    have HX := Lib.hid hX
    have HX32 := Lib.hid hX32
    have H35 : Hid ((Tryd.prog.info? 23).map (·.size) = some (u8s X).size) := by show _ = _; rw [u8s_size, hX32]; exact info35
    clear hX hX32
    go_enter Tryd.func57, Tryd.ntmps57
    go_wp2_with (first
      | (go_at_call 55; refine (rsum_any K A c n w Hn.out Hb.out HB.out hx).mono ?_; rintro e w1 ⟨rfl, low1⟩; rw [← HX.out]; have Low1 := Lib.hid low1; clear low1)
      | (refine wpList_store_row rfl 23 (.tmp 4) (.tmp 10) rfl w1.heap.size (u8s X) rfl rfl 23 _ (Go.heap_alloc_new _ _) H35.out (by rw [u8s_size, HX32.out]; rfl) (u8s_one _) ?_; rw [World.setRow_alloc_new]; generalize hw2 : World.alloc w1 _ = w2; have Hw2 := Lib.hid hw2; clear hw2))
    have hrow2 : w2.heap[w1.heap.size]? = some (.cells (u8s X) 23 (0, 0)) := by rw [← Hw2.out]; exact Go.heap_alloc_new _ _
    have hs2 : w2.heap.size = w1.heap.size + 1 := by rw [← Hw2.out, World.size_alloc]
    have low2 : Below w.heap.size w w2 := by rw [← Hw2.out]; exact Low1.out.alloc Low1.out.size _
    have Hrow2 := Lib.hid hrow2
    have Hs2 := Lib.hid hs2
    have Low2 := Lib.hid low2
    clear hrow2 hs2 low2 Hw2
    go_wp2
    go_loopw [3, 5] (fun v i wr => ∃ j : Nat, j ≤ 32 ∧ i = .int .i64 j ∧ Hid (wr.ownsRow w2.heap.size 5 1 v j (valsK .u8 (X.take j)) ∧ Below w2.heap.size w2 wr)) (fun _ i _ => 32 - (intOf i).toNat)
    case atStart => exact ⟨0, by omega, rfl, World.ownsRow_nil _ _ _ _, Below.refl _ _⟩
    case round =>
      obtain ⟨j, hj, rfl, hr⟩ := hrel
      by_cases hlt : j < 32
      · have hltI : (j : Int) < 32 := by omega
        obtain ⟨x, hx⟩ : ∃ x, x = X.getD j 0 := ⟨_, rfl⟩
        have cell : wr.cell? ⟨w1.heap.size, j, none⟩ = some (.int .u8 x) := by rw [hx]; exact row8_cell ((hr.out.2.block _ (by rw [Hs2.out]; omega)).trans Hrow2.out) j (by rw [HX32.out]; exact hlt)
        have hmore : X.take j ++ [x] = X.take (j + 1) := by rw [hx]; exact take_getD (by rw [HX32.out]; exact hlt)
        have Hmore := Lib.hid hmore
        clear hx hmore
        go_wp2_with (at_builtin; refine wpList_append_mine rfl (.tmp 15) (.tmp 19) 24 rfl w2.heap.size 5 i8 (.int .u8 0) 1 Tryd.underlying24 gi.out gz0.out gz1.out gz2.out rfl (by decide) _ j (X.take j) x rfl hr.out.1 rfl (by omega) hr.out.2.size ?_; intro v' w' hgr; have Hgr := Lib.hid hgr; clear hgr)
        go_roundw
        case rel => exact ⟨j + 1, by omega, by go_num, by rw [← Hmore.out]; exact ⟨Hgr.out.own, Hgr.out.low _ _ hr.out.2 (Nat.le_refl _)⟩⟩
        case measure => simp [intOf]; omega
      · have hge : ¬ (j : Int) < 32 := by omega
        have e32 : j = 32 := by omega
        have own := hr.out.1
        rw [e32, List.take_of_length_le (Nat.le_of_eq HX32.out)] at own
        have own2 := own_lower own Low2.out.size
        obtain ⟨A3, c3, rfl⟩ := own_nilK own2
        have Own3 := Lib.hid own2
        have Low3 := Lib.hid (Low2.out.trans (hr.out.2.mono Low2.out.size))
        clear own own2 hr e32 hj hlt
        go_wp2
        go_loopw [3] (fun v wr => ∃ (j c : Nat) (A : Option Addr), 32 + j ≤ 64 ∧ v = .slice A (32 + j) c ∧ Hid (wr.ownsRow w.heap.size 5 1 v (32 + j) (valsK .u8 (X ++ List.replicate j 0)) ∧ Below w.heap.size w wr)) (fun v _ => match v with | .slice _ m _ => 64 - m | _ => 0)
        case atStart => exact ⟨0, _, _, by omega, rfl, by rw [List.replicate_zero, List.append_nil]; exact ⟨Own3.out, Low3.out⟩⟩
        case round =>
          obtain ⟨j, c', A', hj, rfl, hr⟩ := hrel
          by_cases hlt : 32 + j < 64
          · have hltI : ((32 : Nat) : Int) + (j : Int) < 64 := by omega
            go_wp2_with (at_builtin; refine wpList_append_mine rfl (.tmp 27) (.tmp 28) 24 rfl w.heap.size 5 i8 (.int .u8 0) 1 Tryd.underlying24 gi.out gz0.out gz1.out gz2.out rfl (by decide) _ (32 + j) (X ++ List.replicate j 0) 0 rfl hr.out.1 rfl (by omega) hr.out.2.size ?_; intro v' w' hgr; obtain ⟨A2, c2, hv'⟩ := own_nilK hgr.own; subst hv'; have Hgr := Lib.hid hgr; clear hgr)
            go_roundw
            case rel => exact ⟨j + 1, c2, A2, by omega, by rw [show 32 + j + 1 = 32 + (j + 1) by omega], by { have h := Hgr.out.own; rw [List.append_assoc, ← List.replicate_succ'] at h; exact ⟨h, Hgr.out.low _ _ hr.out.2 (Nat.le_refl _)⟩ }⟩
            case measure => show 64 - (32 + j + 1) < 64 - (32 + j); omega
          · have hltI : ¬ ((32 : Nat) : Int) + (j : Int) < 64 := by omega
            have hown := hr.out.1
            have e64 : 32 + j = 64 := by omega
            have hbl : X ++ List.replicate j 0 = blockL K := by unfold blockL keyL; rw [if_neg (by rw [Hn.out]; omega), ← HX.out, pad64, HX32.out, show 64 - 32 = j by omega]
            rw [hbl] at hown
            have hlen : (blockL K).length = 32 + j := by rw [blockL_length, e64]
            have hq : ∃ A2 c2, Value.slice A' (32 + j) c' = .slice A2 (32 + j) c2 ∧ Byt wr A2 c2 (blockL K) := own_bytK hown hlen
            obtain ⟨A2, c2, hv, hbyt⟩ := hq
            injection hv with hA hn2 hc
            subst hA hc
            have Hbyt := Lib.hid hbyt
            have Low2 := Lib.hid hr.out.2
            have E64 := Lib.hid e64
            clear hown hr hbyt hbl e64 hlen
            go_wp2
            go_ret
            refine ⟨A', c', ?_, Hbyt.out, Low2.out⟩
            show Ending.returned (Value.slice A' (32 + j) c') = _
            rw [E64.out]
set_option maxRecDepth 100000 in
set_option maxHeartbeats 1000000 in
theorem rchanged_any (L : List Int) (y : Int) (A : Option Addr) (c n : Nat) (w : World) (hn : L.length = n) (hB : Byt w A c L) (hx : n ≤ 90000) :
    Calls Tryd.prog 56 #[.slice A n c, .int .u8 y] w fun e w' => ∃ v, e = .returned v ∧ w'.ownsRow w.heap.size 5 1 v n (valsK .u8 (xorL y L)) ∧ Below w.heap.size w w' := by
  obtain ⟨i8, hi8, hz80, hz81, hz82⟩ := partsK info8k
  have gi := Lib.hid hi8
  have gz0 := Lib.hid hz80
  have gz1 := Lib.hid hz81
  have gz2 := Lib.hid hz82
  have Hn := Lib.hid hn
  have HB := Lib.hid hB
  clear hi8 hz80 hz81 hz82 hn hB
  go_enter Tryd.func56, Tryd.ntmps56
  go_wp2
  go_loopw [5, 6] (fun v i wr => ∃ j : Nat, j ≤ n ∧ i = .int .i64 j ∧ Hid (wr.ownsRow w.heap.size 5 1 v j (valsK .u8 ((xorL y L).take j)) ∧ Below w.heap.size w wr)) (fun _ i _ => n - (intOf i).toNat)
  case atStart => exact ⟨0, by omega, rfl, World.ownsRow_nil _ _ _ _, Below.refl _ _⟩
  case round =>
    obtain ⟨j, hj, rfl, hr⟩ := hrel
    by_cases hlt : j < n
    · have hltI : (j : Int) < n := by omega
      obtain ⟨g, off, hA, hg, hcell⟩ := HB.out.2.2 (by rw [Hn.out]; omega)
      obtain ⟨x, hx⟩ : ∃ x, x = L.getD j 0 := ⟨_, rfl⟩
      have cell : wr.cell? ⟨g, off + j, none⟩ = some (.int .u8 x) := by rw [hx]; exact (hr.out.2.cell (p := ⟨g, off + j, none⟩) hg).trans (hcell j (by rw [Hn.out]; exact hlt))
      have hmore : (xorL y L).take j ++ [bits .xor .u8 x y] = (xorL y L).take (j + 1) := by
        have e : bits .xor .u8 x y = (xorL y L).getD j 0 := by rw [hx]; simp [xorL, List.getD_eq_getElem?_getD, show j < L.length by rw [Hn.out]; exact hlt]
        rw [e]; exact take_getD (by rw [xorL_length, Hn.out]; exact hlt)
      have Hmore := Lib.hid hmore
      subst hA
      clear hx hmore hcell
      go_wp2_with (at_builtin; refine wpList_append_mine rfl (.tmp 13) (.tmp 20) 24 rfl w.heap.size 5 i8 (.int .u8 0) 1 Tryd.underlying24 gi.out gz0.out gz1.out gz2.out rfl (by decide) _ j ((xorL y L).take j) _ rfl hr.out.1 rfl (by omega) hr.out.2.size ?_; intro v' w' hgr; have Hgr := Lib.hid hgr; clear hgr)
      go_roundw
      case rel => exact ⟨j + 1, by omega, by go_num, by rw [← Hmore.out]; exact ⟨Hgr.out.own, Hgr.out.low _ _ hr.out.2 (Nat.le_refl _)⟩⟩
      case measure => simp [intOf]; omega
    · have hge : ¬ (j : Int) < n := by omega
      have en : j = n := by omega
      have own := hr.out.1
      rw [en, List.take_of_length_le (Nat.le_of_eq (by rw [xorL_length, Hn.out]))] at own
      have Own := Lib.hid own
      have Low := Lib.hid hr.out.2
      clear own hr en hj hlt
      go_wp2
      go_ret
      exact ⟨_, rfl, Own.out, Low.out⟩
set_option maxRecDepth 100000 in
set_option maxHeartbeats 2000000 in
theorem rhmac_any (K T : List Int) (A A2 : Option Addr) (c n c2 m : Nat) (w : World) (hn : K.length = n) (hm : T.length = m) (hb : InB K) (hb2 : InB T) (hB : Byt w A c K) (hB2 : Byt w A2 c2 T) (hx : n ≤ 90000) (hx2 : m ≤ 40000) :
    Calls Tryd.prog 43 #[.slice A n c, .slice A2 m c2] w fun e w' => e = .returned (.agg (u8s (hmacL K T))) ∧ Below w.heap.size w w' := by
  obtain ⟨i8, hi8, hz80, hz81, hz82⟩ := partsK info8k
  have gi := Lib.hid hi8
  have gz0 := Lib.hid hz80
  have gz1 := Lib.hid hz81
  have gz2 := Lib.hid hz82
  have Hn := Lib.hid hn
  have Hm := Lib.hid hm
  have Hb := Lib.hid hb
  have Hb2 := Lib.hid hb2
  have HB := Lib.hid hB
  have HB2 := Lib.hid hB2
  obtain ⟨W1, hW1⟩ : ∃ W1, W1 = w.alloc (.cells zero32 23) := ⟨_, rfl⟩
  have low0 : Below w.heap.size w W1 := by rw [hW1]; exact (Below.refl _ _).alloc (Nat.le_refl _) _
  have new0 : W1.heap[w.heap.size]? = some (.cells zero32 23 (0, 0)) := by rw [hW1]; exact Go.heap_alloc_new w _
  have sz0 : W1.heap.size = w.heap.size + 1 := by rw [hW1, World.size_alloc]
  have HW1 : Hid (w.alloc (.cells #[.int .u8 0, .int .u8 0, .int .u8 0, .int .u8 0, .int .u8 0, .int .u8 0, .int .u8 0, .int .u8 0, .int .u8 0, .int .u8 0, .int .u8 0, .int .u8 0, .int .u8 0, .int .u8 0, .int .u8 0, .int .u8 0, .int .u8 0, .int .u8 0, .int .u8 0, .int .u8 0, .int .u8 0, .int .u8 0, .int .u8 0, .int .u8 0, .int .u8 0, .int .u8 0, .int .u8 0, .int .u8 0, .int .u8 0, .int .u8 0, .int .u8 0, .int .u8 0] 23) = W1) := hW1.symm
  obtain ⟨B, hBk⟩ : ∃ B, B = blockL K := ⟨_, rfl⟩
  have hB64 : B.length = 64 := by rw [hBk, blockL_length]
  have hBin : InB B := by rw [hBk]; exact hb.blockL
  obtain ⟨X, hX⟩ : ∃ X, X = sumL (xorL 54 B ++ T) := ⟨_, rfl⟩
  have hX32 : X.length = 32 := by rw [hX, sumL_length]
  have hXin : InB X := by rw [hX]; exact sumL_in _
  obtain ⟨Y, hY⟩ : ∃ Y, Y = sumL (xorL 92 B ++ X) := ⟨_, rfl⟩
  have hY32 : Y.length = 32 := by rw [hY, sumL_length]
  have hYe : hmacL K T = Y := by rw [hY, hX, hBk]; rfl
  rw [hYe]
  have hblk : ∀ W : World, Below w.heap.size w W → Calls Tryd.prog 57 #[.slice A n c] W fun e w' => ∃ A' c', e = .returned (.slice A' 64 c') ∧ Byt w' A' c' B ∧ Below W.heap.size W w' := fun W hbw => by
    rw [hBk]; exact rblock2_any K A c n W hn hb (hB.below hbw (Nat.le_refl _)) hx
  have hbyt2 : ∀ W : World, Below w.heap.size w W → Byt W A2 c2 T := fun W hbw => hB2.below hbw (Nat.le_refl _)
  have HB64 := Lib.hid hB64
  have HBin := Lib.hid hBin
  have HX := Lib.hid hX
  have HX32 := Lib.hid hX32
  have HXin := Lib.hid hXin
  have HY := Lib.hid hY
  have HY32 := Lib.hid hY32
  have Hblk := Lib.hid hblk
  have Hbyt2 := Lib.hid hbyt2
  have Low0 := Lib.hid low0
  have New0 := Lib.hid new0
  have Sz0 := Lib.hid sz0
  have HXi : Hid ((Tryd.prog.info? 23).map (·.size) = some (u8s X).size) := by show _ = _; rw [u8s_size, hX32]; exact info35
  have HYi : Hid ((Tryd.prog.info? 23).map (·.size) = some (u8s Y).size) := by show _ = _; rw [u8s_size, hY32]; exact info35
  have Hx54 : Hid ((xorL 54 B).length = 64) := by show _ = _; rw [xorL_length, hB64]
  have Hx92 : Hid ((xorL 92 B).length = 64) := by show _ = _; rw [xorL_length, hB64]
  clear hi8 hz80 hz81 hz82 hn hm hb hb2 hB hB2 hW1 low0 new0 sz0 hBk hB64 hBin hX hX32 hXin hY hY32 hYe hblk hbyt2
  go_enter Tryd.func43, Tryd.ntmps43
  go_upto_region 1 with fail
  rw [HW1.out]
  go_wp2_with (first
    | (go_at_call 57; refine (Hblk.out _ Low0.out).mono ?_; rintro e w2 ⟨A3, c3, rfl, byt3, low3⟩; have Byt3 := Lib.hid byt3; have Low3 := Lib.hid low3; clear byt3 low3)
    | (go_at_call 56; refine (rchanged_any B 54 A3 c3 64 w2 HB64.out Byt3.out (by decide)).mono ?_; rintro e w3 ⟨v4, rfl, own4, low4⟩; have Own4 := Lib.hid own4; have Low4 := Lib.hid (Low3.out.trans (low4.mono Low3.out.size)); have Sz4 := Lib.hid low4.size; clear own4 low4)
    | (at_builtin; refine lawAnybody.wpList_append_byt rfl (.tmp 10) (.tmp 11) rfl w2.heap.size v4 64 (xorL 54 B) rfl Own4.out A2 m c2 T rfl Hm.out (Hbyt2.out _ (Low0.out.trans (Low4.out.mono Low0.out.size))) (by omega) Sz4.out ?_; intro v5 w5 hown5 hlow5 _; have Low5 := Lib.hid (hlow5 _ _ Low4.out Low3.out.size); obtain ⟨g5, c5, hv5, byt5, hlen5, _⟩ := own_form hown5 (by omega); subst hv5; have Byt5 := Lib.hid byt5; have Hlen5 := Lib.hid hlen5; clear hown5 hlow5 byt5 hlen5)
    | (go_at_call 55; refine (rsum_any (xorL 54 B ++ T) (some ⟨g5, 0, none⟩) c5 (64 + m) w5 Hlen5.out ((HBin.out.xorL 54 (by decide) (by decide)).append Hb2.out) Byt5.out (by omega)).mono ?_; rintro e w6 ⟨rfl, low6⟩; rw [← HX.out]; have Low6 := Lib.hid (Low5.out.trans (low6.mono Low5.out.size)); clear low6)
    | (refine wpList_store_row rfl 23 (.tmp 5) (.tmp 13) rfl w6.heap.size (u8s X) rfl rfl 23 _ (Go.heap_alloc_new _ _) HXi.out (by rw [u8s_size, HX32.out]; rfl) (u8s_one _) ?_; rw [World.setRow_alloc_new]; generalize hw7 : World.alloc w6 _ = w7; have Hw7 := Lib.hid hw7; clear hw7))
  have hrow7 : w7.heap[w6.heap.size]? = some (.cells (u8s X) 23 (0, 0)) := by rw [← Hw7.out]; exact Go.heap_alloc_new _ _
  have hs7 : w7.heap.size = w6.heap.size + 1 := by rw [← Hw7.out, World.size_alloc]
  have low7 : Below W1.heap.size W1 w7 := by rw [← Hw7.out]; exact Low6.out.alloc Low6.out.size _
  have Hrow7 := Lib.hid hrow7
  have Hs7 := Lib.hid hs7
  have Low7 := Lib.hid low7
  clear hrow7 hs7 low7 Hw7 Byt3 Low3 Own4 Low4 Sz4 Low5 Byt5 Hlen5 Low6
  go_wp2
  go_loopw [6, 7] (fun v i wr => ∃ j : Nat, j ≤ 32 ∧ i = .int .i64 j ∧ Hid (wr.ownsRow w7.heap.size 5 1 v j (valsK .u8 (X.take j)) ∧ Below w7.heap.size w7 wr)) (fun _ i _ => 32 - (intOf i).toNat)
  case atStart => exact ⟨0, by omega, rfl, World.ownsRow_nil _ _ _ _, Below.refl _ _⟩
  case round =>
    obtain ⟨j, hj, rfl, hr⟩ := hrel
    by_cases hlt : j < 32
    · have hltI : (j : Int) < 32 := by omega
      obtain ⟨x, hx⟩ : ∃ x, x = X.getD j 0 := ⟨_, rfl⟩
      have cell : wr.cell? ⟨w6.heap.size, j, none⟩ = some (.int .u8 x) := by rw [hx]; exact row8_cell ((hr.out.2.block _ (by rw [Hs7.out]; omega)).trans Hrow7.out) j (by rw [HX32.out]; exact hlt)
      have hmore : X.take j ++ [x] = X.take (j + 1) := by rw [hx]; exact take_getD (by rw [HX32.out]; exact hlt)
      have Hmore := Lib.hid hmore
      clear hx hmore
      go_wp2_with (at_builtin; refine wpList_append_mine rfl (.tmp 18) (.tmp 22) 24 rfl w7.heap.size 5 i8 (.int .u8 0) 1 Tryd.underlying24 gi.out gz0.out gz1.out gz2.out rfl (by decide) _ j (X.take j) x rfl hr.out.1 rfl (by omega) hr.out.2.size ?_; intro v' w' hgr; have Hgr := Lib.hid hgr; clear hgr)
      go_roundw
      case rel => exact ⟨j + 1, by omega, by go_num, by rw [← Hmore.out]; exact ⟨Hgr.out.own, Hgr.out.low _ _ hr.out.2 (Nat.le_refl _)⟩⟩
      case measure => simp [intOf]; omega
    · have hge : ¬ (j : Int) < 32 := by omega
      have e32 : j = 32 := by omega
      have own := hr.out.1
      rw [e32, List.take_of_length_le (Nat.le_of_eq HX32.out)] at own
      obtain ⟨gX, cX, rfl, hcX, _, hrowX⟩ := own_rowK own HX32.out (by decide)
      have BytX := Lib.hid (hrowX.byt (c := cX) (by rw [HX32.out]; exact hcX))
      have LowX := Lib.hid (Low7.out.trans (hr.out.2.mono Low7.out.size))
      obtain ⟨w8, hw8⟩ : ∃ w8, w8 = wr := ⟨_, rfl⟩
      subst hw8
      clear own hr e32 hj hlt hrowX
      go_wp2_with (first
        | (go_at_call 57; refine (Hblk.out _ (Low0.out.trans (LowX.out.mono Low0.out.size))).mono ?_; rintro e w2 ⟨A3, c3, rfl, byt3, low3⟩; have Byt3 := Lib.hid byt3; have BytX3 := Lib.hid (BytX.out.below low3 (Nat.le_refl _)); have Low3 := Lib.hid (LowX.out.trans (low3.mono LowX.out.size)); clear byt3 low3)
        | (go_at_call 56; refine (rchanged_any B 92 A3 c3 64 w2 HB64.out Byt3.out (by decide)).mono ?_; rintro e w3 ⟨v4, rfl, own4, low4⟩; have Own4 := Lib.hid own4; have BytX4 := Lib.hid (BytX3.out.below low4 (Nat.le_refl _)); have Low4 := Lib.hid (Low3.out.trans (low4.mono Low3.out.size)); have Sz4 := Lib.hid low4.size; clear own4 low4)
        | (at_builtin; refine lawAnybody.wpList_append_byt rfl (.tmp 26) (.tmp 27) rfl w2.heap.size v4 64 (xorL 92 B) rfl Own4.out (some ⟨gX, 0, none⟩) 32 cX X rfl HX32.out BytX4.out (by decide) Sz4.out ?_; intro v5 w5 hown5 hlow5 _; have Low5 := Lib.hid (hlow5 _ _ Low4.out Low3.out.size); obtain ⟨g5, c5, hv5, byt5, hlen5, _⟩ := own_form hown5 (by omega); subst hv5; have Byt5 := Lib.hid byt5; have Hlen5 := Lib.hid hlen5; clear hown5 hlow5 byt5 hlen5)
        | (go_at_call 55; refine (rsum_any (xorL 92 B ++ X) (some ⟨g5, 0, none⟩) c5 (64 + 32) w5 Hlen5.out ((HBin.out.xorL 92 (by decide) (by decide)).append HXin.out) Byt5.out (by decide)).mono ?_; rintro e w6 ⟨rfl, low6⟩; rw [← HY.out]; have Low6 := Lib.hid (Low5.out.trans (low6.mono Low5.out.size)); have Hz := Lib.hid ((Low6.out.block _ (by rw [Sz0.out]; omega)).trans New0.out); clear low6)
        | (refine wpList_store_row rfl 23 (.tmp 4) (.tmp 29) rfl w.heap.size (u8s Y) rfl rfl 23 _ Hz.out HYi.out (by rw [u8s_size, HY32.out]; rfl) (u8s_one _) ?_))
      exact bodyPost_ret (v := .agg (u8s Y)) (results_cell_row rfl _ _ w.heap.size 23 _ (0, 0) _ rfl (setRow_heap w6 _ _ _ _ _ Hz.out) Tryd.underlying23 rfl HYi.out) rfl ⟨rfl, below_setRow (Low0.out.trans (Low6.out.mono Low0.out.size)) (Nat.le_refl _) _⟩
end Go.Proofs.YtgkmbamoffolgaaDoor
