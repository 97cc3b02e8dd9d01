/- DERIVED. The contract of the reference's Resume of layer 1: going on from a digest. -/
import Derived.Test.YtblgblhoolpmiaaDoorRef1Sum
import Derived.Test.YtblgblhoolpmiaaDoorShaResume
namespace Go.Proofs.YtblgblhoolpmiaaDoor
open Go.RowKit
attribute [local go_sem ↓ high] loadAt8A
/-- a word of the state, so many of the digest's bytes being in. -/
def wAcc (h : List Int) (k j : Nat) : Int := accB (h.getD (4 * j) 0) (h.getD (4 * j + 1) 0) (h.getD (4 * j + 2) 0) (h.getD (4 * j + 3) 0) (min 4 (k - 4 * j))
def wRow (h : List Int) (k : Nat) : List Int := (List.range 8).map (wAcc h k)
theorem wRow_length (h : List Int) (k : Nat) : (wRow h k).length = 8 := by simp [wRow]
theorem wRow_at (h : List Int) (k j : Nat) (hj : j < 8) : (wRow h k).getD j 0 = wAcc h k j := by simp [wRow, hj]
theorem accB_in (a b c d : Int) (ha : 0 ≤ a ∧ a < 256) (hb : 0 ≤ b ∧ b < 256) (hc : 0 ≤ c ∧ c < 256) (n : Nat) (hn : n < 4) : 0 ≤ accB a b c d n ∧ accB a b c d n < 16777216 := by
  have : n = 0 ∨ n = 1 ∨ n = 2 ∨ n = 3 := by omega
  rcases this with rfl | rfl | rfl | rfl <;> simp only [accB] <;> omega
theorem wAcc_zero (h : List Int) (j : Nat) : wAcc h 0 j = 0 := by
  unfold wAcc
  rw [show min 4 (0 - 4 * j) = 0 by omega]; rfl
theorem wAcc_step (h : List Int) (k : Nat) : wAcc h (k + 1) (k / 4) = 256 * wAcc h k (k / 4) + h.getD k 0 := by
  unfold wAcc
  have : k % 4 = 0 ∨ k % 4 = 1 ∨ k % 4 = 2 ∨ k % 4 = 3 := by omega
  rcases this with e | e | e | e
  · rw [show min 4 (k + 1 - 4 * (k / 4)) = 1 by omega, show min 4 (k - 4 * (k / 4)) = 0 by omega, show 4 * (k / 4) = k by omega]; simp only [accB]; omega
  · rw [show min 4 (k + 1 - 4 * (k / 4)) = 2 by omega, show min 4 (k - 4 * (k / 4)) = 1 by omega, show 4 * (k / 4) + 1 = k by omega]; simp only [accB]
  · rw [show min 4 (k + 1 - 4 * (k / 4)) = 3 by omega, show min 4 (k - 4 * (k / 4)) = 2 by omega, show 4 * (k / 4) + 2 = k by omega]; simp only [accB]; omega
  · rw [show min 4 (k + 1 - 4 * (k / 4)) = 4 by omega, show min 4 (k - 4 * (k / 4)) = 3 by omega, show 4 * (k / 4) + 3 = k by omega]; simp only [accB]; omega
theorem wAcc_other (h : List Int) (k j : Nat) (hj : j ≠ k / 4) : wAcc h (k + 1) j = wAcc h k j := by
  unfold wAcc
  rw [show min 4 (k + 1 - 4 * j) = min 4 (k - 4 * j) by omega]
theorem wAcc_end (h : List Int) (hb : InB h) (j : Nat) (hj : j < 8) : wAcc h 32 j = wordAt h j := by
  have e := word4_big _ _ _ _ (hb (4 * j)) (hb (4 * j + 1)) (hb (4 * j + 2)) (hb (4 * j + 3))
  unfold wAcc
  rw [show min 4 (32 - 4 * j) = 4 by omega]
  unfold wordAt
  rw [e]
  simp only [accB]; omega
theorem wAcc_in (h : List Int) (hb : InB h) (k : Nat) : 0 ≤ wAcc h k (k / 4) ∧ wAcc h k (k / 4) < 16777216 := accB_in _ _ _ _ (hb _) (hb _) (hb _) _ (by omega)
theorem wRow_next (h : List Int) (k : Nat) : (wRow h k).set (k / 4) (256 * wAcc h k (k / 4) + h.getD k 0) = wRow h (k + 1) := by
  apply List.ext_getElem
  · simp [wRow]
  · intro j h1 h2
    rw [List.getElem_set]
    by_cases e : k / 4 = j
    · subst e; simp only [if_true]; simp only [wRow, List.getElem_map, List.getElem_range]; rw [wAcc_step]
    · rw [if_neg e]; simp only [wRow, List.getElem_map, List.getElem_range]; rw [wAcc_other h k j (by omega)]
theorem wRow_zero (h : List Int) : wRow h 0 = [0, 0, 0, 0, 0, 0, 0, 0] := by
  unfold wRow
  rw [show (wAcc h 0) = fun _ => 0 from funext fun j => wAcc_zero h j]; rfl
theorem wRow_end (h : List Int) (hb : InB h) : wRow h 32 = (wordsW h).list := by
  apply List.ext_getElem
  · rw [wRow_length]; rfl
  · intro j h1 h2
    have hj : j < 8 := by rw [wRow_length] at h1; exact h1
    have e1 := wRow_at h 32 j hj
    have e2 := wordsW_getD h j hj
    simp only [List.getD_eq_getElem?_getD, List.getElem?_eq_getElem h1] at e1
    simp only [List.getD_eq_getElem?_getD, List.getElem?_eq_getElem h2] at e2
    simp only [Option.getD_some] at e1 e2
    rw [e1, ← e2, wAcc_end h hb j hj]
attribute [irreducible] wRow wAcc
/-- what Resume keeps: the digest, the result, the words. -/
structure ReI (h X : List Int) (N : Nat) (w wr : World) : Prop where
  src : wr.heap[N]? = some (.cells (u8s h) 35 (0, 0))
  res : wr.heap[N + 1]? = some (.cells zero32 35 (0, 0))
  row : wr.heap[N + 1 + 1]? = some (.cells (u32s X) 23 (0, 0))
  low : Below N w wr
theorem ReI.set {h X : List Int} {N : Nat} {w wr : World} (x : ReI h X N w wr) (k : Nat) (v : Int) : ReI h (X.set k v) N w (wr.setCell ⟨N + 1 + 1, k, none⟩ (.int .u32 v)) :=
  ⟨by rw [heap_setCell_other _ _ _ _ (by simp; omega)]; exact x.src, by rw [heap_setCell_other _ _ _ _ (by simp)]; exact x.res, row32_set x.row k v, x.low.setCell (by simp; omega) _⟩
theorem ReI.later {h X : List Int} {N : Nat} {w wr wx : World} (x : ReI h X N w wr) (hb : Below wr.heap.size wr wx) : ReI h X N w wx := by
  have h1 := (Array.getElem?_eq_some_iff.1 x.src).1
  have h2 := (Array.getElem?_eq_some_iff.1 x.res).1
  have h3 := (Array.getElem?_eq_some_iff.1 x.row).1
  exact ⟨(hb.block _ h1).trans x.src, (hb.block _ h2).trans x.res, (hb.block _ h3).trans x.row, x.low.trans (hb.mono (by omega))⟩
set_option maxRecDepth 100000 in
set_option maxHeartbeats 2000000 in
theorem rresume_any (h M : List Int) (A : Option Addr) (c m n : Nat) (w : World) (hl : h.length = 32) (hb : InB h) (hm : M.length = m) (hbM : InB M) (hB : Byt w A c M) (hn : n ≤ 72057594037927936) (hmm : m ≤ 90000) :
    Calls Tryd.prog 18 #[.agg (u8s h), .int .i64 (n : Int), .slice A m c] w fun e' w' => e' = .returned (.tuple #[.agg (u8s (fin (wordsW h) M (n + padLen n + m))), .int .i64 0]) ∧ Below w.heap.size w w' := by
  have Hl := Lib.hid hl
  have Hb := Lib.hid hb
  have Hm := Lib.hid hm
  have HbM := Lib.hid hbM
  have HB := Lib.hid hB
  have hn0 : ¬ (n : Int) < 0 := by omega
  have hn1 : ¬ (72057594037927936 : Int) < n := by omega
  have hn2 : (n : Int) ≤ 72057594037927936 := by omega
  have h3 := three_new w (.cells (u8s h) 35) (.cells zero32 35) (.cells #[.int .u32 0, .int .u32 0, .int .u32 0, .int .u32 0, .int .u32 0, .int .u32 0, .int .u32 0, .int .u32 0] 23)
  have hstart : ReI h (wRow h 0) w.heap.size w (((w.alloc (.cells (u8s h) 35)).alloc (.cells zero32 35)).alloc (.cells #[.int .u32 0, .int .u32 0, .int .u32 0, .int .u32 0, .int .u32 0, .int .u32 0, .int .u32 0, .int .u32 0] 23)) := by
    refine ⟨h3.1, h3.2.1, ?_, below3 _ _ _ _⟩
    rw [wRow_zero]; exact h3.2.2
  unfold zero32 at hstart
  have Hstart := Lib.hid hstart
  obtain ⟨P, hP⟩ : ∃ P, padLen n = P := ⟨_, rfl⟩
  have hP1 : 9 ≤ P := by rw [← hP]; unfold padLen; omega
  have hP2 : P ≤ 72 := by have := zeros_lt n; rw [← hP]; unfold padLen; omega
  obtain ⟨T, hT⟩ : ∃ T, T = n + P + m := ⟨_, rfl⟩
  have hTI : (n : Int) + P + m = (T : Nat) := by omega
  obtain ⟨Q, hQ⟩ : ∃ Q, padLen T = Q := ⟨_, rfl⟩
  have hQ1 : 9 ≤ Q := by rw [← hQ]; unfold padLen; omega
  have hQ2 : Q ≤ 72 := by have := zeros_lt T; rw [← hQ]; unfold padLen; omega
  have hbh1 : ∀ W : World, Calls Tryd.prog 13 #[.int .i64 (n : Int)] W fun e' w' => ∃ g c, e' = .returned (.slice (some ⟨g, 0, none⟩) P c) ∧ Below W.heap.size W w' := by
    intro W; rw [← hP]; exact (rbehind_any n (by omega) W).mono fun _ _ ⟨g, c, h1, _, _, _, h5⟩ => ⟨g, c, h1, h5⟩
  have hbh2 : ∀ W : World, Calls Tryd.prog 13 #[.int .i64 (T : Int)] W fun e' w' => ∃ g c, e' = .returned (.slice (some ⟨g, 0, none⟩) Q c) ∧ Q ≤ c ∧ W.heap.size ≤ g ∧ RowK .u8 w' g (padL T) ∧ Below W.heap.size W w' := by
    intro W; rw [← hQ]; exact rbehind_any T (by omega) W
  have hfin : fin (wordsW h) M (n + padLen n + m) = hashL (foldB (wordsW h) (M ++ padL T) ((m + Q) / 64)).list := by
    rw [hP, ← hT, fin_eq, hm, hQ]
  have hpQ : (padL T).length = Q := by rw [padL_length, hQ]
  have Hbh1 := Lib.hid hbh1
  have Hbh2 := Lib.hid hbh2
  have Hfin := Lib.hid hfin
  have HpQ := Lib.hid hpQ
  have HTI := Lib.hid hTI
  have Hend := Lib.hid (wRow_end h hb)
  rw [hfin]
  obtain ⟨X, hX⟩ : ∃ X, X = hashL (foldB (wordsW h) (M ++ padL T) ((m + Q) / 64)).list := ⟨_, rfl⟩
  have hXl : X.length = 32 := by rw [hX, hashL_length]
  rw [← hX]
  have HX := Lib.hid hX
  have HXl := Lib.hid hXl
  have H35 : Hid ((Tryd.prog.info? 35).map (·.size) = some (u8s X).size) := by show _ = _; rw [u8s_size, hXl]; exact info35
  clear hX hXl hT hP hQ
  clear hl hb hm hbM hB h3 hstart hbh1 hbh2 hfin hpQ hTI hn
  go_enter Tryd.func18, Tryd.ntmps18
  go_wp2
  go_loopw [9] (fun i wr => ∃ k : Nat, k ≤ 32 ∧ i = .int .i64 k ∧ Hid (ReI h (wRow h k) w.heap.size w wr)) (fun i _ => 32 - (intOf i).toNat)
  case atStart => exact ⟨0, by omega, rfl, Hstart.out⟩
  case round =>
    obtain ⟨k, hk, rfl, hr⟩ := hrel
    by_cases hlt : k < 32
    · have hltI : (k : Int) < 32 := by omega
      obtain ⟨x, hx⟩ : ∃ x, x = wAcc h k (k / 4) := ⟨_, rfl⟩
      obtain ⟨y, hy⟩ : ∃ y, y = h.getD k 0 := ⟨_, rfl⟩
      have rx := wAcc_in h Hb.out k
      have ry := Hb.out k
      have cx : wr.cell? ⟨w.heap.size + 1 + 1, k / 4, none⟩ = some (.int .u32 x) := by rw [row32_cell hr.out.row _ (by rw [wRow_length]; omega), wRow_at _ _ _ (by omega), hx]
      have cy : wr.cell? ⟨w.heap.size, k, none⟩ = some (.int .u8 y) := by rw [row8_cell hr.out.src k (by rw [Hl.out]; exact hlt), hy]
      have hfz := free_row hr.out.row (k / 4)
      have hn := wRow_next h k
      rw [← hx, ← hy] at hn
      rw [← hx] at rx
      rw [← hy] at ry
      obtain ⟨rx0, rx1⟩ := rx
      obtain ⟨ry0, ry1⟩ := ry
      have Hn := Lib.hid hn
      have q1 : IntKind.i64.wrap ((k : Int) / 4) = (k : Int) / 4 := IntWalk.i64_in _ (by omega)
      have q7 : ((k : Int) / 4).toNat = k / 4 := by omega
      have q8 : (k : Int) / 4 < 8 := by omega
      have q9 : 0 ≤ (k : Int) / 4 := by omega
      have q2 : IntKind.u32.wrap (256 * x) = 256 * x := by rw [show IntKind.u32.wrap (256 * x) = (256 * x) % 4294967296 by simp [IntKind.wrap, IntKind.bits, IntKind.signed]]; omega
      have q3 : IntKind.u32.wrap (256 * x + y) = 256 * x + y := by rw [show IntKind.u32.wrap (256 * x + y) = (256 * x + y) % 4294967296 by simp [IntKind.wrap, IntKind.bits, IntKind.signed]]; omega
      have q4 : IntKind.u32.wrap y = y := by rw [show IntKind.u32.wrap y = y % 4294967296 by simp [IntKind.wrap, IntKind.bits, IntKind.signed]]; omega
      have q5 : (256 * x) % 4294967296 = 256 * x := by omega
      have q6 : (256 * x + y) % 4294967296 = 256 * x + y := by omega
      clear hx hy hn
      go_wp2
      refine wp_region_still_tail 13 (by kernel_rfl) (by kernel_rfl) ?_
      simp only [List.take_succ_cons, List.take_zero, List.drop_succ_cons, List.drop_zero]
      change wpStill _ _ wr.drew _ _ _
      repeat (refine wpStill_step (fun K hK => ?_); go_simp; refine hK _ ?_; clear hK K)
      refine wpStill_nil ?_
      change wpList _ _ _ _ _ wr.drew
      go_wp2
      go_roundw
      case rel => exact ⟨k + 1, by omega, by go_num, by rw [← Hn.out]; exact (hr.out.later (wx := wr.drew) (Below.refl _ _).drew).set _ _⟩
      case measure => simp [intOf]; omega
    · have hge : ¬ (k : Int) < 32 := by omega
      have e32 : k = 32 := by omega
      have hr1 := hr.out
      rw [e32, Hend.out] at hr1
      have Hr := Lib.hid hr1
      obtain ⟨wo, hwo⟩ : ∃ wo, wo = wr := ⟨_, rfl⟩
      subst hwo
      obtain ⟨Z, hZ⟩ : ∃ Z, Z = (wordsW h).list := ⟨_, rfl⟩
      have hZ8 : Z.length = 8 := by rw [hZ]; rfl
      have HZ := Lib.hid hZ
      have HZi : Hid ((Tryd.prog.info? 23).map (·.size) = some (u32s Z).size) := by show _ = _; rw [u32s_size, hZ8]; exact info23
      have hR : ∀ wx : World, Below wo.heap.size wo wx → wx.heap[w.heap.size + 1 + 1]? = some (.cells (u32s Z) 23 (0, 0)) ∧ wx.heap[w.heap.size + 1]? = some (.cells zero32 35 (0, 0)) ∧ Below w.heap.size w wx := fun wx hb => by
        have h1 := hr1.later hb
        rw [hZ]; exact ⟨h1.row, h1.res, h1.low⟩
      have HR := Lib.hid hR
      clear hr hr1 hR hZ hZ8 e32 hk hlt
      go_wp2_with (first
        | (at_builtin; refine lawAnybody.wpList_append_byt rfl (.tmp 35) (.tmp 36) rfl wo.heap.size _ 0 [] rfl (World.ownsRow_nil _ _ _ _) A m c M rfl Hm.out (HB.out.below Hr.out.low (Nat.le_refl _)) (by omega) (Nat.le_refl _) ?_; intro v1 w1 hown1 hlow1 _; have Low1 := Lib.hid (hlow1 _ _ (Below.refl wo.heap.size wo) (Nat.le_refl _)); simp only [List.nil_append, Nat.zero_add] at hown1; have Own1 := Lib.hid hown1; clear hown1 hlow1)
        | (go_at_call 13; refine (Hbh1.out _).mono ?_; rintro e w2 ⟨g1, c1, rfl, low2⟩; have Own2 := Lib.hid (own_below Own1.out low2); have Low2 := Lib.hid (Low1.out.trans (low2.mono Low1.out.size)); clear low2 Hbh1 Own1 Low1)
        | (go_at_call 13; rw [HTI.out]; refine (Hbh2.out _).mono ?_; rintro e w3 ⟨gp, cp, rfl, hcp, hgp, hrow3, low3⟩; have Hp3 := Lib.hid (hrow3.byt (c := cp) (by rw [HpQ.out]; exact hcp)); have Own3 := Lib.hid (own_below Own2.out low3); have Low3 := Lib.hid (Low2.out.trans (low3.mono Low2.out.size)); clear hrow3 low3 Own2 Low2)
        | (at_builtin; refine lawAnybody.wpList_append_byt rfl (.tmp 38) (.tmp 47) rfl wo.heap.size v1 m M rfl Own3.out (some ⟨gp, 0, none⟩) Q cp (padL T) rfl HpQ.out Hp3.out (by omega) Low3.out.size ?_; intro v2 w4 hown4 hlow4 _; have Low4 := Lib.hid (hlow4 _ _ Low3.out (Nat.le_refl _)); obtain ⟨g, c3, hv2, byt4, hlen4, hg4⟩ := own_form hown4 (by omega); subst hv2; have Byt4 := Lib.hid byt4; have Hlen4 := Lib.hid hlen4; have Row4 := Lib.hid (HR.out _ Low4.out).1; clear hown4 hlow4 byt4 hlen4 Own3 Low3)
        | (refine wpList_load_row rfl 23 (.tmp 8) rfl (w.heap.size + 1 + 1) rfl 23 (u32s Z) (0, 0) _ Row4.out Tryd.underlying23 rfl HZi.out ?_)
        | (go_at_call 36; rw [HZ.out]; refine (rfold_any (wordsW h) (M ++ padL T) g c3 (m + Q) w4 Hlen4.out (HbM.out.append (padL_in T)) Byt4.out (by omega) (by omega)).mono ?_; rintro e w5 ⟨rfl, low5⟩; have Low5 := Lib.hid (Low4.out.trans (low5.mono Low4.out.size)); clear low5)
        | (go_at_call 35; refine (rtold_any _ rfl w5).mono ?_; rintro e w6 ⟨rfl, low6⟩; rw [← HX.out]; have Low6 := Lib.hid (Low5.out.trans (low6.mono Low5.out.size)); have Hz := Lib.hid (HR.out _ Low6.out).2.1; clear low6)
        | (refine wpList_store_row rfl 35 (.tmp 6) (.tmp 52) rfl (w.heap.size + 1) (u8s X) rfl rfl 35 _ Hz.out H35.out (by rw [u8s_size, HXl.out]; rfl) (u8s_one _) ?_))
      exact bodyPost_ret (v := .tuple #[.agg (u8s X), .int .i64 0]) (results_row_tmp rfl _ _ (w.heap.size + 1) 35 _ (0, 0) _ _ rfl rfl (setRow_heap w6 _ _ _ _ _ Hz.out) Tryd.underlying35 rfl H35.out) rfl ⟨rfl, below_setRow (HR.out _ Low6.out).2.2 (by omega) _⟩
end Go.Proofs.YtblgblhoolpmiaaDoor
