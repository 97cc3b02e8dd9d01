/- DERIVED. The contract of the reference's Of of layer 1. -/
import Derived.Test.YtbondffjghanlaaDoorRefText
import Derived.Test.YtbondffjghanlaaDoorShaTurnedWalk
import Derived.IntWalk
namespace Go.Proofs.YtbondffjghanlaaDoor
open Go.RowKit
/-- does byte v have the two digits of pair k? -/
def pairIs (B : List Int) (k v : Nat) : Prop := dig ((v : Int) / 16) = B.getD (2 * k) 0 ∧ dig ((v : Int) % 16) = B.getD (2 * k + 1) 0
theorem pairIs_good {B : List Int} {k v : Nat} (hv : v < 256) (h : pairIs B k v) : good B k = true ∧ ofF B k = v := by
  have h1 := hexv_dig ((v : Int) / 16) (by omega)
  have h2 := hexv_dig ((v : Int) % 16) (by omega)
  rw [h.1] at h1
  rw [h.2] at h2
  unfold good ofF
  rw [h1, h2]
  refine ⟨?_, by omega⟩
  rw [Bool.and_eq_true, decide_eq_true_eq, decide_eq_true_eq]
  omega
theorem good_pairIs {B : List Int} (hb : InB B) {k : Nat} (h : good B k = true) : ∃ v, v < 256 ∧ pairIs B k v := by
  unfold good at h
  rw [Bool.and_eq_true, decide_eq_true_eq, decide_eq_true_eq] at h
  have a := hexv_in _ (hb (2 * k))
  have b := hexv_in _ (hb (2 * k + 1))
  refine ⟨(hexv (B.getD (2 * k) 0) * 16 + hexv (B.getD (2 * k + 1) 0)).toNat, by omega, ?_, ?_⟩
  · rw [show (((hexv (B.getD (2 * k) 0) * 16 + hexv (B.getD (2 * k + 1) 0)).toNat : Nat) : Int) / 16 = hexv (B.getD (2 * k) 0) by omega]
    exact dig_hexv _ (hb _) h.1
  · rw [show (((hexv (B.getD (2 * k) 0) * 16 + hexv (B.getD (2 * k + 1) 0)).toNat : Nat) : Int) % 16 = hexv (B.getD (2 * k + 1) 0) by omega]
    exact dig_hexv _ (hb _) h.2
theorem InB.zeros31 : ∀ j, 0 ≤ (List.replicate 31 (0 : Int)).getD j 0 ∧ (List.replicate 31 (0 : Int)).getD j 0 < 256 := by
  intro j
  have : (List.replicate 31 (0 : Int)).getD j 0 = 0 := by
    rw [List.getD_eq_getElem?_getD, List.getElem?_replicate]
    split <;> rfl
  rw [this]; omega
theorem slice_str (s : ByteArray) (a b : Nat) (h1 : a ≤ b) (h2 : b ≤ s.size) (W : World) : (Instr.sliceAt 9 (.string s) (some (.int .i64 (a : Int))) (some (.int .i64 (b : Int))) none).run Tryd.prog W = .ok (.string (s.extract a b)) W := by
  have hu : Tryd.prog.underlying 9 = some .string := by kernel_rfl
  simp [Instr.sliceAt, Instr.slice, run_underlying hu, Instr.sliceBounds, Instr.sliceBound, asIntOf, h1, h2]
theorem byte_inj {a b : Int} (ha : 0 ≤ a ∧ a < 256) (hb : 0 ≤ b ∧ b < 256) : UInt8.ofNat a.toNat = UInt8.ofNat b.toNat ↔ a = b := by
  constructor
  · intro h
    have := congrArg UInt8.toNat h
    rw [UInt8.toNat_ofNat', UInt8.toNat_ofNat'] at this
    omega
  · rintro rfl; rfl
theorem cut_list (L : List Int) (a : Nat) (h : a + 2 ≤ L.length) : (L.drop a).take 2 = [L.getD a 0, L.getD (a + 1) 0] := by
  rw [List.drop_eq_getElem_cons (by omega), List.take_succ_cons, List.drop_eq_getElem_cons (by omega), List.take_succ_cons, List.take_zero]
  simp [List.getD_eq_getElem?_getD, show a < L.length by omega, show a + 1 < L.length by omega]
theorem str_cut (L : List Int) (a : Nat) (h : a + 2 ≤ L.length) : ((strOfNums L).extract a (a + 2)).toList = [UInt8.ofNat (L.getD a 0).toNat, UInt8.ofNat (L.getD (a + 1) 0).toNat] := by
  rw [ByteArray.toList_eq, ByteArray.data_extract, Array.toList_extract, List.extract_eq_take_drop, strOfNums_data, ← List.map_drop, ← List.map_take, show a + 2 - a = 2 by omega, cut_list L a h]
  rfl
theorem cmp_pair (s : ByteArray) (k v : Nat) (hk : k < 32) (hs : s.size = 64) (hv : v < 256) :
    (((strOfNums (textL ((v : Int) :: List.replicate 31 0))).extract 0 2).toList == (s.extract (2 * k) (2 * k + 2)).toList) = true ↔ pairIs (bytesOf s) k v := by
  have h1 := str_cut (textL ((v : Int) :: List.replicate 31 0)) 0 (by rw [textL_length]; omega)
  have h2 := str_cut (bytesOf s) (2 * k) (by rw [bytesOf_length, hs]; omega)
  rw [str_bytesOf] at h2
  have t0 := textL_getD ((v : Int) :: List.replicate 31 0) 0 (by omega)
  have t1 := textL_getD ((v : Int) :: List.replicate 31 0) 1 (by omega)
  have f := textF_at ((v : Int) :: List.replicate 31 0) 0
  rw [f.1] at t0
  rw [f.2] at t1
  rw [← t0, ← t1] at h1
  rw [h1, h2, beq_iff_eq]
  have hb := bytesOf_in s
  simp only [List.cons.injEq, and_true, List.getD_cons_zero]
  rw [byte_inj (dig_in _ (by omega)) (hb _), byte_inj (dig_in _ (by omega)) (hb _)]
  rfl
theorem inB_cons {x : Int} (h0 : 0 ≤ x) (h1 : x < 256) : InB (x :: List.replicate 31 0) := by
  intro j
  cases j with
  | zero => exact ⟨h0, h1⟩
  | succ j =>
    have := InB.zeros31 j
    rw [List.getD_cons_succ]
    exact this
/-- the row behind k pairs. -/
def rowK (B : List Int) (k : Nat) : List Int := (List.range k).map (ofF B) ++ List.replicate (32 - k) 0
theorem rowK_length (B : List Int) (k : Nat) (h : k ≤ 32) : (rowK B k).length = 32 := by simp [rowK]; omega
theorem rowK_set (B : List Int) (k : Nat) (h : k < 32) : (rowK B k).set k (ofF B k) = rowK B (k + 1) := by
  unfold rowK
  rw [List.set_append, if_neg (by simp), List.range_succ, List.map_append, List.append_assoc]
  congr 1
  rw [show 32 - k = (32 - (k + 1)) + 1 by omega, List.replicate_succ]
  simp
theorem u8s_set (L : List Int) (k : Nat) (y : Int) : (u8s L).setIfInBounds k (.int .u8 y) = u8s (L.set k y) := by simp [u8s]
theorem rowK_all {B : List Int} (hl : B.length = 64) (h : ∀ j, j < 32 → good B j = true) : rowK B 32 = ofX B := by
  unfold rowK ofX
  rw [ofOk_good hl h]
  simp
/-- both loops keep the world so. -/
structure RW (C : List Int) (N : Nat) (w wr : World) : Prop where
  res : wr.heap[N]? = some (.cells zero32 35 (0, 0))
  row : wr.heap[N + 1]? = some (.cells (u8s C) 35 (0, 0))
  low : Below N w wr
theorem RW.below {C : List Int} {N : Nat} {w wr w' : World} (h : RW C N w wr) (hb : Below wr.heap.size wr w') : RW C N w w' :=
  ⟨(hb.block _ (Array.getElem?_eq_some_iff.1 h.res).1).trans h.res, (hb.block _ (Array.getElem?_eq_some_iff.1 h.row).1).trans h.row, h.low.trans (hb.mono (Nat.le_of_lt (Array.getElem?_eq_some_iff.1 h.res).1))⟩
theorem RW.drewN {C : List Int} {N : Nat} {w wr : World} (h : RW C N w wr) (q : Nat) : RW C N w (wr.drewN q) :=
  ⟨h.res, h.row, ⟨h.low.os, h.low.tape, h.low.output, h.low.size, h.low.block⟩⟩
theorem RW.set {C : List Int} {N : Nat} {w wr : World} (h : RW C N w wr) (k : Nat) (y : Int) : RW (C.set k y) N w (wr.setCell ⟨N + 1, k, none⟩ (.int .u8 y)) :=
  ⟨by rw [heap_setCell_other _ _ _ _ (by simp)]; exact h.res, by rw [← u8s_set]; exact heap_setCell_same _ _ _ _ _ _ h.row, h.low.setCell (by simp) _⟩
def OutI (B : List Int) (w : World) (i : Value) (wr : World) : Prop := ∃ k : Nat, k ≤ 32 ∧ i = .int .i64 k ∧ Hid (∀ j, j < k → good B j = true) ∧ Hid (RW (rowK B k) w.heap.size w wr)
def InI (B : List Int) (k : Nat) (w : World) (f n : Value) (wr : World) : Prop :=
  ∃ v : Nat, v ≤ 256 ∧ n = .int .i64 v ∧ ((f = .bool false ∧ Hid (∀ u, u < v → ¬ pairIs B k u) ∧ Hid (RW (rowK B k) w.heap.size w wr)) ∨ (f = .bool true ∧ Hid (good B k = true) ∧ Hid (RW (rowK B (k + 1)) w.heap.size w wr)))
set_option maxRecDepth 100000 in
set_option maxHeartbeats 2000000 in
theorem refOf_long (s : ByteArray) (w : World) (h64 : s.size = 64) :
    Calls Tryd.prog 29 #[.string s] w fun e' w' => e' = .returned (.tuple #[.agg (u8s (ofX (bytesOf s))), .bool (ofOk (bytesOf s))]) ∧ Below w.heap.size w w' := by
  obtain ⟨B, hB⟩ : ∃ B, B = bytesOf s := ⟨_, rfl⟩
  have hBl : B.length = 64 := by rw [hB, bytesOf_length, h64]
  have hBi : InB B := by rw [hB]; exact bytesOf_in s
  have h2 := two_new w (.cells zero32 35) (.cells zero32 35)
  have r0 : RW (rowK B 0) w.heap.size w ((w.alloc (.cells zero32 35)).alloc (.cells zero32 35)) := ⟨h2.1, by rw [h2.2]; rfl, ((Below.refl _ _).alloc (Nat.le_refl _) _).alloc (by simp) _⟩
  have R0 := Lib.hid r0
  unfold zero32 at R0
  rw [← hB]
  have HB := Lib.hid hB
  have HBl := Lib.hid hBl
  have HBi := Lib.hid hBi
  have h64I : (s.size : Int) = 64 := by omega
  have H64 := Lib.hid h64
  clear hB hBl hBi h2 r0 h64
  go_enter Tryd.func29, Tryd.ntmps29
  go_wp2
  go_loopw [5] (fun i wr => OutI B w i wr) (fun i _ => 32 - (intOf i).toNat)
  case atStart => exact ⟨0, by omega, rfl, fun j hj => absurd hj (Nat.not_lt_zero _), R0⟩
  case round =>
    obtain ⟨k, hk, rfl, hg, hw⟩ := hrel
    clear R0
    by_cases hlt : k < 32
    · have hltI : (k : Int) < 32 := by omega
      obtain ⟨wo, hwo⟩ : ∃ wo, wo = wr := ⟨_, rfl⟩
      subst hwo
      go_wp2
      go_loopw [6, 7] (fun f n wr => InI B k w f n wr) (fun _ n _ => 256 - (intOf n).toNat)
      case atStart => exact ⟨0, by omega, rfl, .inl ⟨rfl, fun u hu => absurd hu (Nat.not_lt_zero _), hw⟩⟩
      case round =>
        obtain ⟨v, hv, rfl, hcase⟩ := hrel
        clear hw
        rcases hcase with ⟨rfl, hno, hwr⟩ | ⟨rfl, hgd, hwr⟩
        · by_cases hlv : v < 256
          · have hlvI : (v : Int) < 256 := by omega
            obtain ⟨T, hT⟩ : ∃ T, T = strOfNums (textL ((v : Int) :: List.replicate 31 0)) := ⟨_, rfl⟩
            have HT : Hid (∀ W : World, Calls Tryd.prog 31 #[.agg #[.int .u8 (v : Int), .int .u8 0, .int .u8 0, .int .u8 0, .int .u8 0, .int .u8 0, .int .u8 0, .int .u8 0, .int .u8 0, .int .u8 0, .int .u8 0, .int .u8 0, .int .u8 0, .int .u8 0, .int .u8 0, .int .u8 0, .int .u8 0, .int .u8 0, .int .u8 0, .int .u8 0, .int .u8 0, .int .u8 0, .int .u8 0, .int .u8 0, .int .u8 0, .int .u8 0, .int .u8 0, .int .u8 0, .int .u8 0, .int .u8 0, .int .u8 0, .int .u8 0]] W fun e' w' => e' = .returned (.string T) ∧ Below W.heap.size W w') := by
              show ∀ W : World, _
              intro W
              rw [hT]
              exact refText_any ((v : Int) :: List.replicate 31 0) rfl (inB_cons (by omega) (by omega)) W
            have hTs : T.size = 64 := by rw [hT, strOfNums_size, textL_length]
            have Hh := Lib.hid hT
            clear hT
            go_upto_region 12 with (go_at_call 31; refine (HT.out _).mono ?_; rintro e w2 ⟨rfl, low2⟩; have W2 := Lib.hid (hwr.out.below low2); clear low2)
            have f2 : ∀ W : World, (Instr.sliceAt 9 (.string s) (some (.int .i64 (2 * (k : Int)))) (some (.int .i64 (2 * (k : Int) + 2))) none).run Tryd.prog W = .ok (.string (s.extract (2 * k) (2 * k + 2))) W := fun W => by
              have h := slice_str s (2 * k) (2 * k + 2) (by omega) (by rw [H64.out]; omega) W
              rwa [show ((2 * k : Nat) : Int) = 2 * (k : Int) by omega, show ((2 * k + 2 : Nat) : Int) = 2 * (k : Int) + 2 by omega] at h
            have hcp := cmp_pair s k v hlt H64.out hlv
            rw [← Hh.out, ← HB.out] at hcp
            by_cases hp : pairIs B k v
            · have hc := hcp.2 hp
              have HG := Lib.hid (pairIs_good hlv hp)
              clear hcp hp
              go_quiet (fail)
              have r := W2.out.drewN nq
              have c1 := cell_row r.row k
              rw [u8s_get _ _ (by rw [rowK_length _ _ hk]; exact hlt)] at c1
              have c2 := free_row r.row k
              have r2 := r.set k (v : Int)
              rw [← HG.out.2, rowK_set B k hlt, HG.out.2] at r2
              have R2 := Lib.hid r2
              clear r r2
              go_wp2
              go_roundw
              case rel => exact ⟨v + 1, by omega, by go_num, .inr ⟨rfl, HG.out.1, R2⟩⟩
              case measure => simp [intOf]; omega
            · have hc : ((T.extract 0 2).toList == (s.extract (2 * k) (2 * k + 2)).toList) = false := by
                cases h : ((T.extract 0 2).toList == (s.extract (2 * k) (2 * k + 2)).toList) with
                | false => rfl
                | true => exact absurd (hcp.1 h) hp
              have HN := Lib.hid hp
              clear hcp hp
              go_quiet (fail)
              go_wp2
              go_roundw
              case rel =>
                refine ⟨v + 1, by omega, by go_num, .inl ⟨rfl, fun u hu => ?_, W2.out.drewN nq⟩⟩
                by_cases e : u = v
                · rw [e]; exact HN.out
                · exact hno.out u (by omega)
              case measure => simp [intOf]; omega
          · obtain rfl : v = 256 := by omega
            have hgb : good B k = false := by
              cases h : good B k with
              | false => rfl
              | true =>
                obtain ⟨u, hu, hp⟩ := good_pairIs HBi.out h
                exact absurd hp (hno.out u (by omega))
            have hbad := ofOk_bad hlt hgb
            obtain ⟨Z, hZ⟩ : ∃ Z : List Int, Z = List.replicate 32 0 := ⟨_, rfl⟩
            have hZl : Z.length = 32 := by rw [hZ]; rfl
            have H35 : Hid ((Tryd.prog.info? 35).map (·.size) = some (u8s Z).size) := by show _ = _; rw [u8s_size, hZl]; exact info35
            have hZu : #[.int .u8 0, .int .u8 0, .int .u8 0, .int .u8 0, .int .u8 0, .int .u8 0, .int .u8 0, .int .u8 0, .int .u8 0, .int .u8 0, .int .u8 0, .int .u8 0, .int .u8 0, .int .u8 0, .int .u8 0, .int .u8 0, .int .u8 0, .int .u8 0, .int .u8 0, .int .u8 0, .int .u8 0, .int .u8 0, .int .u8 0, .int .u8 0, .int .u8 0, .int .u8 0, .int .u8 0, .int .u8 0, .int .u8 0, .int .u8 0, .int .u8 0, .int .u8 0] = u8s Z := by rw [hZ]; rfl
            have HX : Hid (ofX B = Z) := by show _ = _; rw [ofX_bad hbad, hZ]
            have Hbad := Lib.hid hbad
            have HZl := Lib.hid hZl
            have HZu := Lib.hid hZu
            clear hZ hZl hZu hbad hgb hno
            go_wp2_with (refine wpList_store_row rfl 35 (.tmp 2) (.tmp 45) rfl w.heap.size (u8s Z) (by rfl) (congrArg Value.agg HZu.out) 35 _ hwr.out.res H35.out (by rw [u8s_size, HZl.out]; rfl) (u8s_one _) ?_)
            exact bodyPost_ret (v := .tuple #[.agg (u8s Z), .bool false]) (results_row_tmp rfl _ _ w.heap.size 35 _ (0, 0) _ _ rfl rfl (setRow_heap _ _ _ _ _ _ hwr.out.res) Tryd.underlying35 rfl H35.out) rfl ⟨by rw [HX.out, Hbad.out], below_setRow hwr.out.low (Nat.le_refl _) _⟩
        · by_cases hlv : (v : Int) < 256
          all_goals
            go_wp2
            go_roundw
            case rel =>
              refine ⟨k + 1, by omega, by go_num, fun j hj => ?_, hwr⟩
              by_cases e : j = k
              · rw [e]; exact hgd.out
              · exact hg.out j (by omega)
            case measure => simp [intOf]; omega
    · obtain rfl : k = 32 := by omega
      have hX := rowK_all HBl.out hg.out
      have hOk := ofOk_good HBl.out hg.out
      have hw' := hw.out
      rw [hX] at hw'
      obtain ⟨Z, hZ⟩ : ∃ Z, Z = ofX B := ⟨_, rfl⟩
      rw [← hZ] at hw'
      have Hres := Lib.hid hw'.res
      have Hrow := Lib.hid hw'.row
      have Low := Lib.hid hw'.low
      have hZl : Z.length = 32 := by rw [hZ]; exact ofX_length _
      have H35 : Hid ((Tryd.prog.info? 35).map (·.size) = some (u8s Z).size) := by show _ = _; rw [u8s_size, hZl]; exact info35
      have HZ := Lib.hid hZ
      have HZl := Lib.hid hZl
      have HOk := Lib.hid hOk
      clear hX hOk hw' hw hg hZ hZl
      go_wp2_with (first
        | (refine wpList_load_row rfl 35 (.tmp 4) rfl (w.heap.size + 1) (by rfl) 35 (u8s Z) (0, 0) _ Hrow.out Tryd.underlying35 rfl H35.out ?_)
        | (refine wpList_store_row rfl 35 (.tmp 2) (.tmp 46) rfl w.heap.size (u8s Z) (by rfl) (by rfl) 35 _ Hres.out H35.out (by rw [u8s_size, HZl.out]; rfl) (u8s_one _) ?_))
      exact bodyPost_ret (v := .tuple #[.agg (u8s Z), .bool true]) (results_row_tmp rfl _ _ w.heap.size 35 _ (0, 0) _ _ rfl rfl (setRow_heap _ _ _ _ _ _ Hres.out) Tryd.underlying35 rfl H35.out) rfl ⟨by rw [HZ.out, HOk.out], below_setRow Low.out (Nat.le_refl _) _⟩
set_option maxRecDepth 100000 in
set_option maxHeartbeats 1000000 in
theorem refOf_short (s : ByteArray) (w : World) (h64 : s.size ≠ 64) :
    Calls Tryd.prog 29 #[.string s] w fun e' w' => e' = .returned (.tuple #[.agg (u8s (ofX (bytesOf s))), .bool (ofOk (bytesOf s))]) ∧ Below w.heap.size w w' := by
  have hbad : ofOk (bytesOf s) = false := ofOk_len (by rw [bytesOf_length]; exact h64)
  obtain ⟨Z, hZ⟩ : ∃ Z : List Int, Z = List.replicate 32 0 := ⟨_, rfl⟩
  rw [ofX_bad hbad, hbad, ← hZ]
  have hZl : Z.length = 32 := by rw [hZ]; rfl
  have h2 := two_new w (.cells zero32 35) (.cells zero32 35)
  have hz : zero32 = u8s Z := by rw [hZ]; rfl
  have H35 : Hid ((Tryd.prog.info? 35).map (·.size) = some (u8s Z).size) := by show _ = _; rw [u8s_size, hZl]; exact info35
  have hr := h2.1
  have hw2 := h2.2
  have low : Below w.heap.size w ((w.alloc (.cells zero32 35)).alloc (.cells zero32 35)) := ((Below.refl _ _).alloc (Nat.le_refl _) _).alloc (by simp) _
  have hI : ¬ (s.size : Int) = 64 := by omega
  have HZl := Lib.hid hZl
  have Hr := Lib.hid hr
  have Low := Lib.hid low
  have hw3 : Hid (((w.alloc (.cells zero32 35)).alloc (.cells zero32 35)).heap[w.heap.size + 1]? = some (.cells (u8s Z) 35 (0, 0))) := by show _ = _; rw [hw2, hz]
  unfold zero32 at Hr Low hw3
  clear hbad hZ hZl h2 hz hr hw2 low h64
  go_enter Tryd.func29, Tryd.ntmps29
  go_wp2_with (first
    | (refine wpList_load_row rfl 35 (.tmp 4) rfl (w.heap.size + 1) (by rfl) 35 (u8s Z) (0, 0) _ hw3.out Tryd.underlying35 rfl H35.out ?_)
    | (refine wpList_store_row rfl 35 (.tmp 2) (.tmp 12) rfl w.heap.size (u8s Z) (by rfl) (by rfl) 35 _ Hr.out H35.out (by rw [u8s_size, HZl.out]; rfl) (u8s_one _) ?_))
  exact bodyPost_ret (v := .tuple #[.agg (u8s Z), .bool false]) (results_row_tmp rfl _ _ w.heap.size 35 _ (0, 0) _ _ rfl rfl (setRow_heap _ _ _ _ _ _ Hr.out) Tryd.underlying35 rfl H35.out) rfl ⟨rfl, below_setRow Low.out (Nat.le_refl _) _⟩
theorem refOf_any (s : ByteArray) (w : World) :
    Calls Tryd.prog 29 #[.string s] w fun e' w' => e' = .returned (.tuple #[.agg (u8s (ofX (bytesOf s))), .bool (ofOk (bytesOf s))]) ∧ Below w.heap.size w w' := by
  by_cases h : s.size = 64
  · exact refOf_long s w h
  · exact refOf_short s w h
end Go.Proofs.YtbondffjghanlaaDoor
