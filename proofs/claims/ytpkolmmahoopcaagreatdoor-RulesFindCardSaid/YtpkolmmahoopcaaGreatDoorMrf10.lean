/- DERIVED. Texts of ours, merged: XLabRSort. -/
import Derived.Test.YtpkolmmahoopcaaGreatDoorMrf9
import Derived.Deep.CutBlock
import Derived.Great.CaseRows
import Derived.BigQuiet
import Derived.Deep.QuietTactic
/- DERIVED. The contract of the reference's Sorted. Written by mkrsort.py out of rsort.txt. -/
namespace Go.Proofs.YtpkolmmahoopcaaGreatDoor.Lab
open Go.RowKit Str
theorem ordL_less (x y : Int × Nat) : decide (ordL y.1 y.2 x.1 x.2 < 0) = ltP y x := by
  rw [Bool.eq_iff_iff, ltP_iff, decide_eq_true_eq]
  unfold ordL
  repeat' split
  all_goals omega
theorem OwnL.base {B B' : Nat} {xs : List (Int × Nat)} {v : Value} {w : World} (h : OwnL B xs v w) (hB : B' ≤ B) : OwnL B' xs v w := by
  refine ⟨h.1, ?_⟩
  rcases h.2 with h2 | ⟨g, cap, cur, hv, h1, h2⟩
  · exact .inl h2
  · exact .inr ⟨g, cap, cur, hv, Nat.le_trans hB h1, h2⟩
theorem Labs.nil (w : World) : Labs w Option.none 0 [] := ⟨Nat.le_refl _, fun _ => rfl, fun h => absurd h (Nat.lt_irrefl _)⟩
/-- so far the inner loop has come. -/
def InK (O : List (Int × Nat)) (x : Int × Nat) (k : Nat) : Prop := k ≤ O.length ∧ ∀ j y, j < k → O[j]? = some y → ltP y x = true
theorem InK.zero (O : List (Int × Nat)) (x : Int × Nat) : InK O x 0 := ⟨Nat.zero_le _, fun _ _ h => absurd h (Nat.not_lt_zero _)⟩
theorem InK.next {O : List (Int × Nat)} {x y : Int × Nat} {k : Nat} (h : InK O x k) (hy : O[k]? = some y) (hl : ltP y x = true) : InK O x (k + 1) :=
  ⟨by have := (List.getElem?_eq_some_iff.1 hy).1; omega, fun j z hj hz => by
    by_cases e : j = k
    · subst e; rw [hy] at hz; cases hz; exact hl
    · exact h.2 j z (by omega) hz⟩
/-- what the inner loop's test tells. -/
def R6 (O : List (Int × Nat)) (x : Int × Nat) (k : Nat) (r : Bool) : Prop := (r = true → ∃ y, O[k]? = some y ∧ ltP y x = true) ∧ (r = false → ∀ y, O[k]? = some y → ltP y x = false)
/-- what the test behind it tells. -/
def R8 (O : List (Int × Nat)) (x : Int × Nat) (k : Nat) (r : Bool) : Prop := (r = true → O[k]? = some x) ∧ (r = false → O[k]? ≠ some x)
theorem R6.at {O : List (Int × Nat)} {x y : Int × Nat} {k : Nat} (h : O[k]? = some y) : R6 O x k (ltP y x) :=
  ⟨fun e => ⟨y, h, e⟩, (fun e z hz => by rw [h] at hz; cases hz; exact e)⟩
theorem R6.out {O : List (Int × Nat)} {x : Int × Nat} {k : Nat} (h : O.length ≤ k) : R6 O x k false :=
  ⟨(fun e => by cases e), (fun _ z hz => by rw [List.getElem?_eq_none h] at hz; cases hz)⟩
theorem R8.at {O : List (Int × Nat)} {x y : Int × Nat} {k : Nat} (h : O[k]? = some y) : R8 O x k (decide (y = x)) :=
  ⟨(fun e => by rw [h, of_decide_eq_true e]), (fun e hz => by rw [h] at hz; cases hz; simp at e)⟩
theorem R8.out {O : List (Int × Nat)} {x : Int × Nat} {k : Nat} (h : O.length ≤ k) : R8 O x k false :=
  ⟨(fun e => by cases e), (fun _ hz => by rw [List.getElem?_eq_none h] at hz; cases hz)⟩
def InE (O : List (Int × Nat)) (x : Int × Nat) (k : Nat) : Prop := InK O x k ∧ ∀ y, O[k]? = some y → ltP y x = false
set_option maxRecDepth 100000 in
set_option maxHeartbeats 8000000 in
theorem rsorted_any (A : Option Addr) (n c : Nat) (xs : List (Int × Nat)) (hn : xs.length = n) (hle : n ≤ 1000) (w : World) (hX : Labs w A c xs) :
    Calls Tryz.prog 26 #[.slice A n c] w fun e w' => ∃ v, e = .returned v ∧ OwnL w.heap.size (refL xs) v w' ∧ Below w.heap.size w w' := by
  have HX := Lib.hid hX
  have Hn := Lib.hid hn
  have HW0 : Hid (OwnL w.heap.size (refL (xs.take 0)) (.slice none 0 0) w ∧ Below w.heap.size w w) := ⟨OwnL.nil w _, Below.refl _ _⟩
  clear hX hn
  go_enter Tryz.func26, Tryz.ntmps26
  go_wp2
  go_loopw [3, 4] (fun s3 s4 wr => ∃ i : Nat, i ≤ n ∧ s4 = .int .i64 (i : Nat) ∧ Hid (OwnL w.heap.size (refL (xs.take i)) s3 wr ∧ Below w.heap.size w wr)) (fun _ s4 _ => n - (intOf s4).toNat)
  case atStart => exact ⟨0, by omega, rfl, HW0⟩
  case round =>
    obtain ⟨i, hi, rfl, hI⟩ := hrel
    clear HW0
    by_cases hlt : i < n
    · have hlt' : (i : Int) < n := by omega
      obtain ⟨x, hx⟩ : ∃ x, xs[i]? = some x := ⟨_, List.getElem?_eq_getElem (by have := Hn.out; omega)⟩
      obtain ⟨b, off, rfl, hb, hcell⟩ := HX.out.2.2 (by have := Hn.out; omega)
      have hcap1 : n ≤ c := by have := HX.out.1; have := Hn.out; omega
      have Hsn : Hid (refL (xs.take (i + 1)) = insD x (refL (xs.take i))) := by
        have h1 : i < xs.length := by have := Hn.out; omega
        have h2 : xs[i] = x := by rw [List.getElem?_eq_getElem h1] at hx; exact Option.some.inj hx
        show refL (xs.take (i + 1)) = _
        rw [List.take_succ_eq_append_getElem h1, refL_snoc, h2]
      obtain ⟨wo, hwo⟩ : ∃ wo, wo = wr := ⟨_, rfl⟩
      have Hrx : Hid (wo.rangeAt b (off + i * 2) (lab x.1 x.2).toList) := by subst hwo; exact fun j v hv => (hI.out.2.cell (p := ⟨b, off + i * 2 + j, none⟩) hb).trans (hcell i x hx j v hv)
      have Hlen : Hid ((refL (xs.take i)).length ≤ i) := by
        have hg : ∀ (l : List (Int × Nat)) (o : List (Int × Nat)), (l.foldl (fun o x => insD x o) o).length ≤ o.length + l.length := by
          have h1 : ∀ (x : Int × Nat) (o : List (Int × Nat)), (insD x o).length ≤ o.length + 1 := by
            intro x o
            induction o with
            | nil => simp [insD]
            | cons y r ih =>
              unfold insD
              split
              · simp only [List.length_cons]; omega
              · split <;> simp
          intro l
          induction l with
          | nil => intro o; simp
          | cons z l ih => intro o; have := ih (insD z o); have := h1 z o; simp only [List.foldl_cons, List.length_cons]; omega
        have := hg (xs.take i) []
        rw [List.length_take] at this
        show (refL (xs.take i)).length ≤ i
        unfold refL
        simp only [List.length_nil] at this
        omega
      obtain ⟨O, hO⟩ : ∃ O, O = refL (xs.take i) := ⟨_, rfl⟩
      rw [← hO] at hI Hsn Hlen
      rw [← hwo] at hI ⊢
      have HO := Lib.hid hO
      clear hcell hx hb hwo hO
      rcases hI.out.1.2 with ⟨hv, h0⟩ | ⟨g4, q4, cur, hv, hb4, hg4, hn4, hm4, hs4, ht4⟩
      · subst hv
        have e0 : O = [] := List.eq_nil_of_length_eq_zero h0
        have HS : Hid (refL (xs.take (i + 1)) = [x]) := by rw [Hsn.out, e0]; rfl
        have Low := Lib.hid hI.out.2
        clear hI h0 e0 Hsn Hlen HO
        go_wp2
        refine wp_loop_rounds 1 ?_
        rw [rounds_succ]
        go_wp2
        go_quiet (fail)
        go_wp2
        go_quiet (fail)
        go_upto_region 10 with (fail)
        generalize hwc : World.drewN _ _ = wc
        have lw : Below wo.heap.size wo wc := by
          rw [← hwc]
          first
            | exact Below.drewN (Below.refl _ _) _
            | exact Below.drewN (Below.drewN (Below.refl _ _) _) _
        have low1 := Lib.hid (Low.out.trans (lw.mono Low.out.size))
        have Hrc : Hid (wc.rangeAt b (off + i * 2) (lab x.1 x.2).toList) := fun j v hv => (lw.cell (p := ⟨b, off + i * 2 + j, none⟩) (World.block_lt_of_cell? _ _ (Hrx.out j v hv))).trans (Hrx.out j v hv)
        have Lwc := Lib.hid (Below.refl wc.heap.size wc)
        clear hwc lw Low Hrx
        go_upto_region 11 with (at_builtin; refine wpList_append_labs rfl (.tmp 46) (.tmp 49) rfl wc.heap.size (.slice none 0 0) [] [] rfl (OwnL.nil _ _) Option.none 0 0 rfl rfl (Labs.nil _) (by simp) (Nat.le_refl _) ?_; intro v1 w1 O1 gr1; have HO1 := Lib.hid O1; have Lc1 := Lib.hid (gr1 _ _ Lwc.out (Nat.le_refl _)); clear O1 gr1)
        have Hr1 : Hid (w1.rangeAt b (off + i * 2) (lab x.1 x.2).toList) := fun j v hv => (Lc1.out.cell (p := ⟨b, off + i * 2 + j, none⟩) (World.block_lt_of_cell? _ _ (Hrc.out j v hv))).trans (Hrc.out j v hv)
        refine wp_region_lit ?_
        refine wpList_plain rfl (fun K hK => ?_)
        go_simp
        refine hK _ _ ?_
        clear hK K
        refine wpList_plain rfl (fun K hK => ?_)
        go_simp
        refine hK _ _ ?_
        clear hK K
        refine wpList_plain rfl (fun K hK => ?_)
        go_simp
        refine hK _ _ ?_
        clear hK K
        refine wpList_plain rfl (fun K hK => ?_)
        go_simp
        refine hK _ _ ?_
        clear hK K
        refine wpList_load_mid rfl 34 (.tmp 54) rfl b (off + i * 2) rfl (lab x.1 x.2).toList _ Hr1.out Tryz.underlying34 rfl infoL2 ?_
        have hv1 : ∀ v ∈ [Value.agg (lab x.1 x.2)], v.cells.size = 2 := fun v hv => by obtain rfl := List.mem_singleton.1 hv; rfl
        refine Great.wpList_buildRows (by rfl) 38 34 #[(0, .tmp 55)] 2 [.agg (lab x.1 x.2)] (by rfl) (fun _ => 55) w1.heap.size (by rfl) (some 56) (by rfl) Tryz.underlying38 (infoL2 (a := 0) (c := 0)) (by kernel_rfl) (by decide) (Nat.zero_lt_one) (by show 1 * 2 ≤ 2 ^ 24; decide) (by rfl) hv1 (fun i h => by
          obtain rfl : i = 0 := by simpa using h
          rfl) ?_
        obtain ⟨w7, hw7⟩ : ∃ w7, w7 = w1.alloc (.cells (lab x.1 x.2) 34) := ⟨_, rfl⟩
        have e7 : w1.alloc (.cells (([.agg (lab x.1 x.2)] : List Value).flatMap fun v => v.cells.toList).toArray 34) = w7 := by rw [hw7]; rfl
        rw [e7]
        have h7 : w7.heap[w1.heap.size]? = some (.cells (lab x.1 x.2) 34 (0, 0)) := by rw [hw7]; exact Go.heap_alloc_new w1 _
        have l7 : Below w1.heap.size w1 w7 := by rw [hw7]; exact (Below.refl _ _).alloc (Nat.le_refl _) _
        clear e7 hw7
        have own7 : OwnL wc.heap.size [] v1 w7 := OwnL.keep HO1.out l7 (fun q e => (World.ownsRow.lt HO1.out q e).2)
        have low7 : Below wc.heap.size wc w7 := Lc1.out.trans (l7.mono Lc1.out.size)
        refine wpList_append_lab rfl (.tmp 51) (.tmp 56) rfl wc.heap.size v1 [] x rfl own7 w1.heap.size rfl h7 (by simp) low7.size ?_
        intro v8 w8 own8 gr8
        have HO8 := Lib.hid own8
        have Lc8 := Lib.hid (low7.grown gr8 low7.size (fun q hq => (World.ownsRow.lt own7 q hq).1))
        clear own8 gr8 own7 low7 h7 l7 hv1 HO1 Lc1 Hr1 Hrc
        refine wpList_plain rfl (fun K hK => ?_)
        go_simp
        refine hK _ _ ?_
        clear hK K
        refine wpList_nil ?_
        go_simp
        go_wp2_with (at_builtin; refine wpList_append_labs rfl (.tmp 58) (.tmp 61) rfl wc.heap.size v8 ([] ++ [x]) [] rfl HO8.out Option.none 0 0 rfl rfl (Labs.nil _) (by simp) Lc8.out.size ?_; intro v9 w9 O9 gr9; have HO9 := Lib.hid O9; have Lc9 := Lib.hid (gr9 _ _ Lc8.out (Nat.le_refl _)); clear O9 gr9)
        have HI2 : Hid (OwnL w.heap.size (refL (xs.take (i + 1))) v9 w9 ∧ Below w.heap.size w w9) := by
          refine ⟨?_, low1.out.trans (Lc9.out.mono low1.out.size)⟩
          rw [HS.out]
          exact HO9.out.base low1.out.size
        clear HO9 Lc9 HO8 Lc8
        go_roundw
        case rel => exact ⟨i + 1, by omega, by go_num, HI2⟩
        case measure => simp [intOf]; omega
      · subst hv
        obtain ⟨m4, hm4'⟩ : ∃ m4, m4 = O.length := ⟨_, rfl⟩
        have hLb : Labs wo (some ⟨g4, 0, none⟩) q4 O := by
          obtain ⟨A, c, e, h⟩ := hI.out.1.labs
          cases e
          exact h
        have HLb := Lib.hid hLb
        have HM := Lib.hid hm4'
        have hq4 : m4 ≤ q4 := by rw [hm4']; exact hn4
        have hmb : m4 ≤ 1000 := by have := Hlen.out; omega
        rw [← hm4']
        have hg1 : g4 < wo.heap.size := (Array.getElem?_eq_some_iff.1 hg4).1
        have HB4 := Lib.hid (show w.heap.size ≤ g4 from hb4)
        have hK0 := Lib.hid (InK.zero O x)
        clear hm4' hLb hb4 hg4 hn4 hm4 hs4 ht4
        go_upto_block 2 with (fail)
        go_cut [5] (fun s5 wx => ∃ k : Nat, s5 = .int .i64 (k : Nat) ∧ Hid (InE O x k) ∧ Hid (Below wo.heap.size wo wx))
        case first =>
          go_wp2
          go_loopw [5] (fun s5 wi => ∃ k : Nat, s5 = .int .i64 (k : Nat) ∧ Hid (InK O x k) ∧ Hid (Below wo.heap.size wo wi)) (fun s5 _ => m4 - (intOf s5).toNat)
          case atStart => exact ⟨0, rfl, hK0, Below.refl _ _⟩
          case round =>
            obtain ⟨k, rfl, hK, hB⟩ := hrel
            clear hK0
            have hkle := hK.out.1
            rw [← HM.out] at hkle
            obtain ⟨W6, hW6⟩ : ∃ W6, W6 = wr := ⟨_, rfl⟩
            rw [← hW6] at hB ⊢
            clear hW6
            have HrW : Hid (W6.rangeAt b (off + i * 2) (lab x.1 x.2).toList) := fun j v hv => (hB.out.cell (p := ⟨b, off + i * 2 + j, none⟩) (World.block_lt_of_cell? _ _ (Hrx.out j v hv))).trans (Hrx.out j v hv)
            go_upto_region 6 with (fail)
            go_cut [28] (fun s28 wx => ∃ r, s28 = .bool r ∧ Hid (R6 O x k r) ∧ Hid (Below W6.heap.size W6 wx))
            case first =>
              by_cases hkm : k < m4
              · obtain ⟨y, hy⟩ : ∃ y, O[k]? = some y := ⟨_, List.getElem?_eq_getElem (by have := HM.out; omega)⟩
                obtain ⟨b', off', e', hb', hc'⟩ := HLb.out.2.2 (by have := HM.out; omega)
                cases e'
                have Hry : Hid (W6.rangeAt g4 (k * 2) (lab y.1 y.2).toList) := fun j v hv => by
                  have h1 := hc' k y hy j v hv
                  rw [Nat.zero_add] at h1
                  exact (hB.out.cell (p := ⟨g4, k * 2 + j, none⟩) (World.block_lt_of_cell? _ _ h1)).trans h1
                obtain ⟨rr, hrr⟩ : ∃ rr, ltP y x = rr := ⟨_, rfl⟩
                have Hrr : Hid (R6 O x k rr) := by rw [← hrr]; exact R6.at hy
                have hrr2 : decide (ordL y.1 y.2 x.1 x.2 < 0) = rr := by rw [ordL_less, hrr]
                have Hrx := HrW
                clear hrr hy hc' hb'
                have apx : apartB [13, 14, 15, 16, 17, 18, 19, 20, 21, 22, 23, 24, 25, 26, 27, 28] = true := by decide
                refine wp_region_any (by kernel_rfl) ?_
                change wpAny _ _ _ _ _ _ _ (World.drew _)
                refine wpAny_inv (fun ll aa wx => Hid (ll.size = 16 ∧ Below W6.heap.size W6 wx) ∧ ∃ (z : Nat → Value), Hid (aa = ⟨#[.slice (some ⟨b, off, none⟩) n c, undef, .slice none 0 0, .slice (some ⟨g4, 0, none⟩) m4 q4, .int .i64 ((i : Nat) : Int), .int .i64 ((k : Nat) : Int), u6, .int .i64 ((i : Nat) : Int), .slice (some ⟨b, off, none⟩) n c, .int .i64 (n : Nat), .bool true, u11, u12, z 13, z 14, z 15, z 16, z 17, z 18, z 19, z 20, z 21, z 22, z 23, z 24, z 25, z 26, z 27, z 28, u29, u30, u31, u32, u33, u34, u35, u36, u37, u38, u39, u40, u41, u42, u43, u44, u45, u46, u47, u48, u49, u50, u51, u52, u53, u54, u55, u56, u57, u58, u59, u60, u61, u62, undef], []⟩) ∧ Holding [13, 14, 15, 16, 17, 18, 19, 20, 21, 22, 23, 24, 25, 26, 27, 28] [some (.int .i64 ((k : Nat) : Int)), some (.slice (some ⟨g4, 0, none⟩) m4 q4), some (.int .i64 (m4 : Nat)), some (.bool true), some (.bool true), some (.slice (some ⟨g4, 0, none⟩) m4 q4), some (.int .i64 ((k : Nat) : Int)), some (.pointer (some ⟨g4, k * 2, none⟩)), some (.agg (lab y.1 y.2)), some (.slice (some ⟨b, off, none⟩) n c), some (.int .i64 ((i : Nat) : Int)), some (.pointer (some ⟨b, off + i * 2, none⟩)), some (.agg (lab x.1 x.2)), some (.int .i64 (ordL y.1 y.2 x.1 x.2)), some (.bool rr), some (.bool rr)] ll z) ?_ (by kernel_rfl) ?_ ?_ _ _ _ _ (unlisted_none _) ?_
                · rintro ll aa wx ⟨hI, _⟩
                  exact hI.out.1
                · rintro ll aa wx ⟨hI, z, ha, hz⟩ hall
                  have hx := Lib.hid hI.out.2
                  have e0 : z 13 = .int .i64 ((k : Nat) : Int) := hz 0 _ (hall 0 (by decide)) rfl
                  have e1 : z 14 = .slice (some ⟨g4, 0, none⟩) m4 q4 := hz 1 _ (hall 1 (by decide)) rfl
                  have e2 : z 15 = .int .i64 (m4 : Nat) := hz 2 _ (hall 2 (by decide)) rfl
                  have e3 : z 16 = .bool true := hz 3 _ (hall 3 (by decide)) rfl
                  have e4 : z 17 = .bool true := hz 4 _ (hall 4 (by decide)) rfl
                  have e5 : z 18 = .slice (some ⟨g4, 0, none⟩) m4 q4 := hz 5 _ (hall 5 (by decide)) rfl
                  have e6 : z 19 = .int .i64 ((k : Nat) : Int) := hz 6 _ (hall 6 (by decide)) rfl
                  have e7 : z 20 = .pointer (some ⟨g4, k * 2, none⟩) := hz 7 _ (hall 7 (by decide)) rfl
                  have e8 : z 21 = .agg (lab y.1 y.2) := hz 8 _ (hall 8 (by decide)) rfl
                  have e9 : z 22 = .slice (some ⟨b, off, none⟩) n c := hz 9 _ (hall 9 (by decide)) rfl
                  have e10 : z 23 = .int .i64 ((i : Nat) : Int) := hz 10 _ (hall 10 (by decide)) rfl
                  have e11 : z 24 = .pointer (some ⟨b, off + i * 2, none⟩) := hz 11 _ (hall 11 (by decide)) rfl
                  have e12 : z 25 = .agg (lab x.1 x.2) := hz 12 _ (hall 12 (by decide)) rfl
                  have e13 : z 26 = .int .i64 (ordL y.1 y.2 x.1 x.2) := hz 13 _ (hall 13 (by decide)) rfl
                  have e14 : z 27 = .bool rr := hz 14 _ (hall 14 (by decide)) rfl
                  have e15 : z 28 = .bool rr := hz 15 _ (hall 15 (by decide)) rfl
                  clear hall hz hI 
                  obtain rfl := ha.out
                  clear ha
                  clear apx
                  have E := Lib.hid e15
                  have HX2 := Lib.hid hx.out
                  clear e0 e1 e2 e3 e4 e5 e6 e7 e8 e9 e10 e11 e12 e13 e14 e15 hx
                  dsimp only
                  rw [E.out]
                  go_wp2
                  go_meet
                  exact ⟨_, rfl, Hrr, HX2.out⟩
                · rintro ll aa wx i ⟨hI, z, ha, hz⟩ hi hu hw
                  obtain rfl := ha.out
                  have hsz := Lib.hid hI.out.1
                  have hx := Lib.hid hI.out.2
                  clear ha hI
                  have hin : i < 16 := hi
                  obtain rfl | rfl | rfl | rfl | rfl | rfl | rfl | rfl | rfl | rfl | rfl | rfl | rfl | rfl | rfl | rfl : i = 0 ∨ i = 1 ∨ i = 2 ∨ i = 3 ∨ i = 4 ∨ i = 5 ∨ i = 6 ∨ i = 7 ∨ i = 8 ∨ i = 9 ∨ i = 10 ∨ i = 11 ∨ i = 12 ∨ i = 13 ∨ i = 14 ∨ i = 15 := by omega
                  · refine wpOp_plain rfl rfl ?_
                    go_simp
                    exact ⟨⟨by simp [hsz.out], hx.out⟩, upd z 13 (.int .i64 ((k : Nat) : Int)), (by unfold Hid; simp [upd]), hz.next apx hsz.out 0 (by decide) _ (fun _ h => Option.some.inj h)⟩
                  · refine wpOp_plain rfl rfl ?_
                    go_simp
                    exact ⟨⟨by simp [hsz.out], hx.out⟩, upd z 14 (.slice (some ⟨g4, 0, none⟩) m4 q4), (by unfold Hid; simp [upd]), hz.next apx hsz.out 1 (by decide) _ (fun _ h => Option.some.inj h)⟩
                  · have e1 : z 14 = .slice (some ⟨g4, 0, none⟩) m4 q4 := hz 1 _ (hw 1 (by kernel_rfl)) rfl
                    refine wpOp_plain rfl rfl ?_
                    go_simp
                    exact ⟨⟨by simp [hsz.out], hx.out⟩, upd z 15 (.int .i64 (m4 : Nat)), (by unfold Hid; simp [upd, e1]), hz.next apx hsz.out 2 (by decide) _ (fun _ h => Option.some.inj h)⟩
                  · have e0 : z 13 = .int .i64 ((k : Nat) : Int) := hz 0 _ (hw 0 (by kernel_rfl)) rfl
                    have e2 : z 15 = .int .i64 (m4 : Nat) := hz 2 _ (hw 2 (by kernel_rfl)) rfl
                    refine wpOp_plain rfl rfl ?_
                    go_simp
                    exact ⟨⟨by simp [hsz.out], hx.out⟩, upd z 16 (.bool true), (by unfold Hid; simp [upd, e0, e2]), hz.next apx hsz.out 3 (by decide) _ (fun _ h => Option.some.inj h)⟩
                  · have e3 : z 16 = .bool true := hz 3 _ (hw 3 (by kernel_rfl)) rfl
                    refine wpOp_plain rfl rfl ?_
                    go_simp
                    exact ⟨⟨by simp [hsz.out], hx.out⟩, upd z 17 (.bool true), (by unfold Hid; simp [upd, e3]), hz.next apx hsz.out 4 (by decide) _ (fun _ h => Option.some.inj h)⟩
                  · have e4 : z 17 = .bool true := hz 4 _ (hw 4 (by kernel_rfl)) rfl
                    refine wpOp_want rfl (by simp [Region.wanted, yielded, e4]) ?_
                    go_simp
                    exact ⟨⟨by simp [hsz.out], hx.out⟩, upd z 18 (.slice (some ⟨g4, 0, none⟩) m4 q4), (by unfold Hid; simp [upd, e4]), hz.next apx hsz.out 5 (by decide) _ (fun _ h => Option.some.inj h)⟩
                  · have e4 : z 17 = .bool true := hz 4 _ (hw 4 (by kernel_rfl)) rfl
                    refine wpOp_want rfl (by simp [Region.wanted, yielded, e4]) ?_
                    go_simp
                    exact ⟨⟨by simp [hsz.out], hx.out⟩, upd z 19 (.int .i64 ((k : Nat) : Int)), (by unfold Hid; simp [upd, e4]), hz.next apx hsz.out 6 (by decide) _ (fun _ h => Option.some.inj h)⟩
                  · have e4 : z 17 = .bool true := hz 4 _ (hw 4 (by kernel_rfl)) rfl
                    have e5 : z 18 = .slice (some ⟨g4, 0, none⟩) m4 q4 := hz 5 _ (hw 5 (by kernel_rfl)) rfl
                    have e6 : z 19 = .int .i64 ((k : Nat) : Int) := hz 6 _ (hw 6 (by kernel_rfl)) rfl
                    refine wpOp_want rfl (by simp [Region.wanted, yielded, e4]) ?_
                    go_simp
                    exact ⟨⟨by simp [hsz.out], hx.out⟩, upd z 20 (.pointer (some ⟨g4, k * 2, none⟩)), (by unfold Hid; simp [upd, e4, e5, e6]), hz.next apx hsz.out 7 (by decide) _ (fun _ h => Option.some.inj h)⟩
                  · have e4 : z 17 = .bool true := hz 4 _ (hw 4 (by kernel_rfl)) rfl
                    have e7 : z 20 = .pointer (some ⟨g4, k * 2, none⟩) := hz 7 _ (hw 7 (by kernel_rfl)) rfl
                    have rg : wx.rangeAt g4 (k * 2) (lab y.1 y.2).toList := fun j v hv => (hx.out.cell (p := ⟨g4, k * 2 + j, none⟩) (World.block_lt_of_cell? _ _ (Hry.out j v hv))).trans (Hry.out j v hv)
                    refine wpOp_want rfl (by simp [Region.wanted, yielded, e4]) (wp_load_mid 34 (.tmp 20) rfl g4 (k * 2) e7 (lab y.1 y.2).toList _ rg Tryz.underlying34 rfl infoL2 ?_)
                    go_simp
                    exact ⟨⟨by simp [hsz.out], hx.out⟩, upd z 21 (.agg (lab y.1 y.2)), (by unfold Hid; simp [upd, e4, e7]), hz.next apx hsz.out 8 (by decide) _ (fun _ h => Option.some.inj h)⟩
                  · have e4 : z 17 = .bool true := hz 4 _ (hw 4 (by kernel_rfl)) rfl
                    refine wpOp_want rfl (by simp [Region.wanted, yielded, e4]) ?_
                    go_simp
                    exact ⟨⟨by simp [hsz.out], hx.out⟩, upd z 22 (.slice (some ⟨b, off, none⟩) n c), (by unfold Hid; simp [upd, e4]), hz.next apx hsz.out 9 (by decide) _ (fun _ h => Option.some.inj h)⟩
                  · have e4 : z 17 = .bool true := hz 4 _ (hw 4 (by kernel_rfl)) rfl
                    refine wpOp_want rfl (by simp [Region.wanted, yielded, e4]) ?_
                    go_simp
                    exact ⟨⟨by simp [hsz.out], hx.out⟩, upd z 23 (.int .i64 ((i : Nat) : Int)), (by unfold Hid; simp [upd, e4]), hz.next apx hsz.out 10 (by decide) _ (fun _ h => Option.some.inj h)⟩
                  · have e4 : z 17 = .bool true := hz 4 _ (hw 4 (by kernel_rfl)) rfl
                    have e9 : z 22 = .slice (some ⟨b, off, none⟩) n c := hz 9 _ (hw 9 (by kernel_rfl)) rfl
                    have e10 : z 23 = .int .i64 ((i : Nat) : Int) := hz 10 _ (hw 10 (by kernel_rfl)) rfl
                    refine wpOp_want rfl (by simp [Region.wanted, yielded, e4]) ?_
                    go_simp
                    exact ⟨⟨by simp [hsz.out], hx.out⟩, upd z 24 (.pointer (some ⟨b, off + i * 2, none⟩)), (by unfold Hid; simp [upd, e4, e9, e10]), hz.next apx hsz.out 11 (by decide) _ (fun _ h => Option.some.inj h)⟩
                  · have e4 : z 17 = .bool true := hz 4 _ (hw 4 (by kernel_rfl)) rfl
                    have e11 : z 24 = .pointer (some ⟨b, off + i * 2, none⟩) := hz 11 _ (hw 11 (by kernel_rfl)) rfl
                    have rg : wx.rangeAt b (off + i * 2) (lab x.1 x.2).toList := fun j v hv => (hx.out.cell (p := ⟨b, off + i * 2 + j, none⟩) (World.block_lt_of_cell? _ _ (Hrx.out j v hv))).trans (Hrx.out j v hv)
                    refine wpOp_want rfl (by simp [Region.wanted, yielded, e4]) (wp_load_mid 34 (.tmp 24) rfl b (off + i * 2) e11 (lab x.1 x.2).toList _ rg Tryz.underlying34 rfl infoL2 ?_)
                    go_simp
                    exact ⟨⟨by simp [hsz.out], hx.out⟩, upd z 25 (.agg (lab x.1 x.2)), (by unfold Hid; simp [upd, e4, e11]), hz.next apx hsz.out 12 (by decide) _ (fun _ h => Option.some.inj h)⟩
                  · have e4 : z 17 = .bool true := hz 4 _ (hw 4 (by kernel_rfl)) rfl
                    have e8 : z 21 = .agg (lab y.1 y.2) := hz 8 _ (hw 8 (by kernel_rfl)) rfl
                    have e12 : z 25 = .agg (lab x.1 x.2) := hz 12 _ (hw 12 (by kernel_rfl)) rfl
                    refine wpOp_want rfl (by simp [Region.wanted, yielded, e4]) ?_
                    go_simp
                    go_at_call 42
                    refine (refOrder_any _ _ _ _ wx).mono ?_
                    rintro e w' ⟨rfl, low⟩
                    exact ⟨⟨by simp [hsz.out], hx.out.trans (low.mono hx.out.size)⟩, upd z 26 (.int .i64 (ordL y.1 y.2 x.1 x.2)), (by unfold Hid; simp [upd, e4, e8, e12]), hz.next apx hsz.out 13 (by decide) _ (fun _ h => Option.some.inj h)⟩
                  · have e4 : z 17 = .bool true := hz 4 _ (hw 4 (by kernel_rfl)) rfl
                    have e13 : z 26 = .int .i64 (ordL y.1 y.2 x.1 x.2) := hz 13 _ (hw 13 (by kernel_rfl)) rfl
                    refine wpOp_want rfl (by simp [Region.wanted, yielded, e4]) ?_
                    go_simp
                    exact ⟨⟨by simp [hsz.out], hx.out⟩, upd z 27 (.bool rr), (by unfold Hid; simp [upd, e4, e13]), hz.next apx hsz.out 14 (by decide) _ (fun _ h => Option.some.inj h)⟩
                  · have e4 : z 17 = .bool true := hz 4 _ (hw 4 (by kernel_rfl)) rfl
                    have e14 : z 27 = .bool rr := hz 14 _ (hw 14 (by kernel_rfl)) rfl
                    refine wpOp_plain rfl rfl ?_
                    go_simp
                    exact ⟨⟨by simp [hsz.out], hx.out⟩, upd z 28 (.bool rr), (by unfold Hid; simp [upd, e4, e14]), hz.next apx hsz.out 15 (by decide) _ (fun _ h => Option.some.inj h)⟩
                · exact ⟨⟨rfl, (Below.refl _ _).drew⟩, fun xx => (#[.slice (some ⟨b, off, none⟩) n c, undef, .slice none 0 0, .slice (some ⟨g4, 0, none⟩) m4 q4, .int .i64 ((i : Nat) : Int), .int .i64 ((k : Nat) : Int), u6, .int .i64 ((i : Nat) : Int), .slice (some ⟨b, off, none⟩) n c, .int .i64 (n : Nat), .bool true, u11, u12, u13, u14, u15, u16, u17, u18, u19, u20, u21, u22, u23, u24, u25, u26, u27, u28, u29, u30, u31, u32, u33, u34, u35, u36, u37, u38, u39, u40, u41, u42, u43, u44, u45, u46, u47, u48, u49, u50, u51, u52, u53, u54, u55, u56, u57, u58, u59, u60, u61, u62, undef] : Array Value).getD xx undef, (by rfl), Holding.start⟩
              · have Hrr : Hid (R6 O x k false) := R6.out (by have := HM.out; omega)
                have apx : apartB [13, 14, 15, 16, 17, 18, 19, 20, 21, 22, 23, 24, 25, 26, 27, 28] = true := by decide
                refine wp_region_any (by kernel_rfl) ?_
                change wpAny _ _ _ _ _ _ _ (World.drew _)
                refine wpAny_inv (fun ll aa wx => Hid (ll.size = 16 ∧ Below W6.heap.size W6 wx) ∧ ∃ (z : Nat → Value), Hid (aa = ⟨#[.slice (some ⟨b, off, none⟩) n c, undef, .slice none 0 0, .slice (some ⟨g4, 0, none⟩) m4 q4, .int .i64 ((i : Nat) : Int), .int .i64 ((k : Nat) : Int), u6, .int .i64 ((i : Nat) : Int), .slice (some ⟨b, off, none⟩) n c, .int .i64 (n : Nat), .bool true, u11, u12, z 13, z 14, z 15, z 16, z 17, z 18, z 19, z 20, z 21, z 22, z 23, z 24, z 25, z 26, z 27, z 28, u29, u30, u31, u32, u33, u34, u35, u36, u37, u38, u39, u40, u41, u42, u43, u44, u45, u46, u47, u48, u49, u50, u51, u52, u53, u54, u55, u56, u57, u58, u59, u60, u61, u62, undef], []⟩) ∧ Holding [13, 14, 15, 16, 17, 18, 19, 20, 21, 22, 23, 24, 25, 26, 27, 28] [some (.int .i64 ((k : Nat) : Int)), some (.slice (some ⟨g4, 0, none⟩) m4 q4), some (.int .i64 (m4 : Nat)), some (.bool false), some (.bool false), some (undef), some (undef), some (undef), some (undef), some (undef), some (undef), some (undef), some (undef), some (undef), some (undef), some (.bool false)] ll z) ?_ (by kernel_rfl) ?_ ?_ _ _ _ _ (unlisted_none _) ?_
                · rintro ll aa wx ⟨hI, _⟩
                  exact hI.out.1
                · rintro ll aa wx ⟨hI, z, ha, hz⟩ hall
                  have hx := Lib.hid hI.out.2
                  have e0 : z 13 = .int .i64 ((k : Nat) : Int) := hz 0 _ (hall 0 (by decide)) rfl
                  have e1 : z 14 = .slice (some ⟨g4, 0, none⟩) m4 q4 := hz 1 _ (hall 1 (by decide)) rfl
                  have e2 : z 15 = .int .i64 (m4 : Nat) := hz 2 _ (hall 2 (by decide)) rfl
                  have e3 : z 16 = .bool false := hz 3 _ (hall 3 (by decide)) rfl
                  have e4 : z 17 = .bool false := hz 4 _ (hall 4 (by decide)) rfl
                  have e5 : z 18 = undef := hz 5 _ (hall 5 (by decide)) rfl
                  have e6 : z 19 = undef := hz 6 _ (hall 6 (by decide)) rfl
                  have e7 : z 20 = undef := hz 7 _ (hall 7 (by decide)) rfl
                  have e8 : z 21 = undef := hz 8 _ (hall 8 (by decide)) rfl
                  have e9 : z 22 = undef := hz 9 _ (hall 9 (by decide)) rfl
                  have e10 : z 23 = undef := hz 10 _ (hall 10 (by decide)) rfl
                  have e11 : z 24 = undef := hz 11 _ (hall 11 (by decide)) rfl
                  have e12 : z 25 = undef := hz 12 _ (hall 12 (by decide)) rfl
                  have e13 : z 26 = undef := hz 13 _ (hall 13 (by decide)) rfl
                  have e14 : z 27 = undef := hz 14 _ (hall 14 (by decide)) rfl
                  have e15 : z 28 = .bool false := hz 15 _ (hall 15 (by decide)) rfl
                  clear hall hz hI 
                  obtain rfl := ha.out
                  clear ha
                  clear apx
                  have E := Lib.hid e15
                  have HX2 := Lib.hid hx.out
                  clear e0 e1 e2 e3 e4 e5 e6 e7 e8 e9 e10 e11 e12 e13 e14 e15 hx
                  dsimp only
                  rw [E.out]
                  go_wp2
                  go_meet
                  exact ⟨_, rfl, Hrr, HX2.out⟩
                · rintro ll aa wx i ⟨hI, z, ha, hz⟩ hi hu hw
                  obtain rfl := ha.out
                  have hsz := Lib.hid hI.out.1
                  have hx := Lib.hid hI.out.2
                  clear ha hI
                  have hin : i < 16 := hi
                  obtain rfl | rfl | rfl | rfl | rfl | rfl | rfl | rfl | rfl | rfl | rfl | rfl | rfl | rfl | rfl | rfl : i = 0 ∨ i = 1 ∨ i = 2 ∨ i = 3 ∨ i = 4 ∨ i = 5 ∨ i = 6 ∨ i = 7 ∨ i = 8 ∨ i = 9 ∨ i = 10 ∨ i = 11 ∨ i = 12 ∨ i = 13 ∨ i = 14 ∨ i = 15 := by omega
                  · refine wpOp_plain rfl rfl ?_
                    go_simp
                    exact ⟨⟨by simp [hsz.out], hx.out⟩, upd z 13 (.int .i64 ((k : Nat) : Int)), (by unfold Hid; simp [upd]), hz.next apx hsz.out 0 (by decide) _ (fun _ h => Option.some.inj h)⟩
                  · refine wpOp_plain rfl rfl ?_
                    go_simp
                    exact ⟨⟨by simp [hsz.out], hx.out⟩, upd z 14 (.slice (some ⟨g4, 0, none⟩) m4 q4), (by unfold Hid; simp [upd]), hz.next apx hsz.out 1 (by decide) _ (fun _ h => Option.some.inj h)⟩
                  · have e1 : z 14 = .slice (some ⟨g4, 0, none⟩) m4 q4 := hz 1 _ (hw 1 (by kernel_rfl)) rfl
                    refine wpOp_plain rfl rfl ?_
                    go_simp
                    exact ⟨⟨by simp [hsz.out], hx.out⟩, upd z 15 (.int .i64 (m4 : Nat)), (by unfold Hid; simp [upd, e1]), hz.next apx hsz.out 2 (by decide) _ (fun _ h => Option.some.inj h)⟩
                  · have e0 : z 13 = .int .i64 ((k : Nat) : Int) := hz 0 _ (hw 0 (by kernel_rfl)) rfl
                    have e2 : z 15 = .int .i64 (m4 : Nat) := hz 2 _ (hw 2 (by kernel_rfl)) rfl
                    refine wpOp_plain rfl rfl ?_
                    go_simp
                    exact ⟨⟨by simp [hsz.out], hx.out⟩, upd z 16 (.bool false), (by unfold Hid; simp [upd, e0, e2]), hz.next apx hsz.out 3 (by decide) _ (fun _ h => Option.some.inj h)⟩
                  · have e3 : z 16 = .bool false := hz 3 _ (hw 3 (by kernel_rfl)) rfl
                    refine wpOp_plain rfl rfl ?_
                    go_simp
                    exact ⟨⟨by simp [hsz.out], hx.out⟩, upd z 17 (.bool false), (by unfold Hid; simp [upd, e3]), hz.next apx hsz.out 4 (by decide) _ (fun _ h => Option.some.inj h)⟩
                  · have e4 : z 17 = .bool false := hz 4 _ (hw 4 (by kernel_rfl)) rfl
                    refine wpOp_skip rfl (by simp [Region.wanted, yielded, e4]) ?_
                    go_simp
                    exact ⟨⟨by simp [hsz.out], hx.out⟩, upd z 18 (undef), (by unfold Hid; simp [upd, e4]), hz.next apx hsz.out 5 (by decide) _ (fun _ h => Option.some.inj h)⟩
                  · have e4 : z 17 = .bool false := hz 4 _ (hw 4 (by kernel_rfl)) rfl
                    refine wpOp_skip rfl (by simp [Region.wanted, yielded, e4]) ?_
                    go_simp
                    exact ⟨⟨by simp [hsz.out], hx.out⟩, upd z 19 (undef), (by unfold Hid; simp [upd, e4]), hz.next apx hsz.out 6 (by decide) _ (fun _ h => Option.some.inj h)⟩
                  · have e4 : z 17 = .bool false := hz 4 _ (hw 4 (by kernel_rfl)) rfl
                    refine wpOp_skip rfl (by simp [Region.wanted, yielded, e4]) ?_
                    go_simp
                    exact ⟨⟨by simp [hsz.out], hx.out⟩, upd z 20 (undef), (by unfold Hid; simp [upd, e4]), hz.next apx hsz.out 7 (by decide) _ (fun _ h => Option.some.inj h)⟩
                  · have e4 : z 17 = .bool false := hz 4 _ (hw 4 (by kernel_rfl)) rfl
                    refine wpOp_skip rfl (by simp [Region.wanted, yielded, e4]) ?_
                    go_simp
                    exact ⟨⟨by simp [hsz.out], hx.out⟩, upd z 21 (undef), (by unfold Hid; simp [upd, e4]), hz.next apx hsz.out 8 (by decide) _ (fun _ h => Option.some.inj h)⟩
                  · have e4 : z 17 = .bool false := hz 4 _ (hw 4 (by kernel_rfl)) rfl
                    refine wpOp_skip rfl (by simp [Region.wanted, yielded, e4]) ?_
                    go_simp
                    exact ⟨⟨by simp [hsz.out], hx.out⟩, upd z 22 (undef), (by unfold Hid; simp [upd, e4]), hz.next apx hsz.out 9 (by decide) _ (fun _ h => Option.some.inj h)⟩
                  · have e4 : z 17 = .bool false := hz 4 _ (hw 4 (by kernel_rfl)) rfl
                    refine wpOp_skip rfl (by simp [Region.wanted, yielded, e4]) ?_
                    go_simp
                    exact ⟨⟨by simp [hsz.out], hx.out⟩, upd z 23 (undef), (by unfold Hid; simp [upd, e4]), hz.next apx hsz.out 10 (by decide) _ (fun _ h => Option.some.inj h)⟩
                  · have e4 : z 17 = .bool false := hz 4 _ (hw 4 (by kernel_rfl)) rfl
                    refine wpOp_skip rfl (by simp [Region.wanted, yielded, e4]) ?_
                    go_simp
                    exact ⟨⟨by simp [hsz.out], hx.out⟩, upd z 24 (undef), (by unfold Hid; simp [upd, e4]), hz.next apx hsz.out 11 (by decide) _ (fun _ h => Option.some.inj h)⟩
                  · have e4 : z 17 = .bool false := hz 4 _ (hw 4 (by kernel_rfl)) rfl
                    refine wpOp_skip rfl (by simp [Region.wanted, yielded, e4]) ?_
                    go_simp
                    exact ⟨⟨by simp [hsz.out], hx.out⟩, upd z 25 (undef), (by unfold Hid; simp [upd, e4]), hz.next apx hsz.out 12 (by decide) _ (fun _ h => Option.some.inj h)⟩
                  · have e4 : z 17 = .bool false := hz 4 _ (hw 4 (by kernel_rfl)) rfl
                    refine wpOp_skip rfl (by simp [Region.wanted, yielded, e4]) ?_
                    go_simp
                    exact ⟨⟨by simp [hsz.out], hx.out⟩, upd z 26 (undef), (by unfold Hid; simp [upd, e4]), hz.next apx hsz.out 13 (by decide) _ (fun _ h => Option.some.inj h)⟩
                  · have e4 : z 17 = .bool false := hz 4 _ (hw 4 (by kernel_rfl)) rfl
                    refine wpOp_skip rfl (by simp [Region.wanted, yielded, e4]) ?_
                    go_simp
                    exact ⟨⟨by simp [hsz.out], hx.out⟩, upd z 27 (undef), (by unfold Hid; simp [upd, e4]), hz.next apx hsz.out 14 (by decide) _ (fun _ h => Option.some.inj h)⟩
                  · have e4 : z 17 = .bool false := hz 4 _ (hw 4 (by kernel_rfl)) rfl
                    refine wpOp_plain rfl rfl ?_
                    go_simp
                    exact ⟨⟨by simp [hsz.out], hx.out⟩, upd z 28 (.bool false), (by unfold Hid; simp [upd, e4]), hz.next apx hsz.out 15 (by decide) _ (fun _ h => Option.some.inj h)⟩
                · exact ⟨⟨rfl, (Below.refl _ _).drew⟩, fun xx => (#[.slice (some ⟨b, off, none⟩) n c, undef, .slice none 0 0, .slice (some ⟨g4, 0, none⟩) m4 q4, .int .i64 ((i : Nat) : Int), .int .i64 ((k : Nat) : Int), u6, .int .i64 ((i : Nat) : Int), .slice (some ⟨b, off, none⟩) n c, .int .i64 (n : Nat), .bool true, u11, u12, u13, u14, u15, u16, u17, u18, u19, u20, u21, u22, u23, u24, u25, u26, u27, u28, u29, u30, u31, u32, u33, u34, u35, u36, u37, u38, u39, u40, u41, u42, u43, u44, u45, u46, u47, u48, u49, u50, u51, u52, u53, u54, u55, u56, u57, u58, u59, u60, u61, u62, undef] : Array Value).getD xx undef, (by rfl), Holding.start⟩
            case rest =>
              obtain ⟨r, rfl, hr, hl⟩ := hcut
              have low := Lib.hid (hB.out.trans (hl.out.mono hB.out.size))
              clear hl
              cases r with
              | true =>
                obtain ⟨y, hy, hlx⟩ := hr.out.1 rfl
                have HK2 := Lib.hid (hK.out.next hy hlx)
                have hkm : k < m4 := by have := (List.getElem?_eq_some_iff.1 hy).1; have := HM.out; omega
                clear hy hlx hr
                go_wp2
                go_roundw
                case rel => exact ⟨k + 1, by go_num, HK2, low⟩
                case measure => simp [intOf]; omega
              | false =>
                have HE : Hid (InE O x k) := ⟨hK.out, hr.out.2 rfl⟩
                clear hr
                go_wp2
                go_meet
                exact ⟨k, rfl, HE, low⟩
        case rest =>
          obtain ⟨k, rfl, hE, hB⟩ := hcut
          go_upto_region 8 with (fail)
          obtain ⟨W6, hW6⟩ : ∃ W6, W6 = wc := ⟨_, rfl⟩
          rw [← hW6] at hB ⊢
          clear hW6
          have HrW : Hid (W6.rangeAt b (off + i * 2) (lab x.1 x.2).toList) := fun j v hv => (hB.out.cell (p := ⟨b, off + i * 2 + j, none⟩) (World.block_lt_of_cell? _ _ (Hrx.out j v hv))).trans (Hrx.out j v hv)
          go_cut [45] (fun s45 wx => ∃ r, s45 = .bool r ∧ Hid (R8 O x k r) ∧ Hid (Below W6.heap.size W6 wx))
          case first =>
            by_cases hkm : k < m4
            · obtain ⟨y, hy⟩ : ∃ y, O[k]? = some y := ⟨_, List.getElem?_eq_getElem (by have := HM.out; omega)⟩
              obtain ⟨b', off', e', hb', hc'⟩ := HLb.out.2.2 (by have := HM.out; omega)
              cases e'
              have Hry : Hid (W6.rangeAt g4 (k * 2) (lab y.1 y.2).toList) := fun j v hv => by
                have h1 := hc' k y hy j v hv
                rw [Nat.zero_add] at h1
                exact (hB.out.cell (p := ⟨g4, k * 2 + j, none⟩) (World.block_lt_of_cell? _ _ h1)).trans h1
              obtain ⟨rr, hrr⟩ : ∃ rr, decide (y = x) = rr := ⟨_, rfl⟩
              have Hrr : Hid (R8 O x k rr) := by rw [← hrr]; exact R8.at hy
              have heq : ∀ W : World, (if y.1 = x.1 then (if (y.2 : Int) = (x.2 : Int) then Result.ok (Next.value (Value.bool true)) W else Result.ok (Next.value (Value.bool false)) W) else Result.ok (Next.value (Value.bool false)) W) = Result.ok (Next.value (Value.bool rr)) W := by
                intro W
                rw [← hrr]
                obtain ⟨a1, a2⟩ := x
                obtain ⟨b1, b2⟩ := y
                by_cases h1 : b1 = a1 <;> by_cases h2 : b2 = a2 <;> simp [h1, h2] <;> omega
              have Hrx := HrW
              clear hrr hy hc' hb'
              have apx : apartB [31, 32, 33, 34, 35, 36, 37, 38, 39, 40, 41, 42, 43, 44, 45] = true := by decide
              refine wp_region_any (by kernel_rfl) ?_
              change wpAny _ _ _ _ _ _ _ (World.drew _)
              refine wpAny_inv (fun ll aa wx => Hid (ll.size = 15 ∧ Below W6.heap.size W6 wx) ∧ ∃ (z : Nat → Value), Hid (aa = ⟨#[.slice (some ⟨b, off, none⟩) n c, undef, .slice none 0 0, .slice (some ⟨g4, 0, none⟩) m4 q4, .int .i64 ((i : Nat) : Int), .int .i64 ((k : Nat) : Int), u6, .int .i64 ((i : Nat) : Int), .slice (some ⟨b, off, none⟩) n c, .int .i64 (n : Nat), .bool true, u11, u12, u13, u14, u15, u16, u17, u18, u19, u20, u21, u22, u23, u24, u25, u26, u27, u28, u29, u30, z 31, z 32, z 33, z 34, z 35, z 36, z 37, z 38, z 39, z 40, z 41, z 42, z 43, z 44, z 45, u46, u47, u48, u49, u50, u51, u52, u53, u54, u55, u56, u57, u58, u59, u60, u61, u62, undef], []⟩) ∧ Holding [31, 32, 33, 34, 35, 36, 37, 38, 39, 40, 41, 42, 43, 44, 45] [some (.int .i64 ((k : Nat) : Int)), some (.slice (some ⟨g4, 0, none⟩) m4 q4), some (.int .i64 (m4 : Nat)), some (.bool true), some (.bool true), some (.slice (some ⟨g4, 0, none⟩) m4 q4), some (.int .i64 ((k : Nat) : Int)), some (.pointer (some ⟨g4, k * 2, none⟩)), some (.agg (lab y.1 y.2)), some (.slice (some ⟨b, off, none⟩) n c), some (.int .i64 ((i : Nat) : Int)), some (.pointer (some ⟨b, off + i * 2, none⟩)), some (.agg (lab x.1 x.2)), some (.bool rr), some (.bool rr)] ll z) ?_ (by kernel_rfl) ?_ ?_ _ _ _ _ (unlisted_none _) ?_
              · rintro ll aa wx ⟨hI, _⟩
                exact hI.out.1
              · rintro ll aa wx ⟨hI, z, ha, hz⟩ hall
                have hx := Lib.hid hI.out.2
                have e0 : z 31 = .int .i64 ((k : Nat) : Int) := hz 0 _ (hall 0 (by decide)) rfl
                have e1 : z 32 = .slice (some ⟨g4, 0, none⟩) m4 q4 := hz 1 _ (hall 1 (by decide)) rfl
                have e2 : z 33 = .int .i64 (m4 : Nat) := hz 2 _ (hall 2 (by decide)) rfl
                have e3 : z 34 = .bool true := hz 3 _ (hall 3 (by decide)) rfl
                have e4 : z 35 = .bool true := hz 4 _ (hall 4 (by decide)) rfl
                have e5 : z 36 = .slice (some ⟨g4, 0, none⟩) m4 q4 := hz 5 _ (hall 5 (by decide)) rfl
                have e6 : z 37 = .int .i64 ((k : Nat) : Int) := hz 6 _ (hall 6 (by decide)) rfl
                have e7 : z 38 = .pointer (some ⟨g4, k * 2, none⟩) := hz 7 _ (hall 7 (by decide)) rfl
                have e8 : z 39 = .agg (lab y.1 y.2) := hz 8 _ (hall 8 (by decide)) rfl
                have e9 : z 40 = .slice (some ⟨b, off, none⟩) n c := hz 9 _ (hall 9 (by decide)) rfl
                have e10 : z 41 = .int .i64 ((i : Nat) : Int) := hz 10 _ (hall 10 (by decide)) rfl
                have e11 : z 42 = .pointer (some ⟨b, off + i * 2, none⟩) := hz 11 _ (hall 11 (by decide)) rfl
                have e12 : z 43 = .agg (lab x.1 x.2) := hz 12 _ (hall 12 (by decide)) rfl
                have e13 : z 44 = .bool rr := hz 13 _ (hall 13 (by decide)) rfl
                have e14 : z 45 = .bool rr := hz 14 _ (hall 14 (by decide)) rfl
                clear hall hz hI 
                obtain rfl := ha.out
                clear ha
                clear apx
                have E := Lib.hid e14
                have HX2 := Lib.hid hx.out
                clear e0 e1 e2 e3 e4 e5 e6 e7 e8 e9 e10 e11 e12 e13 e14 hx
                dsimp only
                rw [E.out]
                go_wp2
                go_meet
                exact ⟨_, rfl, Hrr, HX2.out⟩
              · rintro ll aa wx i ⟨hI, z, ha, hz⟩ hi hu hw
                obtain rfl := ha.out
                have hsz := Lib.hid hI.out.1
                have hx := Lib.hid hI.out.2
                clear ha hI
                have hin : i < 15 := hi
                obtain rfl | rfl | rfl | rfl | rfl | rfl | rfl | rfl | rfl | rfl | rfl | rfl | rfl | rfl | rfl : i = 0 ∨ i = 1 ∨ i = 2 ∨ i = 3 ∨ i = 4 ∨ i = 5 ∨ i = 6 ∨ i = 7 ∨ i = 8 ∨ i = 9 ∨ i = 10 ∨ i = 11 ∨ i = 12 ∨ i = 13 ∨ i = 14 := by omega
                · refine wpOp_plain rfl rfl ?_
                  go_simp
                  exact ⟨⟨by simp [hsz.out], hx.out⟩, upd z 31 (.int .i64 ((k : Nat) : Int)), (by unfold Hid; simp [upd]), hz.next apx hsz.out 0 (by decide) _ (fun _ h => Option.some.inj h)⟩
                · refine wpOp_plain rfl rfl ?_
                  go_simp
                  exact ⟨⟨by simp [hsz.out], hx.out⟩, upd z 32 (.slice (some ⟨g4, 0, none⟩) m4 q4), (by unfold Hid; simp [upd]), hz.next apx hsz.out 1 (by decide) _ (fun _ h => Option.some.inj h)⟩
                · have e1 : z 32 = .slice (some ⟨g4, 0, none⟩) m4 q4 := hz 1 _ (hw 1 (by kernel_rfl)) rfl
                  refine wpOp_plain rfl rfl ?_
                  go_simp
                  exact ⟨⟨by simp [hsz.out], hx.out⟩, upd z 33 (.int .i64 (m4 : Nat)), (by unfold Hid; simp [upd, e1]), hz.next apx hsz.out 2 (by decide) _ (fun _ h => Option.some.inj h)⟩
                · have e0 : z 31 = .int .i64 ((k : Nat) : Int) := hz 0 _ (hw 0 (by kernel_rfl)) rfl
                  have e2 : z 33 = .int .i64 (m4 : Nat) := hz 2 _ (hw 2 (by kernel_rfl)) rfl
                  refine wpOp_plain rfl rfl ?_
                  go_simp
                  exact ⟨⟨by simp [hsz.out], hx.out⟩, upd z 34 (.bool true), (by unfold Hid; simp [upd, e0, e2]), hz.next apx hsz.out 3 (by decide) _ (fun _ h => Option.some.inj h)⟩
                · have e3 : z 34 = .bool true := hz 3 _ (hw 3 (by kernel_rfl)) rfl
                  refine wpOp_plain rfl rfl ?_
                  go_simp
                  exact ⟨⟨by simp [hsz.out], hx.out⟩, upd z 35 (.bool true), (by unfold Hid; simp [upd, e3]), hz.next apx hsz.out 4 (by decide) _ (fun _ h => Option.some.inj h)⟩
                · have e4 : z 35 = .bool true := hz 4 _ (hw 4 (by kernel_rfl)) rfl
                  refine wpOp_want rfl (by simp [Region.wanted, yielded, e4]) ?_
                  go_simp
                  exact ⟨⟨by simp [hsz.out], hx.out⟩, upd z 36 (.slice (some ⟨g4, 0, none⟩) m4 q4), (by unfold Hid; simp [upd, e4]), hz.next apx hsz.out 5 (by decide) _ (fun _ h => Option.some.inj h)⟩
                · have e4 : z 35 = .bool true := hz 4 _ (hw 4 (by kernel_rfl)) rfl
                  refine wpOp_want rfl (by simp [Region.wanted, yielded, e4]) ?_
                  go_simp
                  exact ⟨⟨by simp [hsz.out], hx.out⟩, upd z 37 (.int .i64 ((k : Nat) : Int)), (by unfold Hid; simp [upd, e4]), hz.next apx hsz.out 6 (by decide) _ (fun _ h => Option.some.inj h)⟩
                · have e4 : z 35 = .bool true := hz 4 _ (hw 4 (by kernel_rfl)) rfl
                  have e5 : z 36 = .slice (some ⟨g4, 0, none⟩) m4 q4 := hz 5 _ (hw 5 (by kernel_rfl)) rfl
                  have e6 : z 37 = .int .i64 ((k : Nat) : Int) := hz 6 _ (hw 6 (by kernel_rfl)) rfl
                  refine wpOp_want rfl (by simp [Region.wanted, yielded, e4]) ?_
                  go_simp
                  exact ⟨⟨by simp [hsz.out], hx.out⟩, upd z 38 (.pointer (some ⟨g4, k * 2, none⟩)), (by unfold Hid; simp [upd, e4, e5, e6]), hz.next apx hsz.out 7 (by decide) _ (fun _ h => Option.some.inj h)⟩
                · have e4 : z 35 = .bool true := hz 4 _ (hw 4 (by kernel_rfl)) rfl
                  have e7 : z 38 = .pointer (some ⟨g4, k * 2, none⟩) := hz 7 _ (hw 7 (by kernel_rfl)) rfl
                  have rg : wx.rangeAt g4 (k * 2) (lab y.1 y.2).toList := fun j v hv => (hx.out.cell (p := ⟨g4, k * 2 + j, none⟩) (World.block_lt_of_cell? _ _ (Hry.out j v hv))).trans (Hry.out j v hv)
                  refine wpOp_want rfl (by simp [Region.wanted, yielded, e4]) (wp_load_mid 34 (.tmp 38) rfl g4 (k * 2) e7 (lab y.1 y.2).toList _ rg Tryz.underlying34 rfl infoL2 ?_)
                  go_simp
                  exact ⟨⟨by simp [hsz.out], hx.out⟩, upd z 39 (.agg (lab y.1 y.2)), (by unfold Hid; simp [upd, e4, e7]), hz.next apx hsz.out 8 (by decide) _ (fun _ h => Option.some.inj h)⟩
                · have e4 : z 35 = .bool true := hz 4 _ (hw 4 (by kernel_rfl)) rfl
                  refine wpOp_want rfl (by simp [Region.wanted, yielded, e4]) ?_
                  go_simp
                  exact ⟨⟨by simp [hsz.out], hx.out⟩, upd z 40 (.slice (some ⟨b, off, none⟩) n c), (by unfold Hid; simp [upd, e4]), hz.next apx hsz.out 9 (by decide) _ (fun _ h => Option.some.inj h)⟩
                · have e4 : z 35 = .bool true := hz 4 _ (hw 4 (by kernel_rfl)) rfl
                  refine wpOp_want rfl (by simp [Region.wanted, yielded, e4]) ?_
                  go_simp
                  exact ⟨⟨by simp [hsz.out], hx.out⟩, upd z 41 (.int .i64 ((i : Nat) : Int)), (by unfold Hid; simp [upd, e4]), hz.next apx hsz.out 10 (by decide) _ (fun _ h => Option.some.inj h)⟩
                · have e4 : z 35 = .bool true := hz 4 _ (hw 4 (by kernel_rfl)) rfl
                  have e9 : z 40 = .slice (some ⟨b, off, none⟩) n c := hz 9 _ (hw 9 (by kernel_rfl)) rfl
                  have e10 : z 41 = .int .i64 ((i : Nat) : Int) := hz 10 _ (hw 10 (by kernel_rfl)) rfl
                  refine wpOp_want rfl (by simp [Region.wanted, yielded, e4]) ?_
                  go_simp
                  exact ⟨⟨by simp [hsz.out], hx.out⟩, upd z 42 (.pointer (some ⟨b, off + i * 2, none⟩)), (by unfold Hid; simp [upd, e4, e9, e10]), hz.next apx hsz.out 11 (by decide) _ (fun _ h => Option.some.inj h)⟩
                · have e4 : z 35 = .bool true := hz 4 _ (hw 4 (by kernel_rfl)) rfl
                  have e11 : z 42 = .pointer (some ⟨b, off + i * 2, none⟩) := hz 11 _ (hw 11 (by kernel_rfl)) rfl
                  have rg : wx.rangeAt b (off + i * 2) (lab x.1 x.2).toList := fun j v hv => (hx.out.cell (p := ⟨b, off + i * 2 + j, none⟩) (World.block_lt_of_cell? _ _ (Hrx.out j v hv))).trans (Hrx.out j v hv)
                  refine wpOp_want rfl (by simp [Region.wanted, yielded, e4]) (wp_load_mid 34 (.tmp 42) rfl b (off + i * 2) e11 (lab x.1 x.2).toList _ rg Tryz.underlying34 rfl infoL2 ?_)
                  go_simp
                  exact ⟨⟨by simp [hsz.out], hx.out⟩, upd z 43 (.agg (lab x.1 x.2)), (by unfold Hid; simp [upd, e4, e11]), hz.next apx hsz.out 12 (by decide) _ (fun _ h => Option.some.inj h)⟩
                · have e4 : z 35 = .bool true := hz 4 _ (hw 4 (by kernel_rfl)) rfl
                  have e8 : z 39 = .agg (lab y.1 y.2) := hz 8 _ (hw 8 (by kernel_rfl)) rfl
                  have e12 : z 43 = .agg (lab x.1 x.2) := hz 12 _ (hw 12 (by kernel_rfl)) rfl
                  refine wpOp_want rfl (by simp [Region.wanted, yielded, e4]) ?_
                  go_simp
                  exact ⟨⟨by simp [hsz.out], hx.out⟩, upd z 44 (.bool rr), (by unfold Hid; simp [upd, e4, e8, e12]), hz.next apx hsz.out 13 (by decide) _ (fun _ h => Option.some.inj h)⟩
                · have e4 : z 35 = .bool true := hz 4 _ (hw 4 (by kernel_rfl)) rfl
                  have e13 : z 44 = .bool rr := hz 13 _ (hw 13 (by kernel_rfl)) rfl
                  refine wpOp_plain rfl rfl ?_
                  go_simp
                  exact ⟨⟨by simp [hsz.out], hx.out⟩, upd z 45 (.bool rr), (by unfold Hid; simp [upd, e4, e13]), hz.next apx hsz.out 14 (by decide) _ (fun _ h => Option.some.inj h)⟩
              · exact ⟨⟨rfl, (Below.refl _ _).drew⟩, fun xx => (#[.slice (some ⟨b, off, none⟩) n c, undef, .slice none 0 0, .slice (some ⟨g4, 0, none⟩) m4 q4, .int .i64 ((i : Nat) : Int), .int .i64 ((k : Nat) : Int), u6, .int .i64 ((i : Nat) : Int), .slice (some ⟨b, off, none⟩) n c, .int .i64 (n : Nat), .bool true, u11, u12, u13, u14, u15, u16, u17, u18, u19, u20, u21, u22, u23, u24, u25, u26, u27, u28, u29, u30, u31, u32, u33, u34, u35, u36, u37, u38, u39, u40, u41, u42, u43, u44, u45, u46, u47, u48, u49, u50, u51, u52, u53, u54, u55, u56, u57, u58, u59, u60, u61, u62, undef] : Array Value).getD xx undef, (by rfl), Holding.start⟩
            · have Hrr : Hid (R8 O x k false) := R8.out (by have := HM.out; omega)
              have apx : apartB [31, 32, 33, 34, 35, 36, 37, 38, 39, 40, 41, 42, 43, 44, 45] = true := by decide
              refine wp_region_any (by kernel_rfl) ?_
              change wpAny _ _ _ _ _ _ _ (World.drew _)
              refine wpAny_inv (fun ll aa wx => Hid (ll.size = 15 ∧ Below W6.heap.size W6 wx) ∧ ∃ (z : Nat → Value), Hid (aa = ⟨#[.slice (some ⟨b, off, none⟩) n c, undef, .slice none 0 0, .slice (some ⟨g4, 0, none⟩) m4 q4, .int .i64 ((i : Nat) : Int), .int .i64 ((k : Nat) : Int), u6, .int .i64 ((i : Nat) : Int), .slice (some ⟨b, off, none⟩) n c, .int .i64 (n : Nat), .bool true, u11, u12, u13, u14, u15, u16, u17, u18, u19, u20, u21, u22, u23, u24, u25, u26, u27, u28, u29, u30, z 31, z 32, z 33, z 34, z 35, z 36, z 37, z 38, z 39, z 40, z 41, z 42, z 43, z 44, z 45, u46, u47, u48, u49, u50, u51, u52, u53, u54, u55, u56, u57, u58, u59, u60, u61, u62, undef], []⟩) ∧ Holding [31, 32, 33, 34, 35, 36, 37, 38, 39, 40, 41, 42, 43, 44, 45] [some (.int .i64 ((k : Nat) : Int)), some (.slice (some ⟨g4, 0, none⟩) m4 q4), some (.int .i64 (m4 : Nat)), some (.bool false), some (.bool false), some (undef), some (undef), some (undef), some (undef), some (undef), some (undef), some (undef), some (undef), some (undef), some (.bool false)] ll z) ?_ (by kernel_rfl) ?_ ?_ _ _ _ _ (unlisted_none _) ?_
              · rintro ll aa wx ⟨hI, _⟩
                exact hI.out.1
              · rintro ll aa wx ⟨hI, z, ha, hz⟩ hall
                have hx := Lib.hid hI.out.2
                have e0 : z 31 = .int .i64 ((k : Nat) : Int) := hz 0 _ (hall 0 (by decide)) rfl
                have e1 : z 32 = .slice (some ⟨g4, 0, none⟩) m4 q4 := hz 1 _ (hall 1 (by decide)) rfl
                have e2 : z 33 = .int .i64 (m4 : Nat) := hz 2 _ (hall 2 (by decide)) rfl
                have e3 : z 34 = .bool false := hz 3 _ (hall 3 (by decide)) rfl
                have e4 : z 35 = .bool false := hz 4 _ (hall 4 (by decide)) rfl
                have e5 : z 36 = undef := hz 5 _ (hall 5 (by decide)) rfl
                have e6 : z 37 = undef := hz 6 _ (hall 6 (by decide)) rfl
                have e7 : z 38 = undef := hz 7 _ (hall 7 (by decide)) rfl
                have e8 : z 39 = undef := hz 8 _ (hall 8 (by decide)) rfl
                have e9 : z 40 = undef := hz 9 _ (hall 9 (by decide)) rfl
                have e10 : z 41 = undef := hz 10 _ (hall 10 (by decide)) rfl
                have e11 : z 42 = undef := hz 11 _ (hall 11 (by decide)) rfl
                have e12 : z 43 = undef := hz 12 _ (hall 12 (by decide)) rfl
                have e13 : z 44 = undef := hz 13 _ (hall 13 (by decide)) rfl
                have e14 : z 45 = .bool false := hz 14 _ (hall 14 (by decide)) rfl
                clear hall hz hI 
                obtain rfl := ha.out
                clear ha
                clear apx
                have E := Lib.hid e14
                have HX2 := Lib.hid hx.out
                clear e0 e1 e2 e3 e4 e5 e6 e7 e8 e9 e10 e11 e12 e13 e14 hx
                dsimp only
                rw [E.out]
                go_wp2
                go_meet
                exact ⟨_, rfl, Hrr, HX2.out⟩
              · rintro ll aa wx i ⟨hI, z, ha, hz⟩ hi hu hw
                obtain rfl := ha.out
                have hsz := Lib.hid hI.out.1
                have hx := Lib.hid hI.out.2
                clear ha hI
                have hin : i < 15 := hi
                obtain rfl | rfl | rfl | rfl | rfl | rfl | rfl | rfl | rfl | rfl | rfl | rfl | rfl | rfl | rfl : i = 0 ∨ i = 1 ∨ i = 2 ∨ i = 3 ∨ i = 4 ∨ i = 5 ∨ i = 6 ∨ i = 7 ∨ i = 8 ∨ i = 9 ∨ i = 10 ∨ i = 11 ∨ i = 12 ∨ i = 13 ∨ i = 14 := by omega
                · refine wpOp_plain rfl rfl ?_
                  go_simp
                  exact ⟨⟨by simp [hsz.out], hx.out⟩, upd z 31 (.int .i64 ((k : Nat) : Int)), (by unfold Hid; simp [upd]), hz.next apx hsz.out 0 (by decide) _ (fun _ h => Option.some.inj h)⟩
                · refine wpOp_plain rfl rfl ?_
                  go_simp
                  exact ⟨⟨by simp [hsz.out], hx.out⟩, upd z 32 (.slice (some ⟨g4, 0, none⟩) m4 q4), (by unfold Hid; simp [upd]), hz.next apx hsz.out 1 (by decide) _ (fun _ h => Option.some.inj h)⟩
                · have e1 : z 32 = .slice (some ⟨g4, 0, none⟩) m4 q4 := hz 1 _ (hw 1 (by kernel_rfl)) rfl
                  refine wpOp_plain rfl rfl ?_
                  go_simp
                  exact ⟨⟨by simp [hsz.out], hx.out⟩, upd z 33 (.int .i64 (m4 : Nat)), (by unfold Hid; simp [upd, e1]), hz.next apx hsz.out 2 (by decide) _ (fun _ h => Option.some.inj h)⟩
                · have e0 : z 31 = .int .i64 ((k : Nat) : Int) := hz 0 _ (hw 0 (by kernel_rfl)) rfl
                  have e2 : z 33 = .int .i64 (m4 : Nat) := hz 2 _ (hw 2 (by kernel_rfl)) rfl
                  refine wpOp_plain rfl rfl ?_
                  go_simp
                  exact ⟨⟨by simp [hsz.out], hx.out⟩, upd z 34 (.bool false), (by unfold Hid; simp [upd, e0, e2]), hz.next apx hsz.out 3 (by decide) _ (fun _ h => Option.some.inj h)⟩
                · have e3 : z 34 = .bool false := hz 3 _ (hw 3 (by kernel_rfl)) rfl
                  refine wpOp_plain rfl rfl ?_
                  go_simp
                  exact ⟨⟨by simp [hsz.out], hx.out⟩, upd z 35 (.bool false), (by unfold Hid; simp [upd, e3]), hz.next apx hsz.out 4 (by decide) _ (fun _ h => Option.some.inj h)⟩
                · have e4 : z 35 = .bool false := hz 4 _ (hw 4 (by kernel_rfl)) rfl
                  refine wpOp_skip rfl (by simp [Region.wanted, yielded, e4]) ?_
                  go_simp
                  exact ⟨⟨by simp [hsz.out], hx.out⟩, upd z 36 (undef), (by unfold Hid; simp [upd, e4]), hz.next apx hsz.out 5 (by decide) _ (fun _ h => Option.some.inj h)⟩
                · have e4 : z 35 = .bool false := hz 4 _ (hw 4 (by kernel_rfl)) rfl
                  refine wpOp_skip rfl (by simp [Region.wanted, yielded, e4]) ?_
                  go_simp
                  exact ⟨⟨by simp [hsz.out], hx.out⟩, upd z 37 (undef), (by unfold Hid; simp [upd, e4]), hz.next apx hsz.out 6 (by decide) _ (fun _ h => Option.some.inj h)⟩
                · have e4 : z 35 = .bool false := hz 4 _ (hw 4 (by kernel_rfl)) rfl
                  refine wpOp_skip rfl (by simp [Region.wanted, yielded, e4]) ?_
                  go_simp
                  exact ⟨⟨by simp [hsz.out], hx.out⟩, upd z 38 (undef), (by unfold Hid; simp [upd, e4]), hz.next apx hsz.out 7 (by decide) _ (fun _ h => Option.some.inj h)⟩
                · have e4 : z 35 = .bool false := hz 4 _ (hw 4 (by kernel_rfl)) rfl
                  refine wpOp_skip rfl (by simp [Region.wanted, yielded, e4]) ?_
                  go_simp
                  exact ⟨⟨by simp [hsz.out], hx.out⟩, upd z 39 (undef), (by unfold Hid; simp [upd, e4]), hz.next apx hsz.out 8 (by decide) _ (fun _ h => Option.some.inj h)⟩
                · have e4 : z 35 = .bool false := hz 4 _ (hw 4 (by kernel_rfl)) rfl
                  refine wpOp_skip rfl (by simp [Region.wanted, yielded, e4]) ?_
                  go_simp
                  exact ⟨⟨by simp [hsz.out], hx.out⟩, upd z 40 (undef), (by unfold Hid; simp [upd, e4]), hz.next apx hsz.out 9 (by decide) _ (fun _ h => Option.some.inj h)⟩
                · have e4 : z 35 = .bool false := hz 4 _ (hw 4 (by kernel_rfl)) rfl
                  refine wpOp_skip rfl (by simp [Region.wanted, yielded, e4]) ?_
                  go_simp
                  exact ⟨⟨by simp [hsz.out], hx.out⟩, upd z 41 (undef), (by unfold Hid; simp [upd, e4]), hz.next apx hsz.out 10 (by decide) _ (fun _ h => Option.some.inj h)⟩
                · have e4 : z 35 = .bool false := hz 4 _ (hw 4 (by kernel_rfl)) rfl
                  refine wpOp_skip rfl (by simp [Region.wanted, yielded, e4]) ?_
                  go_simp
                  exact ⟨⟨by simp [hsz.out], hx.out⟩, upd z 42 (undef), (by unfold Hid; simp [upd, e4]), hz.next apx hsz.out 11 (by decide) _ (fun _ h => Option.some.inj h)⟩
                · have e4 : z 35 = .bool false := hz 4 _ (hw 4 (by kernel_rfl)) rfl
                  refine wpOp_skip rfl (by simp [Region.wanted, yielded, e4]) ?_
                  go_simp
                  exact ⟨⟨by simp [hsz.out], hx.out⟩, upd z 43 (undef), (by unfold Hid; simp [upd, e4]), hz.next apx hsz.out 12 (by decide) _ (fun _ h => Option.some.inj h)⟩
                · have e4 : z 35 = .bool false := hz 4 _ (hw 4 (by kernel_rfl)) rfl
                  refine wpOp_skip rfl (by simp [Region.wanted, yielded, e4]) ?_
                  go_simp
                  exact ⟨⟨by simp [hsz.out], hx.out⟩, upd z 44 (undef), (by unfold Hid; simp [upd, e4]), hz.next apx hsz.out 13 (by decide) _ (fun _ h => Option.some.inj h)⟩
                · have e4 : z 35 = .bool false := hz 4 _ (hw 4 (by kernel_rfl)) rfl
                  refine wpOp_plain rfl rfl ?_
                  go_simp
                  exact ⟨⟨by simp [hsz.out], hx.out⟩, upd z 45 (.bool false), (by unfold Hid; simp [upd, e4]), hz.next apx hsz.out 14 (by decide) _ (fun _ h => Option.some.inj h)⟩
              · exact ⟨⟨rfl, (Below.refl _ _).drew⟩, fun xx => (#[.slice (some ⟨b, off, none⟩) n c, undef, .slice none 0 0, .slice (some ⟨g4, 0, none⟩) m4 q4, .int .i64 ((i : Nat) : Int), .int .i64 ((k : Nat) : Int), u6, .int .i64 ((i : Nat) : Int), .slice (some ⟨b, off, none⟩) n c, .int .i64 (n : Nat), .bool true, u11, u12, u13, u14, u15, u16, u17, u18, u19, u20, u21, u22, u23, u24, u25, u26, u27, u28, u29, u30, u31, u32, u33, u34, u35, u36, u37, u38, u39, u40, u41, u42, u43, u44, u45, u46, u47, u48, u49, u50, u51, u52, u53, u54, u55, u56, u57, u58, u59, u60, u61, u62, undef] : Array Value).getD xx undef, (by rfl), Holding.start⟩
          case rest =>
            obtain ⟨r, rfl, hr, hl⟩ := hcut
            have low := Lib.hid (hB.out.trans (hl.out.mono hB.out.size))
            clear hl HrW hB
            have hsome := insD_at O x k hE.out.1.1 hE.out.1.2 hE.out.2
            cases r with
            | true =>
              have hI2 : Hid (OwnL w.heap.size (refL (xs.take (i + 1))) (.slice (some ⟨g4, 0, none⟩) m4 q4) wc ∧ Below w.heap.size w wc) := by
                rw [Hsn.out, hsome, if_pos (hr.out.1 rfl)]
                have hO4 := OwnL.keep hI.out.1 low.out (fun q e => (World.ownsRow.lt hI.out.1 q e).2)
                rw [← HM.out] at hO4
                exact ⟨hO4, hI.out.2.trans (low.out.mono hI.out.2.size)⟩
              clear hsome hr
              go_wp2
              go_roundw
              case rel => exact ⟨i + 1, by omega, by go_num, hI2⟩
              case measure => simp [intOf]; omega
            | false =>
              rw [if_neg (hr.out.2 rfl)] at hsome
              have HS := Lib.hid (Hsn.out.trans hsome)
              clear hsome hr
              have hkle := hE.out.1.1
              rw [← HM.out] at hkle
              have low1 := Lib.hid (hI.out.2.trans (low.out.mono hI.out.2.size))
              have HLc : Hid (Labs wc (some ⟨g4, 0, none⟩) q4 O) := HLb.out.below low.out (Nat.le_refl _)
              have Hrc : Hid (wc.rangeAt b (off + i * 2) (lab x.1 x.2).toList) := fun j v hv => (low.out.cell (p := ⟨b, off + i * 2 + j, none⟩) (World.block_lt_of_cell? _ _ (Hrx.out j v hv))).trans (Hrx.out j v hv)
              have Htk : Hid ((O.take k).length = k) := by show _ = _; rw [List.length_take, ← HM.out]; omega
              have hkb : k ≤ 1000 := by omega
              have Lwc := Lib.hid (Below.refl wc.heap.size wc)
              clear hI Hrx hE HLb low
              go_upto_region 11 with (at_builtin; refine wpList_append_labs rfl (.tmp 46) (.tmp 49) rfl wc.heap.size (.slice none 0 0) [] (O.take k) rfl (OwnL.nil _ _) (some ⟨g4, 0, none⟩) k q4 rfl Htk.out (HLc.out.take k) (by simp; omega) (Nat.le_refl _) ?_; intro v1 w1 O1 gr1; have HO1 := Lib.hid O1; have Lc1 := Lib.hid (gr1 _ _ Lwc.out (Nat.le_refl _)); clear O1 gr1)
              have Hr1 : Hid (w1.rangeAt b (off + i * 2) (lab x.1 x.2).toList) := fun j v hv => (Lc1.out.cell (p := ⟨b, off + i * 2 + j, none⟩) (World.block_lt_of_cell? _ _ (Hrc.out j v hv))).trans (Hrc.out j v hv)
              refine wp_region_lit ?_
              refine wpList_plain rfl (fun K hK => ?_)
              go_simp
              refine hK _ _ ?_
              clear hK K
              refine wpList_plain rfl (fun K hK => ?_)
              go_simp
              refine hK _ _ ?_
              clear hK K
              refine wpList_plain rfl (fun K hK => ?_)
              go_simp
              refine hK _ _ ?_
              clear hK K
              refine wpList_plain rfl (fun K hK => ?_)
              go_simp
              refine hK _ _ ?_
              clear hK K
              refine wpList_load_mid rfl 34 (.tmp 54) rfl b (off + i * 2) rfl (lab x.1 x.2).toList _ Hr1.out Tryz.underlying34 rfl infoL2 ?_
              have hv1 : ∀ v ∈ [Value.agg (lab x.1 x.2)], v.cells.size = 2 := fun v hv => by obtain rfl := List.mem_singleton.1 hv; rfl
              refine Great.wpList_buildRows (by rfl) 38 34 #[(0, .tmp 55)] 2 [.agg (lab x.1 x.2)] (by rfl) (fun _ => 55) w1.heap.size (by rfl) (some 56) (by rfl) Tryz.underlying38 (infoL2 (a := 0) (c := 0)) (by kernel_rfl) (by decide) (Nat.zero_lt_one) (by show 1 * 2 ≤ 2 ^ 24; decide) (by rfl) hv1 (fun i h => by
                obtain rfl : i = 0 := by simpa using h
                rfl) ?_
              obtain ⟨w7, hw7⟩ : ∃ w7, w7 = w1.alloc (.cells (lab x.1 x.2) 34) := ⟨_, rfl⟩
              have e7 : w1.alloc (.cells (([.agg (lab x.1 x.2)] : List Value).flatMap fun v => v.cells.toList).toArray 34) = w7 := by rw [hw7]; rfl
              rw [e7]
              have h7 : w7.heap[w1.heap.size]? = some (.cells (lab x.1 x.2) 34 (0, 0)) := by rw [hw7]; exact Go.heap_alloc_new w1 _
              have l7 : Below w1.heap.size w1 w7 := by rw [hw7]; exact (Below.refl _ _).alloc (Nat.le_refl _) _
              clear e7 hw7
              have own7 : OwnL wc.heap.size ([] ++ O.take k) v1 w7 := OwnL.keep HO1.out l7 (fun q e => (World.ownsRow.lt HO1.out q e).2)
              have low7 : Below wc.heap.size wc w7 := Lc1.out.trans (l7.mono Lc1.out.size)
              refine wpList_append_lab rfl (.tmp 51) (.tmp 56) rfl wc.heap.size v1 ([] ++ O.take k) x rfl own7 w1.heap.size rfl h7 (by rw [List.nil_append, Htk.out]; omega) low7.size ?_
              intro v8 w8 own8 gr8
              have HO8 := Lib.hid own8
              have Lc8 := Lib.hid (low7.grown gr8 low7.size (fun q hq => (World.ownsRow.lt own7 q hq).1))
              clear own8 gr8 own7 low7 h7 l7 hv1 HO1 Lc1 Hr1 Hrc
              refine wpList_plain rfl (fun K hK => ?_)
              go_simp
              refine hK _ _ ?_
              clear hK K
              refine wpList_nil ?_
              go_simp
              have HL8 : Hid (Labs w8 (some ⟨g4, 0, none⟩) q4 O) := HLc.out.below Lc8.out (Nat.le_refl _)
              have Hdl : Hid ((O.drop k).length = m4 - k) := by show _ = _; rw [List.length_drop, ← HM.out]
              by_cases hck : q4 = k
              · have Hd : Hid (Labs w8 (some ⟨g4, 0, none⟩) 0 (O.drop k)) := by
                  have e : O.drop k = [] := List.eq_nil_of_length_eq_zero (by rw [Hdl.out]; omega)
                  rw [e]
                  exact Labs.none _ _ _
                go_wp2_with (at_builtin; refine wpList_append_labs rfl (.tmp 58) (.tmp 61) rfl wc.heap.size v8 ([] ++ O.take k ++ [x]) (O.drop k) rfl HO8.out (some ⟨g4, 0, none⟩) (m4 - k) 0 rfl Hdl.out Hd.out (by have := Htk.out; simp only [List.nil_append, List.length_append, List.length_cons, List.length_nil]; omega) Lc8.out.size ?_; intro v9 w9 O9 gr9; have HO9 := Lib.hid O9; have Lc9 := Lib.hid (gr9 _ _ Lc8.out (Nat.le_refl _)); clear O9 gr9)
                have HI2 : Hid (OwnL w.heap.size (refL (xs.take (i + 1))) v9 w9 ∧ Below w.heap.size w w9) := by
                  refine ⟨?_, low1.out.trans (Lc9.out.mono low1.out.size)⟩
                  rw [HS.out]
                  have h := HO9.out.base low1.out.size
                  rw [List.nil_append] at h
                  exact h
                clear HO9 Lc9 HO8 Lc8 HL8
                go_roundw
                case rel => exact ⟨i + 1, by omega, by go_num, HI2⟩
                case measure => simp [intOf]; omega
              · have Hd : Hid (Labs w8 (some ⟨g4, k * 2, none⟩) (q4 - k) (O.drop k)) := by
                  have h := HL8.out.drop k (by rw [← HM.out]; exact hkle)
                  rw [Nat.zero_add] at h
                  exact h
                go_wp2_with (at_builtin; refine wpList_append_labs rfl (.tmp 58) (.tmp 61) rfl wc.heap.size v8 ([] ++ O.take k ++ [x]) (O.drop k) rfl HO8.out (some ⟨g4, k * 2, none⟩) (m4 - k) (q4 - k) rfl Hdl.out Hd.out (by have := Htk.out; simp only [List.nil_append, List.length_append, List.length_cons, List.length_nil]; omega) Lc8.out.size ?_; intro v9 w9 O9 gr9; have HO9 := Lib.hid O9; have Lc9 := Lib.hid (gr9 _ _ Lc8.out (Nat.le_refl _)); clear O9 gr9)
                have HI2 : Hid (OwnL w.heap.size (refL (xs.take (i + 1))) v9 w9 ∧ Below w.heap.size w w9) := by
                  refine ⟨?_, low1.out.trans (Lc9.out.mono low1.out.size)⟩
                  rw [HS.out]
                  have h := HO9.out.base low1.out.size
                  rw [List.nil_append] at h
                  exact h
                clear HO9 Lc9 HO8 Lc8 HL8
                go_roundw
                case rel => exact ⟨i + 1, by omega, by go_num, HI2⟩
                case measure => simp [intOf]; omega
    · have hlt' : ¬ (i : Int) < n := by omega
      obtain rfl : i = n := by omega
      have Ho : Hid (OwnL w.heap.size (refL xs) u3 wr) := by
        have h := hI.out.1
        rwa [List.take_of_length_le (by have := Hn.out; omega)] at h
      have Hl := Lib.hid hI.out.2
      clear hI
      go_wp2
      go_ret
      exact ⟨_, rfl, Ho.out, Hl.out⟩
end Go.Proofs.YtpkolmmahoopcaaGreatDoor.Lab
