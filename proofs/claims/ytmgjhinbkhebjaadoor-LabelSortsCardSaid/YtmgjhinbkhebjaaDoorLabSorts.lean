/- DERIVED. The walk of LabelSorts; a parameter that is a slice of labels. -/
import Derived.Test.YtmgjhinbkhebjaaDoorLabSorted
import Derived.Test.YtmgjhinbkhebjaaDoorLabLaid
namespace Go.Proofs.YtmgjhinbkhebjaaDoor.Lab
open Go.RowKit Str
open Go.ChangeShapes Go.WideShapes Go.ChangeAt
theorem insD_len (x : Int × Nat) : ∀ o, (insD x o).length ≤ o.length + 1
  | [] => by simp [insD]
  | y :: r => by
    have ih := insD_len x r
    unfold insD
    split
    · simp only [List.length_cons]; omega
    · split <;> simp
theorem fold_len : ∀ (l o : List (Int × Nat)), (l.foldl (fun o x => insD x o) o).length ≤ o.length + l.length
  | [], o => by simp
  | z :: l, o => by
    have := fold_len l (insD z o)
    have := insD_len z o
    simp only [List.foldl_cons, List.length_cons]; omega
theorem refL_len (xs : List (Int × Nat)) : (refL xs).length ≤ xs.length := by
  have := fold_len xs []
  simpa [refL] using this
theorem OwnL.labsA {base : Nat} {xs : List (Int × Nat)} {v : Value} {w : World} (h : OwnL base xs v w) : ∃ A c, v = .slice A xs.length c ∧ Labs w A c xs ∧ (A = none ∨ ∃ b off, A = some ⟨b, off, none⟩) := by
  obtain ⟨A, c, e, hl⟩ := h.labs
  refine ⟨A, c, e, hl, ?_⟩
  rcases h.2 with ⟨hv, _⟩ | ⟨g, cap, cur, hv, _⟩
  · rw [hv] at e
    injection e with e1 _ _
    exact .inl e1.symm
  · rw [hv] at e
    injection e with e1 _ _
    exact .inr ⟨g, 0, e1.symm⟩
/-- the row that the loop writes over. -/
def RowAt (A : Option Addr) (m B : Nat) (w : World) : Prop := 0 < m → ∃ gs cur, A = some ⟨gs, 0, none⟩ ∧ B ≤ gs ∧ w.heap[gs]? = some (.cells cur 24 (0, 0)) ∧ m * 2 ≤ cur.size
theorem OwnL.rowAt {base c : Nat} {A : Option Addr} {xs : List (Int × Nat)} {w w' : World} (h : OwnL base xs (.slice A xs.length c) w) (hb : Below w.heap.size w w') : RowAt A xs.length base w' := by
  intro hpos
  rcases h.2 with ⟨_, h0⟩ | ⟨g, cap, cur, hv, hg, hh, hn, _, hs, _⟩
  · omega
  · injection hv with e1 _ _
    refine ⟨g, cur, e1, hg, (hb.block g (Array.getElem?_eq_some_iff.1 hh).1).trans hh, ?_⟩
    have := Nat.mul_le_mul_right 2 hn
    omega
theorem OwnL.made (w : World) : OwnL w.heap.size [] (.slice (some ⟨w.heap.size, 0, none⟩) 0 0) (w.alloc (.cells #[] 24)) := by
  refine ⟨rfl, .inr ⟨w.heap.size, 0, #[], rfl, Nat.le_refl _, Go.heap_alloc_new _ _, Nat.le_refl _, Nat.zero_le _, rfl, rfl⟩⟩
theorem same_yes (A B : Option Addr) (n c d : Nat) (xs : List (Int × Nat)) (hn : xs.length = n) (hle : n ≤ 100000) (w : World) (hX : Labs w A c xs) (hY : Labs w B d xs) :
    Calls Tryd.prog 19 #[.slice A n c, .slice B n d] w fun e w' => e = .returned (.bool true) ∧ Below w.heap.size w w' :=
  (same_any A B n n c d xs xs hn hn hle hle w hX hY).mono fun _ _ ⟨he, hb⟩ => ⟨by rw [he, decide_eq_true rfl], hb⟩
set_option maxHeartbeats 4000000 in
set_option maxRecDepth 100000 in
theorem sorts_walk (A : Option Addr) (n c : Nat) (xs : List (Int × Nat)) (hn : xs.length = n) (hm : n ≤ maxLen) (w : World) (hL : Laid w) (hX : Labs w A c xs) :
    Calls Tryd.prog 4 #[.slice A n c] w fun e w' => e = .returned (.bool true) ∧ Below w.heap.size w w' := by
  unfold maxLen at hm
  have HX := Lib.hid hX
  have Hn := Lib.hid hn
  have HLd := Lib.hid hL
  clear hX hn hL
  by_cases hbig : 100 < n
  · go_enter Tryd.func4, Tryd.ntmps4
    go_wp2_with (go_at_call 17; refine (awake_any _ HLd.out).mono ?_; rintro e w2 ⟨rfl, low⟩)
    go_ret
    exact ⟨rfl, low⟩
  · have hnb : n ≤ 100 := by omega
    have om0 := Lib.hid (OwnL.made w)
    have Lw0 : Hid (Below w.heap.size w (w.alloc (.cells #[] 24))) := (Below.refl _ _).alloc (Nat.le_refl _) _
    have HX0 : Hid (Labs (w.alloc (.cells #[] 24)) A c xs) := HX.out.below Lw0.out (Nat.le_refl _)
    go_enter Tryd.func4, Tryd.ntmps4
    go_upto_region 4 with (at_builtin; refine wpList_append_labs rfl (.tmp 11) (.tmp 12) rfl w.heap.size (.slice (some ⟨w.heap.size, 0, none⟩) 0 0) [] xs rfl om0.out A n c rfl Hn.out HX0.out (by simp; omega) Lw0.out.size ?_; intro v1 w1 O1 gr1; have HO1 := Lib.hid O1; have Lw1 := Lib.hid (gr1 _ _ Lw0.out (Nat.le_refl _)); clear O1 gr1)
    clear om0 Lw0 HX0
    obtain ⟨A1, c1, hv1, hl1, hA1⟩ := HO1.out.labsA
    rw [List.nil_append, Hn.out] at hv1
    rw [List.nil_append] at hl1
    subst hv1
    have HL1 := Lib.hid hl1
    clear HO1
    have hS := Lib.hid (sorted_any A1 n c1 xs Hn.out (by omega) w1 HL1.out hA1)
    clear hA1 hl1
    go_wp2_with fail
    refine hS.out.mono ?_
    rintro e w2 ⟨v2, rfl, hO2, lw2⟩
    have HO2 := Lib.hid hO2
    have Lw2 := Lib.hid lw2
    have Lt2 := Lib.hid (Lw1.out.trans (lw2.mono Lw1.out.size))
    clear hO2 lw2 hS
    have HX2 : Hid (Labs w2 A c xs) := HX.out.below Lt2.out (Nat.le_refl _)
    have hR := Lib.hid (rsorted_any A n c xs Hn.out (by omega) w2 HX2.out)
    go_wp2_with fail
    refine hR.out.mono ?_
    rintro e w3 ⟨v3, rfl, hO3, lw3⟩
    obtain ⟨A2, c2, hv2, hl2, _⟩ := HO2.out.labsA
    obtain ⟨A3, c3, hv3, hl3⟩ := hO3.labs
    subst hv2 hv3
    have HL2 : Hid (Labs w3 A2 c2 (refL xs)) := hl2.below lw3 (Nat.le_refl _)
    have HL3 := Lib.hid hl3
    have HRA := Lib.hid (OwnL.rowAt HO2.out lw3)
    have Lt3 := Lib.hid (Lt2.out.trans (lw3.mono Lt2.out.size))
    have Lo3 := Lib.hid (Lw2.out.trans (lw3.mono Lw2.out.size))
    have hml := refL_len xs
    rw [Hn.out] at hml
    obtain ⟨m, hmm⟩ : ∃ m, m = (refL xs).length := ⟨_, rfl⟩
    have HM := Lib.hid hmm
    rw [← hmm] at hml HRA ⊢
    clear hl2 hl3 hO3 lw3 hR HO2 Lw2 Lt2 HX2 hmm
    have HSa := Lib.hid (same_yes A2 A3 m c2 c3 (refL xs) HM.out.symm (by omega) w3 HL2.out HL3.out)
    go_wp2_with fail
    refine HSa.out.mono ?_
    rintro e w4 ⟨rfl, lw4⟩
    have Lt4 := Lib.hid (Lt3.out.trans (lw4.mono Lt3.out.size))
    have Lo4 := Lib.hid (Lo3.out.trans (lw4.mono Lo3.out.size))
    have HRA4 : Hid (RowAt A2 m w1.heap.size w4) := fun hp => by
      obtain ⟨gs, cur, h1, h2, h3, h4⟩ := HRA.out hp
      exact ⟨gs, cur, h1, h2, (lw4.block gs (Array.getElem?_eq_some_iff.1 h3).1).trans h3, h4⟩
    have HSb := Lib.hid (same_yes A1 A n c1 c xs Hn.out (by omega) w4 (HL1.out.below Lo4.out (Nat.le_refl _)) (HX.out.below Lt4.out (Nat.le_refl _)))
    clear lw4 HL2 HL3 HRA Lt3 Lo3 HSa
    go_wp2_with fail
    refine HSb.out.mono ?_
    rintro e w5 ⟨rfl, lw5⟩
    have Lt5 := Lib.hid (Lt4.out.trans (lw5.mono Lt4.out.size))
    have Lo5 := Lib.hid (Lo4.out.trans (lw5.mono Lo4.out.size))
    have HRA5 : Hid (RowAt A2 m w1.heap.size w5) := fun hp => by
      obtain ⟨gs, cur, h1, h2, h3, h4⟩ := HRA4.out hp
      exact ⟨gs, cur, h1, h2, (lw5.block gs (Array.getElem?_eq_some_iff.1 h3).1).trans h3, h4⟩
    have hsz1 := Lib.hid Lw1.out.size
    clear lw5 Lt4 Lo4 HRA4 HSb
    go_wp2
    go_loopw [6] (fun s6 wr => ∃ k : Nat, k ≤ m ∧ s6 = .int .i64 (k : Nat) ∧ Hid (RowAt A2 m w1.heap.size wr) ∧ Hid (Below w1.heap.size w1 wr) ∧ Hid (Below w.heap.size w wr)) (fun s6 _ => m - (intOf s6).toNat)
    case atStart => exact ⟨0, Nat.zero_le _, rfl, HRA5, Lo5, Lt5⟩
    case round =>
      obtain ⟨k, hk, rfl, hR, hB1, hB0⟩ := hrel
      clear HRA5 Lo5 Lt5
      by_cases hlt : k < m
      · obtain ⟨gs, cur, rfl, hgs, hrow, hcs⟩ := hR.out (by omega)
        obtain ⟨v0, hv0⟩ : ∃ v0, cur[k * 2]? = some v0 := ⟨_, Array.getElem?_eq_getElem (by omega)⟩
        have hc0 : wr.cell? ⟨gs, k * 2, none⟩ = some v0 := by rw [cell_row hrow]; exact hv0
        have hf0 : wr.frozen? ⟨gs, k * 2, none⟩ = false := free_row hrow _
        have hR2 : Hid (RowAt (some ⟨gs, 0, none⟩) m w1.heap.size (wr.setCell ⟨gs, k * 2, none⟩ (.int .i64 99))) := fun _ => ⟨gs, _, rfl, hgs, heap_setCell_same _ _ _ _ _ _ hrow, by simpa using hcs⟩
        have hB1' := Lib.hid (hB1.out.setCell (p := ⟨gs, k * 2, none⟩) hgs (.int .i64 99))
        have hB0' := Lib.hid (hB0.out.setCell (p := ⟨gs, k * 2, none⟩) (Nat.le_trans hsz1.out hgs) (.int .i64 99))
        clear hrow hcs hv0
        go_wp2
        go_roundw
        case rel => exact ⟨k + 1, by omega, by go_num, hR2, hB1', hB0'⟩
        case measure => simp [intOf]; omega
      · have HSc := Lib.hid (same_yes A1 A n c1 c xs Hn.out (by omega) wr (HL1.out.below hB1.out (Nat.le_refl _)) (HX.out.below hB0.out (Nat.le_refl _)))
        go_wp2_with fail
        refine HSc.out.mono ?_
        rintro e w8 ⟨rfl, lw8⟩
        have Lt8 := Lib.hid (hB0.out.trans (lw8.mono hB0.out.size))
        clear lw8 HSc
        go_wp2_with fail
        refine (awake_any _ (HLd.out.below Lt8.out)).mono ?_
        rintro e w9 ⟨rfl, lw9⟩
        go_wp2
        go_ret
        exact ⟨rfl, Lt8.out.trans (lw9.mono Lt8.out.size)⟩
end Go.Proofs.YtmgjhinbkhebjaaDoor.Lab
