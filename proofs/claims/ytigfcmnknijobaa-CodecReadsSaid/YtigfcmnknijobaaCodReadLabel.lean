/- DERIVED. The contracts of the closures of Reader.Label and Reader.Vertex. Written by mkreads.py. -/
import Derived.Test.YtigfcmnknijobaaCodCompsOf
namespace Go.Proofs.Ytigfcmnknijobaa.Cod
open Go.RowKit Str
theorem two_no8 {bn : Nat} {x y : Value} {T : Nat} {w : World} (h : w.heap[bn]? = some (.cells #[x, y] T (0, 0))) (hx : ∀ z, x ≠ .int .u8 z) (hy : ∀ z, y ≠ .int .u8 z) : ∀ o z, w.cell? ⟨bn, o, none⟩ ≠ some (.int .u8 z) := by
  intro o z
  rw [cell_row h]
  match o with
  | 0 => simpa using hx z
  | 1 => simpa using hy z
  | o + 2 => simp
theorem cutL_most {L : List Int} {m : Nat} : (cutL L m).1 ≤ m := by
  unfold cutL
  split
  · exact Nat.zero_le _
  · split
    · exact Nat.zero_le _
    · omega
/-- what stands behind s bytes, as the walk spells it. -/
def DropIf (L : List Int) (g off n c s : Nat) (w : World) : Prop := (c = s → SlB (L.drop s) (.slice (some ⟨g, off, none⟩) (n - s) 0) w) ∧ (¬ c = s → SlB (L.drop s) (.slice (some ⟨g, off + s, none⟩) (n - s) (c - s)) w)
theorem drop_if {L : List Int} {g off n c s : Nat} {w : World} (h : Byt w (some ⟨g, off, none⟩) c L) (hn : L.length = n) (hs : s ≤ n) : DropIf L g off n c s w := by
  have hc := slb_cut h hn hs
  refine ⟨fun e => ?_, fun e => ?_⟩
  · rw [if_pos e, e, Nat.sub_self] at hc; exact hc
  · rw [if_neg e] at hc; simpa [Addr.add_mid] using hc
theorem lab_box {bx T : Nat} {a b x0 y0 x y : Value} {w : World} (h : w.heap[bx]? = some (.cells #[a, b] T (0, 0))) :
    ((((w.setCell ⟨bx, 0, none⟩ x0).setCell ⟨bx, 1, none⟩ y0).setCell ⟨bx, 0, none⟩ x).setCell ⟨bx, 1, none⟩ y).heap[bx]? = some (.cells #[x, y] T (0, 0)) ∧ Chg [bx] w ((((w.setCell ⟨bx, 0, none⟩ x0).setCell ⟨bx, 1, none⟩ y0).setCell ⟨bx, 0, none⟩ x).setCell ⟨bx, 1, none⟩ y) := by
  have h1 : (w.setCell ⟨bx, 0, none⟩ x0).heap[bx]? = some (.cells #[x0, b] T (0, 0)) := heap_setCell_same _ _ _ _ _ _ h
  have h2 : ((w.setCell ⟨bx, 0, none⟩ x0).setCell ⟨bx, 1, none⟩ y0).heap[bx]? = some (.cells #[x0, y0] T (0, 0)) := heap_setCell_same _ _ _ _ _ _ h1
  have h3 : (((w.setCell ⟨bx, 0, none⟩ x0).setCell ⟨bx, 1, none⟩ y0).setCell ⟨bx, 0, none⟩ x).heap[bx]? = some (.cells #[x, y0] T (0, 0)) := heap_setCell_same _ _ _ _ _ _ h2
  have h4 : ((((w.setCell ⟨bx, 0, none⟩ x0).setCell ⟨bx, 1, none⟩ y0).setCell ⟨bx, 0, none⟩ x).setCell ⟨bx, 1, none⟩ y).heap[bx]? = some (.cells #[x, y] T (0, 0)) := heap_setCell_same _ _ _ _ _ _ h3
  exact ⟨h4, (((chg_one _ _ _ _).trans (chg_one _ _ _ _)).trans (chg_one _ _ _ _)).trans (chg_one _ _ _ _)⟩
theorem cutL_err (L : List Int) (m : Nat) : (cutL L m).2.2 = 0 ∨ (cutL L m).2.2 = 3 ∨ (cutL L m).2.2 = 4 := by
  unfold cutL
  split
  · exact .inr (.inr rfl)
  · split
    · exact .inr (.inl rfl)
    · exact .inl rfl
set_option maxRecDepth 100000 in
set_option maxHeartbeats 4000000 in
theorem label1_any {L : List Int} {v : Value} {w0 w : World} {bx : Nat} (hv : SlB L v w0) (hb0 : Below w0.heap.size w0 w) (hle : L.length ≤ 100000) (hb : InB L) (hz : w.heap[bx]? = some (.cells (labC (0, 0)) 34 (0, 0))) :
    Calls Try.prog 42 #[v, .pointer (some ⟨bx, 0, none⟩)] w fun e w' => ∃ v' e1, e = .returned (.tuple #[v', .int .i64 e1]) ∧ QBo (labelR L).2.1 (labelR L).2.2 bx 34 (labC (labelR L).1) w0 w v' e1 w' := by
  have Hcut0 := cut_any0 L v 15 hle hb w0 w hv hb0
  have hRl := cutL_len L 15
  have hRb := cutL_in hb 15
  have hNl := cutL_most (L := L) (m := 15)
  obtain ⟨N, R, E, hNRE⟩ : ∃ N R E, cutL L 15 = (N, R, E) := ⟨_, _, _, rfl⟩
  unfold QBo labelR
  rw [hNRE] at Hcut0 hRl hNl hRb ⊢
  simp only at Hcut0 hRl hNl hRb ⊢
  have Hcut := Lib.hid Hcut0
  have Hn : Hid (w.heap[bx]? = some (.cells #[.int .i64 0, .int .u64 0] 34 (0, 0))) := hz
  have Hb0 := Lib.hid hb0
  have HRb := Lib.hid hRb
  clear hv hz hNRE Hcut0 hb0 hRb
  by_cases hE : E = 0
  · subst hE
    rw [if_neg (by simp)]
    by_cases hl : R.length < 8
    · rw [if_pos hl]
      have hl' : (R.length : Int) < 8 := by omega
      clear hNl
      go_enter Try.func42, Try.ntmps42
      go_wp2_with (go_at_call 37; refine Hcut.out.mono ?_; rintro e w1 ⟨v1, rfl, hs1, low1⟩; obtain ⟨A1, c1, rfl, hbz⟩ := hs1; have hb1 := (hbz.below Hb0.out (Nat.le_refl _)).below low1 (Nat.le_refl _); have hn1 := (low1.block _ (Array.getElem?_eq_some_iff.1 Hn.out).1).trans Hn.out; have d0 := cell_row hn1 0; have d1 := cell_row hn1 1; simp only [List.getElem?_toArray, List.getElem?_cons_zero, List.getElem?_cons_succ] at d0 d1; have f0 := free_row hn1 0; have f1 := free_row hn1 1; have hcap := hb1.1; have Hb1 := Lib.hid hb1; have Low1 := Lib.hid low1; have Hn1 := Lib.hid hn1; clear low1 hn1 hb1 hbz)
      go_ret2
      exact ⟨_, _, rfl, rfl, slb_nil _, Hn1.out, Chg.of_below Low1.out⟩
    · rw [if_neg hl]
      have hl' : ¬ (R.length : Int) < 8 := by omega
      have hl8 : (8 : Int) ≤ (R.length : Int) := by omega
      have hN15 : (N : Int) ≤ 15 := by omega
      have Hl8 : Hid ((R.take 8).length = 8) := by show _ = _; rw [List.length_take]; omega
      have hr8 : 8 ≤ R.length := by omega
      clear hNl
      go_enter Try.func42, Try.ntmps42
      go_upto_region 4 with (go_at_call 37; refine Hcut.out.mono ?_; rintro e w1 ⟨v1, rfl, hs1, low1⟩; obtain ⟨A1, c1, rfl, hbz⟩ := hs1; have hb1 := (hbz.below Hb0.out (Nat.le_refl _)).below low1 (Nat.le_refl _); have hn1 := (low1.block _ (Array.getElem?_eq_some_iff.1 Hn.out).1).trans Hn.out; have d0 := cell_row hn1 0; have d1 := cell_row hn1 1; simp only [List.getElem?_toArray, List.getElem?_cons_zero, List.getElem?_cons_succ] at d0 d1; have f0 := free_row hn1 0; have f1 := free_row hn1 1; have hcap := hb1.1; have hc8 : (8 : Int) ≤ (c1 : Int) := (by omega); have Ht8 : Hid (SlB (R.take 8) (.slice A1 8 c1) w1) := ⟨A1, c1, (by rw [Hl8.out]), byt_take hb1 8⟩; obtain ⟨g, off, hA1, _, _⟩ := hb1.2.2 (by omega); subst hA1; have hcut := Lib.hid (drop_if hbz rfl hr8); have Hb1 := Lib.hid hb1; have Low1 := Lib.hid low1; have Hn1 := Lib.hid hn1; clear low1 hn1 hb1 hbz)
      go_wp2_with (go_at_call 43; refine (compsOf_any Hl8.out (HRb.out.take 8) Ht8.out).mono ?_; rintro e w' ⟨rfl, rfl⟩)
      all_goals
        go_ret2
        have hbx := lab_box (x0 := .int .i64 0) (y0 := .int .u64 0) (x := .int .i64 (N : Nat)) (y := .int .u64 (compOf (R.take 8) : Nat)) Hn1.out
        refine ⟨_, _, rfl, rfl, ?_, hbx.1, (Chg.of_below Low1.out).trans hbx.2⟩
      · exact hcut.out.1 (by assumption)
      · exact hcut.out.2 (by assumption)
  · rw [if_pos hE]
    have hE' : (E != 0) = true := by simpa using hE
    clear hNl
    go_enter Try.func42, Try.ntmps42
    go_wp2_with (go_at_call 37; refine Hcut.out.mono ?_; rintro e w1 ⟨v1, rfl, hs1, low1⟩; obtain ⟨A1, c1, rfl, hbz⟩ := hs1; have hb1 := (hbz.below Hb0.out (Nat.le_refl _)).below low1 (Nat.le_refl _); have hn1 := (low1.block _ (Array.getElem?_eq_some_iff.1 Hn.out).1).trans Hn.out; have d0 := cell_row hn1 0; have d1 := cell_row hn1 1; simp only [List.getElem?_toArray, List.getElem?_cons_zero, List.getElem?_cons_succ] at d0 d1; have f0 := free_row hn1 0; have f1 := free_row hn1 1; have hcap := hb1.1; have Hb1 := Lib.hid hb1; have Low1 := Lib.hid low1; have Hn1 := Lib.hid hn1; clear low1 hn1 hb1 hbz)
    go_ret2
    exact ⟨_, _, rfl, rfl, slb_nil _, Hn1.out, Chg.of_below Low1.out⟩
/-- a vertex read. -/
def vertexR (L : List Int) : (List Int × Int) × List Int × Int :=
  if L.length < 32 then ((z32, 0), [], 4) else if (cutL (L.drop 32) 4294967296).2.2 ≠ 0 then ((z32, 0), [], 4)
  else ((L.take 32, ((cutL (L.drop 32) 4294967296).1 : Int) - 2), (cutL (L.drop 32) 4294967296).2.1, 0)
theorem vtx_splice (X Y : List Int) (n : Int) (h : X.length = Y.length) : splice (X.map (Value.int .u8) ++ [Value.int .i64 n]) 0 (vals Y) = Y.map (Value.int .u8) ++ [Value.int .i64 n] := by
  simp [splice, vals, ← h]
theorem vtx_set (X : List Int) (n m : Int) (h : X.length = 32) : (vtxC X n).setIfInBounds 32 (.int .i64 m) = vtxC X m := by
  apply Array.ext_getElem?
  intro j
  rw [Array.getElem?_setIfInBounds]
  simp only [vtxC, List.size_toArray, List.length_append, List.length_map, h, List.length_singleton, List.getElem?_toArray]
  by_cases e : 32 = j
  · subst e
    rw [if_pos rfl, if_pos (by decide), List.getElem?_append_right (by simp [h])]
    simp [h]
  · rw [if_neg e]
    by_cases hj : j < 32
    · rw [List.getElem?_append_left (by simp [h, hj]), List.getElem?_append_left (by simp [h, hj])]
    · rw [List.getElem?_append_right (by simp [h]; omega), List.getElem?_append_right (by simp [h]; omega), List.getElem?_eq_none (by simp [h]; omega), List.getElem?_eq_none (by simp [h]; omega)]
theorem vtx_at (X : List Int) (n : Int) (h : X.length = 32) : (X.map (Value.int .u8) ++ [Value.int .i64 n]).toArray[32]? = some (.int .i64 n) := by
  rw [List.getElem?_toArray, List.getElem?_append_right (by simp [h])]
  simp [h]
set_option maxRecDepth 100000 in
set_option maxHeartbeats 4000000 in
theorem vertex1_any {L : List Int} {v : Value} {w0 w : World} {bx : Nat} (hv : SlB L v w0) (hb0 : Below w0.heap.size w0 w) (hbx : bx + 1 = w.heap.size) (hle : L.length ≤ 100000) (hb : InB L) (hz : w.heap[bx]? = some (.cells (vtxC z32 0) 55 (0, 0))) :
    Calls Try.prog 45 #[v, .pointer (some ⟨bx, 0, none⟩)] w fun e w' => ∃ v' e1, e = .returned (.tuple #[v', .int .i64 e1]) ∧ QBo (vertexR L).2.1 (vertexR L).2.2 bx 55 (vtxC (vertexR L).1.1 (vertexR L).1.2) w0 w v' e1 w' := by
  obtain ⟨A, c, rfl, hB⟩ := hv
  obtain ⟨n, hn⟩ : ∃ n, n = L.length := ⟨_, rfl⟩
  have hcap := hB.1
  unfold vertexR QBo
  rw [← hn] at hle hcap ⊢
  by_cases hlt : n < 32
  · rw [if_pos hlt]
    have hlt' : (n : Int) < 32 := by omega
    have Hz := Lib.hid hz
    clear hB hz hb0 hn hbx
    go_enter Try.func45, Try.ntmps45
    go_wp2
    go_ret2
    exact ⟨_, _, rfl, rfl, slb_nil _, Hz.out, Chg.refl _ _⟩
  · rw [if_neg hlt]
    have hlt' : ¬ (n : Int) < 32 := by omega
    have hc32 : (32 : Int) ≤ (c : Int) := by omega
    have hn32 : (32 : Int) ≤ (n : Int) := by omega
    obtain ⟨g, off, hA, _, _⟩ := hB.2.2 (by omega)
    subst hA
    have hl32 : (L.take 32).length = 32 := by rw [List.length_take]; omega
    have hdr := drop_if hB hn.symm (show 32 ≤ n by omega)
    have hc0 := fun v h => cut_any0 (L.drop 32) v 4294967296 (by rw [List.length_drop]; omega) (hb.drop 32) w0 w h hb0
    have hN := cutL_most (L := L.drop 32) (m := 4294967296)
    obtain ⟨N, R, E, hNRE⟩ : ∃ N R E, cutL (L.drop 32) 4294967296 = (N, R, E) := ⟨_, _, _, rfl⟩
    rw [hNRE] at hc0 hN ⊢
    simp only at hc0 hN ⊢
    have Hl32 := Lib.hid hl32
    have Hmin : Hid ((vals (L.take 32)).length = Nat.min n 32) := by show _ = _; rw [vals_length, hl32]; exact (Nat.min_eq_right (by omega)).symm
    have HBt := Lib.hid (byt_take hB 32)
    have HB0 := Lib.hid hb0
    have Hz : Hid (w.heap[bx]? = some (.cells (z32.map (Value.int .u8) ++ [Value.int .i64 0]).toArray 55 (0, 0))) := hz
    have Hbx := Lib.hid hbx
    have Hc0 := Lib.hid hc0
    have Hdr := Lib.hid hdr
    clear hB hz hb0 hn hl32 hbx hlt hc0 hdr hNRE hb
    by_cases hc : c = 32
    · subst hc
      have hn3 : n = 32 := by omega
      have Hn3 := Lib.hid hn3
      clear hn3
      by_cases hE : E = 0
      · subst hE
        rw [if_neg (by simp)]
        have hw3 : IntKind.i64.wrap ((N : Nat) : Int) = (N : Nat) := IntWalk.i64_in _ (by omega)
        have hN4 : ((N : Nat) : Int) ≤ 4294967296 := by omega
        go_enter Try.func45, Try.ntmps45
        go_wp2_with (first
          | (go_at_call 37; refine (Hc0.out _ (by have h := Hdr.out.1 rfl; rw [Hn3.out] at h; exact h)).mono ?_; rintro e w1 ⟨v1, rfl, hs1, low1⟩; obtain ⟨A1, c1, rfl, hb1⟩ := hs1; have hs1 : SlB R (.slice A1 R.length c1) w0 := ⟨A1, c1, rfl, hb1⟩; clear hb1; have Hs1 := Lib.hid hs1; have Low1 := Lib.hid low1; clear hs1 low1)
          | (refine wpList_copy_splice rfl (.tmp 21) (.tmp 22) 22 22 rfl 5 Try.underlying22 size8 (some ⟨bx, 0, none⟩) (some ⟨g, off, none⟩) 32 32 n 32 (by rfl) (by rfl) bx 0 (z32.map (Value.int .u8) ++ [Value.int .i64 0]) 55 ((Low1.out.block _ (Array.getElem?_eq_some_iff.1 Hz.out).1).trans Hz.out) (vals (L.take 32)) Hmin.out (fun _ => ⟨rfl, _, rfl, (HBt.out.below (HB0.out.trans (Low1.out.mono HB0.out.size)) (Nat.le_refl _)).cells (fun _ _ => rfl) _ rfl⟩) (by rw [Hmin.out]; simp [z32]; exact Nat.le_succ_of_le (Nat.min_le_right _ _)) (vals_one _) bx w (Low1.out.mono (by have := Hbx.out; omega)) (Nat.le_refl _) ?_; intro w2 h2 low2; have h3 := h2.out; rw [vtx_splice _ _ _ (by rw [Hl32.out]; rfl)] at h3; have k3 := cell_row h3 32; rw [vtx_at _ _ Hl32.out] at k3; have f3 := free_row h3 32; have H3 := Lib.hid h3; have Low2 := Lib.hid low2; clear h2 h3 low2))
        go_ret2
        have hg : Chg [bx] w2 (w2.setCell ⟨bx, 32, none⟩ (.int .i64 ((N : Int) - 2))) := chg_one _ _ _ _
        refine ⟨_, _, rfl, rfl, Hs1.out, ?_, (chg_last Hbx.out Low2.out).trans hg⟩
        rw [heap_setCell_same _ _ _ _ _ _ H3.out]
        exact congrArg (fun x => some (Obj.cells x 55 (0, 0))) (vtx_set _ _ _ Hl32.out)
      · rw [if_pos hE]
        have hE' : (E != 0) = true := by simpa using hE
        go_enter Try.func45, Try.ntmps45
        go_wp2_with (go_at_call 37; refine (Hc0.out _ (by have h := Hdr.out.1 rfl; rw [Hn3.out] at h; exact h)).mono ?_; rintro e w1 ⟨v1, rfl, hs1, low1⟩; have Hs1 := Lib.hid hs1; have Low1 := Lib.hid low1; clear hs1 low1)
        go_ret2
        exact ⟨_, _, rfl, rfl, slb_nil _, (Low1.out.block _ (Array.getElem?_eq_some_iff.1 Hz.out).1).trans Hz.out, Chg.of_below Low1.out⟩
    · have Hc := Lib.hid hc
      by_cases hE : E = 0
      · subst hE
        rw [if_neg (by simp)]
        have hw3 : IntKind.i64.wrap ((N : Nat) : Int) = (N : Nat) := IntWalk.i64_in _ (by omega)
        have hN4 : ((N : Nat) : Int) ≤ 4294967296 := by omega
        go_enter Try.func45, Try.ntmps45
        go_wp2_with (first
          | (go_at_call 37; refine (Hc0.out _ (Hdr.out.2 Hc.out)).mono ?_; rintro e w1 ⟨v1, rfl, hs1, low1⟩; obtain ⟨A1, c1, rfl, hb1⟩ := hs1; have hs1 : SlB R (.slice A1 R.length c1) w0 := ⟨A1, c1, rfl, hb1⟩; clear hb1; have Hs1 := Lib.hid hs1; have Low1 := Lib.hid low1; clear hs1 low1)
          | (refine wpList_copy_splice rfl (.tmp 21) (.tmp 22) 22 22 rfl 5 Try.underlying22 size8 (some ⟨bx, 0, none⟩) (some ⟨g, off, none⟩) 32 32 n c (by rfl) (by rfl) bx 0 (z32.map (Value.int .u8) ++ [Value.int .i64 0]) 55 ((Low1.out.block _ (Array.getElem?_eq_some_iff.1 Hz.out).1).trans Hz.out) (vals (L.take 32)) Hmin.out (fun _ => ⟨rfl, _, rfl, (HBt.out.below (HB0.out.trans (Low1.out.mono HB0.out.size)) (Nat.le_refl _)).cells (fun _ _ => rfl) _ rfl⟩) (by rw [Hmin.out]; simp [z32]; exact Nat.le_succ_of_le (Nat.min_le_right _ _)) (vals_one _) bx w (Low1.out.mono (by have := Hbx.out; omega)) (Nat.le_refl _) ?_; intro w2 h2 low2; have h3 := h2.out; rw [vtx_splice _ _ _ (by rw [Hl32.out]; rfl)] at h3; have k3 := cell_row h3 32; rw [vtx_at _ _ Hl32.out] at k3; have f3 := free_row h3 32; have H3 := Lib.hid h3; have Low2 := Lib.hid low2; clear h2 h3 low2))
        go_ret2
        have hg : Chg [bx] w2 (w2.setCell ⟨bx, 32, none⟩ (.int .i64 ((N : Int) - 2))) := chg_one _ _ _ _
        refine ⟨_, _, rfl, rfl, Hs1.out, ?_, (chg_last Hbx.out Low2.out).trans hg⟩
        rw [heap_setCell_same _ _ _ _ _ _ H3.out]
        exact congrArg (fun x => some (Obj.cells x 55 (0, 0))) (vtx_set _ _ _ Hl32.out)
      · rw [if_pos hE]
        have hE' : (E != 0) = true := by simpa using hE
        go_enter Try.func45, Try.ntmps45
        go_wp2_with (go_at_call 37; refine (Hc0.out _ (Hdr.out.2 Hc.out)).mono ?_; rintro e w1 ⟨v1, rfl, hs1, low1⟩; have Hs1 := Lib.hid hs1; have Low1 := Lib.hid low1; clear hs1 low1)
        go_ret2
        exact ⟨_, _, rfl, rfl, slb_nil _, (Low1.out.block _ (Array.getElem?_eq_some_iff.1 Hz.out).1).trans Hz.out, Chg.of_below Low1.out⟩
end Go.Proofs.Ytigfcmnknijobaa.Cod
