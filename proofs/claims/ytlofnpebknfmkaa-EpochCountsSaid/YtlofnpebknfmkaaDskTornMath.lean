/- DERIVED. What a write with a cut ahead leaves, byte by byte. No program. -/
import Derived.Test.YtlofnpebknfmkaaDskSpec
namespace Go.Proofs.Ytlofnpebknfmkaa.Dsk
open Go.RowKit
theorem splice_getD (L : List Int) (o : Nat) (cs : List Int) (h : o + cs.length ≤ L.length) (j : Nat) : (splice L o cs).getD j 0 = if j < o then L.getD j 0 else if j < o + cs.length then cs.getD (j - o) 0 else L.getD j 0 := by
  simp only [List.getD_eq_getElem?_getD]
  rw [splice_get _ _ _ h]
  split
  · rfl
  · split <;> rfl
/-- is byte j written, where W more sectors are written whole, from the first-th on, of m? -/
def hitB (mask : List Int) (first m W j : Nat) : Bool := decide (first ≤ j / 128) && decide (j / 128 < first + m) && (decide (j / 128 - first < W) || (decide (j / 128 - first = W) && bitM mask (j % 128)))
structure TornQ (D : DS) (k : Nat) (b : List Int) (i m W : Nat) (R : DS × Int) : Prop where
  err : R.2 = if W < m then 12 else 0
  off : R.1.off = decide (W < m)
  len : R.1.data.length = D.data.length
  get : ∀ j, j < D.data.length → R.1.data.getD j 0 = if hitB D.mask (k + i) m W j then b.getD (j - k * 128) 0 else D.data.getD j 0
theorem torn_run (k : Nat) (b : List Int) : ∀ (m : Nat) (D : DS) (i W : Nat), D.off = false → D.laid = true → D.whole = W → (k + i + m) * 128 ≤ D.data.length → (i + m) * 128 ≤ b.length → TornQ D k b i m W (runD D k b i m) := by
  intro m
  induction m with
  | zero =>
    intro D i W ho _ _ _ _
    refine ⟨by simp [runD], by simp [runD, ho], by simp [runD], fun j _ => ?_⟩
    have : hitB D.mask (k + i) 0 W j = false := by
      unfold hitB
      by_cases h : k + i ≤ j / 128
      · rw [decide_eq_false (show ¬ j / 128 < k + i + 0 by omega)]; simp
      · rw [decide_eq_false h]; simp
    rw [runD, this, if_neg Bool.false_ne_true]
  | succ m ih =>
    intro D i W ho hl hw hd hb
    have hsl : i * 128 + 128 ≤ b.length := by omega
    have hls := secL_len b i hsl
    have hfit : (k + i) * 128 + 128 ≤ D.data.length := by omega
    by_cases h0 : W = 0
    · subst h0
      have hdue : D.due = true := by simp [DS.due, hl, hw]
      have hst : stepD D (k + i) (secL b i) = { data := splice D.data ((k + i) * 128) (tornL D.mask (secL D.data (k + i)) (secL b i)), writes := D.writes + 1, off := true, laid := false, whole := 0, mask := z16 } := by
        unfold stepD; rw [if_pos hdue]
      have hr : runD D k b i (m + 1) = (stepD D (k + i) (secL b i), 12) := by
        rw [runD, if_pos (by rw [hst])]
      rw [hr, hst]
      have ht : (tornL D.mask (secL D.data (k + i)) (secL b i)).length = 128 := torn_len _ _ _
      refine ⟨by simp, by simp, splice_len _ _ _ (by omega), fun j hj => ?_⟩
      simp only
      rw [splice_getD _ _ _ (by omega), ht]
      by_cases h1 : j < (k + i) * 128
      · have : hitB D.mask (k + i) (m + 1) 0 j = false := by
          unfold hitB; rw [decide_eq_false (show ¬ k + i ≤ j / 128 by omega)]; simp
        rw [if_pos h1, this, if_neg Bool.false_ne_true]
      · rw [if_neg h1]
        by_cases h2 : j < (k + i) * 128 + 128
        · have hq : j / 128 = k + i := by omega
          have hh : hitB D.mask (k + i) (m + 1) 0 j = bitM D.mask (j % 128) := by
            unfold hitB; rw [hq]; simp
          rw [if_pos h2, hh, torn_get _ _ _ _ (by omega), show j - (k + i) * 128 = j % 128 by omega, secL_get _ _ _ (by omega), secL_get _ _ _ (by omega)]
          rw [show i * 128 + j % 128 = j - k * 128 by omega, show (k + i) * 128 + j % 128 = j by omega]
        · have : hitB D.mask (k + i) (m + 1) 0 j = false := by
            unfold hitB; rw [decide_eq_false (show ¬ j / 128 - (k + i) < 0 by omega), decide_eq_false (show ¬ j / 128 - (k + i) = 0 by omega)]; simp
          rw [if_neg h2, this, if_neg Bool.false_ne_true]
    · obtain ⟨V, rfl⟩ : ∃ V, W = V + 1 := ⟨W - 1, by omega⟩
      have hdue : D.due = false := by
        have : D.whole ≠ 0 := by omega
        simp [DS.due, hl, this]
      have hst : stepD D (k + i) (secL b i) = { D with data := splice D.data ((k + i) * 128) (secL b i), writes := D.writes + 1, whole := D.whole - 1 } := by
        unfold stepD; rw [if_neg (by rw [hdue]; decide), if_pos hl]
      have hr : runD D k b i (m + 1) = runD (stepD D (k + i) (secL b i)) k b (i + 1) m := by
        rw [runD, if_neg (by rw [hst]; simp [ho])]
      have hlen : (splice D.data ((k + i) * 128) (secL b i)).length = D.data.length := splice_len _ _ _ (by omega)
      have h := ih (stepD D (k + i) (secL b i)) (i + 1) V (by rw [hst]; exact ho) (by rw [hst]; exact hl) (by rw [hst]; simp only; omega) (by rw [hst]; simp only [hlen]; omega) (by omega)
      rw [hr]
      obtain ⟨e1, e2, e3, e4⟩ := h
      rw [hst] at e1 e2 e3 e4 ⊢
      simp only [hlen] at e3 e4
      refine ⟨by rw [e1]; simp, by rw [e2]; simp, e3, fun j hj => ?_⟩
      rw [e4 j hj, splice_getD _ _ _ (by omega), hls]
      by_cases h1 : j < (k + i) * 128
      · have a1 : hitB D.mask (k + (i + 1)) m V j = false := by
          unfold hitB; rw [decide_eq_false (show ¬ k + (i + 1) ≤ j / 128 by omega)]; simp
        have a2 : hitB D.mask (k + i) (m + 1) (V + 1) j = false := by
          unfold hitB; rw [decide_eq_false (show ¬ k + i ≤ j / 128 by omega)]; simp
        rw [a1, a2, if_neg Bool.false_ne_true, if_neg Bool.false_ne_true, if_pos h1]
      · by_cases h2 : j < (k + i) * 128 + 128
        · have a1 : hitB D.mask (k + (i + 1)) m V j = false := by
            unfold hitB; rw [decide_eq_false (show ¬ k + (i + 1) ≤ j / 128 by omega)]; simp
          have a2 : hitB D.mask (k + i) (m + 1) (V + 1) j = true := by
            unfold hitB; rw [decide_eq_true (show k + i ≤ j / 128 by omega), decide_eq_true (show j / 128 < k + i + (m + 1) by omega), decide_eq_true (show j / 128 - (k + i) < V + 1 by omega)]; simp
          rw [a1, a2, if_neg Bool.false_ne_true, if_pos rfl, if_neg h1, if_pos h2, secL_get _ _ _ (by omega), show i * 128 + (j - (k + i) * 128) = j - k * 128 by omega]
        · have a : hitB D.mask (k + (i + 1)) m V j = hitB D.mask (k + i) (m + 1) (V + 1) j := by
            unfold hitB
            rw [show decide (k + (i + 1) ≤ j / 128) = decide (k + i ≤ j / 128) by rw [decide_eq_true (show k + (i + 1) ≤ j / 128 by omega), decide_eq_true (show k + i ≤ j / 128 by omega)],
              show decide (j / 128 < k + (i + 1) + m) = decide (j / 128 < k + i + (m + 1)) by congr 2; omega,
              show decide (j / 128 - (k + (i + 1)) < V) = decide (j / 128 - (k + i) < V + 1) by congr 1; apply propext; omega,
              show decide (j / 128 - (k + (i + 1)) = V) = decide (j / 128 - (k + i) = V + 1) by congr 1; apply propext; omega]
          rw [a, if_neg h1, if_neg h2]
end Go.Proofs.Ytlofnpebknfmkaa.Dsk
