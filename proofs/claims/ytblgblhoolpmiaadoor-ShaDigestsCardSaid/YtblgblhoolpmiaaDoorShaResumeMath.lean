/- DERIVED. PLAIN MATHEMATICS: a digest's words are the state that it was made of; going on from a digest is the digest of all. -/
import Derived.Test.YtblgblhoolpmiaaDoorShaResume
import Derived.Test.YtblgblhoolpmiaaDoorShaFoldsMath
namespace Go.Proofs.YtblgblhoolpmiaaDoor
theorem or_shift (a b i : Nat) (hb : b < 2 ^ i) : a * 2 ^ i ||| b = a * 2 ^ i + b := by
  have h := Nat.shiftLeft_add_eq_or_of_lt hb a
  rw [Nat.shiftLeft_eq] at h
  exact h.symm
theorem u32_sum (a b i : Nat) (hb : b < 2 ^ i) (ha : a * 2 ^ i < 4294967296) (hb2 : b < 4294967296) : bits .or .u32 ((a * 2 ^ i : Nat) : Int) (b : Int) = ((a * 2 ^ i + b : Nat) : Int) := by
  rw [u32_or_nat _ _ ha hb2, or_shift a b i hb]
theorem word4_sum (a b c d : Int) (ha : 0 ≤ a ∧ a < 256) (hb : 0 ≤ b ∧ b < 256) (hc : 0 ≤ c ∧ c < 256) (hd : 0 ≤ d ∧ d < 256) : word4 a b c d = a * 16777216 + b * 65536 + c * 256 + d := by
  obtain ⟨A, rfl⟩ := Int.eq_ofNat_of_zero_le ha.1
  obtain ⟨B, rfl⟩ := Int.eq_ofNat_of_zero_le hb.1
  obtain ⟨C, rfl⟩ := Int.eq_ofNat_of_zero_le hc.1
  obtain ⟨D, rfl⟩ := Int.eq_ofNat_of_zero_le hd.1
  have h1 := u32_sum A (B * 65536) 24 (by omega) (by omega) (by omega)
  have h2 := u32_sum (A * 256 + B) (C * 256) 16 (by omega) (by omega) (by omega)
  have h3 := u32_sum ((A * 256 + B) * 256 + C) D 8 (by omega) (by omega) (by omega)
  unfold word4
  rw [show ((A : Int) * 16777216) = ((A * 2 ^ 24 : Nat) : Int) by omega, show ((B : Int) * 65536) = ((B * 65536 : Nat) : Int) by omega, h1,
    show ((A * 2 ^ 24 + B * 65536 : Nat) : Int) = (((A * 256 + B) * 2 ^ 16 : Nat) : Int) by omega, show ((C : Int) * 256) = ((C * 256 : Nat) : Int) by omega, h2,
    show (((A * 256 + B) * 2 ^ 16 + C * 256 : Nat) : Int) = ((((A * 256 + B) * 256 + C) * 2 ^ 8 : Nat) : Int) by omega, h3]
  omega
theorem wordAt_eq (h : List Int) (i : Nat) : wordAt h i = word4 (h.getD (4 * i) 0) (h.getD (4 * i + 1) 0) (h.getD (4 * i + 2) 0) (h.getD (4 * i + 3) 0) := by
  unfold wordAt
  rfl
theorem wordAt_hash (l : List Int) (i : Nat) (hi : i < 8) (h : 0 ≤ l.getD i 0 ∧ l.getD i 0 < 4294967296) : wordAt (hashL l) i = l.getD i 0 := by
  have hf := hashF_at l i
  rw [wordAt_eq, ← hashL_getD l _ (by omega), ← hashL_getD l _ (by omega), ← hashL_getD l _ (by omega), ← hashL_getD l _ (by omega), hf.1, hf.2.1, hf.2.2.1, hf.2.2.2, word4_sum _ _ _ _ (by omega) (by omega) (by omega) (by omega)]
  omega
/-- a state whose words are words. -/
def W8.In (s : W8) : Prop := ∀ i, i < 8 → 0 ≤ s.list.getD i 0 ∧ s.list.getD i 0 < 4294967296
theorem wordsW_hash (s : W8) (h : s.In) : wordsW (hashL s.list) = s := by
  unfold wordsW
  rw [wordAt_hash _ 0 (by omega) (h 0 (by omega)), wordAt_hash _ 1 (by omega) (h 1 (by omega)), wordAt_hash _ 2 (by omega) (h 2 (by omega)), wordAt_hash _ 3 (by omega) (h 3 (by omega)), wordAt_hash _ 4 (by omega) (h 4 (by omega)), wordAt_hash _ 5 (by omega) (h 5 (by omega)), wordAt_hash _ 6 (by omega) (h 6 (by omega)), wordAt_hash _ 7 (by omega) (h 7 (by omega))]
  rfl
theorem ad_in (a b : Int) : 0 ≤ ad a b ∧ ad a b < 4294967296 := by unfold ad; omega
theorem mixK_in (K : List Int) (s : W8) (l : List Int) : (mixK K s l).In := by
  intro i hi
  have : i = 0 ∨ i = 1 ∨ i = 2 ∨ i = 3 ∨ i = 4 ∨ i = 5 ∨ i = 6 ∨ i = 7 := by omega
  rcases this with e | e | e | e | e | e | e | e <;> subst e <;> exact ad_in _ _
theorem foldB_in (s : W8) (L : List Int) (k : Nat) (hk : 0 < k) : (foldB s L k).In := by
  cases k with
  | zero => omega
  | succ k => exact mixK_in _ _ _
/-- going on from the digest of L with M is the digest of L, its padding, and M. -/
theorem resume_sum (L M : List Int) : fin (wordsW (sumL L)) M (L.length + padLen L.length + M.length) = sumL (L ++ padL L.length ++ M) := by
  have hw := whole_blocks L.length
  have e1 : sumL L = hashL (foldB S0 (L ++ padL L.length) ((L.length + padLen L.length) / 64)).list := fin_eq _ _ _
  have hpos : 0 < (L.length + padLen L.length) / 64 := by
    have : 9 ≤ padLen L.length := by unfold padLen; omega
    omega
  rw [e1, wordsW_hash _ (foldB_in _ _ _ hpos)]
  have hall : (L ++ padL L.length).length = L.length + padLen L.length := by rw [List.length_append, padL_length]
  have hfold : foldB S0 (L ++ padL L.length) ((L.length + padLen L.length) / 64) = foldAll S0 (L ++ padL L.length) := by unfold foldAll; rw [hall]
  have hdrop : (L ++ padL L.length).drop (64 * ((L ++ padL L.length).length / 64)) = [] := List.drop_eq_nil_of_le (by rw [hall]; omega)
  have hN : (L ++ padL L.length ++ M).length = L.length + padLen L.length + M.length := by rw [List.length_append, hall]
  unfold sumL
  rw [fin_eq, fin_eq, hN, hfold]
  have h2 := fold_two S0 (L ++ padL L.length) (M ++ padL (L.length + padLen L.length + M.length))
  rw [hdrop, List.nil_append] at h2
  have e3 : foldAll (foldAll S0 (L ++ padL L.length)) (M ++ padL (L.length + padLen L.length + M.length)) = foldB (foldAll S0 (L ++ padL L.length)) (M ++ padL (L.length + padLen L.length + M.length)) ((M.length + padLen (L.length + padLen L.length + M.length)) / 64) := by
    show foldB (foldAll S0 (L ++ padL L.length)) (M ++ padL (L.length + padLen L.length + M.length)) ((M ++ padL (L.length + padLen L.length + M.length)).length / 64) = _
    rw [List.length_append, padL_length]
  rw [← e3, h2, ← List.append_assoc, hall, List.length_append, padL_length, ← Nat.add_assoc]
end Go.Proofs.YtblgblhoolpmiaaDoor
