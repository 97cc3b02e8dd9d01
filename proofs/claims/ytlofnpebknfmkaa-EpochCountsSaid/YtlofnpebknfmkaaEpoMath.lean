/- DERIVED. A step of a counter, on lists. No program. -/
import Derived.Test.YtlofnpebknfmkaaEpoSpec
namespace Go.Proofs.Ytlofnpebknfmkaa.Epo
open Go.RowKit Dsk
theorem sec0 {b : List Int} (h : b.length = 128) : secL b 0 = b := by
  unfold secL
  rw [Nat.zero_mul, List.drop_zero, List.take_of_length_le (by omega)]
theorem set_getD (L : List Int) (i j : Nat) (y : Int) (hi : i < L.length) : (L.set i y).getD j 0 = if j = i then y else L.getD j 0 := by
  rw [List.getD_eq_getElem?_getD, List.getElem?_set]
  by_cases e : i = j
  · subst e
    rw [if_pos rfl, if_pos hi, if_pos rfl]; rfl
  · rw [if_neg e, if_neg (fun h => e h.symm), ← List.getD_eq_getElem?_getD]
structure NextQ (D : DS) (f v : Nat) (R : DS × Int) : Prop where
  len : R.1.data.length = D.data.length
  wr : R.1.writes = D.writes + 1
  at_ : ∀ j, R.1.data.getD j 0 = if j = f * 128 + v ∧ (D.due = false ∨ bitM D.mask (v % 128) = true) then 1 else D.data.getD j 0
  yes : D.due = false → R.2 = 0 ∧ R.1.off = false ∧ R.1.laid = D.laid ∧ R.1.whole = (if D.laid then D.whole - 1 else D.whole) ∧ R.1.mask = D.mask
  no : D.due = true → R.2 = 12 ∧ R.1.off = true
theorem next_q (D : DS) (f v : Nat) (ho : D.off = false) (hfit : (f + v / 128) * 128 + 128 ≤ D.data.length) : NextQ D f v (nextD D f v) := by
  have hl : (secL D.data (f + v / 128)).length = 128 := secL_len _ _ hfit
  have hB : (nextB D f v).length = 128 := by rw [nextB, List.length_set, hl]
  rw [nextD_eq, sec0 hB]
  have hkv : (f + v / 128) * 128 + v % 128 = f * 128 + v := by omega
  have hm : v % 128 < 128 := by omega
  have hget : ∀ j, j < 128 → (nextB D f v).getD j 0 = if j = v % 128 then 1 else D.data.getD ((f + v / 128) * 128 + j) 0 := fun j hj => by
    rw [nextB, set_getD _ _ _ _ (by omega), secL_get _ _ _ hj]
  obtain ⟨k, hk⟩ : ∃ k, k = f + v / 128 := ⟨_, rfl⟩
  rw [← hk] at hfit hget hkv ⊢
  unfold stepD
  by_cases hd : D.due = true
  · rw [if_pos hd]
    have ht : (tornL D.mask (secL D.data k) (nextB D f v)).length = 128 := torn_len _ _ _
    refine ⟨splice_len _ _ _ (by rw [ht]; exact hfit), rfl, fun j => ?_, (fun h => by rw [hd] at h; cases h), fun _ => ⟨rfl, rfl⟩⟩
    show (splice D.data (k * 128) (tornL D.mask (secL D.data k) (nextB D f v))).getD j 0 = _
    rw [splice_getD _ _ _ (by rw [ht]; exact hfit), ht]
    by_cases h1 : j < k * 128
    · rw [if_pos h1, if_neg (fun h => by omega)]
    · rw [if_neg h1]
      by_cases h2 : j < k * 128 + 128
      · rw [if_pos h2, torn_get _ _ _ _ (by omega), hget _ (by omega), secL_get _ _ _ (by omega), show k * 128 + (j - k * 128) = j by omega]
        by_cases e : j = f * 128 + v
        · have e2 : j - k * 128 = v % 128 := by omega
          rw [e2, if_pos rfl]
          by_cases hb : bitM D.mask (v % 128) = true
          · rw [if_pos hb, if_pos ⟨e, .inr hb⟩]
          · rw [if_neg hb, if_neg (fun h => by rcases h.2 with h | h; rw [hd] at h; cases h; exact hb h)]
        · rw [if_neg (show ¬ j - k * 128 = v % 128 by omega), ite_self, if_neg (fun h => e h.1)]
      · rw [if_neg h2, if_neg (fun h => by omega)]
  · have hd' : D.due = false := by simpa using hd
    rw [if_neg hd]
    refine ⟨splice_len _ _ _ (by rw [hB]; exact hfit), rfl, fun j => ?_, (fun _ => ⟨by simp only [ho]; rfl, ho, rfl, rfl, rfl⟩), fun h => absurd h hd⟩
    show (splice D.data (k * 128) (nextB D f v)).getD j 0 = _
    rw [splice_getD _ _ _ (by rw [hB]; exact hfit), hB]
    by_cases h1 : j < k * 128
    · rw [if_pos h1, if_neg (fun h => by omega)]
    · rw [if_neg h1]
      by_cases h2 : j < k * 128 + 128
      · rw [if_pos h2, hget _ (by omega), show k * 128 + (j - k * 128) = j by omega]
        by_cases e : j = f * 128 + v
        · rw [if_pos (by omega), if_pos ⟨e, .inl hd'⟩]
        · rw [if_neg (by omega), if_neg (fun h => e h.1)]
      · rw [if_neg h2, if_neg (fun h => by omega)]
theorem reg_len {D : DS} {f n : Nat} (h : f * 128 + n ≤ D.data.length) : (regL D f n).length = n := by
  simp [regL]; omega
theorem reg_get {D : DS} {f n j : Nat} (hj : j < n) : (regL D f n).getD j 0 = D.data.getD (f * 128 + j) 0 := by
  simp [regL, List.getD_eq_getElem?_getD, hj]
theorem cnt_reg {D : DS} {f n v : Nat} (h : f * 128 + n ≤ D.data.length) : Cnt (regL D f n) v ↔ v ≤ n ∧ ∀ j, j < n → D.data.getD (f * 128 + j) 0 = if j < v then 1 else 0 := by
  constructor
  · rintro ⟨h1, h2⟩
    rw [reg_len h] at h1 h2
    exact ⟨h1, fun j hj => by rw [← h2 j hj, reg_get hj]⟩
  · rintro ⟨h1, h2⟩
    exact ⟨by rw [reg_len h]; exact h1, fun j hj => by rw [reg_len h] at hj; rw [reg_get hj]; exact h2 j hj⟩
/-- a counter's bytes behind its step. -/
theorem NextQ.cnt {D : DS} {f v n : Nat} {R : DS × Int} (q : NextQ D f v R) (hn : f * 128 + n ≤ D.data.length) (hv : v < n) (h : Cnt (regL D f n) v) : Cnt (regL R.1 f n) (if D.due = false ∨ bitM D.mask (v % 128) = true then v + 1 else v) := by
  rw [cnt_reg hn] at h
  rw [cnt_reg (by rw [q.len]; exact hn)]
  by_cases hc : D.due = false ∨ bitM D.mask (v % 128) = true
  · rw [if_pos hc]
    refine ⟨hv, fun j hj => ?_⟩
    rw [q.at_, h.2 j hj]
    by_cases e : j = v
    · rw [if_pos ⟨by omega, hc⟩, if_pos (by omega)]
    · rw [if_neg (fun h => e (by omega))]
      by_cases h2 : j < v
      · rw [if_pos h2, if_pos (by omega)]
      · rw [if_neg h2, if_neg (by omega)]
  · rw [if_neg hc]
    refine ⟨h.1, fun j hj => ?_⟩
    rw [q.at_, h.2 j hj, if_neg (fun h => hc h.2)]
/-- bytes elsewhere stay. -/
theorem NextQ.other {D : DS} {f v f' n' : Nat} {R : DS × Int} (q : NextQ D f v R) (hn : f' * 128 + n' ≤ D.data.length) (ho : ∀ j, j < n' → f' * 128 + j ≠ f * 128 + v) {x : Nat} (h : Cnt (regL D f' n') x) : Cnt (regL R.1 f' n') x := by
  rw [cnt_reg hn] at h
  rw [cnt_reg (by rw [q.len]; exact hn)]
  exact ⟨h.1, fun j hj => by rw [q.at_, h.2 j hj, if_neg (fun h => ho j hj h.1)]⟩
end Go.Proofs.Ytlofnpebknfmkaa.Epo
