/- DERIVED. The reference: Keeps, the table of L(i, j) in one row. -/
import Derived.Test.YtnpbogioehpeoaaMyrKept
namespace Go.Proofs.Ytnpbogioehpeoaa.Myr
open Go.RowKit Lns
/-- L(i, j) of two lists of texts. -/
def LL (a b : List ByteArray) (i j : Nat) : Nat := lcs (a.drop i) (b.drop j)
theorem dropT2 {L : List ByteArray} {k : Nat} (h : k < L.length) : L.drop k = nth L k :: L.drop (k + 1) := by rw [nth_lt h]; exact List.drop_eq_getElem_cons h
theorem LL_yes {a b : List ByteArray} {i j : Nat} (hi : i < a.length) (hj : j < b.length) (e : nth a i = nth b j) : LL a b i j = max (max (LL a b (i + 1) j) (LL a b i (j + 1))) (LL a b (i + 1) (j + 1) + 1) := by
  unfold LL
  rw [dropT2 hi, dropT2 hj, lcs_three, if_pos e]
theorem LL_no {a b : List ByteArray} {i j : Nat} (hi : i < a.length) (hj : j < b.length) (e : nth a i ≠ nth b j) : LL a b i j = max (LL a b (i + 1) j) (LL a b i (j + 1)) := by
  unfold LL
  rw [dropT2 hi, dropT2 hj, lcs_three, if_neg e, Nat.max_zero]
theorem LL_le (a b : List ByteArray) (i j : Nat) : LL a b i j ≤ a.length := by
  have h := lcs_left (a.drop i) (b.drop j)
  rw [List.length_drop] at h
  unfold LL; omega
theorem LL_endA (a b : List ByteArray) (j : Nat) : LL a b a.length j = 0 := by unfold LL; rw [List.drop_length]; rfl
theorem LL_endB (a b : List ByteArray) (i : Nat) : LL a b i b.length = 0 := by unfold LL; rw [List.drop_length, lcs_nil]
/-- is (i, j) reckoned, when rows behind i0, and of row i0 the places from j0 on, are? -/
def KD (i0 j0 i j : Nat) : Prop := i0 < i ∨ (i = i0 ∧ j0 ≤ j)
/-- the table so far. -/
structure KT (w : World) (a b : List ByteArray) (g i0 j0 : Nat) (L : List Int) (wr : World) : Prop where
  row : RowI .i64 3 wr g L
  len : L.length = (a.length + 1) * (b.length + 1)
  at_ : ∀ i j, i ≤ a.length → j ≤ b.length → KD i0 j0 i j → L.getD (i * (b.length + 1) + j) 0 = (LL a b i j : Nat)
  end_ : ∀ i, i ≤ a.length → L.getD (i * (b.length + 1) + b.length) 0 = 0
  ge : w.heap.size ≤ g
  low : Below w.heap.size w wr
theorem idx_lt {n m i j : Nat} (hi : i ≤ n) (hj : j ≤ m) : i * (m + 1) + j < (n + 1) * (m + 1) := by
  have : i * (m + 1) ≤ n * (m + 1) := Nat.mul_le_mul_right _ hi
  rw [Nat.succ_mul]; omega
theorem idx_ne {m i j i' j' : Nat} (hj : j ≤ m) (hj' : j' ≤ m) (h : ¬ (i = i' ∧ j = j')) : i * (m + 1) + j ≠ i' * (m + 1) + j' := by
  intro e
  apply h
  have h1 : (i * (m + 1) + j) / (m + 1) = i := by rw [Nat.mul_comm, Nat.mul_add_div (by omega), Nat.div_eq_of_lt (by omega)]; rfl
  have h2 : (i' * (m + 1) + j') / (m + 1) = i' := by rw [Nat.mul_comm, Nat.mul_add_div (by omega), Nat.div_eq_of_lt (by omega)]; rfl
  have : i = i' := by rw [← h1, ← h2, e]
  subst this
  exact ⟨rfl, by omega⟩
theorem getD_set_ne' {L : List Int} {p q : Nat} (x : Int) (h : p ≠ q) : (L.set p x).getD q 0 = L.getD q 0 := by
  simp only [List.getD_eq_getElem?_getD]
  rw [List.getElem?_set_ne h]
theorem getD_set_eq' {L : List Int} {p : Nat} (x : Int) (h : p < L.length) : (L.set p x).getD p 0 = x := by
  simp [List.getD_eq_getElem?_getD, h]
theorem KT.start {w : World} {a b : List ByteArray} : KT w a b w.heap.size a.length 0 (List.replicate ((a.length + 1) * (b.length + 1)) 0) (w.alloc (.cells (iv .i64 (List.replicate ((a.length + 1) * (b.length + 1)) 0)) 3)) :=
  ⟨row_new _ _ _ _, by simp, fun i j hi hj hd => by
    have e : i = a.length := by rcases hd with h | h <;> omega
    rw [e, LL_endA]
    simp [List.getD_eq_getElem?_getD, List.getElem?_replicate]; split <;> rfl, fun i _ => by simp [List.getD_eq_getElem?_getD, List.getElem?_replicate]; split <;> rfl, Nat.le_refl _, (Below.refl _ _).alloc (Nat.le_refl _) _⟩
theorem KT.nextRow {w wr : World} {a b : List ByteArray} {g i : Nat} {L : List Int} (h : KT w a b g (i + 1) 0 L wr) (hi : i < a.length) : KT w a b g i b.length L wr :=
  ⟨h.row, h.len, fun i' j hi' hj hd => by
    by_cases e : i' = i
    · subst e
      have : j = b.length := by rcases hd with h | h <;> omega
      rw [this, h.end_ i' hi', LL_endB]; rfl
    · exact h.at_ i' j hi' hj (by rcases hd with h | h <;> (unfold KD; omega)), h.end_, h.ge, h.low⟩
theorem KT.put {w wr : World} {a b : List ByteArray} {g i j : Nat} {L : List Int} (h : KT w a b g i (j + 1) L wr) (hi : i < a.length) (hj : j < b.length) (x : Int) (hx : x = (LL a b i j : Nat)) :
    KT w a b g i j (L.set (i * (b.length + 1) + j) x) (wr.setCell ⟨g, i * (b.length + 1) + j, none⟩ (.int .i64 x)) := by
  have hlt := idx_lt (n := a.length) (m := b.length) (i := i) (j := j) (by omega) (by omega)
  refine ⟨h.row.set _ _, by rw [List.length_set]; exact h.len, fun i' j' hi' hj' hd => ?_, fun i' hi' => ?_, h.ge, h.low.setCell h.ge _⟩
  · by_cases e : i = i' ∧ j = j'
    · obtain ⟨rfl, rfl⟩ := e
      rw [getD_set_eq' x (by rw [h.len]; exact hlt), hx]
    · rw [getD_set_ne' x (idx_ne (by omega) hj' e)]
      exact h.at_ i' j' hi' hj' (by unfold KD at hd ⊢; omega)
  · rw [getD_set_ne' x (idx_ne (by omega) (Nat.le_refl _) (by omega))]
    exact h.end_ i' hi'
theorem KT.drewN {w wr : World} {a b : List ByteArray} {g i j : Nat} {L : List Int} (h : KT w a b g i j L wr) (k : Nat) : KT w a b g i j L (wr.drewN k) := ⟨h.row, h.len, h.at_, h.end_, h.ge, Below.drewN h.low k⟩
theorem KT.cell {w wr : World} {a b : List ByteArray} {g i0 j0 i j : Nat} {L : List Int} (h : KT w a b g i0 j0 L wr) (hi : i ≤ a.length) (hj : j ≤ b.length) (hd : KD i0 j0 i j) : wr.cell? ⟨g, i * (b.length + 1) + j, none⟩ = some (.int .i64 (LL a b i j : Nat)) := by
  rw [h.row.cell _ (by rw [h.len]; exact idx_lt hi hj), h.at_ i j hi hj hd]
theorem KT.old {w wr : World} {a b : List ByteArray} {g i0 j0 i j : Nat} {L : List Int} (h : KT w a b g i0 j0 L wr) (hi : i ≤ a.length) (hj : j ≤ b.length) : (∃ x : Int, wr.cell? ⟨g, i * (b.length + 1) + j, none⟩ = some (.int .i64 x)) ∧ wr.frozen? ⟨g, i * (b.length + 1) + j, none⟩ = false :=
  ⟨⟨_, h.row.cell _ (by rw [h.len]; exact idx_lt hi hj)⟩, h.row.free _⟩
theorem KT.done {w wr : World} {a b : List ByteArray} {g : Nat} {L : List Int} (h : KT w a b g 0 0 L wr) (i j : Nat) (hi : i ≤ a.length) (hj : j ≤ b.length) : wr.cell? ⟨g, i * (b.length + 1) + j, none⟩ = some (.int .i64 (LL a b i j : Nat)) := h.cell hi hj (by unfold KD; omega)
end Go.Proofs.Ytnpbogioehpeoaa.Myr
