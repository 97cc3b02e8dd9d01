/- DERIVED. A counter on lists: what its bytes tell. No program. -/
import Derived.Test.YtlofnpebknfmkaaDskTornMath
namespace Go.Proofs.Ytlofnpebknfmkaa.Epo
open Go.RowKit Dsk
/-- how many of these stand at the front. -/
def lead (x : Int) : List Int → Nat
  | [] => 0
  | y :: r => if y = x then lead x r + 1 else 0
theorem lead_le (x : Int) : ∀ L : List Int, lead x L ≤ L.length
  | [] => Nat.le_refl _
  | y :: r => by
    have := lead_le x r
    unfold lead
    split <;> simp only [List.length_cons] <;> omega
theorem lead_get (x : Int) : ∀ (L : List Int) (j : Nat), j < lead x L → L.getD j 0 = x
  | [], j, h => absurd h (Nat.not_lt_zero _)
  | y :: r, j, h => by
    unfold lead at h
    by_cases e : y = x
    · rw [if_pos e] at h
      cases j with
      | zero => exact e
      | succ k => exact lead_get x r k (by omega)
    · rw [if_neg e] at h; omega
theorem lead_stop (x : Int) : ∀ L : List Int, lead x L < L.length → L.getD (lead x L) 0 ≠ x
  | [], h => absurd h (Nat.not_lt_zero _)
  | y :: r, h => by
    unfold lead at h ⊢
    by_cases e : y = x
    · rw [if_pos e] at h ⊢
      exact lead_stop x r (by simpa using h)
    · rw [if_neg e]
      exact e
theorem lead_of {x : Int} {L : List Int} {n : Nat} (hn : n ≤ L.length) (h : ∀ j, j < n → L.getD j 0 = x) (hs : n < L.length → L.getD n 0 ≠ x) : lead x L = n := by
  have h1 := lead_le x L
  rcases Nat.lt_trichotomy (lead x L) n with hl | hl | hl
  · exact absurd (h _ hl) (lead_stop x L (by omega))
  · exact hl
  · exact absurd (lead_get x L n hl) (hs (by omega))
/-- these bytes tell n: n ones, and zeros behind. -/
structure Cnt (L : List Int) (n : Nat) : Prop where
  le : n ≤ L.length
  at_ : ∀ j, j < L.length → L.getD j 0 = if j < n then 1 else 0
def restL (L : List Int) : List Int := L.drop (lead 1 L)
def tellV (L : List Int) : Int := if lead 0 (restL L) < (restL L).length then 0 else lead 1 L
def tellE (L : List Int) : Int := if lead 0 (restL L) < (restL L).length then 9 else 0
theorem getD_drop'' (L : List Int) (p j : Nat) : (L.drop p).getD j 0 = L.getD (p + j) 0 := by
  simp [List.getD_eq_getElem?_getD]
theorem Cnt.lead1 {L : List Int} {n : Nat} (h : Cnt L n) : lead 1 L = n :=
  lead_of h.le (fun j hj => by rw [h.at_ j (by have := h.le; omega), if_pos hj]) (fun hl => by rw [h.at_ n hl, if_neg (Nat.lt_irrefl _)]; decide)
theorem Cnt.lead0 {L : List Int} {n : Nat} (h : Cnt L n) : ¬ lead 0 (restL L) < (restL L).length := by
  have hle := h.le
  have hl : (restL L).length = L.length - n := by rw [restL, List.length_drop, h.lead1]
  rw [lead_of (n := (restL L).length) (Nat.le_refl _) (fun j hj => ?_) (fun hh => absurd hh (Nat.lt_irrefl _))]
  · exact Nat.lt_irrefl _
  · rw [restL, getD_drop'', h.lead1, h.at_ _ (by omega), if_neg (by omega)]
theorem Cnt.tv {L : List Int} {n : Nat} (h : Cnt L n) : tellV L = n := by rw [tellV, if_neg h.lead0, h.lead1]
theorem Cnt.te {L : List Int} {n : Nat} (h : Cnt L n) : tellE L = 0 := by rw [tellE, if_neg h.lead0]
theorem cnt_of {L : List Int} (h : ¬ lead 0 (restL L) < (restL L).length) : Cnt L (lead 1 L) := by
  have h1 := lead_le 1 L
  refine ⟨h1, fun j hj => ?_⟩
  by_cases e : j < lead 1 L
  · rw [if_pos e]; exact lead_get 1 L j e
  · rw [if_neg e]
    have hl : (restL L).length = L.length - lead 1 L := by rw [restL, List.length_drop]
    have := lead_get 0 (restL L) (j - lead 1 L) (by omega)
    rw [restL, getD_drop'', show lead 1 L + (j - lead 1 L) = j by omega] at this
    exact this
theorem tell_te {L : List Int} (h : tellE L = 0) : Cnt L (lead 1 L) := by
  refine cnt_of fun hh => ?_
  rw [tellE, if_pos hh] at h
  cases h
theorem tell_cases (L : List Int) : (tellE L = 9 ∧ tellV L = 0) ∨ (tellE L = 0 ∧ Cnt L (lead 1 L) ∧ tellV L = lead 1 L) := by
  by_cases e : lead 0 (restL L) < (restL L).length
  · exact .inl ⟨by rw [tellE, if_pos e], by rw [tellV, if_pos e]⟩
  · exact .inr ⟨by rw [tellE, if_neg e], cnt_of e, by rw [tellV, if_neg e]⟩
/-- the sectors of a counter. -/
def regL (D : DS) (f n : Nat) : List Int := (D.data.drop (f * 128)).take n
/-- the sector that holds the byte v, with that byte counted. -/
def nextB (D : DS) (f v : Nat) : List Int := (secL D.data (f + v / 128)).set (v % 128) 1
/-- the disk behind a step. -/
def nextD (D : DS) (f v : Nat) : DS × Int := runD D (f + v / 128) (nextB D f v) 0 1
theorem nextD_eq (D : DS) (f v : Nat) : nextD D f v = (stepD D (f + v / 128) (secL (nextB D f v) 0), if (stepD D (f + v / 128) (secL (nextB D f v) 0)).off then 12 else 0) := by
  unfold nextD
  rw [runD, Nat.add_zero]
  cases (stepD D (f + v / 128) (secL (nextB D f v) 0)).off <;> rfl
end Go.Proofs.Ytlofnpebknfmkaa.Epo
