/- DERIVED. What the document's Open of layer 11 asks is what seal.Open tells; on plain lists. -/
import Derived.Test.YtgkmbamoffolgaaDoorMseal18
namespace Go.Proofs.YtgkmbamoffolgaaDoor.Seal
open Go.RowKit
/-- what the document's Open answers: the text is what seals to these bytes. -/
def ropenL (k C : List Int) (pos : Nat) (S : List Int) : Option (List Int × Nat) :=
  if isBk ((S.length : Int) - 36) then
    if be4 (bodyL k C pos (be4 S).toNat ((S.drop 4).take (S.length - 36))) ≤ (S.length : Int) - 40 ∧
      sealL k C pos (be4 S).toNat (((bodyL k C pos (be4 S).toNat ((S.drop 4).take (S.length - 36))).drop 4).take (be4 (bodyL k C pos (be4 S).toNat ((S.drop 4).take (S.length - 36)))).toNat) = S then
      some (((bodyL k C pos (be4 S).toNat ((S.drop 4).take (S.length - 36))).drop 4).take (be4 (bodyL k C pos (be4 S).toNat ((S.drop 4).take (S.length - 36)))).toNat, (be4 S).toNat)
    else none
  else none
theorem take_tagged' {S : List Int} {q E : Nat} (hi : InB S) (hS : S.length = 36 + q) (hE : be4 S = E) : S.take (4 + q) = numL E 4 ++ (S.drop 4).take q := by
  have h4 := numL_be4 (L := S.take 4) (hi.take 4) (by rw [List.length_take]; omega)
  rw [be4_take, hE, Int.toNat_natCast] at h4
  rw [h4, List.take_add]
theorem bka_small (n : Nat) : ∀ k b, bkA n k b ≤ b ∨ bkA n k b ≤ 2 * (n + 3) := by
  intro k
  induction k with
  | zero => intro b; exact .inl (Nat.le_refl _)
  | succ k ih =>
    intro b
    show (if b < n + 4 then bkA n k (2 * b) else b) ≤ b ∨ (if b < n + 4 then bkA n k (2 * b) else b) ≤ 2 * (n + 3)
    by_cases h : b < n + 4
    · rw [if_pos h]
      rcases ih (2 * b) with h2 | h2
      · right; omega
      · exact .inr h2
    · rw [if_neg h]; exact .inl (Nat.le_refl _)
theorem bkt_small {n : Nat} (h : n ≤ 9000) : bkt n ≤ 18006 := by
  rcases bka_small n 11 64 with h1 | h1
  · have e : bkt n = bkA n 11 64 := rfl
    omega
  · have e : bkt n = bkA n 11 64 := rfl
    omega
/-- the number of the first bytes. -/
def beP (S : List Int) : Nat → Int
  | 0 => 0
  | i + 1 => 256 * beP S i + S.getD i 0
theorem beP4 (S : List Int) : beP S 4 = be4 S := by
  simp only [beP, be4]; omega
theorem beP_in {S : List Int} (h : InB S) : ∀ i, 0 ≤ beP S i ∧ beP S i < 256 ^ i := by
  intro i
  induction i with
  | zero => exact ⟨Int.le_refl _, by show (0 : Int) < 256 ^ 0; decide⟩
  | succ i ih =>
    have := h i
    simp only [beP, Int.pow_succ]
    omega
theorem bodyL_twice (k C : List Int) (pos ep : Nat) {L : List Int} (h : InB L) : bodyL k C pos ep (bodyL k C pos ep L) = L := Cha.stream_twice _ _ _ _ h
theorem ropenL_eq (k C : List Int) (pos : Nat) (S : List Int) (hS : InB S) : openL k C pos S = ropenL k C pos S := by
  by_cases hbk : isBk ((S.length : Int) - 36)
  rotate_left
  · rw [openL_no1 hbk]; unfold ropenL; rw [if_neg hbk]
  obtain ⟨q, hq⟩ : ∃ q : Nat, S.length = 36 + q := ⟨S.length - 36, by have := isBk_pos hbk; omega⟩
  have hb4 := be4_in hS
  obtain ⟨E, hE⟩ : ∃ E : Nat, be4 S = E := ⟨(be4 S).toNat, by omega⟩
  obtain ⟨B, hB⟩ : ∃ B, B = (S.drop 4).take q := ⟨_, rfl⟩
  obtain ⟨P, hP⟩ : ∃ P, P = bodyL k C pos E B := ⟨_, rfl⟩
  have hBl : B.length = q := by rw [hB, List.length_take, List.length_drop]; omega
  have hBi : InB B := by rw [hB]; exact (hS.drop 4).take q
  have hPl : P.length = q := by rw [hP, bodyL_length, hBl]
  have hPi : InB P := by rw [hP]; exact bodyL_in hBi
  have hPb := be4_in hPi
  obtain ⟨n, hn⟩ : ∃ n : Nat, be4 P = n := ⟨(be4 P).toNat, by omega⟩
  have eR : ropenL k C pos S = if (n : Int) ≤ (S.length : Int) - 40 ∧ sealL k C pos E ((P.drop 4).take n) = S then some ((P.drop 4).take n, E) else none := by
    unfold ropenL
    rw [if_pos hbk, hE, Int.toNat_natCast, show S.length - 36 = q by omega, ← hB, ← hP, hn, Int.toNat_natCast]
  rw [eR]
  have hq64 := isBk_pos hbk
  have hS4 : S = numL E 4 ++ B ++ S.drop (4 + q) := by
    have h := take_tagged' hS hq hE
    rw [← hB] at h
    rw [← h, List.take_append_drop]
  by_cases hc : (n : Int) ≤ (S.length : Int) - 40 ∧ sealL k C pos E ((P.drop 4).take n) = S
  · rw [if_pos hc]
    have hTl : ((P.drop 4).take n).length = n := by rw [List.length_take, List.length_drop, hPl]; omega
    have h := open_seal k C ((P.drop 4).take n) pos E ((hPi.drop 4).take n) (by rw [hTl]; omega) (by omega)
    rwa [hc.2] at h
  · rw [if_neg hc]
    by_cases ht : tagL k C pos E B = S.drop (4 + q)
    · rw [openL_yes hbk hq hE (by rw [← hB]; exact ht), ← hB, ← hP]
      cases hu : unpad P with
      | none => rfl
      | some L =>
        exfalso
        apply hc
        obtain ⟨h1, h2, h3⟩ := pad_unpad hPi hu
        rw [hn] at h3
        have hLn : L.length = n := by omega
        have hge := bkt_ge h2
        have hpl := padL_length h2
        rw [← h1, hPl] at hpl
        have hL : (P.drop 4).take n = L := by
          rw [h1, pad_drop4, ← hLn, List.take_append_of_le_length (Nat.le_refl _), List.take_length]
        refine ⟨by omega, ?_⟩
        rw [hL]
        have hb : bodyL k C pos E (padL L) = B := by rw [← h1, hP]; exact bodyL_twice k C pos E hBi
        unfold sealL
        rw [hb, ht]
        exact hS4.symm
    · rw [openL_no2 hq hE (by rw [← hB]; exact ht)]
/-- the same, for a walk that has got so far. -/
theorem ropen_parts {k C S B P : List Int} {pos q E n : Nat} (hS : InB S) (hq : S.length = 36 + q) (hbk : isBk (q : Int)) (hE : be4 S = E) (hB : B = (S.drop 4).take q) (hP : P = bodyL k C pos E B) (hn : be4 P = n) :
    ((q : Int) - 4 < n → openL k C pos S = none) ∧ ((n : Int) ≤ (q : Int) - 4 → sealL k C pos E ((P.drop 4).take n) ≠ S → openL k C pos S = none) ∧ ((n : Int) ≤ (q : Int) - 4 → sealL k C pos E ((P.drop 4).take n) = S → openL k C pos S = some ((P.drop 4).take n, E)) := by
  have e1 : (S.length : Int) - 36 = q := by omega
  have eR : openL k C pos S = if (n : Int) ≤ (S.length : Int) - 40 ∧ sealL k C pos E ((P.drop 4).take n) = S then some ((P.drop 4).take n, E) else none := by
    rw [ropenL_eq k C pos S hS]
    unfold ropenL
    rw [e1, if_pos hbk, hE, Int.toNat_natCast, show S.length - 36 = q by omega, ← hB, ← hP, hn, Int.toNat_natCast]
  refine ⟨fun h => ?_, fun h1 h2 => ?_, fun h1 h2 => ?_⟩
  · rw [eR, if_neg (fun h3 => by have := h3.1; omega)]
  · rw [eR, if_neg (fun h3 => h2 h3.2)]
  · rw [eR, if_pos ⟨by omega, h2⟩]
/-- which lengths fit. -/
def fitB (d : Int) (j : Nat) : Bool := decide (∃ i, i < j ∧ d = ((64 * 2 ^ i : Nat) : Int))
theorem fit0 (d : Int) : false = fitB d 0 := by
  unfold fitB
  rw [eq_comm, decide_eq_false_iff_not]
  rintro ⟨i, hi, _⟩; omega
theorem fit_yes {d : Int} {j : Nat} (h : true = fitB d j) : true = fitB d (j + 1) := by
  unfold fitB at h ⊢
  obtain ⟨i, hi, e⟩ := of_decide_eq_true h.symm
  exact (decide_eq_true ⟨i, by omega, e⟩).symm
theorem fit_no {d : Int} {j : Nat} (h : false = fitB d j) : decide (d = ((64 * 2 ^ j : Nat) : Int)) = fitB d (j + 1) := by
  unfold fitB at h ⊢
  have h := of_decide_eq_false h.symm
  by_cases e : d = ((64 * 2 ^ j : Nat) : Int)
  · rw [decide_eq_true e, decide_eq_true ⟨j, by omega, e⟩]
  · rw [decide_eq_false e, decide_eq_false]
    rintro ⟨i, hi, e2⟩
    by_cases hij : i = j
    · subst hij; exact e e2
    · exact h ⟨i, by omega, e2⟩
theorem fit_bk (d : Int) : fitB d 12 = decide (isBk d) := by
  unfold fitB
  congr 1
  apply propext
  constructor
  · rintro ⟨i, hi, rfl⟩
    obtain rfl | rfl | rfl | rfl | rfl | rfl | rfl | rfl | rfl | rfl | rfl | rfl : i = 0 ∨ i = 1 ∨ i = 2 ∨ i = 3 ∨ i = 4 ∨ i = 5 ∨ i = 6 ∨ i = 7 ∨ i = 8 ∨ i = 9 ∨ i = 10 ∨ i = 11 := by omega
    all_goals decide
  · rintro (rfl | rfl | rfl | rfl | rfl | rfl | rfl | rfl | rfl | rfl | rfl | rfl)
    all_goals first | exact ⟨0, by decide, rfl⟩ | exact ⟨1, by decide, rfl⟩ | exact ⟨2, by decide, rfl⟩ | exact ⟨3, by decide, rfl⟩ | exact ⟨4, by decide, rfl⟩ | exact ⟨5, by decide, rfl⟩ | exact ⟨6, by decide, rfl⟩ | exact ⟨7, by decide, rfl⟩ | exact ⟨8, by decide, rfl⟩ | exact ⟨9, by decide, rfl⟩ | exact ⟨10, by decide, rfl⟩ | exact ⟨11, by decide, rfl⟩
end Go.Proofs.YtgkmbamoffolgaaDoor.Seal
