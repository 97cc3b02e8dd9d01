/- DERIVED. Where slots begin; what stands there. No program. -/
import Derived.Test.YthjjkbgkfikglaaSltMath
namespace Go.Proofs.Ythjjkbgkfikglaa.Slt
open Go.RowKit Dsk
theorem posC_zero (cs : List (List Int)) : posC cs 0 = 0 := by simp [posC]
theorem posC_next {cs : List (List Int)} {i : Nat} (h : i < cs.length) : posC cs (i + 1) = posC cs i + (cs.getD i []).length := by
  unfold posC
  have e : cs.getD i [] = cs[i] := by simp [List.getD_eq_getElem?_getD, h]
  rw [e, List.take_succ_eq_append_getElem h, List.flatten_append, List.length_append, List.flatten_cons, List.flatten_nil, List.append_nil]
theorem posC_mod {cs : List (List Int)} (hg : ∀ c ∈ cs, Good c) (i : Nat) : posC cs i % 128 = 0 := by
  unfold posC
  have : ∀ l : List (List Int), (∀ c ∈ l, Good c) → l.flatten.length % 128 = 0 := by
    intro l
    induction l with
    | nil => intro _; rfl
    | cons c l ih =>
      intro h
      have h1 := (h c (by simp)).2.2
      have h2 := ih (fun x hx => h x (by simp [hx]))
      rw [List.flatten_cons, List.length_append]
      omega
  exact this _ (fun c hc => hg c (List.mem_of_mem_take hc))
theorem drop_pos {L R : List Int} {cs : List (List Int)} {e : Bool} (h : Reads L cs R e) {i : Nat} (_hi : i ≤ cs.length) : L.drop (posC cs i) = (cs.drop i).flatten ++ R := by
  rw [h.eq]
  have : cs.flatten = (cs.take i).flatten ++ (cs.drop i).flatten := by rw [← List.flatten_append, List.take_append_drop]
  rw [this, List.append_assoc]
  unfold posC
  rw [List.drop_left]
theorem drop_cons {L R : List Int} {cs : List (List Int)} {e : Bool} (h : Reads L cs R e) {i : Nat} (hi : i < cs.length) : L.drop (posC cs i) = cs.getD i [] ++ ((cs.drop (i + 1)).flatten ++ R) := by
  rw [drop_pos h (Nat.le_of_lt hi), List.drop_eq_getElem_cons hi, List.flatten_cons, List.append_assoc]
  simp [List.getD_eq_getElem?_getD, hi]
theorem getD_mem {cs : List (List Int)} {i : Nat} (hi : i < cs.length) : cs.getD i [] ∈ cs := by
  rw [List.getD_eq_getElem?_getD, List.getElem?_eq_getElem hi, Option.getD_some]; exact List.getElem_mem _
theorem good_at {L R : List Int} {cs : List (List Int)} {e : Bool} (h : Reads L cs R e) {i : Nat} (hi : i < cs.length) :
    (L.drop (posC cs i)).getD 0 0 = 1 ∧ lenB (L.drop (posC cs i)) = lenB (cs.getD i []) ∧ lenB (cs.getD i []) ≤ 262144 ∧ (cs.getD i []).length = tk (lenB (cs.getD i [])) * 128 ∧ posC cs (i + 1) ≤ L.length := by
  have hg := h.good _ (getD_mem hi)
  have hl := hg.len
  refine ⟨?_, ?_, hg.2.1, hg.2.2, ?_⟩
  · rw [drop_cons h hi, getD_append_lt (by omega)]; exact hg.1
  · rw [drop_cons h hi, lenB_app (by omega)]
  · rw [posC_next hi]
    have := congrArg List.length (drop_cons h hi)
    rw [List.length_drop, List.length_append] at this
    omega
theorem posC_le {L R : List Int} {cs : List (List Int)} {e : Bool} (h : Reads L cs R e) (i : Nat) : posC cs i ≤ L.length := by
  rw [h.eq, List.length_append]
  unfold posC
  have : cs.flatten = (cs.take i).flatten ++ (cs.drop i).flatten := by rw [← List.flatten_append, List.take_append_drop]
  rw [this, List.length_append]; omega
theorem range_next (n : Nat) : List.range (n + 1) = List.range n ++ [n] := List.range_succ
end Go.Proofs.Ythjjkbgkfikglaa.Slt
