/- DERIVED. What is written is read, on lists: the mathematics of the law CodecBack. -/
import Derived.Test.YtigfcmnknijobaaCodOnceMath
namespace Go.Proofs.Ytigfcmnknijobaa.Cod
open Go.RowKit Str
theorem cutL_enc {n most : Nat} (h : n < 18446744073709551616) (hm : n ≤ most) (R : List Int) : cutL (encN n ++ R) most = (n, R, 0) := by
  unfold cutL
  rw [numAt_enc h R]
  have := encN_pos n
  simp only
  rw [if_neg (by omega), if_neg (by omega), List.drop_left]
theorem textR_enc {s : ByteArray} (h : s.size < 9223372036854775808) (R : List Int) : textR (textL s ++ R) (s.size : Nat) = (bOf s, R, 0) := by
  have hm : mostN ((s.size : Nat) : Int) = s.size := by unfold mostN; rw [if_neg (by omega)]; omega
  have hl := bOf_length s
  unfold textR textL
  rw [hm, List.append_assoc, cutL_enc (by omega) (Nat.le_refl _)]
  simp only
  rw [if_neg (by simp), if_neg (by rw [List.length_append]; omega), ← hl, List.take_left, List.drop_left]
theorem hashR_enc {h : List Int} (hh : h.length = 32) (R : List Int) : hashR (h ++ R) = (h, R, 0) := by
  unfold hashR
  rw [if_neg (by rw [List.length_append]; omega), ← hh, List.take_left, List.drop_left]
theorem uN_small {n : Int} (h0 : 0 ≤ n) (h1 : n < 18446744073709551616) : ((uN n : Nat) : Int) = n := by
  rw [uN_cast, Int.emod_eq_of_lt h0 h1]
theorem labelR_enc {lv : Int} {cp : Nat} (h0 : 0 ≤ lv) (h1 : lv < 16) (hc : cp < 18446744073709551616) (R : List Int) : labelR (labelL lv cp ++ R) = ((uN lv, cp), R, 0) := by
  have e := uN_small h0 (by omega)
  have hl := compL_length cp
  have k := cutL_enc (n := uN lv) (most := 15) (uN_lt _) (by omega) (compL cp ++ R)
  unfold labelR labelL
  rw [List.append_assoc, k]
  simp only
  rw [if_neg (by simp), if_neg (by rw [List.length_append]; omega), ← hl, List.take_left, List.drop_left, compOf_L hc]
theorem vertexR_enc {h : List Int} {n : Int} (hh : h.length = 32) (h0 : -2 ≤ n) (h1 : n ≤ 4294967294) (R : List Int) : vertexR (vertexL h n ++ R) = ((h, n), R, 0) := by
  have e := uN_small (n := n + 2) (by omega) (by omega)
  have k := cutL_enc (n := uN (n + 2)) (most := 4294967296) (uN_lt _) (by omega) R
  have hd : (h ++ (encN (uN (n + 2)) ++ R)).drop 32 = encN (uN (n + 2)) ++ R := by rw [← hh, List.drop_left]
  have ht : (h ++ (encN (uN (n + 2)) ++ R)).take 32 = h := by rw [← hh, List.take_left]
  unfold vertexR vertexL
  rw [List.append_assoc, hd, ht, k]
  simp only
  rw [if_neg (by rw [List.length_append]; omega), if_neg (by simp), e]
  simp
theorem readN_enc {n most : Nat} (h : n < 18446744073709551616) (hm : n ≤ most) (R : List Int) : readN (encN n ++ R) 0 most = (n, R, 0) := by
  unfold readN
  rw [if_pos rfl, cutL_enc h hm]
  rfl
end Go.Proofs.Ytigfcmnknijobaa.Cod
