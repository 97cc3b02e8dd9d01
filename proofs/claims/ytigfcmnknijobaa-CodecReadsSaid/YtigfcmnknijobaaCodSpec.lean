/- DERIVED. Numbers as bytes (layer 4), on plain lists; no program. -/
import Derived.Test.YtigfcmnknijobaaBase2
namespace Go.Proofs.Ytigfcmnknijobaa.Cod
open Go.RowKit
/-- the digits of a number, k + 1 of them at most. -/
def encF : Nat → Nat → List Int
  | 0, n => [(n : Int)]
  | k + 1, n => if n < 128 then [(n : Int)] else ((128 + n % 128 : Nat) : Int) :: encF k (n / 128)
def encN (n : Nat) : List Int := encF 9 n
/-- the number that digits tell. -/
def valL : List Int → Nat
  | [] => 0
  | x :: r => x.toNat % 128 + 128 * valL r
/-- how many bytes stand up to the first one below 128, of k at most; none: 0. -/
def sizeF : Nat → List Int → Nat
  | 0, _ => 0
  | _ + 1, [] => 0
  | k + 1, x :: r => if x < 128 then 1 else if sizeF k r = 0 then 0 else sizeF k r + 1
/-- the number at the front, and how many bytes it has; none: 0, 0. -/
def numAt (L : List Int) : Nat × Nat :=
  if sizeF 10 L = 0 then (0, 0) else
  if encN (valL (L.take (sizeF 10 L)) % 18446744073709551616) = L.take (sizeF 10 L) then (valL (L.take (sizeF 10 L)) % 18446744073709551616, sizeF 10 L) else (0, 0)
theorem encF_pos (k n : Nat) : 0 < (encF k n).length := by
  cases k with
  | zero => simp [encF]
  | succ k => unfold encF; split <;> simp
theorem encF_le (k n : Nat) : (encF k n).length ≤ k + 1 := by
  induction k generalizing n with
  | zero => simp [encF]
  | succ k ih => unfold encF; split <;> simp; exact ih _
theorem encN_pos (n : Nat) : 0 < (encN n).length := encF_pos 9 n
theorem encN_le (n : Nat) : (encN n).length ≤ 10 := encF_le 9 n
theorem pow_lt {n k : Nat} (h : n < 128 ^ (k + 1)) : n / 128 < 128 ^ k := by
  rw [Nat.pow_succ] at h
  exact Nat.div_lt_of_lt_mul (by rw [Nat.mul_comm]; exact h)
theorem encF_mem {k n : Nat} (h : n < 128 ^ (k + 1)) : ∀ x ∈ encF k n, 0 ≤ x ∧ x < 256 := by
  induction k generalizing n with
  | zero => simp [encF]; simp at h; omega
  | succ k ih =>
    unfold encF
    split
    · simp; omega
    · intro x hx
      rcases List.mem_cons.1 hx with rfl | hx
      · omega
      · exact ih (pow_lt h) x hx
theorem inB_mem {L : List Int} (h : ∀ x ∈ L, 0 ≤ x ∧ x < 256) : InB L := by
  intro j
  by_cases hj : j < L.length
  · have e : L.getD j 0 = L[j] := by simp [List.getD_eq_getElem?_getD, hj]
    rw [e]; exact h _ (List.getElem_mem hj)
  · rw [getD_out _ _ (by omega)]; omega
theorem lt70 {n : Nat} (h : n < 18446744073709551616) : n < 128 ^ (9 + 1) := Nat.lt_trans h (by decide)
theorem encN_in {n : Nat} (h : n < 18446744073709551616) : InB (encN n) := inB_mem (encF_mem (lt70 h))
theorem valL_encF {k n : Nat} (h : n < 128 ^ (k + 1)) : valL (encF k n) = n := by
  induction k generalizing n with
  | zero => simp [encF, valL]; simp at h; omega
  | succ k ih =>
    unfold encF
    split
    · simp [valL]; omega
    · unfold valL
      rw [ih (pow_lt h)]
      simp only [Int.toNat_natCast]
      omega
theorem sizeF_encF {k n : Nat} (h : n < 128 ^ (k + 1)) (R : List Int) : sizeF (k + 1) (encF k n ++ R) = (encF k n).length := by
  induction k generalizing n with
  | zero => simp at h; simp [encF, sizeF]; omega
  | succ k ih =>
    unfold encF
    split
    · simp only [List.cons_append, List.nil_append, sizeF]; rw [if_pos (by omega)]; rfl
    · simp only [List.cons_append, sizeF, List.length_cons]
      have hp := encF_pos k (n / 128)
      rw [if_neg (by omega), ih (pow_lt h), if_neg (by omega)]
/-- what is written is read, whatever stands behind. -/
theorem numAt_enc {n : Nat} (h : n < 18446744073709551616) (R : List Int) : numAt (encN n ++ R) = (n, (encN n).length) := by
  have hs : sizeF 10 (encN n ++ R) = (encN n).length := sizeF_encF (lt70 h) R
  have ht : (encN n ++ R).take (encN n).length = encN n := List.take_left
  have hv : valL (encN n) % 18446744073709551616 = n := by unfold encN; rw [valL_encF (lt70 h), Nat.mod_eq_of_lt h]
  unfold numAt
  rw [hs, ht, hv, if_neg (by have := encN_pos n; omega), if_pos rfl]
theorem sizeF_le (k : Nat) (L : List Int) : sizeF k L ≤ L.length ∧ sizeF k L ≤ k := by
  induction k generalizing L with
  | zero => simp [sizeF]
  | succ k ih =>
    cases L with
    | nil => simp [sizeF]
    | cons x r =>
      have := ih r
      simp only [sizeF, List.length_cons]
      split
      · omega
      · split <;> omega
/-- what is read is written as just those bytes. -/
theorem numAt_yes {L : List Int} {n s : Nat} (h : numAt L = (n, s)) (hs : s ≠ 0) : encN n = L.take s ∧ n < 18446744073709551616 ∧ s ≤ L.length ∧ s ≤ 10 := by
  unfold numAt at h
  split at h
  · cases h; exact absurd rfl hs
  · split at h
    · rename_i he
      cases h
      exact ⟨he, Nat.mod_lt _ (by decide), (sizeF_le 10 L).1, (sizeF_le 10 L).2⟩
    · cases h; exact absurd rfl hs
theorem numAt_no {L : List Int} {n s : Nat} (h : numAt L = (n, s)) (hs : s = 0) : n = 0 := by
  unfold numAt at h
  split at h
  · cases h; rfl
  · split at h
    · cases h; contradiction
    · cases h; rfl
theorem numAt_lt {L : List Int} {n s : Nat} (h : numAt L = (n, s)) : n < 18446744073709551616 := by
  by_cases hs : s = 0
  · rw [numAt_no h hs]; decide
  · exact (numAt_yes h hs).2.1
/-- unlike numbers: neither begins the other one. -/
theorem encN_apart {n m : Nat} (hn : n < 18446744073709551616) (hm : m < 18446744073709551616) {R S : List Int} (h : encN n ++ R = encN m ++ S) : n = m := by
  have h1 := numAt_enc hn R
  rw [h, numAt_enc hm S] at h1
  exact (Prod.mk.inj h1).1.symm
theorem sizeF_at {k K : Nat} {L : List Int} (hK : k < K) (hl : k < L.length) (h : ∀ j, j < k → 128 ≤ L.getD j 0) (hx : L.getD k 0 < 128) : sizeF K L = k + 1 := by
  induction k generalizing K L with
  | zero =>
    cases K with
    | zero => omega
    | succ K =>
      cases L with
      | nil => simp at hl
      | cons x r =>
        have hx' : x < 128 := by simpa using hx
        simp [sizeF, hx']
  | succ k ih =>
    cases K with
    | zero => omega
    | succ K =>
      cases L with
      | nil => simp at hl
      | cons x r =>
        have h0 : 128 ≤ x := by simpa using h 0 (by omega)
        have ih' := ih (K := K) (L := r) (by omega) (by simpa using hl) (fun j hj => by simpa using h (j + 1) (by omega)) (by simpa using hx)
        simp only [sizeF, ih']
        rw [if_neg (by omega), if_neg (by omega)]
theorem sizeF_none {K : Nat} {L : List Int} (h : ∀ j, j < K → j < L.length → 128 ≤ L.getD j 0) : sizeF K L = 0 := by
  induction K generalizing L with
  | zero => rfl
  | succ K ih =>
    cases L with
    | nil => rfl
    | cons x r =>
      have h0 : 128 ≤ x := by simpa using h 0 (by omega) (by simp)
      have ih' := ih (L := r) (fun j hj hl => by simpa using h (j + 1) (by omega) (by simpa using hl))
      simp only [sizeF, ih']
      rw [if_neg (by omega)]
      rfl
theorem valL_snoc (P : List Int) (x : Int) : valL (P ++ [x]) = valL P + x.toNat % 128 * 128 ^ P.length := by
  induction P with
  | nil => simp [valL]
  | cons a P ih => simp only [List.cons_append, valL, ih, List.length_cons, Nat.pow_succ]; rw [Nat.mul_add, ← Nat.add_assoc]; congr 1; rw [Nat.mul_comm (128 ^ P.length) 128, ← Nat.mul_assoc, ← Nat.mul_assoc, Nat.mul_comm 128]
theorem valL_lt (P : List Int) : valL P < 128 ^ P.length := by
  induction P with
  | nil => simp [valL]
  | cons a P ih => simp only [valL, List.length_cons, Nat.pow_succ]; have := Nat.mod_lt a.toNat (show 128 > 0 by decide); omega
theorem pow7 (k : Nat) : 128 ^ k = 2 ^ (7 * k) := by rw [Nat.pow_mul]
/-- one digit more. -/
theorem or_step (P : List Int) (k : Nat) (hk : P.length = k) (h9 : k ≤ 9) (x : Int) (hx : 0 ≤ x) :
    bits .or .u64 ((valL P % 18446744073709551616 : Nat) : Int) (IntKind.u64.wrap (x % 128 * 2 ^ (7 * k))) = ((valL (P ++ [x]) % 18446744073709551616 : Nat) : Int) := by
  obtain ⟨a, rfl⟩ := Int.eq_ofNat_of_zero_le hx
  have hv := valL_lt P
  rw [hk, pow7] at hv
  have hM : (18446744073709551616 : Nat) = 2 ^ (64 - 7 * k) * 2 ^ (7 * k) := by rw [← Nat.pow_add, show 64 - 7 * k + 7 * k = 64 by omega]
  have hp1 : 2 ≤ 2 ^ (64 - 7 * k) := by have := Nat.pow_le_pow_right (show 0 < 2 by decide) (show 1 ≤ 64 - 7 * k by omega); simpa using this
  have hp0 : 0 < 2 ^ (7 * k) := Nat.pow_pos (by decide)
  have hw : IntKind.u64.wrap ((a : Int) % 128 * 2 ^ (7 * k)) = ((a % 128 * 2 ^ (7 * k) % 18446744073709551616 : Nat) : Int) := by
    simp [IntKind.wrap, IntKind.bits, IntKind.signed]
  rw [hw, u64_or_nat _ _ (Nat.mod_lt _ (by decide)) (Nat.mod_lt _ (by decide)), valL_snoc, hk, pow7]
  congr 1
  simp only [Int.toNat_natCast]
  obtain ⟨d, hd⟩ : ∃ d, d = a % 128 := ⟨_, rfl⟩
  rw [← hd]
  have hj : ∀ q, q * 2 ^ (7 * k) ||| valL P = q * 2 ^ (7 * k) + valL P := fun q => nat_join (7 * k) _ _ (Nat.mul_mod_left _ _) hv
  generalize 2 ^ (7 * k) = T at *
  generalize 2 ^ (64 - 7 * k) = S at *
  have hmod : d * T % 18446744073709551616 = d % S * T := by rw [hM, Nat.mul_mod_mul_right]
  have hds : d % S < S := Nat.mod_lt _ (by omega)
  have hle : d % S * T + T ≤ S * T := by rw [← Nat.succ_mul]; exact Nat.mul_le_mul_right T hds
  have hlt : valL P < 18446744073709551616 := by have := Nat.mul_le_mul_right T (show 1 ≤ S by omega); omega
  rw [Nat.mod_eq_of_lt hlt, hmod]
  have hsum : (valL P + d * T) % 18446744073709551616 = valL P + d % S * T := by
    rw [Nat.add_mod, hmod, Nat.mod_eq_of_lt hlt, Nat.mod_eq_of_lt (by omega)]
  rw [hsum, Nat.or_comm, hj, Nat.add_comm]
/-- a label's compartments. -/
def compL (c : Nat) : List Int := [((c / 72057594037927936 % 256 : Nat) : Int), ((c / 281474976710656 % 256 : Nat) : Int), ((c / 1099511627776 % 256 : Nat) : Int), ((c / 4294967296 % 256 : Nat) : Int), ((c / 16777216 % 256 : Nat) : Int), ((c / 65536 % 256 : Nat) : Int), ((c / 256 % 256 : Nat) : Int), ((c % 256 : Nat) : Int)]
theorem compL_length (c : Nat) : (compL c).length = 8 := rfl
theorem compL_in (c : Nat) : InB (compL c) := inB_mem (by intro x hx; simp [compL] at hx; omega)
def compOf : List Int → Nat
  | l => l.foldl (fun a x => 256 * a + x.toNat) 0
theorem divs (c : Nat) : c / 65536 = c / 256 / 256 ∧ c / 16777216 = c / 256 / 256 / 256 ∧ c / 4294967296 = c / 256 / 256 / 256 / 256 ∧ c / 1099511627776 = c / 256 / 256 / 256 / 256 / 256 ∧ c / 281474976710656 = c / 256 / 256 / 256 / 256 / 256 / 256 ∧ c / 72057594037927936 = c / 256 / 256 / 256 / 256 / 256 / 256 / 256 := by
  simp [Nat.div_div_eq_div_mul]
theorem small {c : Nat} (h : c < 18446744073709551616) : c / 256 / 256 / 256 / 256 / 256 / 256 / 256 < 256 := by
  simp only [Nat.div_div_eq_div_mul]
  exact Nat.div_lt_of_lt_mul h
theorem step (q : Nat) : 256 * (q / 256) + q % 256 = q := by omega
theorem compOf_L {c : Nat} (h : c < 18446744073709551616) : compOf (compL c) = c := by
  obtain ⟨d1, d2, d3, d4, d5, d6⟩ := divs c
  have hs := Nat.mod_eq_of_lt (small h)
  simp only [compOf, compL, List.foldl_cons, List.foldl_nil, Int.toNat_natCast, Nat.mul_zero, Nat.zero_add, d1, d2, d3, d4, d5, d6, hs, step]
theorem compOf_lt {l : List Int} (hl : l.length = 8) (hb : InB l) : compOf l < 18446744073709551616 := by
  match l, hl with
  | [a, b, c, d, e, f, g, h], _ =>
    have h0 := hb 0; have h1 := hb 1; have h2 := hb 2; have h3 := hb 3; have h4 := hb 4; have h5 := hb 5; have h6 := hb 6; have h7 := hb 7
    simp at h0 h1 h2 h3 h4 h5 h6 h7
    simp [compOf]; omega
theorem div1 {s x : Nat} (h : x < 256) : (256 * s + x) / 256 = s := by omega
theorem mod1 {s x : Nat} (h : x < 256) : (256 * s + x) % 256 = x := by omega
theorem compL_of {l : List Int} (hl : l.length = 8) (hb : InB l) : compL (compOf l) = l := by
  match l, hl with
  | [a, b, c, d, e, f, g, h], _ =>
    have h0 := hb 0; have h1 := hb 1; have h2 := hb 2; have h3 := hb 3; have h4 := hb 4; have h5 := hb 5; have h6 := hb 6; have h7 := hb 7
    clear hb
    simp at h0 h1 h2 h3 h4 h5 h6 h7
    obtain ⟨a, rfl⟩ := Int.eq_ofNat_of_zero_le h0.1
    obtain ⟨b, rfl⟩ := Int.eq_ofNat_of_zero_le h1.1
    obtain ⟨c, rfl⟩ := Int.eq_ofNat_of_zero_le h2.1
    obtain ⟨d, rfl⟩ := Int.eq_ofNat_of_zero_le h3.1
    obtain ⟨e, rfl⟩ := Int.eq_ofNat_of_zero_le h4.1
    obtain ⟨f, rfl⟩ := Int.eq_ofNat_of_zero_le h5.1
    obtain ⟨g, rfl⟩ := Int.eq_ofNat_of_zero_le h6.1
    obtain ⟨h, rfl⟩ := Int.eq_ofNat_of_zero_le h7.1
    have k0 : a < 256 := by omega
    have k1 : b < 256 := by omega
    have k2 : c < 256 := by omega
    have k3 : d < 256 := by omega
    have k4 : e < 256 := by omega
    have k5 : f < 256 := by omega
    have k6 : g < 256 := by omega
    have k7 : h < 256 := by omega
    simp only [compOf, List.foldl_cons, List.foldl_nil, Int.toNat_natCast, Nat.mul_zero, Nat.zero_add]
    obtain ⟨d1, d2, d3, d4, d5, d6⟩ := divs (256 * (256 * (256 * (256 * (256 * (256 * (256 * a + b) + c) + d) + e) + f) + g) + h)
    simp only [compL, d1, d2, d3, d4, d5, d6, div1 k7, div1 k6, div1 k5, div1 k4, div1 k3, div1 k2, div1 k1, mod1 k7, mod1 k6, mod1 k5, mod1 k4, mod1 k3, mod1 k2, mod1 k1, Nat.mod_eq_of_lt k0]
end Go.Proofs.Ytigfcmnknijobaa.Cod
