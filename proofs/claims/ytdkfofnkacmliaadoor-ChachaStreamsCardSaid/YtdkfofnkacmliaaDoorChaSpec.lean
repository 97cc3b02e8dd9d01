/- DERIVED. PLAIN MATHEMATICS: the parts of ChaCha20 on integers, in the words in which the walks leave them. No program. -/
import Derived.Test.YtdkfofnkacmliaaDoorBase2
namespace Go.Proofs.YtdkfofnkacmliaaDoor.Cha
/-- x, turned left by n places. -/
def rotl (x : Int) (n : Nat) : Int := bits .or .u32 (x * 2 ^ n % 4294967296) (x / 2 ^ (32 - n))
/-- x, turned right by n places. -/
def turnr (x : Int) (n : Nat) : Int := bits .or .u32 (x / 2 ^ n) (x * 2 ^ (32 - n) % 4294967296)
def xo (a b : Int) : Int := bits .xor .u32 a b
/-- a word of 32 bits. -/
def Wd (x : Int) : Prop := 0 ≤ x ∧ x < 4294967296
/-- the parts of a quarter round. -/
def qa1 (a b : Int) : Int := (a + b) % 4294967296
def qd1 (a b d : Int) : Int := rotl (xo d (qa1 a b)) 16
def qc1 (a b c d : Int) : Int := (c + qd1 a b d) % 4294967296
def qb1 (a b c d : Int) : Int := rotl (xo b (qc1 a b c d)) 12
def qa2 (a b c d : Int) : Int := (a + b + qb1 a b c d) % 4294967296
def qd2 (a b c d : Int) : Int := rotl (xo (qd1 a b d) (qa2 a b c d)) 8
def qc2 (a b c d : Int) : Int := (c + qd1 a b d + qd2 a b c d) % 4294967296
def qb2 (a b c d : Int) : Int := rotl (xo (qb1 a b c d) (qc2 a b c d)) 7
theorem wd_xo {a b : Int} (ha : Wd a) (hb : Wd b) : Wd (xo a b) := by
  unfold xo
  rw [u32_xor a b ha.1 ha.2 hb.1 hb.2]
  have h1 := ha.1; have h2 := ha.2; have h3 := hb.1; have h4 := hb.2
  have : a.toNat ^^^ b.toNat < 2 ^ 32 := Nat.xor_lt_two_pow (by omega) (by omega)
  exact ⟨by omega, by omega⟩
theorem xo_back {a b : Int} (ha : Wd a) (hb : Wd b) : xo (xo a b) b = a := by
  have hx := wd_xo ha hb
  unfold xo at *
  rw [u32_xor a b ha.1 ha.2 hb.1 hb.2] at *
  rw [u32_xor _ b hx.1 hx.2 hb.1 hb.2]
  have h1 := ha.1
  rw [Int.toNat_natCast, Nat.xor_assoc, Nat.xor_self, Nat.xor_zero]
  omega
/-- what a turn to the left is, as a sum. -/
theorem rotl_sum {x : Int} (n : Nat) (hi lo : Nat) (e1 : (x * 2 ^ n % 4294967296).toNat = hi) (e2 : (x / 2 ^ (32 - n)).toNat = lo) (b1 : 0 ≤ x * 2 ^ n % 4294967296) (b2 : x * 2 ^ n % 4294967296 < 4294967296) (b3 : 0 ≤ x / 2 ^ (32 - n)) (b4 : x / 2 ^ (32 - n) < 4294967296) (h1 : hi % 2 ^ n = 0) (h2 : lo < 2 ^ n) : rotl x n = ((hi + lo : Nat) : Int) := by
  unfold rotl
  rw [u32_or _ _ b1 b2 b3 b4, e1, e2, nat_join n hi lo h1 h2]
theorem turnr_sum {y : Int} (n : Nat) (hi lo : Nat) (e1 : (y * 2 ^ (32 - n) % 4294967296).toNat = hi) (e2 : (y / 2 ^ n).toNat = lo) (b1 : 0 ≤ y * 2 ^ (32 - n) % 4294967296) (b2 : y * 2 ^ (32 - n) % 4294967296 < 4294967296) (b3 : 0 ≤ y / 2 ^ n) (b4 : y / 2 ^ n < 4294967296) (h1 : hi % 2 ^ (32 - n) = 0) (h2 : lo < 2 ^ (32 - n)) : turnr y n = ((hi + lo : Nat) : Int) := by
  unfold turnr
  rw [u32_or _ _ b3 b4 b1 b2, e1, e2, Nat.or_comm, nat_join (32 - n) hi lo h1 h2]
theorem rotl16 {x : Int} (hx : Wd x) : rotl x 16 = x * 65536 % 4294967296 + x / 65536 := by
  have h1 := hx.1; have h2 := hx.2
  rw [rotl_sum 16 _ _ rfl rfl (by omega) (by omega) (by omega) (by omega) (by omega) (by omega)]; omega
theorem rotl12 {x : Int} (hx : Wd x) : rotl x 12 = x * 4096 % 4294967296 + x / 1048576 := by
  have h1 := hx.1; have h2 := hx.2
  rw [rotl_sum 12 _ _ rfl rfl (by omega) (by omega) (by omega) (by omega) (by omega) (by omega)]; omega
theorem rotl8 {x : Int} (hx : Wd x) : rotl x 8 = x * 256 % 4294967296 + x / 16777216 := by
  have h1 := hx.1; have h2 := hx.2
  rw [rotl_sum 8 _ _ rfl rfl (by omega) (by omega) (by omega) (by omega) (by omega) (by omega)]; omega
theorem rotl7 {x : Int} (hx : Wd x) : rotl x 7 = x * 128 % 4294967296 + x / 33554432 := by
  have h1 := hx.1; have h2 := hx.2
  rw [rotl_sum 7 _ _ rfl rfl (by omega) (by omega) (by omega) (by omega) (by omega) (by omega)]; omega
theorem wd16 {x : Int} (hx : Wd x) : Wd (rotl x 16) := by rw [rotl16 hx]; have h1 := hx.1; have h2 := hx.2; exact ⟨by omega, by omega⟩
theorem wd12 {x : Int} (hx : Wd x) : Wd (rotl x 12) := by rw [rotl12 hx]; have h1 := hx.1; have h2 := hx.2; exact ⟨by omega, by omega⟩
theorem wd8 {x : Int} (hx : Wd x) : Wd (rotl x 8) := by rw [rotl8 hx]; have h1 := hx.1; have h2 := hx.2; exact ⟨by omega, by omega⟩
theorem wd7 {x : Int} (hx : Wd x) : Wd (rotl x 7) := by rw [rotl7 hx]; have h1 := hx.1; have h2 := hx.2; exact ⟨by omega, by omega⟩
theorem back16 {x : Int} (hx : Wd x) : turnr (rotl x 16) 16 = x := by
  have hy := wd16 hx; have he := rotl16 hx
  generalize rotl x 16 = y at hy he
  have h1 := hx.1; have h2 := hx.2; have h3 := hy.1; have h4 := hy.2
  obtain ⟨p, hp⟩ : ∃ p, p = x % 65536 := ⟨_, rfl⟩
  obtain ⟨q, hq⟩ : ∃ q, q = x / 65536 := ⟨_, rfl⟩
  have e0 : x * 65536 % 4294967296 = p * 65536 := by omega
  have hx2 : x = 65536 * q + p := by omega
  have hpb : 0 ≤ p ∧ p < 65536 := by omega
  have hqb : 0 ≤ q ∧ q < 65536 := by omega
  have hy2 : y = 65536 * p + q := by omega
  clear he e0 h1 h2 hp hq
  have e1 : y / 65536 = p := by omega
  have e2 : y * 65536 % 4294967296 = 65536 * q := by omega
  rw [turnr_sum 16 (65536 * q).toNat p.toNat (by rw [← e2]; rfl) (by rw [← e1]; rfl) (by omega) (by omega) (by omega) (by omega) (by omega) (by omega)]
  omega
theorem back12 {x : Int} (hx : Wd x) : turnr (rotl x 12) 12 = x := by
  have hy := wd12 hx; have he := rotl12 hx
  generalize rotl x 12 = y at hy he
  have h1 := hx.1; have h2 := hx.2; have h3 := hy.1; have h4 := hy.2
  obtain ⟨p, hp⟩ : ∃ p, p = x % 1048576 := ⟨_, rfl⟩
  obtain ⟨q, hq⟩ : ∃ q, q = x / 1048576 := ⟨_, rfl⟩
  have e0 : x * 4096 % 4294967296 = p * 4096 := by omega
  have hx2 : x = 1048576 * q + p := by omega
  have hpb : 0 ≤ p ∧ p < 1048576 := by omega
  have hqb : 0 ≤ q ∧ q < 4096 := by omega
  have hy2 : y = 4096 * p + q := by omega
  clear he e0 h1 h2 hp hq
  have e1 : y / 4096 = p := by omega
  have e2 : y * 1048576 % 4294967296 = 1048576 * q := by omega
  rw [turnr_sum 12 (1048576 * q).toNat p.toNat (by rw [← e2]; rfl) (by rw [← e1]; rfl) (by omega) (by omega) (by omega) (by omega) (by omega) (by omega)]
  omega
theorem back8 {x : Int} (hx : Wd x) : turnr (rotl x 8) 8 = x := by
  have hy := wd8 hx; have he := rotl8 hx
  generalize rotl x 8 = y at hy he
  have h1 := hx.1; have h2 := hx.2; have h3 := hy.1; have h4 := hy.2
  obtain ⟨p, hp⟩ : ∃ p, p = x % 16777216 := ⟨_, rfl⟩
  obtain ⟨q, hq⟩ : ∃ q, q = x / 16777216 := ⟨_, rfl⟩
  have e0 : x * 256 % 4294967296 = p * 256 := by omega
  have hx2 : x = 16777216 * q + p := by omega
  have hpb : 0 ≤ p ∧ p < 16777216 := by omega
  have hqb : 0 ≤ q ∧ q < 256 := by omega
  have hy2 : y = 256 * p + q := by omega
  clear he e0 h1 h2 hp hq
  have e1 : y / 256 = p := by omega
  have e2 : y * 16777216 % 4294967296 = 16777216 * q := by omega
  rw [turnr_sum 8 (16777216 * q).toNat p.toNat (by rw [← e2]; rfl) (by rw [← e1]; rfl) (by omega) (by omega) (by omega) (by omega) (by omega) (by omega)]
  omega
theorem back7 {x : Int} (hx : Wd x) : turnr (rotl x 7) 7 = x := by
  have hy := wd7 hx; have he := rotl7 hx
  generalize rotl x 7 = y at hy he
  have h1 := hx.1; have h2 := hx.2; have h3 := hy.1; have h4 := hy.2
  obtain ⟨p, hp⟩ : ∃ p, p = x % 33554432 := ⟨_, rfl⟩
  obtain ⟨q, hq⟩ : ∃ q, q = x / 33554432 := ⟨_, rfl⟩
  have e0 : x * 128 % 4294967296 = p * 128 := by omega
  have hx2 : x = 33554432 * q + p := by omega
  have hpb : 0 ≤ p ∧ p < 33554432 := by omega
  have hqb : 0 ≤ q ∧ q < 128 := by omega
  have hy2 : y = 128 * p + q := by omega
  clear he e0 h1 h2 hp hq
  have e1 : y / 128 = p := by omega
  have e2 : y * 33554432 % 4294967296 = 33554432 * q := by omega
  rw [turnr_sum 7 (33554432 * q).toNat p.toNat (by rw [← e2]; rfl) (by rw [← e1]; rfl) (by omega) (by omega) (by omega) (by omega) (by omega) (by omega)]
  omega
theorem wd_mod (x : Int) : Wd (x % 4294967296) := ⟨by omega, by omega⟩
section
variable {a b c d : Int} (ha : Wd a) (hb : Wd b) (hc : Wd c) (hd : Wd d)
include hd in
theorem wd_qd1 : Wd (qd1 a b d) := wd16 (wd_xo hd (wd_mod _))
include hb in
theorem wd_qb1 : Wd (qb1 a b c d) := wd12 (wd_xo hb (wd_mod _))
include hd in
theorem wd_qd2 : Wd (qd2 a b c d) := wd8 (wd_xo (wd_qd1 hd) (wd_mod _))
include hb in
theorem wd_qb2 : Wd (qb2 a b c d) := wd7 (wd_xo (wd_qb1 hb) (wd_mod _))
theorem wd_qa2 : Wd (qa2 a b c d) := wd_mod _
theorem wd_qa1 : Wd (qa1 a b) := wd_mod _
theorem wd_qc1 : Wd (qc1 a b c d) := wd_mod _
theorem wd_qc2 : Wd (qc2 a b c d) := wd_mod _
include hb in
theorem un_b1 : xo (turnr (qb2 a b c d) 7) (qc2 a b c d) = qb1 a b c d := by
  unfold qb2; rw [back7 (wd_xo (wd_qb1 hb) wd_qc2), xo_back (wd_qb1 hb) wd_qc2]
theorem un_c1 : (qc2 a b c d - qd2 a b c d) % 4294967296 = qc1 a b c d := by
  unfold qc2 qc1; omega
include hd in
theorem un_d1 : xo (turnr (qd2 a b c d) 8) (qa2 a b c d) = qd1 a b d := by
  unfold qd2; rw [back8 (wd_xo (wd_qd1 hd) wd_qa2), xo_back (wd_qd1 hd) wd_qa2]
theorem un_a1 : (qa2 a b c d - qb1 a b c d) % 4294967296 = qa1 a b := by
  unfold qa2 qa1; omega
include hb in
theorem un_b : xo (turnr (qb1 a b c d) 12) (qc1 a b c d) = b := by
  unfold qb1; rw [back12 (wd_xo hb wd_qc1), xo_back hb wd_qc1]
include hc in
theorem un_c : (qc1 a b c d - qd1 a b d) % 4294967296 = c := by
  have h1 := hc.1; have h2 := hc.2
  unfold qc1; omega
include hd in
theorem un_d : xo (turnr (qd1 a b d) 16) (qa1 a b) = d := by
  unfold qd1; rw [back16 (wd_xo hd wd_qa1), xo_back hd wd_qa1]
include ha in
theorem un_a : (qa1 a b - b) % 4294967296 = a := by
  have h1 := ha.1; have h2 := ha.2
  unfold qa1; omega
end
attribute [irreducible] rotl turnr
/-- the quarter round of four words, as a list. -/
def quarterL (l : List Int) : List Int :=
  let a := l.getD 0 0; let b := l.getD 1 0; let c := l.getD 2 0; let d := l.getD 3 0
  [qa2 a b c d, qb2 a b c d, qc2 a b c d, qd2 a b c d]
/-- the indices of a double round's quarter rounds: as the row's list has them. -/
def QN : List Nat := [0, 4, 8, 12, 1, 5, 9, 13, 2, 6, 10, 14, 3, 7, 11, 15, 0, 5, 10, 15, 1, 6, 11, 12, 2, 7, 8, 13, 3, 4, 9, 14]
def qn (k j : Nat) : Nat := QN.getD (4 * k + j) 0
theorem qn_lt (k j : Nat) : qn k j < 16 := by
  have h : ∀ x ∈ QN, x < 16 := by decide
  unfold qn
  by_cases e : 4 * k + j < QN.length
  · rw [List.getD_eq_getElem?_getD, List.getElem?_eq_getElem e]; exact h _ (List.getElem_mem e)
  · rw [List.getD_eq_getElem?_getD, List.getElem?_eq_none (by omega)]; decide
/-- a quarter round of four of a state's words. -/
def qstep (s : List Int) (a b c d : Nat) : List Int :=
  let t := quarterL [s.getD a 0, s.getD b 0, s.getD c 0, s.getD d 0]
  (((s.set a (t.getD 0 0)).set b (t.getD 1 0)).set c (t.getD 2 0)).set d (t.getD 3 0)
theorem qstep_length (s : List Int) (a b c d : Nat) : (qstep s a b c d).length = s.length := by simp [qstep]
/-- the first k quarter rounds of a double round. -/
def dr (s : List Int) : Nat → List Int
  | 0 => s
  | k + 1 => qstep (dr s k) (qn k 0) (qn k 1) (qn k 2) (qn k 3)
theorem dr_length (s : List Int) (k : Nat) : (dr s k).length = s.length := by
  induction k with
  | zero => rfl
  | succ k ih => rw [dr, qstep_length, ih]
/-- n double rounds. -/
def drs (s : List Int) : Nat → List Int
  | 0 => s
  | n + 1 => dr (drs s n) 8
theorem drs_length (s : List Int) (k : Nat) : (drs s k).length = s.length := by
  induction k with
  | zero => rfl
  | succ k ih => rw [drs, dr_length, ih]
/-- four bytes as a word, the lowest first. -/
def word4 (a b c d : Int) : Int := bits .or .u32 (bits .or .u32 (bits .or .u32 a (b * 256)) (c * 65536)) (d * 16777216)
def wordAt (l : List Int) (k : Nat) : Int := word4 (l.getD (4 * k) 0) (l.getD (4 * k + 1) 0) (l.getD (4 * k + 2) 0) (l.getD (4 * k + 3) 0)
/-- the state, the first k words of the key being in; then the first k of the nonce. -/
def stK (K : List Int) (c : Int) : Nat → List Int
  | 0 => [1634760805, 857760878, 2036477234, 1797285236, 0, 0, 0, 0, 0, 0, 0, 0, c, 0, 0, 0]
  | k + 1 => (stK K c k).set (4 + k) (wordAt K k)
def stN (K : List Int) (c : Int) (N : List Int) : Nat → List Int
  | 0 => stK K c 8
  | k + 1 => (stN K c N k).set (13 + k) (wordAt N k)
/-- the state of a key, a counter and a nonce. -/
def stL (K : List Int) (c : Int) (N : List Int) : List Int := stN K c N 3
theorem stK_length (K : List Int) (c : Int) (k : Nat) : (stK K c k).length = 16 := by
  induction k with
  | zero => rfl
  | succ k ih => simp [stK, ih]
theorem stN_length (K : List Int) (c : Int) (N : List Int) (k : Nat) : (stN K c N k).length = 16 := by
  induction k with
  | zero => exact stK_length _ _ _
  | succ k ih => simp [stN, ih]
theorem stL_length (K : List Int) (c : Int) (N : List Int) : (stL K c N).length = 16 := stN_length _ _ _ _
/-- byte j of a block: of the state m that comes out and the one that it began with. -/
def outF (m s : List Int) (j : Nat) : Int := (m.getD (j / 4) 0 + s.getD (j / 4) 0) % 4294967296 / 256 ^ (j % 4) % 256
def outL (m s : List Int) : List Int := (List.range 64).map (outF m s)
theorem outL_length (m s : List Int) : (outL m s).length = 64 := by simp [outL]
theorem outL_getD (m s : List Int) (j : Nat) (h : j < 64) : outF m s j = (outL m s).getD j 0 := by simp [outL, h]
theorem outF_in (m s : List Int) (j : Nat) : 0 ≤ outF m s j ∧ outF m s j < 256 := by unfold outF; omega
theorem outL_in (m s : List Int) : InB (outL m s) := by
  intro j
  by_cases h : j < 64
  · rw [← outL_getD m s j h]; exact outF_in m s j
  · rw [getD_out _ _ (by rw [outL_length]; omega)]; omega
theorem outF_at (m s : List Int) (k : Nat) (x : Int) (hx : x = (m.getD k 0 + s.getD k 0) % 4294967296) : outF m s (4 * k) = x % 256 ∧ outF m s (4 * k + 1) = x / 256 % 256 ∧ outF m s (4 * k + 2) = x / 65536 % 256 ∧ outF m s (4 * k + 3) = x / 16777216 % 256 := by
  unfold outF
  rw [show 4 * k / 4 = k by omega, show 4 * k % 4 = 0 by omega, show (4 * k + 1) / 4 = k by omega, show (4 * k + 1) % 4 = 1 by omega, show (4 * k + 2) / 4 = k by omega, show (4 * k + 2) % 4 = 2 by omega, show (4 * k + 3) / 4 = k by omega, show (4 * k + 3) % 4 = 3 by omega, ← hx]
  exact ⟨by rw [show (256 : Int) ^ 0 = 1 from rfl, Int.ediv_one], rfl, rfl, rfl⟩
/-- the block of a key, a counter and a nonce. -/
def blockL (K : List Int) (c : Int) (N : List Int) : List Int := outL (drs (stL K c N) 10) (stL K c N)
theorem blockL_length (K : List Int) (c : Int) (N : List Int) : (blockL K c N).length = 64 := outL_length _ _
theorem blockL_in (K : List Int) (c : Int) (N : List Int) : InB (blockL K c N) := outL_in _ _
attribute [irreducible] outF
end Go.Proofs.YtdkfofnkacmliaaDoor.Cha
