/- DERIVED. Texts of ours, merged: XChaSpec XChaQuarter XChaState XArrEq XRegionFix. -/
import Derived.Test.YtkjhoanlkkcfkaaGreatDoorMseg4
import Derived.Test.YtkjhoanlkkcfkaaGreatDoorProg
import Derived.Outline
import Derived.Deep.QuietTactic
import Derived.BigQuiet
import Derived.Deep.WholeRow
import Derived.Deep.DeepMust
import Derived.Laws.Tables
import Derived.StillTailTactics
import Derived.Laws.CopyOwn
import Derived.Test.YtkjhoanlkkcfkaaGreatDoorMseg1
import Derived.ProofKit
import Derived.ChangeKeysEq
import Derived.Test.YtkjhoanlkkcfkaaGreatDoorMseg3
/- DERIVED. PLAIN MATHEMATICS: the parts of ChaCha20 on integers, in the words in which the walks leave them. No program. -/
namespace Go.Proofs.YtkjhoanlkkcfkaaGreatDoor.Cha
/-- x, turned left by n places. -/
def rotl (x : Int) (n : Nat) : Int := bits .or .u32 (x * 2 ^ n % 4294967296) (x / 2 ^ (32 - n))
/-- x, turned right by n places. -/
def turnr (x : Int) (n : Nat) : Int := bits .or .u32 (x / 2 ^ n) (x * 2 ^ (32 - n) % 4294967296)
def xo (a b : Int) : Int := bits .xor .u32 a b
/-- a word of 32 bits. -/
def Wd (x : Int) : Prop := 0 ≤ x ∧ x < 4294967296
/-- the parts of a quarter round. -/
def qa1 (a b : Int) : Int := (a + b) % 4294967296
def qd1 (a b d : Int) : Int := rotl (xo d (qa1 a b)) 16
def qc1 (a b c d : Int) : Int := (c + qd1 a b d) % 4294967296
def qb1 (a b c d : Int) : Int := rotl (xo b (qc1 a b c d)) 12
def qa2 (a b c d : Int) : Int := (a + b + qb1 a b c d) % 4294967296
def qd2 (a b c d : Int) : Int := rotl (xo (qd1 a b d) (qa2 a b c d)) 8
def qc2 (a b c d : Int) : Int := (c + qd1 a b d + qd2 a b c d) % 4294967296
def qb2 (a b c d : Int) : Int := rotl (xo (qb1 a b c d) (qc2 a b c d)) 7
theorem wd_xo {a b : Int} (ha : Wd a) (hb : Wd b) : Wd (xo a b) := by
  unfold xo
  rw [u32_xor a b ha.1 ha.2 hb.1 hb.2]
  have h1 := ha.1; have h2 := ha.2; have h3 := hb.1; have h4 := hb.2
  have : a.toNat ^^^ b.toNat < 2 ^ 32 := Nat.xor_lt_two_pow (by omega) (by omega)
  exact ⟨by omega, by omega⟩
theorem xo_back {a b : Int} (ha : Wd a) (hb : Wd b) : xo (xo a b) b = a := by
  have hx := wd_xo ha hb
  unfold xo at *
  rw [u32_xor a b ha.1 ha.2 hb.1 hb.2] at *
  rw [u32_xor _ b hx.1 hx.2 hb.1 hb.2]
  have h1 := ha.1
  rw [Int.toNat_natCast, Nat.xor_assoc, Nat.xor_self, Nat.xor_zero]
  omega
/-- what a turn to the left is, as a sum. -/
theorem rotl_sum {x : Int} (n : Nat) (hi lo : Nat) (e1 : (x * 2 ^ n % 4294967296).toNat = hi) (e2 : (x / 2 ^ (32 - n)).toNat = lo) (b1 : 0 ≤ x * 2 ^ n % 4294967296) (b2 : x * 2 ^ n % 4294967296 < 4294967296) (b3 : 0 ≤ x / 2 ^ (32 - n)) (b4 : x / 2 ^ (32 - n) < 4294967296) (h1 : hi % 2 ^ n = 0) (h2 : lo < 2 ^ n) : rotl x n = ((hi + lo : Nat) : Int) := by
  unfold rotl
  rw [u32_or _ _ b1 b2 b3 b4, e1, e2, nat_join n hi lo h1 h2]
theorem turnr_sum {y : Int} (n : Nat) (hi lo : Nat) (e1 : (y * 2 ^ (32 - n) % 4294967296).toNat = hi) (e2 : (y / 2 ^ n).toNat = lo) (b1 : 0 ≤ y * 2 ^ (32 - n) % 4294967296) (b2 : y * 2 ^ (32 - n) % 4294967296 < 4294967296) (b3 : 0 ≤ y / 2 ^ n) (b4 : y / 2 ^ n < 4294967296) (h1 : hi % 2 ^ (32 - n) = 0) (h2 : lo < 2 ^ (32 - n)) : turnr y n = ((hi + lo : Nat) : Int) := by
  unfold turnr
  rw [u32_or _ _ b3 b4 b1 b2, e1, e2, Nat.or_comm, nat_join (32 - n) hi lo h1 h2]
theorem rotl16 {x : Int} (hx : Wd x) : rotl x 16 = x * 65536 % 4294967296 + x / 65536 := by
  have h1 := hx.1; have h2 := hx.2
  rw [rotl_sum 16 _ _ rfl rfl (by omega) (by omega) (by omega) (by omega) (by omega) (by omega)]; omega
theorem rotl12 {x : Int} (hx : Wd x) : rotl x 12 = x * 4096 % 4294967296 + x / 1048576 := by
  have h1 := hx.1; have h2 := hx.2
  rw [rotl_sum 12 _ _ rfl rfl (by omega) (by omega) (by omega) (by omega) (by omega) (by omega)]; omega
theorem rotl8 {x : Int} (hx : Wd x) : rotl x 8 = x * 256 % 4294967296 + x / 16777216 := by
  have h1 := hx.1; have h2 := hx.2
  rw [rotl_sum 8 _ _ rfl rfl (by omega) (by omega) (by omega) (by omega) (by omega) (by omega)]; omega
theorem rotl7 {x : Int} (hx : Wd x) : rotl x 7 = x * 128 % 4294967296 + x / 33554432 := by
  have h1 := hx.1; have h2 := hx.2
  rw [rotl_sum 7 _ _ rfl rfl (by omega) (by omega) (by omega) (by omega) (by omega) (by omega)]; omega
theorem wd16 {x : Int} (hx : Wd x) : Wd (rotl x 16) := by rw [rotl16 hx]; have h1 := hx.1; have h2 := hx.2; exact ⟨by omega, by omega⟩
theorem wd12 {x : Int} (hx : Wd x) : Wd (rotl x 12) := by rw [rotl12 hx]; have h1 := hx.1; have h2 := hx.2; exact ⟨by omega, by omega⟩
theorem wd8 {x : Int} (hx : Wd x) : Wd (rotl x 8) := by rw [rotl8 hx]; have h1 := hx.1; have h2 := hx.2; exact ⟨by omega, by omega⟩
theorem wd7 {x : Int} (hx : Wd x) : Wd (rotl x 7) := by rw [rotl7 hx]; have h1 := hx.1; have h2 := hx.2; exact ⟨by omega, by omega⟩
theorem back16 {x : Int} (hx : Wd x) : turnr (rotl x 16) 16 = x := by
  have hy := wd16 hx; have he := rotl16 hx
  generalize rotl x 16 = y at hy he
  have h1 := hx.1; have h2 := hx.2; have h3 := hy.1; have h4 := hy.2
  obtain ⟨p, hp⟩ : ∃ p, p = x % 65536 := ⟨_, rfl⟩
  obtain ⟨q, hq⟩ : ∃ q, q = x / 65536 := ⟨_, rfl⟩
  have e0 : x * 65536 % 4294967296 = p * 65536 := by omega
  have hx2 : x = 65536 * q + p := by omega
  have hpb : 0 ≤ p ∧ p < 65536 := by omega
  have hqb : 0 ≤ q ∧ q < 65536 := by omega
  have hy2 : y = 65536 * p + q := by omega
  clear he e0 h1 h2 hp hq
  have e1 : y / 65536 = p := by omega
  have e2 : y * 65536 % 4294967296 = 65536 * q := by omega
  rw [turnr_sum 16 (65536 * q).toNat p.toNat (by rw [← e2]; rfl) (by rw [← e1]; rfl) (by omega) (by omega) (by omega) (by omega) (by omega) (by omega)]
  omega
theorem back12 {x : Int} (hx : Wd x) : turnr (rotl x 12) 12 = x := by
  have hy := wd12 hx; have he := rotl12 hx
  generalize rotl x 12 = y at hy he
  have h1 := hx.1; have h2 := hx.2; have h3 := hy.1; have h4 := hy.2
  obtain ⟨p, hp⟩ : ∃ p, p = x % 1048576 := ⟨_, rfl⟩
  obtain ⟨q, hq⟩ : ∃ q, q = x / 1048576 := ⟨_, rfl⟩
  have e0 : x * 4096 % 4294967296 = p * 4096 := by omega
  have hx2 : x = 1048576 * q + p := by omega
  have hpb : 0 ≤ p ∧ p < 1048576 := by omega
  have hqb : 0 ≤ q ∧ q < 4096 := by omega
  have hy2 : y = 4096 * p + q := by omega
  clear he e0 h1 h2 hp hq
  have e1 : y / 4096 = p := by omega
  have e2 : y * 1048576 % 4294967296 = 1048576 * q := by omega
  rw [turnr_sum 12 (1048576 * q).toNat p.toNat (by rw [← e2]; rfl) (by rw [← e1]; rfl) (by omega) (by omega) (by omega) (by omega) (by omega) (by omega)]
  omega
theorem back8 {x : Int} (hx : Wd x) : turnr (rotl x 8) 8 = x := by
  have hy := wd8 hx; have he := rotl8 hx
  generalize rotl x 8 = y at hy he
  have h1 := hx.1; have h2 := hx.2; have h3 := hy.1; have h4 := hy.2
  obtain ⟨p, hp⟩ : ∃ p, p = x % 16777216 := ⟨_, rfl⟩
  obtain ⟨q, hq⟩ : ∃ q, q = x / 16777216 := ⟨_, rfl⟩
  have e0 : x * 256 % 4294967296 = p * 256 := by omega
  have hx2 : x = 16777216 * q + p := by omega
  have hpb : 0 ≤ p ∧ p < 16777216 := by omega
  have hqb : 0 ≤ q ∧ q < 256 := by omega
  have hy2 : y = 256 * p + q := by omega
  clear he e0 h1 h2 hp hq
  have e1 : y / 256 = p := by omega
  have e2 : y * 16777216 % 4294967296 = 16777216 * q := by omega
  rw [turnr_sum 8 (16777216 * q).toNat p.toNat (by rw [← e2]; rfl) (by rw [← e1]; rfl) (by omega) (by omega) (by omega) (by omega) (by omega) (by omega)]
  omega
theorem back7 {x : Int} (hx : Wd x) : turnr (rotl x 7) 7 = x := by
  have hy := wd7 hx; have he := rotl7 hx
  generalize rotl x 7 = y at hy he
  have h1 := hx.1; have h2 := hx.2; have h3 := hy.1; have h4 := hy.2
  obtain ⟨p, hp⟩ : ∃ p, p = x % 33554432 := ⟨_, rfl⟩
  obtain ⟨q, hq⟩ : ∃ q, q = x / 33554432 := ⟨_, rfl⟩
  have e0 : x * 128 % 4294967296 = p * 128 := by omega
  have hx2 : x = 33554432 * q + p := by omega
  have hpb : 0 ≤ p ∧ p < 33554432 := by omega
  have hqb : 0 ≤ q ∧ q < 128 := by omega
  have hy2 : y = 128 * p + q := by omega
  clear he e0 h1 h2 hp hq
  have e1 : y / 128 = p := by omega
  have e2 : y * 33554432 % 4294967296 = 33554432 * q := by omega
  rw [turnr_sum 7 (33554432 * q).toNat p.toNat (by rw [← e2]; rfl) (by rw [← e1]; rfl) (by omega) (by omega) (by omega) (by omega) (by omega) (by omega)]
  omega
theorem wd_mod (x : Int) : Wd (x % 4294967296) := ⟨by omega, by omega⟩
section
variable {a b c d : Int} (ha : Wd a) (hb : Wd b) (hc : Wd c) (hd : Wd d)
include hd in
theorem wd_qd1 : Wd (qd1 a b d) := wd16 (wd_xo hd (wd_mod _))
include hb in
theorem wd_qb1 : Wd (qb1 a b c d) := wd12 (wd_xo hb (wd_mod _))
include hd in
theorem wd_qd2 : Wd (qd2 a b c d) := wd8 (wd_xo (wd_qd1 hd) (wd_mod _))
include hb in
theorem wd_qb2 : Wd (qb2 a b c d) := wd7 (wd_xo (wd_qb1 hb) (wd_mod _))
theorem wd_qa2 : Wd (qa2 a b c d) := wd_mod _
theorem wd_qa1 : Wd (qa1 a b) := wd_mod _
theorem wd_qc1 : Wd (qc1 a b c d) := wd_mod _
theorem wd_qc2 : Wd (qc2 a b c d) := wd_mod _
include hb in
theorem un_b1 : xo (turnr (qb2 a b c d) 7) (qc2 a b c d) = qb1 a b c d := by
  unfold qb2; rw [back7 (wd_xo (wd_qb1 hb) wd_qc2), xo_back (wd_qb1 hb) wd_qc2]
theorem un_c1 : (qc2 a b c d - qd2 a b c d) % 4294967296 = qc1 a b c d := by
  unfold qc2 qc1; omega
include hd in
theorem un_d1 : xo (turnr (qd2 a b c d) 8) (qa2 a b c d) = qd1 a b d := by
  unfold qd2; rw [back8 (wd_xo (wd_qd1 hd) wd_qa2), xo_back (wd_qd1 hd) wd_qa2]
theorem un_a1 : (qa2 a b c d - qb1 a b c d) % 4294967296 = qa1 a b := by
  unfold qa2 qa1; omega
include hb in
theorem un_b : xo (turnr (qb1 a b c d) 12) (qc1 a b c d) = b := by
  unfold qb1; rw [back12 (wd_xo hb wd_qc1), xo_back hb wd_qc1]
include hc in
theorem un_c : (qc1 a b c d - qd1 a b d) % 4294967296 = c := by
  have h1 := hc.1; have h2 := hc.2
  unfold qc1; omega
include hd in
theorem un_d : xo (turnr (qd1 a b d) 16) (qa1 a b) = d := by
  unfold qd1; rw [back16 (wd_xo hd wd_qa1), xo_back hd wd_qa1]
include ha in
theorem un_a : (qa1 a b - b) % 4294967296 = a := by
  have h1 := ha.1; have h2 := ha.2
  unfold qa1; omega
end
attribute [irreducible] rotl turnr
/-- the quarter round of four words, as a list. -/
def quarterL (l : List Int) : List Int :=
  let a := l.getD 0 0; let b := l.getD 1 0; let c := l.getD 2 0; let d := l.getD 3 0
  [qa2 a b c d, qb2 a b c d, qc2 a b c d, qd2 a b c d]
/-- the indices of a double round's quarter rounds: as the row's list has them. -/
def QN : List Nat := [0, 4, 8, 12, 1, 5, 9, 13, 2, 6, 10, 14, 3, 7, 11, 15, 0, 5, 10, 15, 1, 6, 11, 12, 2, 7, 8, 13, 3, 4, 9, 14]
def qn (k j : Nat) : Nat := QN.getD (4 * k + j) 0
theorem qn_lt (k j : Nat) : qn k j < 16 := by
  have h : ∀ x ∈ QN, x < 16 := by decide
  unfold qn
  by_cases e : 4 * k + j < QN.length
  · rw [List.getD_eq_getElem?_getD, List.getElem?_eq_getElem e]; exact h _ (List.getElem_mem e)
  · rw [List.getD_eq_getElem?_getD, List.getElem?_eq_none (by omega)]; decide
/-- a quarter round of four of a state's words. -/
def qstep (s : List Int) (a b c d : Nat) : List Int :=
  let t := quarterL [s.getD a 0, s.getD b 0, s.getD c 0, s.getD d 0]
  (((s.set a (t.getD 0 0)).set b (t.getD 1 0)).set c (t.getD 2 0)).set d (t.getD 3 0)
theorem qstep_length (s : List Int) (a b c d : Nat) : (qstep s a b c d).length = s.length := by simp [qstep]
/-- the first k quarter rounds of a double round. -/
def dr (s : List Int) : Nat → List Int
  | 0 => s
  | k + 1 => qstep (dr s k) (qn k 0) (qn k 1) (qn k 2) (qn k 3)
theorem dr_length (s : List Int) (k : Nat) : (dr s k).length = s.length := by
  induction k with
  | zero => rfl
  | succ k ih => rw [dr, qstep_length, ih]
/-- n double rounds. -/
def drs (s : List Int) : Nat → List Int
  | 0 => s
  | n + 1 => dr (drs s n) 8
theorem drs_length (s : List Int) (k : Nat) : (drs s k).length = s.length := by
  induction k with
  | zero => rfl
  | succ k ih => rw [drs, dr_length, ih]
/-- four bytes as a word, the lowest first. -/
def word4 (a b c d : Int) : Int := bits .or .u32 (bits .or .u32 (bits .or .u32 a (b * 256)) (c * 65536)) (d * 16777216)
def wordAt (l : List Int) (k : Nat) : Int := word4 (l.getD (4 * k) 0) (l.getD (4 * k + 1) 0) (l.getD (4 * k + 2) 0) (l.getD (4 * k + 3) 0)
/-- the state, the first k words of the key being in; then the first k of the nonce. -/
def stK (K : List Int) (c : Int) : Nat → List Int
  | 0 => [1634760805, 857760878, 2036477234, 1797285236, 0, 0, 0, 0, 0, 0, 0, 0, c, 0, 0, 0]
  | k + 1 => (stK K c k).set (4 + k) (wordAt K k)
def stN (K : List Int) (c : Int) (N : List Int) : Nat → List Int
  | 0 => stK K c 8
  | k + 1 => (stN K c N k).set (13 + k) (wordAt N k)
/-- the state of a key, a counter and a nonce. -/
def stL (K : List Int) (c : Int) (N : List Int) : List Int := stN K c N 3
theorem stK_length (K : List Int) (c : Int) (k : Nat) : (stK K c k).length = 16 := by
  induction k with
  | zero => rfl
  | succ k ih => simp [stK, ih]
theorem stN_length (K : List Int) (c : Int) (N : List Int) (k : Nat) : (stN K c N k).length = 16 := by
  induction k with
  | zero => exact stK_length _ _ _
  | succ k ih => simp [stN, ih]
theorem stL_length (K : List Int) (c : Int) (N : List Int) : (stL K c N).length = 16 := stN_length _ _ _ _
/-- byte j of a block: of the state m that comes out and the one that it began with. -/
def outF (m s : List Int) (j : Nat) : Int := (m.getD (j / 4) 0 + s.getD (j / 4) 0) % 4294967296 / 256 ^ (j % 4) % 256
def outL (m s : List Int) : List Int := (List.range 64).map (outF m s)
theorem outL_length (m s : List Int) : (outL m s).length = 64 := by simp [outL]
theorem outL_getD (m s : List Int) (j : Nat) (h : j < 64) : outF m s j = (outL m s).getD j 0 := by simp [outL, h]
theorem outF_in (m s : List Int) (j : Nat) : 0 ≤ outF m s j ∧ outF m s j < 256 := by unfold outF; omega
theorem outL_in (m s : List Int) : InB (outL m s) := by
  intro j
  by_cases h : j < 64
  · rw [← outL_getD m s j h]; exact outF_in m s j
  · rw [getD_out _ _ (by rw [outL_length]; omega)]; omega
theorem outF_at (m s : List Int) (k : Nat) (x : Int) (hx : x = (m.getD k 0 + s.getD k 0) % 4294967296) : outF m s (4 * k) = x % 256 ∧ outF m s (4 * k + 1) = x / 256 % 256 ∧ outF m s (4 * k + 2) = x / 65536 % 256 ∧ outF m s (4 * k + 3) = x / 16777216 % 256 := by
  unfold outF
  rw [show 4 * k / 4 = k by omega, show 4 * k % 4 = 0 by omega, show (4 * k + 1) / 4 = k by omega, show (4 * k + 1) % 4 = 1 by omega, show (4 * k + 2) / 4 = k by omega, show (4 * k + 2) % 4 = 2 by omega, show (4 * k + 3) / 4 = k by omega, show (4 * k + 3) % 4 = 3 by omega, ← hx]
  exact ⟨by rw [show (256 : Int) ^ 0 = 1 from rfl, Int.ediv_one], rfl, rfl, rfl⟩
/-- the block of a key, a counter and a nonce. -/
def blockL (K : List Int) (c : Int) (N : List Int) : List Int := outL (drs (stL K c N) 10) (stL K c N)
theorem blockL_length (K : List Int) (c : Int) (N : List Int) : (blockL K c N).length = 64 := outL_length _ _
theorem blockL_in (K : List Int) (c : Int) (N : List Int) : InB (blockL K c N) := outL_in _ _
attribute [irreducible] outF
end Go.Proofs.YtkjhoanlkkcfkaaGreatDoor.Cha
/- DERIVED. Contracts of math/bits.RotateLeft32 (a count from 1 to 31) and of chacha.Quarter. -/
namespace Go.Proofs.YtkjhoanlkkcfkaaGreatDoor.Cha
open Go.RowKit
theorem and31p_all : ∀ n : Fin 32, bits .and .u64 (n.val : Int) 31 = ((n.val : Nat) : Int) := by decide +kernel
theorem and31p (n : Nat) (h2 : n ≤ 31) : bits .and .u64 (n : Int) 31 = (n : Int) := and31p_all ⟨n, by omega⟩
theorem ret_u32 {a b : Int} (h : a = b) : Ending.returned (.int .u32 a) = .returned (.int .u32 b) := by rw [h]
theorem rotl_eq (x : Int) (n : Nat) : bits .or .u32 (x * 2 ^ n % 4294967296) (x / 2 ^ (32 - n)) = rotl x n := by unfold rotl; rfl
set_option maxHeartbeats 400000 in
theorem rotl_any (x : Int) (n : Nat) (h1 : 1 ≤ n) (h2 : n ≤ 31) (w : World) :
    Calls Tryz.prog 169 #[.int .u32 x, .int .i64 (n : Int)] w fun e w' => e = .returned (.int .u32 (rotl x n)) ∧ w = w' := by
  have hs := and31p n h2
  go_enter Tryz.func169, Tryz.ntmps169
  go_wp2
  go_ret
  exact ⟨ret_u32 (rotl_eq x n), rfl⟩
/-- the same, at a count that is an integer. -/
theorem rotl_same (x n : Int) (h1 : 1 ≤ n) (h2 : n ≤ 31) (w : World) :
    Calls Tryz.prog 169 #[.int .u32 x, .int .i64 n] w fun e w' => e = .returned (.int .u32 (rotl x n.toNat)) ∧ w = w' := by
  obtain ⟨m, rfl⟩ := Int.eq_ofNat_of_zero_le (show 0 ≤ n by omega)
  exact rotl_any x m (by omega) (by omega) w
theorem infoQ : (Tryz.prog.info? 207).map (·.size) = some 4 := by kernel_rfl
theorem four_row {w : World} {g T : Nat} {x0 x1 x2 x3 : Value} (y0 y1 y2 y3 : Value) (h : w.heap[g]? = some (.cells #[x0, x1, x2, x3] T (0, 0))) :
    ((((w.setCell ⟨g, 0, none⟩ y0).setCell ⟨g, 1, none⟩ y1).setCell ⟨g, 2, none⟩ y2).setCell ⟨g, 3, none⟩ y3).heap[g]? = some (.cells #[y0, y1, y2, y3] T (0, 0)) :=
  heap_setCell_same _ _ _ _ _ _ (heap_setCell_same _ _ _ _ _ _ (heap_setCell_same _ _ _ _ _ _ (heap_setCell_same _ _ _ _ _ _ h)))
theorem Below.four {B g : Nat} {w w' : World} (h : Below B w w') (hg : B ≤ g) (y0 y1 y2 y3 : Value) :
    Below B w ((((w'.setCell ⟨g, 0, none⟩ y0).setCell ⟨g, 1, none⟩ y1).setCell ⟨g, 2, none⟩ y2).setCell ⟨g, 3, none⟩ y3) :=
  (((h.setCell hg _).setCell hg _).setCell hg _).setCell hg _
set_option maxRecDepth 100000 in
set_option maxHeartbeats 1000000 in
theorem quarter_lit (a b c d : Int) (w : World) :
    Calls Tryz.prog 160 #[.agg #[.int .u32 a, .int .u32 b, .int .u32 c, .int .u32 d]] w
      fun e' w' => e' = .returned (.agg (u32s [qa2 a b c d, qb2 a b c d, qc2 a b c d, qd2 a b c d])) ∧ Below w.heap.size w w' := by
  go_enter Tryz.func160, Tryz.ntmps160
  go_wp2
  go_quiet (fail)
  go_wp2_with (go_at_call 169; refine (rotl_same _ _ (by decide) (by decide) _).mono ?_; rintro e0 w0 ⟨rfl, rfl⟩)
  have low : Below w.heap.size w (((w.alloc (.cells #[.int .u32 a, .int .u32 b, .int .u32 c, .int .u32 d] 207)).alloc (.cells #[.int .u32 0, .int .u32 0, .int .u32 0, .int .u32 0] 207)).drewN nq) :=
    Below.drewN (((Below.refl _ _).alloc (Nat.le_refl _) _).alloc (by simp) _) nq
  have hrow : (((w.alloc (.cells #[.int .u32 a, .int .u32 b, .int .u32 c, .int .u32 d] 207)).alloc (.cells #[.int .u32 0, .int .u32 0, .int .u32 0, .int .u32 0] 207)).drewN nq).heap[w.heap.size + 1]? = some (.cells #[.int .u32 0, .int .u32 0, .int .u32 0, .int .u32 0] 207 (0, 0)) := (two_new _ _ _).2
  exact bodyPost_ret (v := .agg (u32s [qa2 a b c d, qb2 a b c d, qc2 a b c d, qd2 a b c d])) (results_cell_row rfl _ _ (w.heap.size + 1) 207 _ (0, 0) _ rfl (four_row _ _ _ _ hrow) Tryz.underlying207 rfl infoQ) rfl ⟨rfl, Below.four low (by omega) _ _ _ _⟩
theorem four_of {l : List Int} (h : l.length = 4) : l = [l.getD 0 0, l.getD 1 0, l.getD 2 0, l.getD 3 0] := by
  match l, h with
  | [a, b, c, d], _ => rfl
theorem quarter_any (l : List Int) (hl : l.length = 4) (w : World) :
    Calls Tryz.prog 160 #[.agg (u32s l)] w fun e' w' => e' = .returned (.agg (u32s (quarterL l))) ∧ Below w.heap.size w w' := by
  have h := quarter_lit (l.getD 0 0) (l.getD 1 0) (l.getD 2 0) (l.getD 3 0) w
  have e : u32s l = #[.int .u32 (l.getD 0 0), .int .u32 (l.getD 1 0), .int .u32 (l.getD 2 0), .int .u32 (l.getD 3 0)] := by
    match l, hl with
    | [a, b, c, d], _ => rfl
  rw [e]
  exact h
end Go.Proofs.YtkjhoanlkkcfkaaGreatDoor.Cha
/- DERIVED. The contracts of chacha.word and chacha.stateOf. -/
namespace Go.Proofs.YtkjhoanlkkcfkaaGreatDoor.Cha
open Go.RowKit
set_option maxHeartbeats 400000 in
theorem word_any (g off len cap : Nat) (a b c d : Int) (hl : 4 ≤ len) (w : World)
    (h0 : w.cell? ⟨g, off, none⟩ = some (.int .u8 a)) (h1 : w.cell? ⟨g, off + 1, none⟩ = some (.int .u8 b)) (h2 : w.cell? ⟨g, off + 2, none⟩ = some (.int .u8 c)) (h3 : w.cell? ⟨g, off + 3, none⟩ = some (.int .u8 d))
    (ha : 0 ≤ a ∧ a < 256) (hb : 0 ≤ b ∧ b < 256) (hc : 0 ≤ c ∧ c < 256) (hd : 0 ≤ d ∧ d < 256) :
    Calls Tryz.prog 159 #[.slice (some ⟨g, off, none⟩) len cap] w fun e w' => e = .returned (.int .u32 (word4 a b c d)) ∧ ∃ n, w' = w.drewN n := by
  obtain ⟨ha0, ha1⟩ := ha
  obtain ⟨hb0, hb1⟩ := hb
  obtain ⟨hc0, hc1⟩ := hc
  obtain ⟨hd0, hd1⟩ := hd
  have l0 : (0 : Int) < len := by omega
  have l1 : (1 : Int) < len := by omega
  have l2 : (2 : Int) < len := by omega
  have l3 : (3 : Int) < len := by omega
  go_enter Tryz.func159, Tryz.ntmps159
  go_wp2
  go_quiet (fail)
  go_wp2
  go_ret
  exact ⟨rfl, nq, rfl⟩
/-- key[4*k:] of an array of n bytes. -/
theorem slice_arr {T : Nat} (n : Nat) (hu : Tryz.prog.underlying T = some (.array n 5)) (wr : World) (g k : Nat) (h : 4 * k < n) : (Instr.sliceAt T (.pointer (some ⟨g, 0, none⟩)) (some (.int .i64 (4 * (k : Int)))) none none).run Tryz.prog wr = .ok (.slice (some ⟨g, 4 * k, none⟩) (n - 4 * k) (n - 4 * k)) wr := by
  have h1 : (4 * (k : Int)).toNat = 4 * k := by omega
  have h2 : ¬ n = 4 * k := by omega
  have h3 : 0 ≤ 4 * (k : Int) := by omega
  have h4 : 4 * (k : Int) ≤ n := by omega
  have hs : ∀ w', (sizeOf 5).run Tryz.prog w' = .ok 1 w' := fun _ => by kernel_rfl
  simp [Instr.sliceAt, Instr.sureAddr, run_underlying hu, Instr.sliceBounds, Instr.sliceBound, asIntOf, h1, h2, h3, h4, hs, Addr.add]
  intro h
  exact h.symm
/-- what the loops of stateOf keep. -/
structure SInv (K Nn l : List Int) (B : Nat) (w wr : World) : Prop where
  key : wr.heap[B]? = some (.cells (u8s K) 24 (0, 0))
  nonce : wr.heap[B + 1]? = some (.cells (u8s Nn) 163 (0, 0))
  res : ∃ Z : List Int, Z.length = 16 ∧ wr.heap[B + 1 + 1]? = some (.cells (u32s Z) 190 (0, 0))
  row : wr.heap[B + 1 + 1 + 1]? = some (.cells (u32s l) 190 (0, 0))
  low : Below B w wr
theorem SInv.drewN {K Nn l : List Int} {B : Nat} {w wr : World} (h : SInv K Nn l B w wr) (n : Nat) : SInv K Nn l B w (wr.drewN n) := ⟨h.key, h.nonce, h.res, h.row, Below.drewN h.low n⟩
theorem SInv.set {K Nn l : List Int} {B : Nat} {w wr : World} (h : SInv K Nn l B w wr) (k : Nat) (v : Int) : SInv K Nn (l.set k v) B w (wr.setCell ⟨B + 1 + 1 + 1, k, none⟩ (.int .u32 v)) := by
  obtain ⟨Z, hZ, hz⟩ := h.res
  refine ⟨?_, ?_, ⟨Z, hZ, ?_⟩, row32_set h.row k v, h.low.setCell (by simp; omega) _⟩
  · rw [heap_setCell_other _ _ _ _ (by simp; omega)]; exact h.key
  · rw [heap_setCell_other _ _ _ _ (by simp)]; exact h.nonce
  · rw [heap_setCell_other _ _ _ _ (by simp)]; exact hz
theorem infoS : (Tryz.prog.info? 190).map (·.size) = some 16 := by kernel_rfl
set_option maxRecDepth 100000 in
set_option maxHeartbeats 1000000 in
theorem stateOf_any (K Nn : List Int) (c : Int) (hK : K.length = 32) (hN : Nn.length = 12) (bK : InB K) (bN : InB Nn) (w : World) :
    Calls Tryz.prog 146 #[.agg (u8s K), .int .u32 c, .agg (u8s Nn)] w fun e' w' => e' = .returned (.agg (u32s (stL K c Nn))) ∧ Below w.heap.size w w' := by
  have HK := Lib.hid hK
  have HN := Lib.hid hN
  have BK := Lib.hid bK
  have BN := Lib.hid bN
  clear hK hN bK bN
  go_enter Tryz.func146, Tryz.ntmps146
  go_wp2
  go_loopw [12] (fun i wr => ∃ k : Nat, k ≤ 8 ∧ i = .int .i64 k ∧ SInv K Nn (stK K c k) w.heap.size w wr) (fun i _ => 8 - (intOf i).toNat)
  case atStart =>
    have h4 := four_new w
    exact ⟨0, Nat.zero_le _, rfl, (h4 _ _ _ _).1, (h4 _ _ _ _).2.1, ⟨[0, 0, 0, 0, 0, 0, 0, 0, 0, 0, 0, 0, 0, 0, 0, 0], rfl, (h4 _ _ _ _).2.2.1⟩, (h4 _ _ _ _).2.2.2, below4 _ _ _ _ _⟩
  case round =>
    obtain ⟨k, hk, rfl, hinv⟩ := hrel
    by_cases hlt : k < 8
    · have c0 := row8_cell hinv.key (4 * k) (by rw [HK.out]; omega)
      have c1 := row8_cell hinv.key (4 * k + 1) (by rw [HK.out]; omega)
      have c2 := row8_cell hinv.key (4 * k + 2) (by rw [HK.out]; omega)
      have c3 := row8_cell hinv.key (4 * k + 3) (by rw [HK.out]; omega)
      have Hc : Hid (Calls Tryz.prog 159 #[.slice (some ⟨w.heap.size, 4 * k, none⟩) (32 - 4 * k) (32 - 4 * k)] wr fun e w' => e = .returned (.int .u32 (wordAt K k)) ∧ ∃ n, w' = wr.drewN n) :=
        word_any _ _ _ _ _ _ _ _ (by omega) _ c0 c1 c2 c3 (BK.out _) (BK.out _) (BK.out _) (BK.out _)
      have hsl := slice_arr 32 Tryz.underlying24 wr w.heap.size k (by omega)
      have hv := row32_cell hinv.row (4 + k) (by rw [stK_length]; omega)
      have hfz := free_row hinv.row (4 + k)
      clear c0 c1 c2 c3
      go_wp2_with (go_at_call 159; refine Hc.out.mono ?_; rintro e w' ⟨rfl, n, rfl⟩)
      go_roundw
      case rel => exact ⟨k + 1, by omega, by go_num, ((hinv.drewN _).set _ _)⟩
      case measure => simp [intOf]; omega
    · have h8 : k = 8 := by omega
      rw [h8] at hinv
      have H8 := Lib.hid h8
      clear h8 hk
      obtain ⟨w1, hw1⟩ : ∃ w1, w1 = wr := ⟨_, rfl⟩
      subst hw1
      go_wp2
      go_loopw [23] (fun i wr => ∃ k : Nat, k ≤ 3 ∧ i = .int .i64 k ∧ SInv K Nn (stN K c Nn k) w.heap.size w wr) (fun i _ => 3 - (intOf i).toNat)
      case atStart => exact ⟨0, Nat.zero_le _, rfl, hinv⟩
      case round =>
        clear hinv
        obtain ⟨k, hk, rfl, hinv⟩ := hrel
        by_cases hlt : k < 3
        · have c0 := row8_cell hinv.nonce (4 * k) (by rw [HN.out]; omega)
          have c1 := row8_cell hinv.nonce (4 * k + 1) (by rw [HN.out]; omega)
          have c2 := row8_cell hinv.nonce (4 * k + 2) (by rw [HN.out]; omega)
          have c3 := row8_cell hinv.nonce (4 * k + 3) (by rw [HN.out]; omega)
          have Hc : Hid (Calls Tryz.prog 159 #[.slice (some ⟨w.heap.size + 1, 4 * k, none⟩) (12 - 4 * k) (12 - 4 * k)] wr fun e w' => e = .returned (.int .u32 (wordAt Nn k)) ∧ ∃ n, w' = wr.drewN n) :=
            word_any _ _ _ _ _ _ _ _ (by omega) _ c0 c1 c2 c3 (BN.out _) (BN.out _) (BN.out _) (BN.out _)
          have hsl := slice_arr 12 Tryz.underlying163 wr (w.heap.size + 1) k (by omega)
          have hv := row32_cell hinv.row (13 + k) (by rw [stN_length]; omega)
          have hfz := free_row hinv.row (13 + k)
          clear c0 c1 c2 c3
          go_wp2_with (go_at_call 159; refine Hc.out.mono ?_; rintro e w' ⟨rfl, n, rfl⟩)
          go_roundw
          case rel => exact ⟨k + 1, by omega, by go_num, ((hinv.drewN _).set _ _)⟩
          case measure => simp [intOf]; omega
        · have h8 : k = 3 := by omega
          rw [h8] at hinv
          have H3 := Lib.hid h8
          clear h8 hk
          obtain ⟨Z, hZ, hz⟩ := hinv.res
          have hr : wr.heap[w.heap.size + 1 + 1 + 1]? = some (.cells (u32s (stL K c Nn)) 190 (0, 0)) := hinv.row
          have low := hinv.low
          have hrow := setRow_heap wr _ _ (u32s (stL K c Nn)) _ _ hz
          have hlow : Below w.heap.size w (wr.setRow (w.heap.size + 1 + 1) (u32s (stL K c Nn))) := below_setRow low (by omega) _
          have hsz : (Tryz.prog.info? 190).map (·.size) = some (u32s (stL K c Nn)).size := by rw [u32s_size, stL_length]; exact infoS
          have hzz : (u32s Z).size = (u32s (stL K c Nn)).size := by rw [u32s_size, u32s_size, stL_length, hZ]
          have Hsz := Lib.hid hsz
          have Hzz := Lib.hid hzz
          have Hr := Lib.hid hr
          have Hz := Lib.hid hz
          have Hrow := Lib.hid hrow
          clear hsz hzz hr hz hrow hZ hinv
          go_wp2_with (first | (with_reducible refine wpList_load_row rfl 190 (.tmp 7) rfl (w.heap.size + 1 + 1 + 1) rfl 190 (u32s (stL K c Nn)) (0, 0) _ Hr.out Tryz.underlying190 rfl Hsz.out ?_) | (with_reducible refine wpList_store_row rfl 190 (.tmp 6) (.tmp 34) rfl (w.heap.size + 1 + 1) (u32s (stL K c Nn)) rfl rfl 190 (u32s Z) Hz.out Hsz.out Hzz.out (u32s_one _) ?_))
          exact bodyPost_ret (v := .agg (u32s (stL K c Nn))) (results_cell_row rfl _ _ (w.heap.size + 1 + 1) 190 _ (0, 0) _ rfl Hrow.out Tryz.underlying190 rfl Hsz.out) rfl ⟨rfl, hlow⟩
end Go.Proofs.YtkjhoanlkkcfkaaGreatDoor.Cha
/- DERIVED. Two arrays of numbers, compared. -/
namespace Go.Proofs.YtkjhoanlkkcfkaaGreatDoor.Arr
open Go.RowKit
/-- a row of numbers of the kind k. -/
def nums (k : IntKind) (l : List Int) : Array Value := (l.map (Value.int k)).toArray
theorem nums_get (k : IntKind) (l : List Int) (j : Nat) (h : j < l.length) : (nums k l)[j]? = some (.int k (l.getD j 0)) := by simp [nums, h]
section
variable {E : Nat} {k : IntKind} (hE : Tryz.prog.underlying E = some (.int k)) (hc : Tryz.prog.cellsOf E = 1) (hg : ∀ w' : World, (isAgg E).run Tryz.prog w' = .ok false w')
include hg in
theorem part_num (l : List Int) (i : Nat) (h : i < l.length) (w : World) : (part E (nums k l) i).run Tryz.prog w = .ok (.int k (l.getD i 0)) w := by
  simp [part, hg, nums_get k l i h]
include hE hc hg in
theorem eqItems_num (d n : Nat) (l m : List Int) (hl : l.length = n) (hm : m.length = n) : ∀ (is : List Nat) (w : World), (∀ i ∈ is, i < n) →
    (Op.eqItems (d + 1) E (Tryz.prog.cellsOf E) (nums k l) (nums k m) is).run Tryz.prog w = .ok (is.all fun i => l.getD i 0 == m.getD i 0) w
  | [], w, _ => by simp [Op.eqItems]
  | i :: is, w, h => by
    have hi := h i (List.mem_cons_self ..)
    have ih := eqItems_num d n l m hl hm is w (fun j hj => h j (List.mem_cons_of_mem _ hj))
    rw [hc] at ih ⊢
    simp only [Op.eqItems, Sem.run_bind, Nat.mul_one, part_num hg l i (by omega) w, part_num hg m i (by omega) w, Result.andThen_ok, run_equalIn_int w d E k k _ _ hE]
    by_cases e : (l.getD i 0 == m.getD i 0) = true
    · simp only [e, Bool.not_true, Bool.false_eq_true, if_false, List.all_cons, Bool.true_and]
      exact ih
    · have e' : (l.getD i 0 == m.getD i 0) = false := by simpa using e
      simp only [e', Bool.not_false, if_true, List.all_cons, Bool.false_and, Sem.run_pure]
theorem all_same (l m : List Int) (n : Nat) (hl : l.length = n) (hm : m.length = n) : ((List.range n).all fun i => l.getD i 0 == m.getD i 0) = decide (l = m) := by
  by_cases e : l = m
  · subst e; simp
  · rw [decide_eq_false e, Bool.eq_false_iff]
    intro h
    apply e
    apply List.ext_getElem (by omega)
    intro j h1 h2
    have := List.all_eq_true.1 h j (List.mem_range.2 (by omega))
    simpa [List.getD_eq_getElem?_getD, h1, h2] using this
include hE hc hg in
/-- ==, of two arrays of n numbers. -/
theorem eql_arr {T n : Nat} (hT : Tryz.prog.underlying T = some (.array n E)) (hi : (Tryz.prog.info? E).isSome = true) (l m : List Int) (hl : l.length = n) (hm : m.length = n) (w : World) :
    (binOp .eql T (.agg (nums k l)) (.agg (nums k m))).run Tryz.prog w = .ok (.bool (decide (l = m))) w := by
  obtain ⟨i, hq⟩ := Option.isSome_iff_exists.1 hi
  rw [run_eql_struct, run_equalIn_array w 9999 (nums k l) (nums k m) hT hq, eqItems_num hE hc hg 9998 n l m hl hm _ w (fun i hi => List.mem_range.1 hi), all_same l m n hl hm]
  rfl
end
end Go.Proofs.YtkjhoanlkkcfkaaGreatDoor.Arr
/- DERIVED. A region that draws its order and whose operations each yield one value, whenever they come up: what its slots hold, by what has come up. -/
namespace Go.Proofs.YtkjhoanlkkcfkaaGreatDoor
/-- a frame's slots, one of them written. -/
def upd (s : Nat → Value) (d : Nat) (v : Value) : Nat → Value := fun x => if x = d then v else s x
/-- what has come up has yielded its value; an operation with no value of its own: none. -/
def Holding (dsts : List Nat) (vl : List (Option Value)) (l : Array Bool) (s : Nat → Value) : Prop := ∀ j v, l.getD j false = true → vl.getD j none = some v → s (dsts.getD j 0) = v
/-- no two operations write one slot. -/
def apartB (dsts : List Nat) : Bool := (List.range dsts.length).all fun i => (List.range dsts.length).all fun j => i == j || dsts.getD i 0 != dsts.getD j 0
theorem apart_of {dsts : List Nat} (h : apartB dsts = true) {i j : Nat} (hi : i < dsts.length) (hj : j < dsts.length) (e : dsts.getD j 0 = dsts.getD i 0) : j = i := by
  have := List.all_eq_true.1 (List.all_eq_true.1 h j (List.mem_range.2 hj)) i (List.mem_range.2 hi)
  simp only [Bool.or_eq_true, beq_iff_eq, bne_iff_ne, ne_eq] at this
  exact this.resolve_right (fun hn => hn e)
theorem Holding.start {dsts : List Nat} {vl : List (Option Value)} {n : Nat} {s : Nat → Value} : Holding dsts vl (Array.replicate n false) s := fun j v h => by
  by_cases hj : j < n
  · simp [Array.getD_eq_getD_getElem?, hj] at h
  · simp [Array.getD_eq_getD_getElem?, hj] at h
theorem Holding.next {dsts : List Nat} {vl : List (Option Value)} {l : Array Bool} {s : Nat → Value} (h : Holding dsts vl l s) (hd : apartB dsts = true) (hs : l.size = dsts.length) (i : Nat) (hi : i < dsts.length) (v : Value) (hv : ∀ v', vl.getD i none = some v' → v = v') :
    Holding dsts vl (l.setIfInBounds i true) (upd s (dsts.getD i 0) v) := fun j v' hl hj => by
  by_cases e : j = i
  · subst e
    unfold upd
    rw [if_pos rfl]
    exact hv v' hj
  · have hl' := (getD_listed hl).resolve_left e
    have hjn : j < dsts.length := by
      by_cases hj' : j < dsts.length
      · exact hj'
      · rw [Array.getD_eq_getD_getElem?, Array.getElem?_eq_none (by omega)] at hl'
        cases hl'
    unfold upd
    rw [if_neg]
    · exact h j v' hl' hj
    · intro he
      exact e (apart_of hd hi hjn he)
theorem Holding.pass {dsts : List Nat} {vl : List (Option Value)} {l : Array Bool} {s : Nat → Value} (h : Holding dsts vl l s) (i : Nat) (hv : vl.getD i none = none) : Holding dsts vl (l.setIfInBounds i true) s := fun j v' hl hj => by
  by_cases e : j = i
  · subst e; rw [hv] at hj; cases hj
  · exact h j v' ((getD_listed hl).resolve_left e) hj
end Go.Proofs.YtkjhoanlkkcfkaaGreatDoor
