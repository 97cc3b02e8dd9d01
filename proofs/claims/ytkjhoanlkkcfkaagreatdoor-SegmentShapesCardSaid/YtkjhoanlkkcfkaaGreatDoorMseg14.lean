/- DERIVED. Texts of ours, merged: XCodSpec XCodCat XCodNum XStr XCodWrite XCodComps XCodRows. -/
import Derived.Test.YtkjhoanlkkcfkaaGreatDoorMseg4
import Derived.Test.YtkjhoanlkkcfkaaGreatDoorProg
import Derived.Lib.AppendZeros
import Derived.Laws.AppendOwnNone
import Derived.Maps.AppendAt
import Derived.OwnWalk
import Derived.Deep.DeepCutAuto
import Derived.Outline
import Derived.Lib.ConvBytes
import Derived.Laws.BytesArg
import Derived.LoopN
import Derived.Test.YtkjhoanlkkcfkaaGreatDoorMseg10
import Derived.Deep.RegionWith
import Derived.Deep.WholeRow
/- DERIVED. Numbers as bytes (layer 4), on plain lists; no program. -/
namespace Go.Proofs.YtkjhoanlkkcfkaaGreatDoor.Cod
open Go.RowKit
/-- the digits of a number, k + 1 of them at most. -/
def encF : Nat → Nat → List Int
  | 0, n => [(n : Int)]
  | k + 1, n => if n < 128 then [(n : Int)] else ((128 + n % 128 : Nat) : Int) :: encF k (n / 128)
def encN (n : Nat) : List Int := encF 9 n
/-- the number that digits tell. -/
def valL : List Int → Nat
  | [] => 0
  | x :: r => x.toNat % 128 + 128 * valL r
/-- how many bytes stand up to the first one below 128, of k at most; none: 0. -/
def sizeF : Nat → List Int → Nat
  | 0, _ => 0
  | _ + 1, [] => 0
  | k + 1, x :: r => if x < 128 then 1 else if sizeF k r = 0 then 0 else sizeF k r + 1
/-- the number at the front, and how many bytes it has; none: 0, 0. -/
def numAt (L : List Int) : Nat × Nat :=
  if sizeF 10 L = 0 then (0, 0) else
  if encN (valL (L.take (sizeF 10 L)) % 18446744073709551616) = L.take (sizeF 10 L) then (valL (L.take (sizeF 10 L)) % 18446744073709551616, sizeF 10 L) else (0, 0)
theorem encF_pos (k n : Nat) : 0 < (encF k n).length := by
  cases k with
  | zero => simp [encF]
  | succ k => unfold encF; split <;> simp
theorem encF_le (k n : Nat) : (encF k n).length ≤ k + 1 := by
  induction k generalizing n with
  | zero => simp [encF]
  | succ k ih => unfold encF; split <;> simp; exact ih _
theorem encN_pos (n : Nat) : 0 < (encN n).length := encF_pos 9 n
theorem encN_le (n : Nat) : (encN n).length ≤ 10 := encF_le 9 n
theorem pow_lt {n k : Nat} (h : n < 128 ^ (k + 1)) : n / 128 < 128 ^ k := by
  rw [Nat.pow_succ] at h
  exact Nat.div_lt_of_lt_mul (by rw [Nat.mul_comm]; exact h)
theorem encF_mem {k n : Nat} (h : n < 128 ^ (k + 1)) : ∀ x ∈ encF k n, 0 ≤ x ∧ x < 256 := by
  induction k generalizing n with
  | zero => simp [encF]; simp at h; omega
  | succ k ih =>
    unfold encF
    split
    · simp; omega
    · intro x hx
      rcases List.mem_cons.1 hx with rfl | hx
      · omega
      · exact ih (pow_lt h) x hx
theorem inB_mem {L : List Int} (h : ∀ x ∈ L, 0 ≤ x ∧ x < 256) : InB L := by
  intro j
  by_cases hj : j < L.length
  · have e : L.getD j 0 = L[j] := by simp [List.getD_eq_getElem?_getD, hj]
    rw [e]; exact h _ (List.getElem_mem hj)
  · rw [getD_out _ _ (by omega)]; omega
theorem lt70 {n : Nat} (h : n < 18446744073709551616) : n < 128 ^ (9 + 1) := Nat.lt_trans h (by decide)
theorem encN_in {n : Nat} (h : n < 18446744073709551616) : InB (encN n) := inB_mem (encF_mem (lt70 h))
theorem valL_encF {k n : Nat} (h : n < 128 ^ (k + 1)) : valL (encF k n) = n := by
  induction k generalizing n with
  | zero => simp [encF, valL]; simp at h; omega
  | succ k ih =>
    unfold encF
    split
    · simp [valL]; omega
    · unfold valL
      rw [ih (pow_lt h)]
      simp only [Int.toNat_natCast]
      omega
theorem sizeF_encF {k n : Nat} (h : n < 128 ^ (k + 1)) (R : List Int) : sizeF (k + 1) (encF k n ++ R) = (encF k n).length := by
  induction k generalizing n with
  | zero => simp at h; simp [encF, sizeF]; omega
  | succ k ih =>
    unfold encF
    split
    · simp only [List.cons_append, List.nil_append, sizeF]; rw [if_pos (by omega)]; rfl
    · simp only [List.cons_append, sizeF, List.length_cons]
      have hp := encF_pos k (n / 128)
      rw [if_neg (by omega), ih (pow_lt h), if_neg (by omega)]
/-- what is written is read, whatever stands behind. -/
theorem numAt_enc {n : Nat} (h : n < 18446744073709551616) (R : List Int) : numAt (encN n ++ R) = (n, (encN n).length) := by
  have hs : sizeF 10 (encN n ++ R) = (encN n).length := sizeF_encF (lt70 h) R
  have ht : (encN n ++ R).take (encN n).length = encN n := List.take_left
  have hv : valL (encN n) % 18446744073709551616 = n := by unfold encN; rw [valL_encF (lt70 h), Nat.mod_eq_of_lt h]
  unfold numAt
  rw [hs, ht, hv, if_neg (by have := encN_pos n; omega), if_pos rfl]
theorem sizeF_le (k : Nat) (L : List Int) : sizeF k L ≤ L.length ∧ sizeF k L ≤ k := by
  induction k generalizing L with
  | zero => simp [sizeF]
  | succ k ih =>
    cases L with
    | nil => simp [sizeF]
    | cons x r =>
      have := ih r
      simp only [sizeF, List.length_cons]
      split
      · omega
      · split <;> omega
/-- what is read is written as just those bytes. -/
theorem numAt_yes {L : List Int} {n s : Nat} (h : numAt L = (n, s)) (hs : s ≠ 0) : encN n = L.take s ∧ n < 18446744073709551616 ∧ s ≤ L.length ∧ s ≤ 10 := by
  unfold numAt at h
  split at h
  · cases h; exact absurd rfl hs
  · split at h
    · rename_i he
      cases h
      exact ⟨he, Nat.mod_lt _ (by decide), (sizeF_le 10 L).1, (sizeF_le 10 L).2⟩
    · cases h; exact absurd rfl hs
theorem numAt_no {L : List Int} {n s : Nat} (h : numAt L = (n, s)) (hs : s = 0) : n = 0 := by
  unfold numAt at h
  split at h
  · cases h; rfl
  · split at h
    · cases h; contradiction
    · cases h; rfl
theorem numAt_lt {L : List Int} {n s : Nat} (h : numAt L = (n, s)) : n < 18446744073709551616 := by
  by_cases hs : s = 0
  · rw [numAt_no h hs]; decide
  · exact (numAt_yes h hs).2.1
/-- unlike numbers: neither begins the other one. -/
theorem encN_apart {n m : Nat} (hn : n < 18446744073709551616) (hm : m < 18446744073709551616) {R S : List Int} (h : encN n ++ R = encN m ++ S) : n = m := by
  have h1 := numAt_enc hn R
  rw [h, numAt_enc hm S] at h1
  exact (Prod.mk.inj h1).1.symm
theorem sizeF_at {k K : Nat} {L : List Int} (hK : k < K) (hl : k < L.length) (h : ∀ j, j < k → 128 ≤ L.getD j 0) (hx : L.getD k 0 < 128) : sizeF K L = k + 1 := by
  induction k generalizing K L with
  | zero =>
    cases K with
    | zero => omega
    | succ K =>
      cases L with
      | nil => simp at hl
      | cons x r =>
        have hx' : x < 128 := by simpa using hx
        simp [sizeF, hx']
  | succ k ih =>
    cases K with
    | zero => omega
    | succ K =>
      cases L with
      | nil => simp at hl
      | cons x r =>
        have h0 : 128 ≤ x := by simpa using h 0 (by omega)
        have ih' := ih (K := K) (L := r) (by omega) (by simpa using hl) (fun j hj => by simpa using h (j + 1) (by omega)) (by simpa using hx)
        simp only [sizeF, ih']
        rw [if_neg (by omega), if_neg (by omega)]
theorem sizeF_none {K : Nat} {L : List Int} (h : ∀ j, j < K → j < L.length → 128 ≤ L.getD j 0) : sizeF K L = 0 := by
  induction K generalizing L with
  | zero => rfl
  | succ K ih =>
    cases L with
    | nil => rfl
    | cons x r =>
      have h0 : 128 ≤ x := by simpa using h 0 (by omega) (by simp)
      have ih' := ih (L := r) (fun j hj hl => by simpa using h (j + 1) (by omega) (by simpa using hl))
      simp only [sizeF, ih']
      rw [if_neg (by omega)]
      rfl
theorem valL_snoc (P : List Int) (x : Int) : valL (P ++ [x]) = valL P + x.toNat % 128 * 128 ^ P.length := by
  induction P with
  | nil => simp [valL]
  | cons a P ih => simp only [List.cons_append, valL, ih, List.length_cons, Nat.pow_succ]; rw [Nat.mul_add, ← Nat.add_assoc]; congr 1; rw [Nat.mul_comm (128 ^ P.length) 128, ← Nat.mul_assoc, ← Nat.mul_assoc, Nat.mul_comm 128]
theorem valL_lt (P : List Int) : valL P < 128 ^ P.length := by
  induction P with
  | nil => simp [valL]
  | cons a P ih => simp only [valL, List.length_cons, Nat.pow_succ]; have := Nat.mod_lt a.toNat (show 128 > 0 by decide); omega
theorem pow7 (k : Nat) : 128 ^ k = 2 ^ (7 * k) := by rw [Nat.pow_mul]
/-- one digit more. -/
theorem or_step (P : List Int) (k : Nat) (hk : P.length = k) (h9 : k ≤ 9) (x : Int) (hx : 0 ≤ x) :
    bits .or .u64 ((valL P % 18446744073709551616 : Nat) : Int) (IntKind.u64.wrap (x % 128 * 2 ^ (7 * k))) = ((valL (P ++ [x]) % 18446744073709551616 : Nat) : Int) := by
  obtain ⟨a, rfl⟩ := Int.eq_ofNat_of_zero_le hx
  have hv := valL_lt P
  rw [hk, pow7] at hv
  have hM : (18446744073709551616 : Nat) = 2 ^ (64 - 7 * k) * 2 ^ (7 * k) := by rw [← Nat.pow_add, show 64 - 7 * k + 7 * k = 64 by omega]
  have hp1 : 2 ≤ 2 ^ (64 - 7 * k) := by have := Nat.pow_le_pow_right (show 0 < 2 by decide) (show 1 ≤ 64 - 7 * k by omega); simpa using this
  have hp0 : 0 < 2 ^ (7 * k) := Nat.pow_pos (by decide)
  have hw : IntKind.u64.wrap ((a : Int) % 128 * 2 ^ (7 * k)) = ((a % 128 * 2 ^ (7 * k) % 18446744073709551616 : Nat) : Int) := by
    simp [IntKind.wrap, IntKind.bits, IntKind.signed]
  rw [hw, u64_or_nat _ _ (Nat.mod_lt _ (by decide)) (Nat.mod_lt _ (by decide)), valL_snoc, hk, pow7]
  congr 1
  simp only [Int.toNat_natCast]
  obtain ⟨d, hd⟩ : ∃ d, d = a % 128 := ⟨_, rfl⟩
  rw [← hd]
  have hj : ∀ q, q * 2 ^ (7 * k) ||| valL P = q * 2 ^ (7 * k) + valL P := fun q => nat_join (7 * k) _ _ (Nat.mul_mod_left _ _) hv
  generalize 2 ^ (7 * k) = T at *
  generalize 2 ^ (64 - 7 * k) = S at *
  have hmod : d * T % 18446744073709551616 = d % S * T := by rw [hM, Nat.mul_mod_mul_right]
  have hds : d % S < S := Nat.mod_lt _ (by omega)
  have hle : d % S * T + T ≤ S * T := by rw [← Nat.succ_mul]; exact Nat.mul_le_mul_right T hds
  have hlt : valL P < 18446744073709551616 := by have := Nat.mul_le_mul_right T (show 1 ≤ S by omega); omega
  rw [Nat.mod_eq_of_lt hlt, hmod]
  have hsum : (valL P + d * T) % 18446744073709551616 = valL P + d % S * T := by
    rw [Nat.add_mod, hmod, Nat.mod_eq_of_lt hlt, Nat.mod_eq_of_lt (by omega)]
  rw [hsum, Nat.or_comm, hj, Nat.add_comm]
/-- a label's compartments. -/
def compL (c : Nat) : List Int := [((c / 72057594037927936 % 256 : Nat) : Int), ((c / 281474976710656 % 256 : Nat) : Int), ((c / 1099511627776 % 256 : Nat) : Int), ((c / 4294967296 % 256 : Nat) : Int), ((c / 16777216 % 256 : Nat) : Int), ((c / 65536 % 256 : Nat) : Int), ((c / 256 % 256 : Nat) : Int), ((c % 256 : Nat) : Int)]
theorem compL_length (c : Nat) : (compL c).length = 8 := rfl
theorem compL_in (c : Nat) : InB (compL c) := inB_mem (by intro x hx; simp [compL] at hx; omega)
def compOf : List Int → Nat
  | l => l.foldl (fun a x => 256 * a + x.toNat) 0
theorem divs (c : Nat) : c / 65536 = c / 256 / 256 ∧ c / 16777216 = c / 256 / 256 / 256 ∧ c / 4294967296 = c / 256 / 256 / 256 / 256 ∧ c / 1099511627776 = c / 256 / 256 / 256 / 256 / 256 ∧ c / 281474976710656 = c / 256 / 256 / 256 / 256 / 256 / 256 ∧ c / 72057594037927936 = c / 256 / 256 / 256 / 256 / 256 / 256 / 256 := by
  simp [Nat.div_div_eq_div_mul]
theorem small {c : Nat} (h : c < 18446744073709551616) : c / 256 / 256 / 256 / 256 / 256 / 256 / 256 < 256 := by
  simp only [Nat.div_div_eq_div_mul]
  exact Nat.div_lt_of_lt_mul h
theorem step (q : Nat) : 256 * (q / 256) + q % 256 = q := by omega
theorem compOf_L {c : Nat} (h : c < 18446744073709551616) : compOf (compL c) = c := by
  obtain ⟨d1, d2, d3, d4, d5, d6⟩ := divs c
  have hs := Nat.mod_eq_of_lt (small h)
  simp only [compOf, compL, List.foldl_cons, List.foldl_nil, Int.toNat_natCast, Nat.mul_zero, Nat.zero_add, d1, d2, d3, d4, d5, d6, hs, step]
theorem compOf_lt {l : List Int} (hl : l.length = 8) (hb : InB l) : compOf l < 18446744073709551616 := by
  match l, hl with
  | [a, b, c, d, e, f, g, h], _ =>
    have h0 := hb 0; have h1 := hb 1; have h2 := hb 2; have h3 := hb 3; have h4 := hb 4; have h5 := hb 5; have h6 := hb 6; have h7 := hb 7
    simp at h0 h1 h2 h3 h4 h5 h6 h7
    simp [compOf]; omega
theorem div1 {s x : Nat} (h : x < 256) : (256 * s + x) / 256 = s := by omega
theorem mod1 {s x : Nat} (h : x < 256) : (256 * s + x) % 256 = x := by omega
theorem compL_of {l : List Int} (hl : l.length = 8) (hb : InB l) : compL (compOf l) = l := by
  match l, hl with
  | [a, b, c, d, e, f, g, h], _ =>
    have h0 := hb 0; have h1 := hb 1; have h2 := hb 2; have h3 := hb 3; have h4 := hb 4; have h5 := hb 5; have h6 := hb 6; have h7 := hb 7
    clear hb
    simp at h0 h1 h2 h3 h4 h5 h6 h7
    obtain ⟨a, rfl⟩ := Int.eq_ofNat_of_zero_le h0.1
    obtain ⟨b, rfl⟩ := Int.eq_ofNat_of_zero_le h1.1
    obtain ⟨c, rfl⟩ := Int.eq_ofNat_of_zero_le h2.1
    obtain ⟨d, rfl⟩ := Int.eq_ofNat_of_zero_le h3.1
    obtain ⟨e, rfl⟩ := Int.eq_ofNat_of_zero_le h4.1
    obtain ⟨f, rfl⟩ := Int.eq_ofNat_of_zero_le h5.1
    obtain ⟨g, rfl⟩ := Int.eq_ofNat_of_zero_le h6.1
    obtain ⟨h, rfl⟩ := Int.eq_ofNat_of_zero_le h7.1
    have k0 : a < 256 := by omega
    have k1 : b < 256 := by omega
    have k2 : c < 256 := by omega
    have k3 : d < 256 := by omega
    have k4 : e < 256 := by omega
    have k5 : f < 256 := by omega
    have k6 : g < 256 := by omega
    have k7 : h < 256 := by omega
    simp only [compOf, List.foldl_cons, List.foldl_nil, Int.toNat_natCast, Nat.mul_zero, Nat.zero_add]
    obtain ⟨d1, d2, d3, d4, d5, d6⟩ := divs (256 * (256 * (256 * (256 * (256 * (256 * (256 * a + b) + c) + d) + e) + f) + g) + h)
    simp only [compL, d1, d2, d3, d4, d5, d6, div1 k7, div1 k6, div1 k5, div1 k4, div1 k3, div1 k2, div1 k1, mod1 k7, mod1 k6, mod1 k5, mod1 k4, mod1 k3, mod1 k2, mod1 k1, Nat.mod_eq_of_lt k0]
end Go.Proofs.YtkjhoanlkkcfkaaGreatDoor.Cod
/- DERIVED. The contracts of slices.Grow at a nil slice and of slices.Concat at any slices of bytes; no number of a type. -/
namespace Go.Proofs.YtkjhoanlkkcfkaaGreatDoor.Cod
open Go.RowKit
theorem info8 : (Tryz.prog.info? 5).map (fun i => (i.zero, i.size, i.bytes)) = some (some (.int .u8 0), 1, 1) := by kernel_rfl
/-- a part: where it lies, its capacity, its bytes. -/
structure Part where
  A : Option Addr
  c : Nat
  M : List Int
def Part.val (p : Part) : Value := .slice p.A p.M.length p.c
def catP (ps : List Part) : List Int := ps.flatMap (·.M)
theorem catP_snoc (ps : List Part) (j : Nat) (h : j < ps.length) : catP (ps.take (j + 1)) = catP (ps.take j) ++ ps[j].M := by
  unfold catP
  rw [List.take_succ_eq_append_getElem h, List.flatMap_append]
  simp
theorem catP_le (ps : List Part) (j : Nat) : (catP (ps.take j)).length ≤ (catP ps).length := by
  have : catP ps = catP (ps.take j) ++ (ps.drop j).flatMap (·.M) := by
    unfold catP
    rw [← List.flatMap_append, List.take_append_drop]
  rw [this, List.length_append]
  omega
set_option maxRecDepth 100000 in
set_option maxHeartbeats 1000000 in
theorem grow_any (n : Nat) (h0 : 0 < n) (h1 : n ≤ 100000) (w : World) :
    Calls Tryz.prog 123 #[.slice none 0 0, .int .i64 (n : Int)] w fun e' w' => ∃ c C, e' = .returned (.slice (some ⟨w.heap.size, 0, none⟩) 0 c) ∧ n ≤ c ∧ c ≤ maxLen ∧ C.size = c ∧ w'.heap[w.heap.size]? = some (.cells C 5 (0, 0)) ∧ Below w.heap.size w w' := by
  obtain ⟨i0, hi0, hz00, hz10, hz20⟩ := info_parts info8
  have hi := Lib.hid hi0
  have hz0 := Lib.hid hz00
  have hz1 := Lib.hid hz10
  have hz2 := Lib.hid hz20
  have hpos : (0 : Int) < n := by omega
  clear hi0 hz00 hz10 hz20
  go_enter Tryz.func123, Tryz.ntmps123
  go_wp2_with (at_builtin; refine Lib.wpList_append_run _ rfl (.tmp 20) (.tmp 21) 38 3 rfl _ _ rfl rfl _ _ (Lib.run_append_nil_zeros w 38 3 38 5 i0 (.int .u8 0) .i64 .i64 Tryz.underlying38 Tryz.underlying3 hi.out hz0.out n h0 (by rw [hz1.out]; decide) (by omega) (by rw [hz2.out]; omega)) ?_; generalize hc : grownCap w n 0 5 = c; have Hc := Lib.hid hc; clear hc)
  go_ret
  have h2 := grownCap_ge w n 0 5
  have h3 := grownCap_le_maxLen w n 0 5 (by unfold maxLen; omega)
  rw [Hc.out] at h2 h3
  refine ⟨c, _, rfl, h2, h3, ?_, Go.heap_alloc_new w.drew _, ((Below.refl _ _).drew).alloc (Nat.le_refl _) _⟩
  simp [Builtin.zeroCells]
  omega
/-- what the second loop of Concat keeps. -/
structure CInv (B c : Nat) (L : List Int) (w wr : World) : Prop where
  own : wr.ownsRow B 5 1 (.slice (some ⟨B, 0, none⟩) L.length c) L.length (vals L)
  low : Below B w wr
theorem own_byt1 {w : World} {base g c : Nat} {L : List Int} (h : w.ownsRow base 5 1 (.slice (some ⟨g, 0, none⟩) L.length c) L.length (vals L)) : Byt w (some ⟨g, 0, none⟩) c L := by
  obtain ⟨_, h⟩ := h
  rcases h with ⟨h, _⟩ | ⟨g', cap, cur, hv, _, hh, hcap, _, hs, ht⟩
  · cases h
  · simp only [Value.slice.injEq, Option.some.injEq, Addr.mk.injEq, and_true, true_and] at hv
    obtain ⟨rfl, rfl⟩ := hv
    refine ⟨hcap, (fun h => by cases h), fun _ => ⟨g, 0, rfl, (Array.getElem?_eq_some_iff.1 hh).1, fun j hj => ?_⟩⟩
    rw [Nat.zero_add, cell_row hh]
    have h2 : cur[j]? = cur.toList[j]? := by simp
    have h3 : (cur.toList.take (L.length * 1))[j]? = cur.toList[j]? := by rw [List.getElem?_take, if_pos (by omega)]
    rw [h2, ← h3, ht]
    simp [vals, hj]
set_option maxRecDepth 100000 in
set_option maxHeartbeats 1000000 in
theorem concat_any (ps : List Part) (gs m : Nat) (w : World) (hm : ps.length = m) (hm5 : m ≤ 1000) (hp : 0 < (catP ps).length) (hle : (catP ps).length ≤ 50000)
    (hgs : ∀ j (h : j < ps.length), w.cell? ⟨gs, j, none⟩ = some (ps[j].val)) (hb : ∀ j (h : j < ps.length), Byt w (ps[j]).A (ps[j]).c (ps[j]).M) :
    Calls Tryz.prog 102 #[.slice (some ⟨gs, 0, none⟩) m m] w fun e' w' => ∃ c, e' = .returned (.slice (some ⟨w.heap.size, 0, none⟩) (catP ps).length c) ∧ w'.ownsRow w.heap.size 5 1 (.slice (some ⟨w.heap.size, 0, none⟩) (catP ps).length c) (catP ps).length (vals (catP ps)) ∧ Below w.heap.size w w' := by
  have HB := Lib.hid hb
  have HG := Lib.hid hgs
  have HM := Lib.hid hm
  obtain ⟨n, hn⟩ : ∃ n, n = (catP ps).length := ⟨_, rfl⟩
  rw [← hn] at hp hle ⊢
  have HN := Lib.hid hn
  clear hb hgs hm hn
  go_enter Tryz.func102, Tryz.ntmps102
  go_wp2
  go_loop [3, 11] (fun s i => ∃ k : Nat, k ≤ m ∧ i = .int .i64 (k : Nat) ∧ s = .int .i64 ((catP (ps.take k)).length : Nat)) (fun _ i => m - (intOf i).toNat)
  case atStart => exact ⟨0, Nat.zero_le _, rfl, rfl⟩
  case round =>
    obtain ⟨k, hk, rfl, rfl⟩ := hrel
    by_cases hlt : k < m
    · have hlk : k < ps.length := by have := HM.out; omega
      have hc := HG.out k hlk
      have hsn := catP_snoc ps k hlk
      have hl1 := catP_le ps (k + 1)
      rw [hsn, List.length_append] at hl1
      obtain ⟨p, hp⟩ : ∃ p, p = ps[k] := ⟨_, rfl⟩
      rw [← hp] at hc hsn hl1
      obtain ⟨pA, pc, pM⟩ := p
      unfold Part.val at hc
      simp only at hc hsn hl1
      obtain ⟨x, hx⟩ : ∃ x, x = (catP (ps.take k)).length := ⟨_, rfl⟩
      obtain ⟨y, hy⟩ : ∃ y, y = pM.length := ⟨_, rfl⟩
      rw [← hx, ← hy] at hl1
      rw [← hy] at hc
      rw [← hx]
      have Hx := Lib.hid hx
      have Hy := Lib.hid hy
      have Hsn := Lib.hid hsn
      have hxy : x + y ≤ 50000 := by have := HN.out; omega
      have hlt' : (k : Int) < (m : Int) := by omega
      clear hp hx hy hsn hl1
      go_wp2
      go_round
      case rel => exact ⟨k + 1, by omega, by go_num, by rw [Hsn.out, List.length_append, ← Hx.out, ← Hy.out]; go_num⟩
      case measure => simp [intOf]; omega
    · have hkm : k = m := by omega
      have e : (catP (ps.take k)).length = n := by rw [hkm, ← HM.out, List.take_length]; exact HN.out.symm
      rw [e]
      have hlt' : ¬ (k : Int) < (m : Int) := by omega
      have Hg := Lib.hid (grow_any n hp (by omega) w)
      clear e hkm hlt
      go_wp2_with (go_at_call 123; refine Hg.out.mono ?_; rintro e w1 ⟨c, C, rfl, hc1, hc2, hC, hr, hlow⟩; have HC := Lib.hid hC; have Hr := Lib.hid hr; clear hC hr)
      obtain ⟨i0, hi0, hz00, hz10, hz20⟩ := info_parts info8
      have hi := Lib.hid hi0
      have hz1 := Lib.hid hz10
      clear hi0 hz00 hz10 hz20
      go_loopw [6, 27] (fun v i wr => ∃ k : Nat, k ≤ m ∧ i = .int .i64 (k : Nat) ∧ v = .slice (some ⟨w.heap.size, 0, none⟩) (catP (ps.take k)).length c ∧ CInv w.heap.size c (catP (ps.take k)) w wr) (fun _ i _ => m - (intOf i).toNat)
      case atStart => exact ⟨0, Nat.zero_le _, rfl, rfl, ⟨⟨by simp [vals, catP], .inr ⟨_, c, C, rfl, Nat.le_refl _, Hr.out, Nat.zero_le _, hc2, by rw [HC.out]; omega, by simp [vals, catP]⟩⟩, hlow⟩⟩
      case round =>
        clear Hr HC hlow
        obtain ⟨j, hj, rfl, rfl, hinv⟩ := hrel
        by_cases hltj : j < m
        · have hlk : j < ps.length := by have := HM.out; omega
          have hc := HG.out j hlk
          have hby := HB.out j hlk
          have hsn := catP_snoc ps j hlk
          have hl1 := catP_le ps (j + 1)
          rw [hsn, List.length_append] at hl1
          obtain ⟨p, hp⟩ : ∃ p, p = ps[j] := ⟨_, rfl⟩
          rw [← hp] at hc hsn hl1 hby
          obtain ⟨pA, pc, pM⟩ := p
          unfold Part.val at hc
          simp only at hc hsn hl1 hby
          obtain ⟨X, hX⟩ : ∃ X, X = catP (ps.take j) := ⟨_, rfl⟩
          rw [← hX] at hl1 hsn hinv
          rw [← hX]
          obtain ⟨x, hx⟩ : ∃ x, x = X.length := ⟨_, rfl⟩
          obtain ⟨y, hy⟩ : ∃ y, y = pM.length := ⟨_, rfl⟩
          have hown := hinv.own
          have hlw := hinv.low
          rw [← hx] at hown
          rw [← hx, ← hy] at hl1
          rw [← hy] at hc
          rw [← hx]
          have hxy : x + y ≤ n := by have := HN.out; omega
          have hgs : gs < w.heap.size := World.block_lt_of_cell? w _ hc
          have e0 : wr.cell? ⟨gs, j, none⟩ = some (.slice pA y pc) := (hlw.cell (p := ⟨gs, j, none⟩) hgs).trans hc
          have Hx := Lib.hid hx
          have Hy := Lib.hid hy
          have Hsn := Lib.hid hsn
          have Hby := Lib.hid hby
          have Hown := Lib.hid hown
          have Hlw := Lib.hid hlw
          have hsz := hlw.size
          have hlt'' : (j : Int) < (m : Int) := by omega
          clear hp hx hy hsn hl1 hby hown hlw hc hX hinv
          go_wp2_with (at_builtin; refine wpList_append_fits_any _ rfl (.tmp 31) (.tmp 32) 38 rfl w.heap.size 5 i0 1 Tryz.underlying38 hi.out hz1.out w.heap.size x c (vals X) rfl Hown.out pA y pc (vals pM) rfl (by rw [vals_length, Hy.out]; omega) (fun h => ⟨by have := Hby.out.1; have := Hby.out.2.1 h; have := Hy.out; omega, Hby.out.2.1 h⟩) (fun ad h => Hby.out.cells (fun p hp => Hlw.out.cell hp) ad h) (vals_one _) (by omega) ?_; intro w2 hown2 hgrow2; have low2 := Lib.hid (Hlw.out.grown hgrow2 (by omega) (fun k hk => by cases hk; exact Nat.le_refl _)); have Hown2 := Lib.hid hown2; clear hown2 hgrow2)
          go_roundw
          case rel => exact ⟨j + 1, by omega, by go_num, by rw [Hsn.out, List.length_append, ← Hx.out, ← Hy.out], ⟨by have := Hown2.out; rw [Hsn.out, List.length_append, ← Hx.out, ← Hy.out]; simpa [vals] using this, low2.out⟩⟩
          case measure => simp [intOf]; omega
        · have hjm : j = m := by omega
          have e : catP (ps.take j) = catP ps := by rw [hjm, ← HM.out, List.take_length]
          rw [e] at hinv ⊢
          rw [← HN.out]
          have hlt'' : ¬ (j : Int) < (m : Int) := by omega
          have Hinv := Lib.hid hinv
          clear e hjm hltj hinv
          go_wp2
          go_ret
          exact ⟨c, rfl, by have := Hinv.out.own; rwa [← HN.out] at this, Hinv.out.low⟩
end Go.Proofs.YtkjhoanlkkcfkaaGreatDoor.Cod
/- DERIVED. The contracts of codec.digits, codec.Num. -/
namespace Go.Proofs.YtkjhoanlkkcfkaaGreatDoor.Cod
open Go.RowKit
theorem vals8_one (x : Int) : ∀ u ∈ [Value.int .u8 x], u.oneCell' = true := by
  intro u hu
  simp at hu
  subst hu
  rfl
theorem more8 (L : List Int) (x : Int) : vals L ++ [.int .u8 x] = vals (L ++ [x]) := by simp [vals]
/-- a row of the call's own reads as its bytes. -/
theorem own_byt {w : World} {base n : Nat} {v : Value} {L : List Int} (h : w.ownsRow base 5 1 v n (vals L)) : ∃ A c, v = .slice A n c ∧ L.length = n ∧ Byt w A c L := by
  have hlen : L.length = n := by have := h.1; rw [vals_length] at this; omega
  rcases h.2 with ⟨rfl, hx⟩ | ⟨g, cap, cur, rfl, _, hh, hcap, _, hs, ht⟩
  · subst hx
    obtain rfl : L = [] := List.eq_nil_of_length_eq_zero hlen
    exact ⟨none, 0, rfl, rfl, Nat.le_refl _, fun _ => rfl, fun h => absurd h (Nat.lt_irrefl 0)⟩
  · refine ⟨_, _, rfl, hlen, by omega, (fun h => by cases h), fun _ => ⟨g, 0, rfl, (Array.getElem?_eq_some_iff.1 hh).1, fun j hj => ?_⟩⟩
    rw [Nat.zero_add, cell_row hh]
    have h2 : cur[j]? = cur.toList[j]? := by simp
    have h3 : (cur.toList.take (n * 1))[j]? = cur.toList[j]? := by rw [List.getElem?_take, if_pos (by omega)]
    rw [h2, ← h3, ht]
    simp [vals, hj]
set_option maxRecDepth 100000 in
set_option maxHeartbeats 1000000 in
theorem digits_any (n : Nat) (hn : n < 18446744073709551616) (w : World) :
    Calls Tryz.prog 103 #[.int .u64 (n : Nat)] w fun e w' => ∃ v, e = .returned v ∧ w'.ownsRow w.heap.size 5 1 v (encN n).length (vals (encN n)) ∧ Below w.heap.size w w' := by
  obtain ⟨i0, hi0, hz00, hz10, hz20⟩ := info_parts info8
  have hi := Lib.hid hi0
  have hz0 := Lib.hid hz00
  have hz1 := Lib.hid hz10
  have hz2 := Lib.hid hz20
  have H70 := Lib.hid (lt70 hn)
  clear hi0 hz00 hz10 hz20 hn
  go_enter Tryz.func103, Tryz.ntmps103
  go_wp2
  go_loopw [0, 3] (fun x v wr => ∃ (m k : Nat) (P : List Int), x = .int .u64 (m : Nat) ∧ Hid (encN n = P ++ encF k m) ∧ Hid (m < 128 ^ (k + 1)) ∧ P.length + k ≤ 9 ∧ Hid (wr.ownsRow w.heap.size 5 1 v P.length (vals P)) ∧ Hid (Below w.heap.size w wr)) (fun x _ _ => (intOf x).toNat)
  case atStart => exact ⟨n, 9, [], rfl, rfl, H70.out, by simp, World.ownsRow_nil _ _ _ _, Below.refl _ _⟩
  case round =>
    obtain ⟨m, k, P, rfl, he, hm, hk, own, low⟩ := hrel
    obtain ⟨p, hp⟩ : ∃ p, p = P.length := ⟨_, rfl⟩
    rw [← hp] at own hk
    have Hp := Lib.hid hp
    have hsz := low.out.size
    clear hp H70
    by_cases hlt : m < 128
    · have hlt' : (m : Int) < 128 := by omega
      have hge : ¬ (128 : Int) ≤ (m : Int) := by omega
      go_wp2_with (at_builtin; refine wpList_append_own_at _ rfl (.tmp 15) (.tmp 18) 38 rfl w.heap.size 5 i0 (.int .u8 0) 1 1 Tryz.underlying38 hi.out hz0.out hz1.out hz2.out rfl (by decide) u3 p (vals P) rfl (own.out.alloc _) ⟨wr.heap.size, 0, none⟩ 1 1 [.int .u8 (m : Nat)] rfl rfl (cell_one_new _ _ _) (vals8_one _) (by unfold maxLen; omega) (by omega) (by rw [World.size_alloc]; omega) ?_; intro v2 w2 hown2 hgrow2 _ _; have Hown2 := Lib.hid hown2; have Hgrow2 := Lib.hid hgrow2; clear hown2 hgrow2)
      go_ret
      have e : encN n = P ++ [(m : Int)] := by
        rw [he.out]
        cases k with
        | zero => rfl
        | succ k => unfold encF; rw [if_pos hlt]
      refine ⟨_, rfl, ?_, (low.out.alloc hsz _).grown Hgrow2.out (by rw [World.size_alloc]; omega) (fun k hk => (own.out.lt k hk).1)⟩
      have := Hown2.out
      rw [more8] at this
      rw [e, List.length_append, ← Hp.out]
      exact this
    · have hlt' : (128 : Int) ≤ (m : Int) := by omega
      have hr0 : 0 ≤ (m : Int) % 128 := by omega
      have hr1 : (m : Int) % 128 < 128 := by omega
      go_wp2_with (at_builtin; refine wpList_append_own_at _ rfl (.tmp 6) (.tmp 11) 38 rfl w.heap.size 5 i0 (.int .u8 0) 1 1 Tryz.underlying38 hi.out hz0.out hz1.out hz2.out rfl (by decide) u3 p (vals P) rfl (own.out.alloc _) ⟨wr.heap.size, 0, none⟩ 1 1 [.int .u8 ((m : Int) % 128 + 128)] rfl rfl (cell_one_new _ _ _) (vals8_one _) (by unfold maxLen; omega) (by omega) (by rw [World.size_alloc]; omega) ?_; intro v2 w2 hown2 hgrow2 _ _; have Hown2 := Lib.hid hown2; have Hgrow2 := Lib.hid hgrow2; clear hown2 hgrow2)
      go_roundw
      case rel =>
        cases k with
        | zero => have := hm.out; simp at this; omega
        | succ k =>
          refine ⟨m / 128, k, P ++ [((128 + m % 128 : Nat) : Int)], by simp, ?_, pow_lt hm.out, by rw [List.length_append, ← Hp.out]; simp; omega, ?_, (low.out.alloc hsz _).grown Hgrow2.out (by rw [World.size_alloc]; omega) (fun k hk => (own.out.lt k hk).1)⟩
          · show encN n = _
            rw [he.out]
            conv => lhs; unfold encF
            rw [if_neg hlt]
            simp
          · have := Hown2.out
            rw [more8] at this
            rw [List.length_append, ← Hp.out]
            have e : ((128 + m % 128 : Nat) : Int) = (m : Int) % 128 + 128 := by omega
            rw [e]
            exact this
      case measure => simp [intOf]; omega
end Go.Proofs.YtkjhoanlkkcfkaaGreatDoor.Cod
/- DERIVED. Texts and slices of bytes, there and back; no number of a type. -/
namespace Go.Proofs.YtkjhoanlkkcfkaaGreatDoor.Str
open Go.RowKit
/-- a text's bytes. -/
def bOf (s : ByteArray) : List Int := s.data.toList.map fun b => (b.toNat : Int)
theorem bOf_length (s : ByteArray) : (bOf s).length = s.size := by rw [bOf, List.length_map, Array.length_toList]; rfl
theorem bOf_in (s : ByteArray) : InB (bOf s) := by
  intro j
  by_cases h : j < (bOf s).length
  · have h' : j < s.data.toList.length := by simpa [bOf] using h
    have e : (bOf s).getD j 0 = ((s.data.toList[j]).toNat : Int) := by simp [bOf, List.getD_eq_getElem?_getD, List.getElem?_map, List.getElem?_eq_getElem h']
    rw [e]
    have := (s.data.toList[j]).toNat_lt
    omega
  · rw [getD_out _ _ (Nat.le_of_not_lt h)]; omega
theorem byt_string (w : World) (s : ByteArray) : Byt (Lib.bytesWorld w 5 s) (some ⟨w.heap.size, 0, none⟩) (grownCap w s.size 0 5) (bOf s) := by
  refine ⟨by rw [bOf_length]; exact grownCap_ge _ _ _ _, (fun h => by cases h), fun _ => ⟨w.heap.size, 0, rfl, by rw [Lib.bytesWorld_size]; omega, fun j hj => ?_⟩⟩
  rw [bOf_length] at hj
  rw [Nat.zero_add, Lib.bytesWorld_cell w 5 s j hj]
  have h' : j < s.data.toList.length := by simpa using hj
  simp [bOf, List.getD_eq_getElem?_getD, List.getElem?_map, List.getElem?_eq_getElem h']
theorem below_string (w : World) (s : ByteArray) : Below w.heap.size w (Lib.bytesWorld w 5 s) := by
  refine ⟨?_, ?_, ?_, by rw [Lib.bytesWorld_size]; omega, fun k hk => Lib.bytesWorld_at_old w 5 s k hk⟩
  all_goals (simp only [Lib.bytesWorld, World.freeze]; rfl)
/-- a text as bytes. -/
theorem run_bytes (w : World) (s : ByteArray) : (convert 9 38 (.string s)).run Tryz.prog w = .ok (.slice (some ⟨w.heap.size, 0, none⟩) s.size (grownCap w s.size 0 5)) (Lib.bytesWorld w 5 s) :=
  Lib.run_convert_string_bytes w 9 38 5 s Tryz.underlying9 Tryz.underlying38 Tryz.underlying5
/-- a slice of bytes as a text, empty ones let in. -/
theorem conv_any {w : World} {A : Option Addr} {c n : Nat} {L : List Int} (hB : Byt w A c L) (hn : L.length = n) : (convert 38 9 (.slice A n c)).run Tryz.prog w = .ok (.string (strOfNums L)) w := by
  by_cases h0 : 0 < n
  · obtain ⟨g, off, rfl, _, hc⟩ := hB.2.2 (by omega)
    exact run_convert_bytes_arg w 38 5 Tryz.underlying38 Tryz.underlying5 g off n c L hn (fun i hi => hc i (by omega)) 9 Tryz.underlying9
  · obtain rfl : n = 0 := by omega
    obtain rfl : L = [] := List.eq_nil_of_length_eq_zero hn
    cases A with
    | none => exact run_convert_bytes_nil w 38 5 Tryz.underlying38 Tryz.underlying5 0 c 9 Tryz.underlying9
    | some a =>
      rw [run_convert_bytes_string w 38 9 5 _ 0 c Tryz.underlying38 Tryz.underlying5 Tryz.underlying9]
      simp [Conv.bytesToString, loadCells, loadCellsFrom, strOfNums]
      rfl
/-- a slice's beginning. -/
theorem byt_take {w : World} {A : Option Addr} {c : Nat} {L : List Int} (h : Byt w A c L) (k : Nat) : Byt w A c (L.take k) := by
  obtain ⟨h1, h2, h3⟩ := h
  refine ⟨by rw [List.length_take]; omega, h2, fun h0 => ?_⟩
  rw [List.length_take] at h0
  obtain ⟨g, off, e, hg, hc⟩ := h3 (by omega)
  refine ⟨g, off, e, hg, fun j hj => ?_⟩
  rw [List.length_take] at hj
  rw [hc j (by omega)]
  simp [List.getD_eq_getElem?_getD, show j < k by omega]
theorem byt_rowT {w : World} {g : Nat} {t : TypeId} {l : List Int} {fr : Nat × Nat} (h : w.heap[g]? = some (.cells (u8s l) t fr)) {n : Nat} (hn : l.length = n) : Byt w (some ⟨g, 0, none⟩) n l :=
  ⟨by omega, (fun h => by cases h), fun _ => ⟨g, 0, rfl, (Array.getElem?_eq_some_iff.1 h).1, fun j hj => by rw [Nat.zero_add, cell_row h, u8s_get _ _ hj]⟩⟩
theorem inB_get {L : List Int} (h : InB L) : ∀ x ∈ L, 0 ≤ x ∧ x < 256 := by
  intro x hx
  obtain ⟨j, hj, rfl⟩ := List.getElem_of_mem hx
  have := h j
  simpa [List.getD_eq_getElem?_getD, hj] using this
theorem bOf_str {L : List Int} (h : InB L) : bOf (strOfNums L) = L := by
  have hm := inB_get h
  unfold bOf
  rw [strOfNums_data, List.map_map]
  conv => rhs; rw [← List.map_id L]
  refine List.map_congr_left fun x hx => ?_
  have := hm x hx
  simp
  omega
theorem str_bOf (s : ByteArray) : strOfNums (bOf s) = s := by
  unfold strOfNums bOf
  congr 1
  rw [List.map_map]
  have : ((fun n : Int => UInt8.ofNat n.toNat) ∘ fun b : UInt8 => (b.toNat : Int)) = id := by
    funext b
    simp
  rw [this, List.map_id]
theorem str_inj {L M : List Int} (h : InB L) (k : InB M) (e : strOfNums L = strOfNums M) : L = M := by
  rw [← bOf_str h, ← bOf_str k, e]
theorem toList_inj {s t : ByteArray} (e : s.toList = t.toList) : s = t := by
  rw [ByteArray.toList_eq, ByteArray.toList_eq] at e
  cases s; cases t
  simpa using e
theorem str_ne {L M : List Int} (h : InB L) (k : InB M) (e : L ≠ M) : ¬ (strOfNums L).toList = (strOfNums M).toList := fun h' => e (str_inj h k (toList_inj h'))
theorem bOf_inj {s t : ByteArray} (e : bOf s = bOf t) : s = t := by
  rw [← str_bOf s, ← str_bOf t, e]
end Go.Proofs.YtkjhoanlkkcfkaaGreatDoor.Str
/- DERIVED. The contracts of codec.Num, codec.Text, codec.Hash. -/
namespace Go.Proofs.YtkjhoanlkkcfkaaGreatDoor.Cod
open Go.RowKit Str
theorem own_base {w : World} {B B' n : Nat} {e : TypeId} {v : Value} {xs : List Value} (h : w.ownsRow B e 1 v n xs) (hb : B' ≤ B) : w.ownsRow B' e 1 v n xs :=
  ⟨h.1, h.2.imp id (by rintro ⟨g, cap, cur, h1, h2, h3⟩; exact ⟨g, cap, cur, h1, Nat.le_trans hb h2, h3⟩)⟩
/-- Concat's row, just built. -/
theorem concat_new (ps : List Part) (m : Nat) (w0 : World) (hm : ps.length = m) (hm5 : m ≤ 1000) (hp : 0 < (catP ps).length) (hle : (catP ps).length ≤ 50000) (hb : ∀ p ∈ ps, Byt w0 p.A p.c p.M) (cs : Array Value) (hcs : cs = (ps.map Part.val).toArray) (g : Nat) (hg : g = w0.heap.size) :
    Calls Tryz.prog 102 #[.slice (some ⟨g, 0, none⟩) m m] (w0.alloc (.cells cs 38)) fun e' w' => ∃ v, e' = .returned v ∧ w'.ownsRow w0.heap.size 5 1 v (catP ps).length (vals (catP ps)) ∧ Below w0.heap.size w0 w' := by
  subst hcs hg
  refine (concat_any ps w0.heap.size m _ hm hm5 hp hle (fun j h => ?_) (fun j h => (hb _ (List.getElem_mem h)).alloc _)).mono ?_
  · rw [cell_row (Go.heap_alloc_new w0 _)]
    simp [h]
  · rintro e' w' ⟨c, rfl, own, low⟩
    have hs : (w0.alloc (.cells (ps.map Part.val).toArray 38)).heap.size = w0.heap.size + 1 := by rw [World.size_alloc]
    exact ⟨_, rfl, own_base own (by omega), ((Below.refl _ _).alloc (Nat.le_refl _) _).trans (low.mono (by omega))⟩
set_option maxRecDepth 100000 in
set_option maxHeartbeats 1000000 in
theorem text_any (A : Option Addr) (x c : Nat) (s : ByteArray) (L : List Int) (hs : s.size ≤ 5000) (hx : L.length = x) (hle : x ≤ 40000) (w : World) (hB : Byt w A c L) :
    Calls Tryz.prog 76 #[.slice A x c, .string s] w fun e w' => ∃ v, e = .returned v ∧ w'.ownsRow w.heap.size 5 1 v (L ++ (encN s.size ++ bOf s)).length (vals (L ++ (encN s.size ++ bOf s))) ∧ Below w.heap.size w w' := by
  have Hx := Lib.hid hx
  have HB := Lib.hid hB
  have hsI : (s.size : Int) ≤ 5000 := by omega
  have kc := fun (w : World) => run_bytes w s
  clear hx hB
  go_enter Tryz.func76, Tryz.ntmps76
  go_wp2_with (first
    | (go_at_call 102; refine (concat_new [⟨A, c, L⟩, ⟨A1, c1, encN s.size⟩, ⟨some ⟨w1.heap.size, 0, none⟩, grownCap w1 s.size 0 5, bOf s⟩] 3 (Lib.bytesWorld w1 5 s) rfl (by omega) (by have := encN_pos s.size; simp [catP]; omega) (by have := encN_le s.size; have := Hx.out; have := bOf_length s; simp [catP]; omega) (by intro p hp; rcases List.mem_cons.1 hp with rfl | hp; exact (HB.out.below Low1.out (Nat.le_refl _)).below (below_string w1 s) (Nat.le_refl _); rcases List.mem_cons.1 hp with rfl | hp; exact Hb1.out.below (below_string w1 s) (Nat.le_refl _); rcases List.mem_cons.1 hp with rfl | hp; exact byt_string w1 s; cases hp) _ (by simp [Part.val, Hx.out, bOf_length]) _ (by rw [Lib.bytesWorld_size])).mono ?_; rintro e w2 ⟨v2, rfl, own2, low2⟩; have Own2 := Lib.hid own2; have Low2 := Lib.hid low2; clear own2 low2)
    | (go_at_call 103; refine (digits_any s.size (by omega) w).mono ?_; rintro e w1 ⟨v1, rfl, own1, low1⟩; obtain ⟨A1, c1, rfl, _, hb1⟩ := own_byt own1; have Hb1 := Lib.hid hb1; have Low1 := Lib.hid low1; have hs1 := low1.size; clear own1 low1 hb1))
  go_ret
  have hs2 : w.heap.size ≤ (Lib.bytesWorld w1 5 s).heap.size := Nat.le_trans hs1 (below_string w1 s).size
  refine ⟨_, rfl, ?_, (Low1.out.trans ((below_string w1 s).mono hs1)).trans (Low2.out.mono hs2)⟩
  have := own_base Own2.out hs2
  simpa [catP] using this
end Go.Proofs.YtkjhoanlkkcfkaaGreatDoor.Cod
/- DERIVED. The contract of codec.comps. -/
namespace Go.Proofs.YtkjhoanlkkcfkaaGreatDoor.Cod
open Go.RowKit Str
theorem info8x8 : (Tryz.prog.info? 145).map (·.size) = some 8 := by kernel_rfl
set_option maxRecDepth 100000 in
set_option maxHeartbeats 1000000 in
theorem comps_any (c : Nat) (w : World) :
    Calls Tryz.prog 101 #[.int .u64 (c : Nat)] w fun e w' => e = .returned (.agg (u8s (compL c))) ∧ Below w.heap.size w w' := by
  go_enter Tryz.func101, Tryz.ntmps101
  go_wp2
  refine wp_loop_rounds 9 ?_
  rw [rounds_succ]
  go_wp2
  rw [rounds_succ]
  go_wp2
  rw [rounds_succ]
  go_wp2
  rw [rounds_succ]
  go_wp2
  rw [rounds_succ]
  go_wp2
  rw [rounds_succ]
  go_wp2
  rw [rounds_succ]
  go_wp2
  rw [rounds_succ]
  go_wp2
  rw [rounds_succ]
  go_wp2
  have e : u8s (compL c) = #[.int .u8 ((c : Int) / 72057594037927936 % 256), .int .u8 ((c : Int) / 281474976710656 % 256), .int .u8 ((c : Int) / 1099511627776 % 256), .int .u8 ((c : Int) / 4294967296 % 256), .int .u8 ((c : Int) / 16777216 % 256), .int .u8 ((c : Int) / 65536 % 256), .int .u8 ((c : Int) / 256 % 256), .int .u8 ((c : Int) % 256)] := by simp [u8s, compL]
  rw [e]
  exact bodyPost_ret (v := .agg #[.int .u8 ((c : Int) / 72057594037927936 % 256), .int .u8 ((c : Int) / 281474976710656 % 256), .int .u8 ((c : Int) / 1099511627776 % 256), .int .u8 ((c : Int) / 4294967296 % 256), .int .u8 ((c : Int) / 16777216 % 256), .int .u8 ((c : Int) / 65536 % 256), .int .u8 ((c : Int) / 256 % 256), .int .u8 ((c : Int) % 256)]) (results_cell_row rfl _ _ w.heap.size 145 _ (0, 0) _ rfl (heap_alloc2_old w _ _) Tryz.underlying145 rfl info8x8) rfl ⟨rfl, ((Below.refl _ _).alloc (Nat.le_refl _) _).alloc (by simp) _⟩
end Go.Proofs.YtkjhoanlkkcfkaaGreatDoor.Cod
/- DERIVED. A slice of slices of bytes, as one word; Concat over it. -/
namespace Go.Proofs.YtkjhoanlkkcfkaaGreatDoor.Cod
open Go.RowKit Str
/-- new bytes of the call's own. -/
def NewB (B : Nat) (M : List Int) (v : Value) (w : World) : Prop := w.ownsRow B 5 1 v M.length (vals M)
theorem own_keep {w w' : World} {base n : Nat} {e : TypeId} {v : Value} {xs : List Value} (h : w.ownsRow base e 1 v n xs) (hb : Below w.heap.size w w') : w'.ownsRow base e 1 v n xs := by
  refine ⟨h.1, ?_⟩
  rcases h.2 with h | ⟨g, cap, cur, hv, h1, h2, h3⟩
  · exact .inl h
  · exact .inr ⟨g, cap, cur, hv, h1, (hb.block g (Array.getElem?_eq_some_iff.1 h2).1).trans h2, h3⟩
theorem NewB.later {B : Nat} {M : List Int} {v : Value} {w w' : World} (h : NewB B M v w) (hb : Below w.heap.size w w') : NewB B M v w' := own_keep h hb
theorem NewB.base {B B' : Nat} {M : List Int} {v : Value} {w : World} (h : NewB B M v w) (hb : B' ≤ B) : NewB B' M v w := own_base h hb
theorem NewB.sl {B : Nat} {M : List Int} {v : Value} {w : World} (h : NewB B M v w) : SlB M v w := by
  obtain ⟨A, c, e, _, b⟩ := own_byt h
  exact ⟨A, c, e, b⟩
/-- a slice of slices that read so. -/
def RowsM (Ms : List (List Int)) (v : Value) (w : World) : Prop := ∃ (g : Nat) (ps : List Part), v = .slice (some ⟨g, 0, none⟩) Ms.length Ms.length ∧ ps.map (·.M) = Ms ∧ w.heap[g]? = some (.cells (ps.map Part.val).toArray 38 (0, 0)) ∧ ∀ p ∈ ps, Byt w p.A p.c p.M
theorem RowsM.later {Ms : List (List Int)} {v : Value} {w w' : World} (h : RowsM Ms v w) (hb : Below w.heap.size w w') : RowsM Ms v w' := by
  obtain ⟨g, ps, e, hm, hr, hp⟩ := h
  exact ⟨g, ps, e, hm, (hb.block g (Array.getElem?_eq_some_iff.1 hr).1).trans hr, fun p h => (hp p h).below hb (Nat.le_refl _)⟩
theorem RowsM.two {a b : List Int} {va vb : Value} {w : World} (ha : SlB a va w) (hb : SlB b vb w) : RowsM [a, b] (.slice (some ⟨w.heap.size, 0, none⟩) 2 2) (w.alloc (.cells #[va, vb] 38)) := by
  obtain ⟨A1, c1, rfl, b1⟩ := ha
  obtain ⟨A2, c2, rfl, b2⟩ := hb
  refine ⟨_, [⟨A1, c1, a⟩, ⟨A2, c2, b⟩], rfl, rfl, Go.heap_alloc_new w _, fun p hp => ?_⟩
  rcases List.mem_cons.1 hp with rfl | hp
  · exact b1.alloc _
  rcases List.mem_cons.1 hp with rfl | hp
  · exact b2.alloc _
  cases hp
theorem RowsM.three {a b c : List Int} {va vb vc : Value} {w : World} (ha : SlB a va w) (hb : SlB b vb w) (hc : SlB c vc w) : RowsM [a, b, c] (.slice (some ⟨w.heap.size, 0, none⟩) 3 3) (w.alloc (.cells #[va, vb, vc] 38)) := by
  obtain ⟨A1, c1, rfl, b1⟩ := ha
  obtain ⟨A2, c2, rfl, b2⟩ := hb
  obtain ⟨A3, c3, rfl, b3⟩ := hc
  refine ⟨_, [⟨A1, c1, a⟩, ⟨A2, c2, b⟩, ⟨A3, c3, c⟩], rfl, rfl, Go.heap_alloc_new w _, fun p hp => ?_⟩
  rcases List.mem_cons.1 hp with rfl | hp
  · exact b1.alloc _
  rcases List.mem_cons.1 hp with rfl | hp
  · exact b2.alloc _
  rcases List.mem_cons.1 hp with rfl | hp
  · exact b3.alloc _
  cases hp
theorem concat_rows (Ms : List (List Int)) (v : Value) (w : World) (h : RowsM Ms v w) (hm5 : Ms.length ≤ 1000) (hp : 0 < Ms.flatten.length) (hle : Ms.flatten.length ≤ 50000) :
    Calls Tryz.prog 102 #[v] w fun e' w' => ∃ v', e' = .returned v' ∧ NewB w.heap.size Ms.flatten v' w' ∧ Below w.heap.size w w' := by
  obtain ⟨g, ps, rfl, hm, hr, hb⟩ := h
  have hc : catP ps = Ms.flatten := by rw [← hm]; simp [catP, List.flatMap_def]
  have hl : ps.length = Ms.length := by rw [← hm, List.length_map]
  rw [← hc] at hp hle ⊢
  refine (concat_any ps g Ms.length w hl hm5 hp hle (fun j h => ?_) (fun j h => hb _ (List.getElem_mem h))).mono ?_
  · rw [cell_row hr]
    simp [h]
  · rintro e' w' ⟨c, rfl, own, low⟩
    exact ⟨_, rfl, own, low⟩
theorem digits_new (n : Nat) (hn : n < 18446744073709551616) (w : World) :
    Calls Tryz.prog 103 #[.int .u64 (n : Nat)] w fun e w' => ∃ v, e = .returned v ∧ NewB w.heap.size (encN n) v w' ∧ Below w.heap.size w w' := digits_any n hn w
/-- a number modulo 2^64. -/
def uN (n : Int) : Nat := (n % 18446744073709551616).toNat
theorem uN_lt (n : Int) : uN n < 18446744073709551616 := by
  unfold uN; have := Int.emod_nonneg n (show (18446744073709551616 : Int) ≠ 0 by decide); have := Int.emod_lt_of_pos n (show (0 : Int) < 18446744073709551616 by decide); omega
theorem uN_cast (n : Int) : ((uN n : Nat) : Int) = n % 18446744073709551616 := by
  unfold uN; have := Int.emod_nonneg n (show (18446744073709551616 : Int) ≠ 0 by decide); omega
theorem uN_nat (n : Nat) (h : n < 18446744073709551616) : uN (n : Int) = n := by
  have := uN_cast n
  rw [Int.emod_eq_of_lt (by omega) (by omega)] at this
  omega
theorem w64 (n : Int) : IntKind.u64.wrap n = n % 18446744073709551616 := by
  simp [IntKind.wrap, IntKind.bits, IntKind.signed]
theorem wrap_uN (n : Int) : IntKind.u64.wrap n = (uN n : Nat) := by rw [uN_cast, w64]
theorem wrap_add2 (n : Int) : IntKind.u64.wrap (IntKind.u64.wrap n + 2) = (uN (n + 2) : Nat) := by
  rw [uN_cast, w64, w64]; omega
end Go.Proofs.YtkjhoanlkkcfkaaGreatDoor.Cod
