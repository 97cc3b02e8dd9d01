/- DERIVED. A Value with its level counted modulo 16 and its N from -2 to 2^32 - 3; own rows of Values. -/
import Derived.Test.YtigfcmnknijobaaCodAgain
import Derived.Laws.Bits128
namespace Go.Proofs.Ytigfcmnknijobaa.Cod
open Go.RowKit Str
def Val.setN (x : Val) (v : Int) : Val := { x with n := v }
theorem Val.set37 (x : Val) (hl : x.h.length = 32) (v : Int) : x.cells.setIfInBounds 37 (.int .i64 v) = (x.setN v).cells := by
  apply Array.ext_getElem?
  intro j
  rw [Array.getElem?_setIfInBounds]
  by_cases e : 37 = j
  · subst e
    rw [if_pos rfl, if_pos (by rw [x.size hl]; decide)]
    exact ((x.setN v).ct hl 2).symm
  · rw [if_neg e]
    simp only [Val.cells, Val.setN, List.getElem?_toArray]
    match j with
    | 0 => rfl
    | 1 => rfl
    | 2 => rfl
    | j + 3 =>
      simp only [List.getElem?_cons_succ]
      by_cases h : j < 32
      · rw [List.getElem?_append_left (by simp [hl, h]), List.getElem?_append_left (by simp [hl, h])]
      · rw [List.getElem?_append_right (by simp [hl]; omega), List.getElem?_append_right (by simp [hl]; omega)]
        simp only [List.length_map, hl]
        match hq : j - 32 with
        | 0 => rfl
        | 1 => rfl
        | 2 => omega
        | q + 3 => rfl
theorem i64_and32 (n : Int) : bits .and .i64 n 4294967295 = n % 4294967296 := by
  show IntKind.i64.wrap ((BitVec.ofInt 64 n &&& BitVec.ofInt 64 4294967295).toNat : Int) = _
  have h : (BitVec.ofInt 64 n &&& BitVec.ofInt 64 4294967295).toNat = (n % 4294967296).toNat := by
    rw [BitVec.toNat_and, BitVec.toNat_ofInt, show (BitVec.ofInt 64 4294967295).toNat = 2 ^ 32 - 1 from rfl, Nat.and_two_pow_sub_one_eq_mod]
    omega
  rw [h, IntKind.wrap_i64]
  omega
/-- the Value that is written. -/
def chgV (x : Val) : Val := (x.setLv (x.lv % 16)).setN (x.n % 4294967296 - 2)
theorem chgV_ok {x : Val} (h : x.Ok) : (chgV x).Ok ∧ (0 ≤ (chgV x).lv ∧ (chgV x).lv < 16) ∧ (-2 ≤ (chgV x).n ∧ (chgV x).n ≤ 4294967294) ∧ (chgV x).s = x.s := by
  have h1 : 0 ≤ x.lv % 16 := by omega
  have h2 : x.lv % 16 < 16 := by omega
  have h3 : 0 ≤ x.n % 4294967296 := by omega
  have h4 : x.n % 4294967296 < 4294967296 := by omega
  exact ⟨⟨h.k0, h.num, h.s, h.hl, h.hb, ⟨by show -9223372036854775808 ≤ x.lv % 16; omega, by show x.lv % 16 ≤ 9223372036854775807; omega⟩, h.cp, ⟨by show -9223372036854775808 ≤ x.n % 4294967296 - 2; omega, by show x.n % 4294967296 - 2 ≤ 9223372036854775807; omega⟩, h.mo⟩, ⟨h1, h2⟩, ⟨by show -2 ≤ x.n % 4294967296 - 2; omega, by show x.n % 4294967296 - 2 ≤ 4294967294; omega⟩, rfl⟩
/-- the cells of Values, one behind the other. -/
def flatV (xs : List Val) : List Value := (xs.map fun x => x.cells.toList).flatten
theorem flatV_length {xs : List Val} (h : ∀ x ∈ xs, x.Ok) : (flatV xs).length = xs.length * 39 := by
  induction xs with
  | nil => rfl
  | cons x xs ih =>
    have e := x.size (h x (List.mem_cons_self ..)).hl
    have := ih (fun y hy => h y (List.mem_cons_of_mem _ hy))
    simp only [flatV, List.map_cons, List.flatten_cons, List.length_append, List.length_cons, Array.length_toList] at this ⊢
    omega
theorem flatV_app (xs : List Val) (x : Val) : flatV (xs ++ [x]) = flatV xs ++ x.cells.toList := by simp [flatV]
theorem flatV_get {xs : List Val} (h : ∀ x ∈ xs, x.Ok) : ∀ (i : Nat) (x : Val), xs[i]? = some x → ∀ j v, x.cells.toList[j]? = some v → (flatV xs)[i * 39 + j]? = some v := by
  induction xs with
  | nil => intro i x hx; simp at hx
  | cons y ys ih =>
    intro i x hx j v hv
    have e := y.size (h y (List.mem_cons_self ..)).hl
    have el : y.cells.toList.length = 39 := by rw [Array.length_toList, e]
    simp only [flatV, List.map_cons, List.flatten_cons]
    cases i with
    | zero =>
      obtain rfl := Option.some.inj hx
      have hj := (List.getElem?_eq_some_iff.1 hv).1
      rw [Nat.zero_mul, Nat.zero_add, List.getElem?_append_left (by omega)]
      exact hv
    | succ i =>
      rw [List.getElem?_append_right (by omega), el, show (i + 1) * 39 + j - 39 = i * 39 + j by omega]
      exact ih (fun z hz => h z (List.mem_cons_of_mem _ hz)) i x (by simpa using hx) j v hv
/-- a row of Values of the call's own. -/
def OwnV (base : Nat) (xs : List Val) (v : Value) (w : World) : Prop := w.ownsRow base 36 39 v xs.length (flatV xs)
theorem OwnV.vals {base : Nat} {xs : List Val} {v : Value} {w : World} (h : OwnV base xs v w) (hok : ∀ x ∈ xs, x.Ok) : ∃ A c, v = .slice A xs.length c ∧ Vals w A c xs := by
  rcases h.2 with ⟨rfl, h0⟩ | ⟨g, cap, cur, hv, hb, hg, hn, hm, hs, ht⟩
  · exact ⟨none, 0, by rw [h0], by omega, fun _ => rfl, fun h => by omega⟩
  · refine ⟨_, cap, hv, hn, (fun h => by cases h), fun _ => ⟨g, 0, rfl, (Array.getElem?_eq_some_iff.1 hg).1, fun i x hx j u hu => ?_⟩⟩
    have k := flatV_get hok i x hx j u hu
    rw [← ht] at k
    have hlt : i * 39 + j < xs.length * 39 := by
      have := (List.getElem?_eq_some_iff.1 k).1
      rw [List.length_take] at this
      omega
    rw [List.getElem?_take, if_pos hlt] at k
    rw [Nat.zero_add, cell_row hg]
    simpa using k
end Go.Proofs.Ytigfcmnknijobaa.Cod
