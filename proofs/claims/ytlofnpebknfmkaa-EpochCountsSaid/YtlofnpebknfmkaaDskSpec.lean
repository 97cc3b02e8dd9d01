/- DERIVED. A disk on lists: what its calls make. No program. -/
import Derived.Test.YtlofnpebknfmkaaChg
namespace Go.Proofs.Ytlofnpebknfmkaa.Dsk
open Go.RowKit
structure DS where
  data : List Int
  writes : Int
  off : Bool
  laid : Bool
  whole : Int
  mask : List Int
def z16 : List Int := List.replicate 16 0
/-- is byte i of the mask's sector written? -/
def bitX (x : Int) (s : Nat) : Bool := (bits .and .u8 (x / 2 ^ s) 1 == 1)
def bitM (m : List Int) (i : Nat) : Bool := bitX (m.getD (i / 8) 0) (i % 8)
/-- the sector at, of n. -/
def secL (d : List Int) (k : Nat) : List Int := (d.drop (k * 128)).take 128
def tornL (m o b : List Int) : List Int := (List.range 128).map fun i => if bitM m i then b.getD i 0 else o.getD i 0
def DS.due (D : DS) : Bool := D.laid && decide (D.whole = 0)
/-- a sector written. -/
def stepD (D : DS) (k : Nat) (b : List Int) : DS :=
  if D.due then { data := splice D.data (k * 128) (tornL D.mask (secL D.data k) b), writes := D.writes + 1, off := true, laid := false, whole := 0, mask := z16 }
  else { D with data := splice D.data (k * 128) b, writes := D.writes + 1, whole := if D.laid then D.whole - 1 else D.whole }
/-- n sectors written, from the i-th of b on. -/
def runD (D : DS) (at_ : Nat) (b : List Int) (i : Nat) : Nat → DS × Int
  | 0 => (D, 0)
  | n + 1 => if (stepD D (at_ + i) (secL b i)).off then (stepD D (at_ + i) (secL b i), 12) else runD (stepD D (at_ + i) (secL b i)) at_ b (i + 1) n
def DS.secs (D : DS) : Nat := D.data.length / 128
def withinI (k n o : Int) : Bool := decide (0 ≤ k) && decide (0 ≤ n) && decide (n ≤ o - k)
def refE (D : DS) (fits : Bool) : Int := if fits then (if D.off then 12 else 0) else 2
structure DS.Ok (D : DS) : Prop where
  inb : InB D.data
  whole128 : D.data.length = D.secs * 128
  one : 1 ≤ D.secs
  most : D.secs ≤ 16384
  mlen : D.mask.length = 16
  minb : InB D.mask
  wh : 0 ≤ D.whole ∧ D.whole ≤ 9223372036854775807
  wr : 0 ≤ D.writes
theorem splice_get {α : Type} (L : List α) (o : Nat) (cs : List α) (h : o + cs.length ≤ L.length) (j : Nat) : (splice L o cs)[j]? = if j < o then L[j]? else if j < o + cs.length then cs[j - o]? else L[j]? := by
  have hl : (L.take o).length = o := by rw [List.length_take]; omega
  unfold splice
  by_cases h1 : j < o
  · rw [if_pos h1, List.getElem?_append_left (by omega), List.getElem?_take, if_pos h1]
  · rw [if_neg h1, List.getElem?_append_right (by omega), hl]
    by_cases h2 : j < o + cs.length
    · rw [if_pos h2, List.getElem?_append_left (by omega)]
    · rw [if_neg h2, List.getElem?_append_right (by omega), List.getElem?_drop]
      congr 1; omega
theorem splice_len {α : Type} (L : List α) (o : Nat) (cs : List α) (h : o + cs.length ≤ L.length) : (splice L o cs).length = L.length := by
  simp [splice]; omega
theorem splice_more (L : List Value) (o k : Nat) (T : List Int) (x : Int) (hk : k < T.length) (h : o + T.length ≤ L.length) (hx : x = T.getD k 0) : (splice L o (vals (T.take k))).toArray.setIfInBounds (o + k) (.int .u8 x) = (splice L o (vals (T.take (k + 1)))).toArray := by
  have l1 : (vals (T.take k)).length = k := by rw [vals_length, List.length_take]; omega
  have l2 : (vals (T.take (k + 1))).length = k + 1 := by rw [vals_length, List.length_take]; omega
  apply Array.ext_getElem?
  intro j
  rw [Array.getElem?_setIfInBounds, List.getElem?_toArray, List.getElem?_toArray, splice_get _ _ _ (by omega), splice_get _ _ _ (by omega), l1, l2, List.size_toArray, splice_len _ _ _ (by omega)]
  by_cases e : o + k = j
  · subst e
    rw [if_pos rfl, if_pos (by omega), if_neg (by omega), if_pos (by omega), Nat.add_sub_cancel_left]
    simp [vals, hx, hk]
  · rw [if_neg e]
    by_cases h1 : j < o
    · rw [if_pos h1, if_pos h1]
    · rw [if_neg h1, if_neg h1]
      by_cases h2 : j < o + k
      · rw [if_pos h2, if_pos (by omega)]
        simp [vals, show j - o < k by omega, show j - o < k + 1 by omega]
      · rw [if_neg h2, if_neg (by omega)]
theorem splice_same (L : List Value) (o k : Nat) (T : List Int) (hk : k < T.length) (h : o + T.length ≤ L.length) (hx : L[o + k]? = some (.int .u8 (T.getD k 0))) : splice L o (vals (T.take k)) = splice L o (vals (T.take (k + 1))) := by
  have l1 : (vals (T.take k)).length = k := by rw [vals_length, List.length_take]; omega
  have l2 : (vals (T.take (k + 1))).length = k + 1 := by rw [vals_length, List.length_take]; omega
  apply List.ext_getElem?
  intro j
  rw [splice_get _ _ _ (by omega), splice_get _ _ _ (by omega), l1, l2]
  by_cases h1 : j < o
  · rw [if_pos h1, if_pos h1]
  · rw [if_neg h1, if_neg h1]
    by_cases h2 : j < o + k
    · rw [if_pos h2, if_pos (by omega)]
      simp [vals, show j - o < k by omega, show j - o < k + 1 by omega]
    · rw [if_neg h2]
      by_cases h3 : j = o + k
      · subst h3
        rw [if_pos (by omega), hx, Nat.add_sub_cancel_left]
        simp [vals, hk]
      · rw [if_neg (by omega)]
theorem torn_len (m o b : List Int) : (tornL m o b).length = 128 := by simp [tornL]
theorem torn_get (m o b : List Int) (k : Nat) (h : k < 128) : (tornL m o b).getD k 0 = if bitM m k then b.getD k 0 else o.getD k 0 := by
  simp [tornL, List.getD_eq_getElem?_getD, h]
theorem secL_get (d : List Int) (k j : Nat) (h : j < 128) : (secL d k).getD j 0 = d.getD (k * 128 + j) 0 := by
  simp [secL, List.getD_eq_getElem?_getD, h]
theorem secL_len (d : List Int) (k : Nat) (h : k * 128 + 128 ≤ d.length) : (secL d k).length = 128 := by
  simp [secL]; omega
end Go.Proofs.Ytlofnpebknfmkaa.Dsk
