/- DERIVED. A parameter that is a Value of layer 4's laws, opened. -/
import Derived.Test.YtigfcmnknijobaaCodBegMath
import Derived.Test.YtigfcmnknijobaaLawBytes
import Derived.Test.YtigfcmnknijobaaLawHash
import Derived.Laws.Bits128
namespace Go.Proofs.Ytigfcmnknijobaa.Cod
open Go.ChangeShapes Go.WideShapes Go.ChangeAt Go.RowKit
structure Val where
  k : Int
  num : Nat
  s : ByteArray
  h : List Int
  lv : Int
  cp : Nat
  n : Int
  mo : Int
def Val.cells (x : Val) : Array Value := (Value.int .u8 x.k :: Value.int .u64 (x.num : Nat) :: Value.string x.s :: (x.h.map (Value.int .u8) ++ [Value.int .i64 x.lv, Value.int .u64 (x.cp : Nat), Value.int .i64 x.n, Value.int .i64 x.mo])).toArray
structure Val.Ok (x : Val) : Prop where
  k0 : 0 ≤ x.k ∧ x.k < 256
  num : x.num < 18446744073709551616
  s : x.s.size ≤ maxLen
  hl : x.h.length = 32
  hb : InB x.h
  lv : -9223372036854775808 ≤ x.lv ∧ x.lv ≤ 9223372036854775807
  cp : x.cp < 18446744073709551616
  n : -9223372036854775808 ≤ x.n ∧ x.n ≤ 9223372036854775807
  mo : -9223372036854775808 ≤ x.mo ∧ x.mo ≤ 9223372036854775807
theorem Val.size (x : Val) (h : x.h.length = 32) : x.cells.size = 39 := by simp [Val.cells, h]
theorem Val.c0 (x : Val) : x.cells[0]? = some (.int .u8 x.k) := by simp [Val.cells]
theorem Val.c1 (x : Val) : x.cells[1]? = some (.int .u64 (x.num : Nat)) := by simp [Val.cells]
theorem Val.c2 (x : Val) : x.cells[2]? = some (.string x.s) := by simp [Val.cells]
theorem Val.ch (x : Val) (j : Nat) (h : j < x.h.length) : x.cells[3 + j]? = some (.int .u8 (x.h.getD j 0)) := by
  rw [show 3 + j = j + 1 + 1 + 1 by omega]
  simp only [Val.cells, List.getElem?_toArray, List.getElem?_cons_succ]
  rw [List.getElem?_append_left (by simpa using h)]
  simp [h]
theorem Val.ct (x : Val) (hl : x.h.length = 32) (j : Nat) : x.cells[35 + j]? = ([Value.int .i64 x.lv, Value.int .u64 (x.cp : Nat), Value.int .i64 x.n, Value.int .i64 x.mo] : List Value)[j]? := by
  rw [show 35 + j = 32 + j + 1 + 1 + 1 by omega]
  simp only [Val.cells, List.getElem?_toArray, List.getElem?_cons_succ]
  rw [List.getElem?_append_right (by simp [hl])]
  simp [hl]
/-- the Level set. -/
def Val.setLv (x : Val) (v : Int) : Val := { x with lv := v }
theorem Val.set35 (x : Val) (hl : x.h.length = 32) (v : Int) : x.cells.setIfInBounds 35 (.int .i64 v) = (x.setLv v).cells := by
  apply Array.ext_getElem?
  intro j
  rw [Array.getElem?_setIfInBounds]
  by_cases e : 35 = j
  · subst e
    rw [if_pos rfl, if_pos (by rw [x.size hl]; decide)]
    exact ((x.setLv v).ct hl 0).symm
  · rw [if_neg e]
    simp only [Val.cells, Val.setLv, List.getElem?_toArray]
    match j with
    | 0 => rfl
    | 1 => rfl
    | 2 => rfl
    | j + 3 =>
      simp only [List.getElem?_cons_succ]
      by_cases h : j < 32
      · rw [List.getElem?_append_left (by simp [hl, h]), List.getElem?_append_left (by simp [hl, h])]
      · rw [List.getElem?_append_right (by simp [hl]; omega), List.getElem?_append_right (by simp [hl]; omega)]
        simp only [List.length_map, hl]
        match hq : j - 32 with
        | 0 => omega
        | q + 1 => rfl
theorem cellsVal : Try.prog.cellsOf 36 = 39 := by kernel_rfl
theorem cellsLab : Try.prog.cellsOf 34 = 2 := by kernel_rfl
theorem cellsH : Try.prog.cellsOf 32 = 32 := by kernel_rfl
theorem cells64 : Try.prog.cellsOf 30 = 1 := by kernel_rfl
theorem cellsS : Try.prog.cellsOf 9 = 1 := by kernel_rfl
theorem cellsI : Try.prog.cellsOf 3 = 1 := by kernel_rfl
theorem wf64 {a : Int} (h : (Lit.int .u64 a).wf = true) : 0 ≤ a ∧ a < 18446744073709551616 := by
  have h2 : 0 ≤ a ∧ a ≤ 18446744073709551615 := by simpa [Lit.wf, IntKind.bits, IntKind.signed, IntKind.min, IntKind.max] using h
  omega
theorem wfI {a : Int} (h : (Lit.int .i64 a).wf = true) : -9223372036854775808 ≤ a ∧ a ≤ 9223372036854775807 := by
  simpa [Lit.wf, IntKind.bits, IntKind.signed, IntKind.min, IntKind.max] using h
theorem take1 {cs : List Value} {i : Nat} {v : Value} (h : (cs.drop i).take 1 = [v]) : cs.drop i = v :: cs.drop (i + 1) := by
  have e := (List.take_append_drop 1 (cs.drop i)).symm
  rw [h, List.drop_drop] at e
  exact e
/-- the cells of a Value. -/
theorem val_cells {H : Type} {enc : TypeId × Value → H} {W : World} {fuel : Nat} {cs : List Value} {y : DataW H × List MemPlace} (hl : cs.length = 39)
    (hf : DataW.trod enc Try.prog W 0 (fun _ => true) true fuel 36 cs = some y) : ∃ x : Val, cs = x.cells.toList ∧ x.Ok := by
  obtain ⟨xs, n, _, _, _, hlen, hff⟩ := DataW.trod_struct Try.underlying36 hf
  obtain ⟨y0, y1, y2, y3, y4, y5, y6, rfl⟩ : ∃ y0 y1 y2 y3 y4 y5 y6, xs = [y0, y1, y2, y3, y4, y5, y6] := by
    match xs, hlen with
    | [a, b, c, d, e, f, g], _ => exact ⟨a, b, c, d, e, f, g, rfl⟩
  have g0 : DataW.trod enc Try.prog W 0 (fun _ => true) true n 5 (List.take (Try.prog.cellsOf 5) (List.drop 0 cs)) = some y0 := hff 0 _ rfl
  have g1 : DataW.trod enc Try.prog W 0 (fun _ => true) true n 30 (List.take (Try.prog.cellsOf 30) (List.drop 1 cs)) = some y1 := hff 1 _ rfl
  have g2 : DataW.trod enc Try.prog W 0 (fun _ => true) true n 9 (List.take (Try.prog.cellsOf 9) (List.drop 2 cs)) = some y2 := hff 2 _ rfl
  have g3 : DataW.trod enc Try.prog W 0 (fun _ => true) true n 32 (List.take (Try.prog.cellsOf 32) (List.drop 3 cs)) = some y3 := hff 3 _ rfl
  have g4 : DataW.trod enc Try.prog W 0 (fun _ => true) true n 34 (List.take (Try.prog.cellsOf 34) (List.drop 35 cs)) = some y4 := hff 4 _ rfl
  have g5 : DataW.trod enc Try.prog W 0 (fun _ => true) true n 3 (List.take (Try.prog.cellsOf 3) (List.drop 37 cs)) = some y5 := hff 5 _ rfl
  have g6 : DataW.trod enc Try.prog W 0 (fun _ => true) true n 3 (List.take (Try.prog.cellsOf 3) (List.drop 38 cs)) = some y6 := hff 6 _ rfl
  rw [cells5] at g0
  rw [cells64] at g1
  rw [cellsS] at g2
  rw [cellsH] at g3
  rw [cellsLab] at g4
  rw [cellsI] at g5 g6
  obtain ⟨k, hk, _, hkw⟩ := DataW.trod_int Try.underlying5 g0
  obtain ⟨num, hnum, _, hnw⟩ := DataW.trod_int Try.underlying30 g1
  obtain ⟨st, hst, _, hsw⟩ := DataW.trod_string Try.underlying9 g2
  obtain ⟨hh, hhe, hh1, hh2⟩ := trod_arr arrHash Try.underlying5 (xs := ((cs.drop 3).take 32).toArray) (by simp; omega) (d := y3.1) (p := y3.2) ⟨n, g3⟩
  obtain ⟨ls, m, _, _, _, hlen2, hfl⟩ := DataW.trod_struct Try.underlying34 g4
  obtain ⟨l0, l1, rfl⟩ : ∃ l0 l1, ls = [l0, l1] := by
    match ls, hlen2 with
    | [a, b], _ => exact ⟨a, b, rfl⟩
  have q0 : DataW.trod enc Try.prog W 0 (fun _ => true) true m 3 (List.take (Try.prog.cellsOf 3) (List.drop 0 (List.take 2 (List.drop 35 cs)))) = some l0 := hfl 0 _ rfl
  have q1 : DataW.trod enc Try.prog W 0 (fun _ => true) true m 30 (List.take (Try.prog.cellsOf 30) (List.drop 1 (List.take 2 (List.drop 35 cs)))) = some l1 := hfl 1 _ rfl
  rw [cellsI] at q0
  rw [cells64] at q1
  obtain ⟨lv, hlv, _, hlw⟩ := DataW.trod_int Try.underlying3 q0
  obtain ⟨cp, hcp, _, hcw⟩ := DataW.trod_int Try.underlying30 q1
  obtain ⟨nn, hnn, _, hnnw⟩ := DataW.trod_int Try.underlying3 g5
  obtain ⟨mo, hmo, _, hmow⟩ := DataW.trod_int Try.underlying3 g6
  have hlv' : (cs.drop 35).take 1 = [.int .i64 lv] := by rw [List.drop_zero, List.take_take] at hlv; exact hlv
  have hcp' : (cs.drop 36).take 1 = [.int .u64 cp] := by rw [List.drop_take, List.drop_drop, List.take_take] at hcp; exact hcp
  obtain ⟨num, rfl⟩ := Int.eq_ofNat_of_zero_le (wf64 hnw).1
  obtain ⟨cp, rfl⟩ := Int.eq_ofNat_of_zero_le (wf64 hcw).1
  have hkv : 0 ≤ k ∧ k ≤ 255 := by simpa [Lit.wf, IntKind.bits, IntKind.signed, IntKind.min, IntKind.max] using hkw
  have hK : (cs.drop 3).take 32 = hh.map (Value.int .u8) := by simpa using congrArg Array.toList hhe
  refine ⟨⟨k, num, st, hh, lv, cp, nn, mo⟩, ?_, ⟨⟨hkv.1, (show k < 256 by omega)⟩, (show num < 18446744073709551616 by have := (wf64 hnw).2; omega), hsw, hh1, inB_wf hh1 hh2, wfI hlw, (show cp < 18446744073709551616 by have := (wf64 hcw).2; omega), wfI hnnw, wfI hmow⟩⟩
  have e0 := take1 hk
  have e1 := take1 hnum
  have e2 := take1 hst
  have e3 : cs.drop 3 = hh.map (Value.int .u8) ++ cs.drop 35 := by
    have e := (List.take_append_drop 32 (cs.drop 3)).symm
    rw [hK, List.drop_drop] at e
    exact e
  have e4 := take1 hlv'
  have e5 := take1 hcp'
  have e6 := take1 hnn
  have e7 := take1 hmo
  have e8 : cs.drop 39 = [] := List.drop_eq_nil_of_le (by omega)
  rw [List.drop_zero] at e0
  simp only [Nat.reduceAdd] at e0 e1 e2 e4 e5 e6 e7
  simp only [Val.cells]
  rw [e0, e1, e2, e3, e4, e5, e6, e7, e8]
/-- a parameter that is a Value. -/
theorem open_val {H : Type} {enc : TypeId × Value → H} {W : World} {base : Nat} {v : Value} {d : DataW H} {p : List MemPlace} (hv : Value.okWide Try.prog W .any base 36 v)
    (h : DataW.Trod enc Try.prog W 0 (fun _ => true) true 36 v d p) : ∃ x : Val, v = .agg x.cells ∧ x.Ok := by
  obtain ⟨cs, rfl, hsz⟩ := okWide_struct Try.underlying36 hv
  rw [cellsVal] at hsz
  obtain ⟨fuel, hf⟩ := h
  obtain ⟨x, hx, ok⟩ := val_cells (by simpa [Value.cells] using hsz) hf
  exact ⟨x, by rw [show cs = x.cells from Array.ext' hx], ok⟩
theorem i64_and15 (n : Int) : bits .and .i64 n 15 = n % 16 := by
  show IntKind.i64.wrap ((BitVec.ofInt 64 n &&& BitVec.ofInt 64 15).toNat : Int) = _
  have h : (BitVec.ofInt 64 n &&& BitVec.ofInt 64 15).toNat = (n % 16).toNat := by
    rw [BitVec.toNat_and, BitVec.toNat_ofInt, show (BitVec.ofInt 64 15).toNat = 2 ^ 4 - 1 from rfl, Nat.and_two_pow_sub_one_eq_mod]
    omega
  rw [h, IntKind.wrap_i64]
  omega
end Go.Proofs.Ytigfcmnknijobaa.Cod
