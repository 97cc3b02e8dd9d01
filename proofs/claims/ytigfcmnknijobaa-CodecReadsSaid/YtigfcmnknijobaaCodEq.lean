/- DERIVED. Labels compared; the boxes of two Values. -/
import Derived.Test.YtigfcmnknijobaaCodVal
import Derived.Laws.StructEq
namespace Go.Proofs.Ytigfcmnknijobaa.Cod
open Go.RowKit Str
theorem fieldsLab : (Try.prog.fieldsOf 34).toList.map (fun f => (f.name == "_", f.type, f.offset)) = [(false, 3, 0), (false, 30, 1)] := by kernel_rfl
theorem eql_label (a b : Int) (c d : Nat) (w : World) : (binOp .eql 34 (.agg #[.int .i64 a, .int .u64 (c : Nat)]) (.agg #[.int .i64 b, .int .u64 (d : Nat)])).run Try.prog w = .ok (.bool (decide (a = b ∧ c = d))) w := by
  rw [run_eql_struct, run_equalIn_agg w 9999 34 _ _ (by kernel_rfl) (by kernel_rfl)]
  have hf := fieldsLab
  generalize (Try.prog.fieldsOf 34).toList = fs at hf
  have hl : fs.length = 2 := by have := congrArg List.length hf; simpa using this
  obtain ⟨f0, f1, rfl⟩ : ∃ f0 f1, fs = [f0, f1] := by
    match fs, hl with
    | [p, q], _ => exact ⟨p, q, rfl⟩
  simp only [List.map_cons, List.map_nil, List.cons.injEq, Prod.mk.injEq, and_true] at hf
  obtain ⟨⟨n0, t0, o0⟩, n1, t1, o1⟩ := hf
  have m0 : ¬ f0.name = "_" := by simpa using n0
  have m1 : ¬ f1.name = "_" := by simpa using n1
  simp [Op.eqFields, m0, m1, t0, t1, o0, o1, go_sem]
  by_cases hab : a = b <;> by_cases hcd : c = d <;> simp [hab, hcd]
  · omega
/-- the law's two boxes. -/
structure AX (X Y : Val) (w wx : World) : Prop where
  xr : wx.heap[w.heap.size]? = some (.cells X.cells 36 (0, 0))
  yr : wx.heap[w.heap.size + 1]? = some (.cells Y.cells 36 (0, 0))
  low : Below w.heap.size w wx
theorem AX.later {X Y : Val} {w wx wy : World} (h : AX X Y w wx) (hb : Below wx.heap.size wx wy) : AX X Y w wy := by
  have h1 := (Array.getElem?_eq_some_iff.1 h.xr).1
  have h2 := (Array.getElem?_eq_some_iff.1 h.yr).1
  exact ⟨(hb.block _ h1).trans h.xr, (hb.block _ h2).trans h.yr, h.low.trans (hb.mono (by omega))⟩
theorem num_nil (n : Nat) (hn : n < 18446744073709551616) (w : World) : Calls Try.prog 25 #[.slice none 0 0, .int .u64 (n : Nat)] w fun e w' => ∃ v, e = .returned v ∧ SlB (encN n) v w' ∧ Below w.heap.size w w' :=
  (num_any none 0 0 n [] hn rfl (by omega) w ⟨Nat.le_refl _, fun _ => rfl, fun h => absurd h (Nat.lt_irrefl 0)⟩).mono (by rintro e w' ⟨v, he, own, low⟩; exact ⟨v, he, NewB.sl (B := w.heap.size) own, low⟩)
theorem text_nil (s : ByteArray) (hs : s.size ≤ 5000) (w : World) : Calls Try.prog 27 #[.slice none 0 0, .string s] w fun e w' => ∃ v, e = .returned v ∧ SlB (textL s) v w' ∧ Below w.heap.size w w' :=
  (text_any none 0 0 s [] hs rfl (by omega) w ⟨Nat.le_refl _, fun _ => rfl, fun h => absurd h (Nat.lt_irrefl 0)⟩).mono (by rintro e w' ⟨v, he, own, low⟩; exact ⟨v, he, NewB.sl (B := w.heap.size) own, low⟩)
theorem label_nil (lv : Int) (cp : Nat) (w : World) : Calls Try.prog 31 #[.slice none 0 0, .agg #[.int .i64 lv, .int .u64 (cp : Nat)]] w fun e w' => ∃ v, e = .returned v ∧ SlB (labelL lv cp) v w' ∧ Below w.heap.size w w' :=
  (label_any none 0 0 lv cp [] rfl (by omega) w ⟨Nat.le_refl _, fun _ => rfl, fun h => absurd h (Nat.lt_irrefl 0)⟩).mono (by rintro e w' ⟨v, he, own, low⟩; exact ⟨v, he, NewB.sl own, low⟩)
theorem encN_small {n : Nat} (h : n < 18446744073709551616) : InB (encN n) ∧ (encN n).length ≤ 100000 := ⟨encN_in h, by have := encN_le n; omega⟩
theorem textL_small {s : ByteArray} (h : s.size ≤ 5000) : InB (textL s) ∧ (textL s).length ≤ 100000 := ⟨(encN_in (by omega)).append (bOf_in s), by have := encN_le s.size; have := bOf_length s; simp [textL]; omega⟩
theorem labelL_small (lv : Int) (cp : Nat) : InB (labelL lv cp) ∧ (labelL lv cp).length ≤ 100000 := ⟨(encN_in (uN_lt lv)).append (compL_in cp), by have := encN_le (uN lv); simp [labelL, compL_length]; omega⟩
end Go.Proofs.Ytigfcmnknijobaa.Cod
