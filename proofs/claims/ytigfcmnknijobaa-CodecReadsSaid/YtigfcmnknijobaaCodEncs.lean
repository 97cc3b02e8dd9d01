/- DERIVED. The Values' bytes, one behind the other; what CodecWrites' loop holds to. -/
import Derived.Test.YtigfcmnknijobaaCodWritten
namespace Go.Proofs.Ytigfcmnknijobaa.Cod
open Go.RowKit Str
theorem Ap.symm {a b : Value} (h : Ap a b) : Ap b a := fun k e1 e2 => h k e2 e1
/-- the Values' bytes, one behind the other. -/
def encVs (L : List Int) (xs : List Val) (k : Nat) : List Int := L ++ ((xs.take k).map encV).flatten
theorem encVs_zero (L : List Int) (xs : List Val) : encVs L xs 0 = L := by simp [encVs]
theorem encVs_succ {L : List Int} {xs : List Val} {k : Nat} {x : Val} (h : xs[k]? = some x) : encVs L xs (k + 1) = encVs L xs k ++ encV x := by
  unfold encVs
  rw [List.take_add_one, h]
  simp
theorem encVs_le {L : List Int} {xs : List Val} (hok : ∀ x ∈ xs, x.Ok) (hf : FewOk xs) : ∀ k, (encVs L xs k).length ≤ L.length + 320 * k := by
  intro k
  induction k with
  | zero => simp [encVs]
  | succ k ih =>
    cases e : xs[k]? with
    | none => 
      unfold encVs at ih ⊢
      rw [List.take_add_one, e]
      simp at ih ⊢
      omega
    | some x =>
      have := (encV_in (hok x (List.mem_of_getElem? e)) (hf.2 k x e)).2
      rw [encVs_succ e, List.length_append]
      omega
/-- what the law's loop holds to. -/
structure WI (B : List Int) (xs : List Val) (W : World) (k : Nat) (s5 s6 : Value) (wr : World) : Prop where
  sl : SlB (encVs B xs k) s5 wr
  own : NewB W.heap.size (encVs B xs k) s6 wr
  ap : Ap s5 s6
  low : Below W.heap.size W wr
theorem infoVal : (Try.prog.info? 36).map (·.size) = some 39 := by kernel_rfl
theorem made8 (W : World) : (W.alloc (.cells #[] 5)).ownsRow W.heap.size 5 1 (.slice (some ⟨W.heap.size, 0, none⟩) 0 0) 0 (vals []) :=
  ⟨rfl, .inr ⟨W.heap.size, 0, #[], rfl, Nat.le_refl _, Go.heap_alloc_new _ _, Nat.le_refl _, Nat.zero_le _, rfl, rfl⟩⟩
end Go.Proofs.Ytigfcmnknijobaa.Cod
