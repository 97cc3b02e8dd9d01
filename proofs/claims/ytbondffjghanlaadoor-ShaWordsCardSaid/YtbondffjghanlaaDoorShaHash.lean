/- DERIVED. A parameter that is a digest, opened: 32 bytes. -/
import Derived.Test.YtbondffjghanlaaDoorShaLaid
import Derived.WideKeyArr2
namespace Go.Proofs.YtbondffjghanlaaDoor
open Go.ChangeShapes Go.WideShapes Go.WideMaps
/-- the number in a value. -/
def numIn : Value → Int
  | .int _ q => q
  | _ => 0
theorem mapM_each {α β : Type} (f : α → Option β) : ∀ (L : List α) (ys : List β), L.mapM f = some ys → ∀ i ∈ L, ∃ y, f i = some y
  | [], _, _, _, h => by cases h
  | a :: L, ys, h, i, hi => by
    rw [List.mapM_cons] at h
    simp only [bind, Option.bind_eq_some_iff, pure, Option.some.injEq] at h
    obtain ⟨y, hy, zs, hzs, _⟩ := h
    rcases List.mem_cons.1 hi with rfl | hi
    · exact ⟨y, hy⟩
    · exact mapM_each f L zs hzs i hi
theorem arr35 : ArrKey Tryd.prog 35 5 32 := ⟨by kernel_rfl, by kernel_rfl, by kernel_rfl, by kernel_rfl⟩
theorem open_hash {H : Type} {enc : TypeId × Value → H} {W : World} {base : Nat} {v : Value} {d : DataW H} {p : List MemPlace} (hv : Value.okWide Tryd.prog W .any base 35 v)
    (h : DataW.Trod enc Tryd.prog W 0 (fun _ => true) true 35 v d p) : ∃ l : List Int, v = .agg (u8s l) ∧ l.length = 32 ∧ InB l := by
  obtain ⟨xs, rfl, hn⟩ := WideMaps.okWide_arr arr35 hv
  obtain ⟨fuel, hf⟩ := h
  cases fuel with
  | zero => simp [DataW.trod] at hf
  | succ m =>
    rw [DataW.trod_step] at hf
    unfold DataW.trodStep at hf
    simp only [arr35.hu, Value.cells] at hf
    rw [if_pos (by rw [arr35.size]; simpa using hn)] at hf
    simp only [Option.map_eq_some_iff] at hf
    obtain ⟨ys, hy, _⟩ := hf
    have each : ∀ i, i < 32 → ∃ a : Int, xs[i]? = some (.int .u8 a) ∧ 0 ≤ a ∧ a < 256 := by
      intro i hi
      obtain ⟨y, hy1⟩ := mapM_each _ _ _ hy i (List.mem_range.2 hi)
      obtain ⟨a, ea, _, wa⟩ := DataW.trod_int Tryd.underlying5 hy1
      rw [show Tryd.prog.cellsOf 5 = 1 from arr35.one, Nat.mul_one] at ea
      have e2 : xs.toList[i]? = some (.int .u8 a) := by
        have := congrArg (fun l : List Value => l[0]?) ea
        simpa [List.getElem?_take, List.getElem?_drop] using this
      rw [Array.getElem?_toList] at e2
      refine ⟨a, e2, ?_⟩
      have h2 : 0 ≤ a ∧ a ≤ 255 := by simpa [Lit.wf, IntKind.bits, IntKind.signed, IntKind.min, IntKind.max] using wa
      omega
    refine ⟨xs.toList.map numIn, ?_, by rw [List.length_map, Array.length_toList, hn], fun j => ?_⟩
    · congr 1
      refine Array.ext_getElem? fun i => ?_
      by_cases hi : i < 32
      · obtain ⟨a, ha, _⟩ := each i hi
        rw [u8s_get _ i (by rw [List.length_map, Array.length_toList, hn]; exact hi), ha]
        simp [List.getD_eq_getElem?_getD, ha, numIn]
      · rw [Array.getElem?_eq_none (by omega), Array.getElem?_eq_none (by rw [u8s_size, List.length_map, Array.length_toList, hn]; omega)]
    · by_cases hj : j < 32
      · obtain ⟨a, ha, h0, h1⟩ := each j hj
        simp [List.getD_eq_getElem?_getD, ha, numIn]
        omega
      · rw [List.getD_eq_getElem?_getD, List.getElem?_eq_none (by rw [List.length_map, Array.length_toList, hn]; omega)]
        simp
end Go.Proofs.YtbondffjghanlaaDoor
