/- DERIVED. A parameter that is a Case of layer 3's laws, opened. -/
import Derived.Test.YtdkfofnkacmliaaDoorChaLaid
import Derived.Test.YtdkfofnkacmliaaDoorChaBack
namespace Go.Proofs.YtdkfofnkacmliaaDoor.Cha
open Go.ChangeShapes Go.WideShapes Go.ChangeAt Go.RowKit
theorem arrNonce : WideMaps.ArrKey Tryd.prog 27 5 12 := ⟨by kernel_rfl, by kernel_rfl, by kernel_rfl, by kernel_rfl⟩
theorem cellsCase : Tryd.prog.cellsOf 37 = 45 := by kernel_rfl
theorem cellsKey : Tryd.prog.cellsOf 25 = 32 := by kernel_rfl
theorem cellsCtr : Tryd.prog.cellsOf 22 = 1 := by kernel_rfl
theorem cellsNon : Tryd.prog.cellsOf 27 = 12 := by kernel_rfl
/-- a Case of zeros. -/
def caseZ : Array Value := (List.replicate 32 (Value.int .u8 0) ++ (Value.int .u32 0 :: List.replicate 12 (Value.int .u8 0))).toArray
theorem cut45 (cs : List Value) : cs = cs.take 32 ++ ((cs.drop 32).take 1 ++ (cs.drop 33)) := by
  have h1 : cs = cs.take 32 ++ cs.drop 32 := (List.take_append_drop 32 cs).symm
  have h2 : cs.drop 32 = (cs.drop 32).take 1 ++ (cs.drop 32).drop 1 := (List.take_append_drop 1 _).symm
  rw [List.drop_drop] at h2
  rw [← h2]
  exact h1
theorem open_case {H : Type} {enc : TypeId × Value → H} {W : World} {base : Nat} {v : Value} {d : DataW H} {p : List MemPlace} (hv : Value.okWide Tryd.prog W .any base 37 v)
    (h : DataW.Trod enc Tryd.prog W 0 (fun _ => true) true 37 v d p) : ∃ (K : List Int) (c : Int) (Nn : List Int), v = .agg (caseC K c Nn) ∧ K.length = 32 ∧ Nn.length = 12 ∧ InB K ∧ InB Nn ∧ 0 ≤ c ∧ c < 4294967296 := by
  obtain ⟨cs, rfl, hsz⟩ := okWide_struct Tryd.underlying37 hv
  rw [cellsCase] at hsz
  obtain ⟨fuel, hf⟩ := h
  obtain ⟨xs, n, _, _, _, hlen, hff⟩ := DataW.trod_struct Tryd.underlying37 hf
  have hl : cs.toList.length = 45 := by simpa using hsz
  obtain ⟨y0, y1, y2, rfl⟩ : ∃ y0 y1 y2, xs = [y0, y1, y2] := by
    match xs, hlen with
    | [a, b, c], _ => exact ⟨a, b, c, rfl⟩
  have g0 : DataW.trod enc Tryd.prog W 0 (fun _ => true) true n 25 (List.take (Tryd.prog.cellsOf 25) (List.drop 0 cs.toList)) = some y0 := hff 0 _ rfl
  have g1 : DataW.trod enc Tryd.prog W 0 (fun _ => true) true n 22 (List.take (Tryd.prog.cellsOf 22) (List.drop 32 cs.toList)) = some y1 := hff 1 _ rfl
  have g2 : DataW.trod enc Tryd.prog W 0 (fun _ => true) true n 27 (List.take (Tryd.prog.cellsOf 27) (List.drop 33 cs.toList)) = some y2 := hff 2 _ rfl
  rw [cellsKey] at g0
  rw [cellsCtr] at g1
  rw [cellsNon] at g2
  obtain ⟨c, hc, _, hcw⟩ := DataW.trod_int Tryd.underlying22 g1
  obtain ⟨K, hK, hK1, hK2⟩ := trod_arr arrHash Tryd.underlying5 (xs := (cs.toList.take 32).toArray) (by simp; omega) (d := y0.1) (p := y0.2) ⟨n, g0⟩
  obtain ⟨Nn, hN, hN1, hN2⟩ := trod_arr arrNonce Tryd.underlying5 (xs := ((cs.toList.drop 33).take 12).toArray) (by simp; omega) (d := y2.1) (p := y2.2) ⟨n, g2⟩
  have hcv : 0 ≤ c ∧ c ≤ 4294967295 := by simpa [Lit.wf, IntKind.bits, IntKind.signed, IntKind.min, IntKind.max] using hcw
  have hK' : cs.toList.take 32 = K.map (Value.int .u8) := by simpa using congrArg Array.toList hK
  have hN' : cs.toList.drop 33 = Nn.map (Value.int .u8) := by
    rw [List.take_of_length_le (by rw [List.length_drop]; omega)] at hN
    simpa using congrArg Array.toList hN
  refine ⟨K, c, Nn, ?_, hK1, hN1, inB_wf hK1 hK2, inB_wf hN1 hN2, hcv.1, by omega⟩
  have e := cut45 cs.toList
  rw [hK', hN', hc] at e
  unfold caseC
  congr 1
  have e2 := congrArg List.toArray e
  simpa using e2
end Go.Proofs.YtdkfofnkacmliaaDoor.Cha
