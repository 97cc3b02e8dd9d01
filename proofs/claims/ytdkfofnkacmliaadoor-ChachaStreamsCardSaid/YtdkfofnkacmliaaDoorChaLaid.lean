/- DERIVED. What the rows' list of the table gives the walks; a world for the witness. -/
import Derived.Test.YtdkfofnkacmliaaDoorLawCard
import Derived.Test.YtdkfofnkacmliaaDoorLawBytes
import Derived.Test.YtdkfofnkacmliaaDoorLawHash
import Derived.Test.YtdkfofnkacmliaaDoorChaRound
namespace Go.Proofs.YtdkfofnkacmliaaDoor.Cha
open Go.ChangeShapes Go.WideShapes Go.ChangeAt Go.RowKit
theorem gQ : Tryd.prog.globalNamed "redwax/chacha.quarters" = some 0 := by kernel_rfl
theorem gQType : (Tryd.prog.globals[0]?).map (·.type) = some 65 := by kernel_rfl
theorem cellsQ : Tryd.prog.cellsOf 65 = 32 := by kernel_rfl
theorem cellsQ4 : Tryd.prog.cellsOf 64 = 4 := by kernel_rfl
theorem cellsQ1 : Tryd.prog.cellsOf 3 = 1 := by kernel_rfl
/-- the rows' list. -/
def laidList : List (String × DataW Unit) := [("redwax/chacha.quarters", Rows.laid_redwax_chacha_quarters)]
/-- the table's four numbers at k. -/
def rowQ (k : Nat) : List Int := [(qn k 0 : Nat), (qn k 1 : Nat), (qn k 2 : Nat), (qn k 3 : Nat)]
theorem laid_shape : (Rows.laid_redwax_chacha_quarters : DataW Unit) = .agg ((List.range 8).map fun k => Lib.tabData .i64 (rowQ k)) := by rfl
theorem nested {H : Type} {enc : TypeId × Value → H} {w : World} {base : Nat} {sp : Nat → Bool} {held : Bool} {fuel : Nat} {cs : List Value} {p : List MemPlace}
    (h : DataW.trod enc Tryd.prog w base sp held fuel 65 cs = some (.agg ((List.range 8).map fun k => Lib.tabData .i64 (rowQ k)), p)) : cs = QW.map (Value.int .i64) := by
  cases fuel with
  | zero => simp [DataW.trod] at h
  | succ fuel =>
    simp only [DataW.trod, Tryd.underlying65, cellsQ4, cellsQ] at h
    split at h
    · rename_i hl
      obtain ⟨xs, hm, hx⟩ := Option.map_eq_some_iff.1 h
      have hxs : xs.map (·.1) = (List.range 8).map fun k => (Lib.tabData .i64 (rowQ k) : DataW H) := by
        have := congrArg Prod.fst hx
        simpa using this
      have each : ∀ k, k < 8 → (cs.drop (k * 4)).take 4 = (rowQ k).map (Value.int .i64) := by
        intro k hk
        obtain ⟨b, hb, hf⟩ := Lib.mapM_at hm k k (by simp [hk])
        have h2 : (xs.map (·.1))[k]? = some b.1 := by simp [hb]
        rw [hxs] at h2
        simp only [List.getElem?_map, List.getElem?_range hk, Option.map_some, Option.some.injEq] at h2
        have hf' : DataW.trod enc Tryd.prog w base sp held fuel 64 ((cs.drop (k * 4)).take 4) = some (Lib.tabData .i64 (rowQ k), b.2) := by rw [hf, h2]
        exact Lib.cells_of_tab Tryd.underlying64 Tryd.underlying3 cellsQ1 cellsQ4 hf'
      have hlen : cs.length = 32 := by simpa using hl
      apply List.ext_getElem?
      intro j
      by_cases hj : j < 32
      · have he := each (j / 4) (by omega)
        have h1 : ((cs.drop (j / 4 * 4)).take 4)[j % 4]? = cs[j]? := by
          rw [List.getElem?_take, if_pos (by omega), List.getElem?_drop, show j / 4 * 4 + j % 4 = j by omega]
        rw [← h1, he]
        have all : ∀ j, j < 32 → (rowQ (j / 4))[j % 4]? = QW[j]? := by decide
        rw [List.getElem?_map, List.getElem?_map, all j hj]
      · rw [List.getElem?_eq_none (by omega), List.getElem?_eq_none (by simp [QW, QN]; omega)]
    · cases h
theorem laid_of {W : World} (h : laidMetH Tryd.prog laidList W) : Laid W := by
  obtain ⟨ps, ⟨g0, t0, cs0, f0, p0, q0, hg0, ht0, hv0, hd0, _⟩, _⟩ := h
  obtain rfl := Option.some.inj (gQ.symm.trans hg0)
  obtain rfl := Option.some.inj (gQType.symm.trans ht0)
  rw [laid_shape] at hd0
  have hc := nested hd0
  unfold World.var? at hv0
  rw [gQ] at hv0
  simp only [Option.bind_some] at hv0
  split at hv0
  · rename_i cs t fr hh
    refine ⟨t, fr, ?_⟩
    rw [hh]
    have e : cs = Arr.nums .i64 QW := by
      have := Option.some.inj hv0
      unfold Arr.nums
      rw [← hc, this]
    rw [e]
  · cases hv0
/-- a world for the witness: the settled one, the table laid. -/
noncomputable def laidWorld (os : Os) : World :=
  { World.holding Tryd.prog os ⟨#[], #[], []⟩ with heap := (World.holding Tryd.prog os ⟨#[], #[], []⟩).heap.modify 0 (fillRow (QW.map (Value.int .i64)).toArray) }
end Go.Proofs.YtdkfofnkacmliaaDoor.Cha
