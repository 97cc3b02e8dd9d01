/- DERIVED. Loads of the laws' own parameters: a key, a Where; their boxes. -/
import Derived.Test.YtkjhoanlkkcfkaaGreatDoorSgmWorks
import Derived.Test.YtkjhoanlkkcfkaaGreatDoorMsgt2
namespace Go.Proofs.YtkjhoanlkkcfkaaGreatDoor.Sgm
open Go.RowKit Dsk Slt Epo
noncomputable def loadH (v : Value) : Sem Value := Instr.loadAt 24 v
theorem loadAtH (v : Value) : Instr.loadAt 24 v = loadH v := rfl
theorem loadH_eq {w : World} {b : Nat} {key : List Int} (hk : key.length = 32) (h : w.rangeAt b 0 (vals key)) : (loadH (.pointer (some ⟨b, 0, none⟩))).run Tryz.prog w = .ok (.agg (u8s key)) w := by
  unfold loadH
  exact run_loadAt_mid (P := Tryz.prog) w b 0 24 (vals key) _ h Tryz.underlying24 rfl (by rw [vals_length, hk]; exact Seal.infoH)
noncomputable def loadB (v : Value) : Sem Value := Instr.loadAt 27 v
theorem loadAtB (v : Value) : Instr.loadAt 27 v = loadB v := rfl
theorem loadB_eq {w : World} {b : Nat} {x y : Value} (h : w.rangeAt b 1 [x, y]) : (loadB (.pointer (some ⟨b, 1, none⟩))).run Tryz.prog w = .ok (.agg #[x, y]) w := by
  unfold loadB
  exact run_loadAt_mid (P := Tryz.prog) w b 1 27 [x, y] _ h Tryz.underlying27 rfl (by kernel_rfl)
noncomputable def loadW (v : Value) : Sem Value := Instr.loadAt 29 v
theorem loadAtW (v : Value) : Instr.loadAt 29 v = loadW v := rfl
theorem loadW_eq {w : World} {b : Nat} {x y z u : Value} (h : w.rangeAt b 0 [x, y, z, u]) : (loadW (.pointer (some ⟨b, 0, none⟩))).run Tryz.prog w = .ok (.agg #[x, y, z, u]) w := by
  unfold loadW
  exact run_loadAt_mid (P := Tryz.prog) w b 0 29 [x, y, z, u] _ h Tryz.underlying29 rfl (by kernel_rfl)
attribute [irreducible] loadH loadB loadW
attribute [local go_sem ↓ high] loadAtH loadAtB loadAtW
theorem range_of {w : World} {b o : Nat} {C : Array Value} {T : TypeId} {fr : Nat × Nat} (h : w.heap[b]? = some (.cells C T fr)) {l : List Value} (hl : ∀ j v, l[j]? = some v → C[o + j]? = some v) : w.rangeAt b o l := fun j v hv => by
  rw [cell_row h]
  exact hl j v hv
/-- what lies in the two boxes. -/
structure Bx (w : World) (bk bw : Nat) (key : List Int) (s : ByteArray) (lv : Int) (cp sc : Nat) : Prop where
  k : w.heap[bk]? = some (.cells (u8s key) 24 (0, 0))
  w : w.heap[bw]? = some (.cells #[.string s, .int .i64 lv, .int .u64 (cp : Nat), .int .u8 (sc : Nat)] 29 (0, 0))
theorem Bx.facts {w : World} {bk bw : Nat} {key : List Int} {s : ByteArray} {lv : Int} {cp sc : Nat} (h : Bx w bk bw key s lv cp sc) (hk : key.length = 32) : (loadH (.pointer (some ⟨bk, 0, none⟩))).run Tryz.prog w = .ok (.agg (u8s key)) w ∧ w.cell? ⟨bw, 0, none⟩ = some (.string s) ∧ (loadB (.pointer (some ⟨bw, 1, none⟩))).run Tryz.prog w = .ok (.agg #[.int .i64 lv, .int .u64 (cp : Nat)]) w ∧ w.cell? ⟨bw, 3, none⟩ = some (.int .u8 (sc : Nat)) ∧ (loadW (.pointer (some ⟨bw, 0, none⟩))).run Tryz.prog w = .ok (.agg #[.string s, .int .i64 lv, .int .u64 (cp : Nat), .int .u8 (sc : Nat)]) w := by
  refine ⟨loadH_eq hk (range_of h.k fun j v hv => ?_), by rw [cell_row h.w]; rfl, loadB_eq (range_of h.w fun j v hv => ?_), by rw [cell_row h.w]; rfl, loadW_eq (range_of h.w fun j v hv => ?_)⟩
  · rw [Nat.zero_add]
    unfold u8s
    rw [List.getElem?_toArray]
    exact hv
  · match j, hv with
    | 0, hv => exact hv
    | 1, hv => exact hv
    | j + 2, hv => cases hv
  · match j, hv with
    | 0, hv => exact hv
    | 1, hv => exact hv
    | 2, hv => exact hv
    | 3, hv => exact hv
    | j + 4, hv => cases hv
theorem Bx.below {w w' : World} {B : Nat} {bk bw : Nat} {key : List Int} {s : ByteArray} {lv : Int} {cp sc : Nat} (h : Bx w bk bw key s lv cp sc) (hb : Below B w w') (h1 : bk < B) (h2 : bw < B) : Bx w' bk bw key s lv cp sc :=
  ⟨(hb.block _ h1).trans h.k, (hb.block _ h2).trans h.w⟩
theorem Bx.chg {w w' : World} {X : List Nat} {bk bw : Nat} {key : List Int} {s : ByteArray} {lv : Int} {cp sc : Nat} (h : Bx w bk bw key s lv cp sc) (hc : Chg X w w') (h1 : bk ∉ X) (h2 : bw ∉ X) : Bx w' bk bw key s lv cp sc :=
  ⟨hc.at h.k h1, hc.at h.w h2⟩
end Go.Proofs.YtkjhoanlkkcfkaaGreatDoor.Sgm
