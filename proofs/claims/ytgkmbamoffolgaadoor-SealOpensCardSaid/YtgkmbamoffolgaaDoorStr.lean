/- DERIVED. Texts and slices of bytes, there and back; no number of a type. -/
import Derived.Test.YtgkmbamoffolgaaDoorProg
import Derived.Test.YtgkmbamoffolgaaDoorMseal5
import Derived.Lib.ConvBytes
import Derived.Laws.BytesArg
namespace Go.Proofs.YtgkmbamoffolgaaDoor.Str
open Go.RowKit
/-- a text's bytes. -/
def bOf (s : ByteArray) : List Int := s.data.toList.map fun b => (b.toNat : Int)
theorem bOf_length (s : ByteArray) : (bOf s).length = s.size := by rw [bOf, List.length_map, Array.length_toList]; rfl
theorem bOf_in (s : ByteArray) : InB (bOf s) := by
  intro j
  by_cases h : j < (bOf s).length
  · have h' : j < s.data.toList.length := by simpa [bOf] using h
    have e : (bOf s).getD j 0 = ((s.data.toList[j]).toNat : Int) := by simp [bOf, List.getD_eq_getElem?_getD, List.getElem?_map, List.getElem?_eq_getElem h']
    rw [e]
    have := (s.data.toList[j]).toNat_lt
    omega
  · rw [getD_out _ _ (Nat.le_of_not_lt h)]; omega
theorem byt_string (w : World) (s : ByteArray) : Byt (Lib.bytesWorld w 5 s) (some ⟨w.heap.size, 0, none⟩) (grownCap w s.size 0 5) (bOf s) := by
  refine ⟨by rw [bOf_length]; exact grownCap_ge _ _ _ _, (fun h => by cases h), fun _ => ⟨w.heap.size, 0, rfl, by rw [Lib.bytesWorld_size]; omega, fun j hj => ?_⟩⟩
  rw [bOf_length] at hj
  rw [Nat.zero_add, Lib.bytesWorld_cell w 5 s j hj]
  have h' : j < s.data.toList.length := by simpa using hj
  simp [bOf, List.getD_eq_getElem?_getD, List.getElem?_map, List.getElem?_eq_getElem h']
theorem below_string (w : World) (s : ByteArray) : Below w.heap.size w (Lib.bytesWorld w 5 s) := by
  refine ⟨?_, ?_, ?_, by rw [Lib.bytesWorld_size]; omega, fun k hk => Lib.bytesWorld_at_old w 5 s k hk⟩
  all_goals (simp only [Lib.bytesWorld, World.freeze]; rfl)
/-- a text as bytes. -/
theorem run_bytes (w : World) (s : ByteArray) : (convert 9 24 (.string s)).run Tryd.prog w = .ok (.slice (some ⟨w.heap.size, 0, none⟩) s.size (grownCap w s.size 0 5)) (Lib.bytesWorld w 5 s) :=
  Lib.run_convert_string_bytes w 9 24 5 s Tryd.underlying9 Tryd.underlying24 Tryd.underlying5
/-- a slice of bytes as a text, empty ones let in. -/
theorem conv_any {w : World} {A : Option Addr} {c n : Nat} {L : List Int} (hB : Byt w A c L) (hn : L.length = n) : (convert 24 9 (.slice A n c)).run Tryd.prog w = .ok (.string (strOfNums L)) w := by
  by_cases h0 : 0 < n
  · obtain ⟨g, off, rfl, _, hc⟩ := hB.2.2 (by omega)
    exact run_convert_bytes_arg w 24 5 Tryd.underlying24 Tryd.underlying5 g off n c L hn (fun i hi => hc i (by omega)) 9 Tryd.underlying9
  · obtain rfl : n = 0 := by omega
    obtain rfl : L = [] := List.eq_nil_of_length_eq_zero hn
    cases A with
    | none => exact run_convert_bytes_nil w 24 5 Tryd.underlying24 Tryd.underlying5 0 c 9 Tryd.underlying9
    | some a =>
      rw [run_convert_bytes_string w 24 9 5 _ 0 c Tryd.underlying24 Tryd.underlying5 Tryd.underlying9]
      simp [Conv.bytesToString, loadCells, loadCellsFrom, strOfNums]
      rfl
/-- a slice's beginning. -/
theorem byt_take {w : World} {A : Option Addr} {c : Nat} {L : List Int} (h : Byt w A c L) (k : Nat) : Byt w A c (L.take k) := by
  obtain ⟨h1, h2, h3⟩ := h
  refine ⟨by rw [List.length_take]; omega, h2, fun h0 => ?_⟩
  rw [List.length_take] at h0
  obtain ⟨g, off, e, hg, hc⟩ := h3 (by omega)
  refine ⟨g, off, e, hg, fun j hj => ?_⟩
  rw [List.length_take] at hj
  rw [hc j (by omega)]
  simp [List.getD_eq_getElem?_getD, show j < k by omega]
theorem byt_rowT {w : World} {g : Nat} {t : TypeId} {l : List Int} {fr : Nat × Nat} (h : w.heap[g]? = some (.cells (u8s l) t fr)) {n : Nat} (hn : l.length = n) : Byt w (some ⟨g, 0, none⟩) n l :=
  ⟨by omega, (fun h => by cases h), fun _ => ⟨g, 0, rfl, (Array.getElem?_eq_some_iff.1 h).1, fun j hj => by rw [Nat.zero_add, cell_row h, u8s_get _ _ hj]⟩⟩
theorem inB_get {L : List Int} (h : InB L) : ∀ x ∈ L, 0 ≤ x ∧ x < 256 := by
  intro x hx
  obtain ⟨j, hj, rfl⟩ := List.getElem_of_mem hx
  have := h j
  simpa [List.getD_eq_getElem?_getD, hj] using this
theorem bOf_str {L : List Int} (h : InB L) : bOf (strOfNums L) = L := by
  have hm := inB_get h
  unfold bOf
  rw [strOfNums_data, List.map_map]
  conv => rhs; rw [← List.map_id L]
  refine List.map_congr_left fun x hx => ?_
  have := hm x hx
  simp
  omega
theorem str_bOf (s : ByteArray) : strOfNums (bOf s) = s := by
  unfold strOfNums bOf
  congr 1
  rw [List.map_map]
  have : ((fun n : Int => UInt8.ofNat n.toNat) ∘ fun b : UInt8 => (b.toNat : Int)) = id := by
    funext b
    simp
  rw [this, List.map_id]
theorem str_inj {L M : List Int} (h : InB L) (k : InB M) (e : strOfNums L = strOfNums M) : L = M := by
  rw [← bOf_str h, ← bOf_str k, e]
theorem toList_inj {s t : ByteArray} (e : s.toList = t.toList) : s = t := by
  rw [ByteArray.toList_eq, ByteArray.toList_eq] at e
  cases s; cases t
  simpa using e
theorem str_ne {L M : List Int} (h : InB L) (k : InB M) (e : L ≠ M) : ¬ (strOfNums L).toList = (strOfNums M).toList := fun h' => e (str_inj h k (toList_inj h'))
theorem bOf_inj {s t : ByteArray} (e : bOf s = bOf t) : s = t := by
  rw [← str_bOf s, ← str_bOf t, e]
end Go.Proofs.YtgkmbamoffolgaaDoor.Str
