/- DERIVED. Rows of texts: slices that read as texts, rows of the call's own, an append of one; the library's functions at this program. -/
import Derived.Test.YtnpbogioehpeoaaShelf
import Derived.Lib.Strings
import Derived.Test.YtnpbogioehpeoaaBase2
import Derived.Test.YtnpbogioehpeoaaOwn
import Derived.Lib.OthersKept
import Derived.Maps.AppendAt
import Derived.OwnWalk
import Derived.Deep.CutBlock
namespace Go.Proofs.Ytnpbogioehpeoaa.Lns
open Go.RowKit
theorem bytes_eq {a b : ByteArray} (h : a.data.toList = b.data.toList) : a = b := by
  obtain ⟨⟨a⟩⟩ := a
  obtain ⟨⟨b⟩⟩ := b
  simpa using h
theorem eq_lists {a b : ByteArray} (h : a.data.toList = b.data.toList) : (a.toList == b.toList) = true := by rw [Lib.toList_data, Lib.toList_data, h]; simp
theorem ne_lists {a b : ByteArray} (h : a.data.toList ≠ b.data.toList) : (a.toList == b.toList) = false := by rw [Lib.toList_data, Lib.toList_data]; simpa using h
theorem ret_b {a b : Bool} (h : a = b) : Ending.returned (.bool a) = Ending.returned (.bool b) := by rw [h]
theorem ret_i {a b : Int} (h : a = b) : Ending.returned (.int .i64 a) = Ending.returned (.int .i64 b) := by rw [h]
theorem ret_s {a b : ByteArray} (h : a = b) : Ending.returned (.string a) = Ending.returned (.string b) := by rw [h]
/-- the k-th text. -/
def nth (L : List ByteArray) (k : Nat) : ByteArray := L.getD k ByteArray.empty
theorem nth_lt {L : List ByteArray} {k : Nat} (h : k < L.length) : nth L k = L[k] := by
  rw [nth, List.getD_eq_getElem?_getD, List.getElem?_eq_getElem h]; rfl
theorem nth_mem {L : List ByteArray} {k : Nat} (h : k < L.length) : nth L k ∈ L := by rw [nth_lt h]; exact List.getElem_mem h
/-- a slice that reads as texts. -/
def RdT (L : List ByteArray) (v : Value) (w : World) : Prop :=
  ∃ A c, v = .slice A L.length c ∧ L.length ≤ c ∧ (0 < L.length → ∃ g off, A = some ⟨g, off, none⟩ ∧ g < w.heap.size ∧ ∀ j, j < L.length → w.cell? ⟨g, off + j, none⟩ = some (.string (nth L j)))
theorem RdT.below {L : List ByteArray} {v : Value} {B : Nat} {w w' : World} (h : RdT L v w) (hb : Below B w w') (hB : w.heap.size ≤ B) : RdT L v w' := by
  obtain ⟨A, c, e, hc, k⟩ := h
  refine ⟨A, c, e, hc, fun h0 => ?_⟩
  obtain ⟨g, off, e', hg, k⟩ := k h0
  exact ⟨g, off, e', Nat.lt_of_lt_of_le hg hb.size, fun j hj => (hb.cell (p := ⟨g, off + j, none⟩) (Nat.lt_of_lt_of_le hg hB)).trans (k j hj)⟩
theorem RdT.later {L : List ByteArray} {v : Value} {w w' : World} (h : RdT L v w) (hb : Below w.heap.size w w') : RdT L v w' := h.below hb (Nat.le_refl _)
theorem RdT.none (w : World) : RdT [] (.slice Option.none 0 0) w := ⟨Option.none, 0, rfl, Nat.le_refl _, fun h => absurd h (Nat.lt_irrefl _)⟩
/-- a row of texts of the call's own. -/
def OwnT (base : Nat) (L : List ByteArray) (v : Value) (w : World) : Prop := w.ownsRow base 9 1 v L.length (L.map Value.string)
theorem OwnT.nil (w : World) (base : Nat) : OwnT base [] (.slice Option.none 0 0) w := World.ownsRow_nil w base 9 1
theorem OwnT.row {base : Nat} {L : List ByteArray} {v : Value} {w : World} (h : OwnT base L v w) (hne : 0 < L.length) : ∃ g cap, v = .slice (some ⟨g, 0, none⟩) L.length cap ∧ L.length ≤ cap ∧ base ≤ g ∧ g < w.heap.size ∧ (∀ j, j < L.length → w.cell? ⟨g, j, none⟩ = some (.string (nth L j))) ∧ ∀ j, w.frozen? ⟨g, j, none⟩ = false := by
  rcases h.2 with ⟨rfl, h0⟩ | ⟨g, cap, cur, hv, hb, hg, hn, hm, hs, ht⟩
  · omega
  · refine ⟨g, cap, hv, hn, hb, (Array.getElem?_eq_some_iff.1 hg).1, fun j hj => ?_, fun j => by simp [World.frozen?, hg]⟩
    have k : (L.map Value.string)[j]? = some (.string (nth L j)) := by simp [nth, hj]
    rw [← ht, List.getElem?_take, if_pos (by omega)] at k
    rw [cell_row hg]
    simpa using k
theorem OwnT.rd {base : Nat} {L : List ByteArray} {v : Value} {w : World} (h : OwnT base L v w) : RdT L v w := by
  rcases h.2 with ⟨e, h0⟩ | ⟨g, cap, cur, hv, hb, hg, hn, hm, hs, ht⟩
  · have : L = [] := List.length_eq_zero_iff.1 h0
    subst this
    rw [e]; exact RdT.none w
  · refine ⟨some ⟨g, 0, Option.none⟩, cap, hv, hn, fun hl => ?_⟩
    obtain ⟨g', cap', e', _, _, hlt, hc, _⟩ := h.row hl
    rw [hv] at e'
    cases e'
    exact ⟨g, 0, rfl, hlt, fun j hj => by rw [Nat.zero_add]; exact hc j hj⟩
theorem OwnT.below {base : Nat} {L : List ByteArray} {v : Value} {w w' : World} (h : OwnT base L v w) (hb : Below w.heap.size w w') : OwnT base L v w' := own_stays h hb
theorem OwnT.later {base : Nat} {L : List ByteArray} {v : Value} {w w' : World} (h : OwnT base L v w) (hb : Below w.heap.size w w') : OwnT base L v w' := own_stays h hb
theorem OwnT.mono {base base' : Nat} {L : List ByteArray} {v : Value} {w : World} (h : OwnT base L v w) (hb : base' ≤ base) : OwnT base' L v w := by
  refine ⟨h.1, ?_⟩
  rcases h.2 with h | ⟨g, cap, cur, h1, h2, h3⟩
  · exact .inl h
  · exact .inr ⟨g, cap, cur, h1, Nat.le_trans hb h2, h3⟩
theorem infoTz : (Try.prog.info? 9).map (fun i => (i.zero, i.size, i.bytes)) = some (some (.string ByteArray.empty), 1, 16) := by kernel_rfl
/-- append(m, x), x laid in a block of its own. -/
theorem wpList_append_txt {w : World} {ops : Array Oper} {rest : List Oper} {o : Oper} {a : Act} {Q : Exit → Act → World → Prop} (hgd : o.guard = none) (s y : Operand)
    (ho : o.op = .call { callee := .builtin .append, args := #[s, y], argTypes := #[22, 22] }) (base : Nat) (v : Value) (L : List ByteArray) (x : ByteArray) (hs : a.eval s = v) (hown : OwnT base L v w)
    (hy : a.eval y = .slice (some ⟨w.heap.size, 0, none⟩) 1 1) (h63 : L.length ≤ 100000) (hbase : base ≤ w.heap.size)
    (h : ∀ v' w', OwnT base (L ++ [x]) v' w' → (∀ B u, Below B u w → B ≤ base → Below B u w') → wpList Try.prog ops Q rest (a.put o.dst v') w') : wpList Try.prog ops Q (o :: rest) a (w.alloc (.cells #[.string x] 9)) := by
  obtain ⟨i0, hi0, hz00, hz10, hz20⟩ := info_parts infoTz
  refine wpList_append_own_at _ hgd s y 22 ho base 9 i0 (.string ByteArray.empty) 1 16 Try.underlying22 hi0 hz00 hz10 hz20 rfl (by decide) v L.length (L.map Value.string) hs (hown.alloc _) ⟨w.heap.size, 0, none⟩ 1 1 [.string x] hy rfl
    (fun j u hu => ?_) (fun u hu => ?_) (by unfold maxLen; omega) (by omega) (by rw [World.size_alloc]; omega) ?_
  · have hg : (w.alloc (.cells #[.string x] 9)).heap[w.heap.size]? = some (.cells #[.string x] 9 (0, 0)) := heap_alloc_new _ _
    rw [Addr.add_mid, Nat.zero_add, cell_row hg]
    simpa using hu
  · simp only [List.mem_cons, List.mem_nil_iff, or_false] at hu
    subst hu; rfl
  · intro v' w' hown' hgrow _ _
    refine h v' w' ?_ (fun B u hu hB => ?_)
    · unfold OwnT
      rw [List.length_append, List.map_append]
      exact hown'
    · refine (hu.alloc (by omega) _).grown hgrow (by rw [World.size_alloc]; omega) (fun k hk => ?_)
      have := (hown.lt k hk).1; omega
/-- a cell that is written with what it holds. -/
theorem setCell_held {w : World} {p : Addr} {v : Value} (h : w.cell? p = some v) : w.setCell p v = w := by
  suffices hh : (w.setCell p v).heap = w.heap by
    have e : w.setCell p v = { w with heap := (w.setCell p v).heap } := rfl
    rw [e, hh]
  unfold World.setCell
  dsimp only
  apply Array.ext_getElem?
  intro i
  rw [Array.getElem?_modify]
  by_cases e : p.block = i
  · subst e
    rw [if_pos rfl]
    cases ho : w.heap[p.block]? with
    | none => rfl
    | some o =>
      cases o with
      | cells c elem frozen =>
        simp only [Option.map_some, Option.some.injEq, Obj.cells.injEq, and_true]
        split
        · rfl
        · rename_i hs
          have hn : p.spot = none := by simpa using hs
          have : c[p.off]? = some v := by
            simpa [World.cell?, ho, hn] using h
          obtain ⟨hlt, hv⟩ := Array.getElem?_eq_some_iff.1 this
          rw [← hv]
          apply Array.ext_getElem?
          intro j
          rw [Array.getElem?_setIfInBounds]
          by_cases ej : p.off = j
          · subst ej; simp [hlt]
          · rw [if_neg ej]
      | _ => rfl
  · rw [if_neg e]
section
variable (w : World)
theorem clone_any (s : ByteArray) (hs : s.size ≤ 100000) : Calls Try.prog 22 #[.string s] w fun e w' => e = .returned (.string s) ∧ Below w.heap.size w w' := by
  go_enter Try.func22, Try.ntmps22
  go_wp2_with (go_at_call 24; refine (Try.stringslite_Clone s _ (by omega)).mono ?_; rintro e w' ⟨rfl, hb1⟩)
  go_ret
  exact ⟨rfl, hb1⟩
end
end Go.Proofs.Ytnpbogioehpeoaa.Lns
