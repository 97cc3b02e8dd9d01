/- DERIVED. Rows of texts of the call's own: OwnT; an append of one. -/
import Derived.Test.YtmbcojpdigoojaaGreatDoorPthCheck
import Derived.Maps.AppendAt
import Derived.OwnWalk
namespace Go.Proofs.YtmbcojpdigoojaaGreatDoor.Pth
open Go.RowKit
/-- a row of texts of the call's own. -/
def OwnT (base : Nat) (L : List ByteArray) (v : Value) (w : World) : Prop := w.ownsRow base 9 1 v L.length (L.map Value.string)
theorem OwnT.nil (w : World) (base : Nat) : OwnT base [] (.slice none 0 0) w := World.ownsRow_nil w base 9 1
theorem OwnT.row {base : Nat} {L : List ByteArray} {v : Value} {w : World} (h : OwnT base L v w) (hne : 0 < L.length) : ∃ g cap, v = .slice (some ⟨g, 0, none⟩) L.length cap ∧ L.length ≤ cap ∧ base ≤ g ∧ g < w.heap.size ∧ ∀ j, j < L.length → w.cell? ⟨g, j, none⟩ = some (.string (nth L j)) := by
  rcases h.2 with ⟨rfl, h0⟩ | ⟨g, cap, cur, hv, hb, hg, hn, hm, hs, ht⟩
  · omega
  · refine ⟨g, cap, hv, hn, hb, (Array.getElem?_eq_some_iff.1 hg).1, fun j hj => ?_⟩
    have k : (L.map Value.string)[j]? = some (.string (nth L j)) := by simp [nth, hj]
    rw [← ht, List.getElem?_take, if_pos (by omega)] at k
    rw [cell_row hg]
    simpa using k
theorem infoTz : (Tryz.prog.info? 9).map (fun i => (i.zero, i.size, i.bytes)) = some (some (.string ByteArray.empty), 1, 16) := by kernel_rfl
/-- append(m, x), x laid in a block of its own. -/
theorem wpList_append_txt {w : World} {ops : Array Oper} {rest : List Oper} {o : Oper} {a : Act} {Q : Exit → Act → World → Prop} (hgd : o.guard = none) (s y : Operand)
    (ho : o.op = .call { callee := .builtin .append, args := #[s, y], argTypes := #[71, 71] }) (base : Nat) (v : Value) (L : List ByteArray) (x : ByteArray) (hs : a.eval s = v) (hown : OwnT base L v w)
    (hy : a.eval y = .slice (some ⟨w.heap.size, 0, none⟩) 1 1) (h63 : L.length ≤ 100000) (hbase : base ≤ w.heap.size)
    (h : ∀ v' w', OwnT base (L ++ [x]) v' w' → (∀ B u, Below B u w → B ≤ base → Below B u w') → wpList Tryz.prog ops Q rest (a.put o.dst v') w') : wpList Tryz.prog ops Q (o :: rest) a (w.alloc (.cells #[.string x] 9)) := by
  obtain ⟨i0, hi0, hz00, hz10, hz20⟩ := info_parts infoTz
  refine wpList_append_own_at _ hgd s y 71 ho base 9 i0 (.string ByteArray.empty) 1 16 Tryz.underlying71 hi0 hz00 hz10 hz20 rfl (by decide) v L.length (L.map Value.string) hs (hown.alloc _) ⟨w.heap.size, 0, none⟩ 1 1 [.string x] hy rfl
    (fun j u hu => ?_) (fun u hu => ?_) (by unfold maxLen; omega) (by omega) (by rw [World.size_alloc]; omega) ?_
  · have hg : (w.alloc (.cells #[.string x] 9)).heap[w.heap.size]? = some (.cells #[.string x] 9 (0, 0)) := heap_alloc_new _ _
    rw [Addr.add_mid, Nat.zero_add, cell_row hg]
    simpa using hu
  · simp only [List.mem_cons, List.mem_nil_iff, or_false] at hu
    subst hu; rfl
  · intro v' w' hown' hgrow _ _
    refine h v' w' ?_ (fun B u hu hB => ?_)
    · unfold OwnT
      rw [List.length_append, List.map_append]
      exact hown'
    · refine (hu.alloc (by omega) _).grown hgrow (by rw [World.size_alloc]; omega) (fun k hk => ?_)
      have := (hown.lt k hk).1; omega
end Go.Proofs.YtmbcojpdigoojaaGreatDoor.Pth
