/- DERIVED. A segment in memory. -/
import Derived.Test.YtjjdmdnklbdjcaaGreatDoorSgmSpec
import Derived.Test.YtjjdmdnklbdjcaaGreatDoorMseg20
import Derived.Test.YtjjdmdnklbdjcaaGreatDoorMseg18
import Derived.Test.YtjjdmdnklbdjcaaGreatDoorMseg22
import Derived.Test.YtjjdmdnklbdjcaaGreatDoorMseg13
import Derived.Test.YtjjdmdnklbdjcaaGreatDoorMseg12
import Derived.Test.YtjjdmdnklbdjcaaGreatDoorSgmFirst
namespace Go.Proofs.YtjjdmdnklbdjcaaGreatDoor.Sgm
open Go.RowKit Dsk Slt Epo
/-- where a segment lies: its struct, the slice of its texts, their slices, its context. -/
structure GK where
  g : Nat
  v : Value
  ts : List Value
  A : Option Addr
  c : Nat
/-- what a segment is. -/
structure GV where
  key : List Int
  C : List Int
  ep : Nat
  T : List (List Int)
  lost : Bool
def GK.ptr (G : GK) : Value := .pointer (some ⟨G.g, 0, none⟩)
def GK.bl (G : GK) : List Nat := G.g :: G.v.ownBlock.toList
def GK.tx (G : GK) : List Nat := (G.A.map (·.block)).toList ++ G.ts.flatMap fun v => v.ownBlock.toList
def rowG (self : Option Addr) (K : DK) (lg : Option Addr) (key : List Int) (cx : Value) (ep : Nat) (tv : Value) (lost : Bool) : Array Value :=
  (.pointer self :: K.ptr :: .pointer lg :: (vals key ++ [cx, .int .u32 (ep : Nat), tv, .bool lost])).toArray
section
variable {self lg : Option Addr} {K : DK} {key : List Int} {cx tv : Value} {ep : Nat} {lost : Bool}
theorem tail_at {key : List Int} (hk : key.length = 32) (R : List Value) (j : Nat) : (vals key ++ R)[32 + j]? = R[j]? := by
  rw [List.getElem?_append_right (by rw [vals_length]; omega), vals_length, hk, Nat.add_sub_cancel_left]
theorem rowG_get (j : Nat) : (rowG self K lg key cx ep tv lost)[j + 3]? = (vals key ++ [cx, .int .u32 (ep : Nat), tv, .bool lost])[j]? := by
  unfold rowG
  rw [List.getElem?_toArray, List.getElem?_cons_succ, List.getElem?_cons_succ, List.getElem?_cons_succ]
theorem rowG_at (hk : key.length = 32) : (rowG self K lg key cx ep tv lost)[0]? = some (.pointer self) ∧ (rowG self K lg key cx ep tv lost)[1]? = some K.ptr ∧ (rowG self K lg key cx ep tv lost)[2]? = some (.pointer lg) ∧ (rowG self K lg key cx ep tv lost)[35]? = some cx ∧ (rowG self K lg key cx ep tv lost)[36]? = some (.int .u32 (ep : Nat)) ∧ (rowG self K lg key cx ep tv lost)[37]? = some tv ∧ (rowG self K lg key cx ep tv lost)[38]? = some (.bool lost) := by
  refine ⟨rfl, rfl, rfl, ?_, ?_, ?_, ?_⟩
  · exact (rowG_get 32).trans (tail_at hk _ 0)
  · exact (rowG_get 33).trans (tail_at hk _ 1)
  · exact (rowG_get 34).trans (tail_at hk _ 2)
  · exact (rowG_get 35).trans (tail_at hk _ 3)
theorem tail_set {key : List Int} (hk : key.length = 32) (R : List Value) (j : Nat) (x : Value) : (vals key ++ R).set (32 + j) x = vals key ++ R.set j x := by
  rw [List.set_append_right _ _ (by rw [vals_length]; omega), vals_length, hk, Nat.add_sub_cancel_left]
theorem rowG_set0 (x : Option Addr) : (rowG self K lg key cx ep tv lost).setIfInBounds 0 (.pointer x) = rowG x K lg key cx ep tv lost := by
  unfold rowG; rw [List.setIfInBounds_toArray]; rfl
theorem rowG_set2 (x : Option Addr) : (rowG self K lg key cx ep tv lost).setIfInBounds 2 (.pointer x) = rowG self K x key cx ep tv lost := by
  unfold rowG; rw [List.setIfInBounds_toArray]; rfl
theorem rowG_set36 (hk : key.length = 32) (x : Nat) : (rowG self K lg key cx ep tv lost).setIfInBounds 36 (.int .u32 (x : Nat)) = rowG self K lg key cx x tv lost := by
  unfold rowG; rw [List.setIfInBounds_toArray]; exact congrArg (fun l => (Value.pointer self :: K.ptr :: Value.pointer lg :: l).toArray) (tail_set hk _ 1 _)
theorem rowG_set37 (hk : key.length = 32) (x : Value) : (rowG self K lg key cx ep tv lost).setIfInBounds 37 x = rowG self K lg key cx ep x lost := by
  unfold rowG; rw [List.setIfInBounds_toArray]; exact congrArg (fun l => (Value.pointer self :: K.ptr :: Value.pointer lg :: l).toArray) (tail_set hk _ 2 _)
theorem rowG_set38 (hk : key.length = 32) (x : Bool) : (rowG self K lg key cx ep tv lost).setIfInBounds 38 (.bool x) = rowG self K lg key cx ep tv x := by
  unfold rowG; rw [List.setIfInBounds_toArray]; exact congrArg (fun l => (Value.pointer self :: K.ptr :: Value.pointer lg :: l).toArray) (tail_set hk _ 3 _)
/-- the key, in the row's middle. -/
theorem rowG_key {w : World} {g : Nat} {T : TypeId} {fr : Nat × Nat} (h : w.heap[g]? = some (.cells (rowG self K lg key cx ep tv lost) T fr)) : ∀ j u, (vals key)[j]? = some u → w.cell? ⟨g, 3 + j, none⟩ = some u := by
  intro j u hu
  rw [cell_row h, Nat.add_comm 3 j, rowG_get, List.getElem?_append_left (List.getElem?_eq_some_iff.1 hu).1]
  exact hu
end
/-- texts that a segment keeps. -/
structure Txs (w : World) (v : Value) (ts : List Value) (T : List (List Int)) : Prop where
  own : w.ownsRow 0 38 1 v T.length ts
  txt : ∀ i, i < T.length → SlB (T.getD i []) (ts.getD i undef) w
structure Sg (w : World) (K : DK) (J : LK) (G : GK) (S : LS) (V : GV) : Prop where
  row : w.heap[G.g]? = some (.cells (rowG (some ⟨G.g, 0, none⟩) K (some ⟨J.g, 0, none⟩) V.key (.slice G.A V.C.length G.c) V.ep G.v V.lost) 87 (0, 0))
  lg : Lg w K J S
  tx : Txs w G.v G.ts V.T
  gv : ∀ q, G.v.ownBlock = some q → q ≠ G.g
  ctx : Byt w G.A G.c V.C
  klen : V.key.length = 32
  kin : InB V.key
  cin : InB V.C
  clen : V.C.length ≤ 1000
  ep32 : V.ep < 4294967296
  tlt : ∀ q ∈ G.tx, q < w.heap.size
  tap : ∀ q ∈ G.tx, q ∉ K.bl ∧ q ∉ J.bl ∧ q ∉ G.bl
  kap : ∀ q ∈ G.bl, q ∉ K.bl ∧ q ∉ J.bl ∧ q ∉ J.tx
  inb : ∀ t ∈ V.T, InB t ∧ t.length ≤ 131068
theorem Sg.glt {w : World} {K : DK} {J : LK} {G : GK} {S : LS} {V : GV} (h : Sg w K J G S V) : G.g < w.heap.size := (Array.getElem?_eq_some_iff.1 h.row).1
theorem ts_mem {ts : List Value} {i : Nat} {a : Addr} {n c : Nat} (hi : ts.getD i undef = .slice (some a) n c) (hl : i < ts.length) : a.block ∈ ts.flatMap fun v => v.ownBlock.toList := by
  rw [List.mem_flatMap]
  refine ⟨ts.getD i undef, ?_, by rw [hi]; simp [Value.ownBlock]⟩
  rw [List.getD_eq_getElem?_getD, List.getElem?_eq_getElem hl, Option.getD_some]
  exact List.getElem_mem hl
theorem Txs.len {w : World} {v : Value} {ts : List Value} {T : List (List Int)} (h : Txs w v ts T) : ts.length = T.length := by have := h.own.1; omega
theorem Txs.chg {X : List Nat} {w w' : World} {v : Value} {ts : List Value} {T : List (List Int)} (h : Txs w v ts T) (hc : Chg X w w') (h1 : ∀ q, v.ownBlock = some q → q ∉ X) (h2 : ∀ q ∈ ts.flatMap (fun v => v.ownBlock.toList), q ∉ X) : Txs w' v ts T where
  own := own_chg h.own hc h1
  txt i hi := by
    obtain ⟨A, c, e, hB⟩ := h.txt i hi
    exact ⟨A, c, e, hB.chg hc (fun a ha => h2 _ (ts_mem (by rw [e, ha]) (by rw [h.len]; exact hi)))⟩
theorem Sg.chg {X : List Nat} {w w' : World} {K : DK} {J : LK} {G : GK} {S : LS} {V : GV} (h : Sg w K J G S V) (hc : Chg X w w') (h1 : ∀ q ∈ J.bl, q ∉ X) (h2 : ∀ q ∈ J.tx, q ∉ X) (h3 : ∀ q ∈ G.bl, q ∉ X) (h4 : ∀ q ∈ G.tx, q ∉ X) : Sg w' K J G S V where
  row := hc.at h.row (h3 _ (by simp [GK.bl]))
  lg := h.lg.chg hc h1 h2
  tx := h.tx.chg hc (fun q hq => h3 q (by simp [GK.bl, hq])) (fun q hq => h4 q (by unfold GK.tx; rw [List.mem_append]; exact .inr hq))
  gv := h.gv
  ctx := h.ctx.chg hc (fun a ha => h4 _ (by simp [GK.tx, ha]))
  klen := h.klen
  kin := h.kin
  cin := h.cin
  clen := h.clen
  ep32 := h.ep32
  tlt q hq := Nat.lt_of_lt_of_le (h.tlt q hq) hc.size
  tap := h.tap
  kap := h.kap
  inb := h.inb
theorem Sg.later {w w' : World} {K : DK} {J : LK} {G : GK} {S : LS} {V : GV} (h : Sg w K J G S V) (hb : Below w.heap.size w w') : Sg w' K J G S V :=
  h.chg (X := []) (Chg.of_below hb) (by simp) (by simp) (by simp) (by simp)
/-- the disk changed alone. -/
theorem Sg.disk {w w' : World} {K : DK} {J : LK} {G : GK} {S : LS} {V : GV} (h : Sg w K J G S V) (hc : Chg K.bl w w') : Sg w' K J G S V :=
  h.chg hc h.lg.kap (fun q hq => (h.lg.tap q hq).1) (fun q hq => (h.kap q hq).1) (fun q hq => (h.tap q hq).1)
theorem Sg.cells {w : World} {K : DK} {J : LK} {G : GK} {S : LS} {V : GV} (h : Sg w K J G S V) : w.cell? ⟨G.g, 0, none⟩ = some (.pointer (some ⟨G.g, 0, none⟩)) ∧ w.cell? ⟨G.g, 1, none⟩ = some (.pointer (some ⟨K.g, 0, none⟩)) ∧ w.cell? ⟨G.g, 2, none⟩ = some (.pointer (some ⟨J.g, 0, none⟩)) ∧ w.cell? ⟨G.g, 35, none⟩ = some (.slice G.A V.C.length G.c) ∧ w.cell? ⟨G.g, 36, none⟩ = some (.int .u32 (V.ep : Nat)) ∧ w.cell? ⟨G.g, 37, none⟩ = some G.v ∧ w.cell? ⟨G.g, 38, none⟩ = some (.bool V.lost) := by
  obtain ⟨h0, h1, h2, h3, h4, h5, h6⟩ := rowG_at (self := some ⟨G.g, 0, none⟩) (K := K) (lg := some ⟨J.g, 0, none⟩) (cx := .slice G.A V.C.length G.c) (ep := V.ep) (tv := G.v) (lost := V.lost) h.klen
  refine ⟨?_, ?_, ?_, ?_, ?_, ?_, ?_⟩ <;> rw [cell_row h.row] <;> assumption
theorem seq_same (a : Addr) (w : World) : (binOp .eql 42 (.pointer (some a)) (.pointer (some a))).run Tryz.prog w = .ok (.bool true) w := by
  obtain ⟨j, hj⟩ : ∃ j, Tryz.prog.info? 87 = some j := Option.isSome_iff_exists.1 (by kernel_rfl)
  exact Go.run_eql_ptr_same w a (te := 87) Tryz.underlying42 hj
theorem smade_any {w : World} {K : DK} {J : LK} {G : GK} {S : LS} {V : GV} (h : Sg w K J G S V) : Calls Tryz.prog 49 #[G.ptr] w fun e w' => e = .returned (.bool true) ∧ w = w' := by
  obtain ⟨c0, _⟩ := h.cells
  have he := seq_same ⟨G.g, 0, none⟩
  unfold GK.ptr
  clear h
  go_enter Tryz.func49, Tryz.ntmps49
  go_wp2
  go_ret
  exact ⟨rfl, rfl⟩
theorem epoch_any {w : World} {K : DK} {J : LK} {G : GK} {S : LS} {V : GV} (h : Sg w K J G S V) : Calls Tryz.prog 15 #[G.ptr] w fun e w' => e = .returned (.int .i64 (V.ep : Nat)) ∧ w = w' := by
  have Hm := Lib.hid (smade_any h)
  obtain ⟨_, _, _, _, c4, _, _⟩ := h.cells
  have hep := h.ep32
  obtain ⟨ep, he⟩ : ∃ ep, ep = V.ep := ⟨_, rfl⟩
  rw [← he] at c4 hep ⊢
  have hI : (ep : Int) < 4294967296 := by omega
  have hw : IntKind.i64.wrap (ep : Int) = ep := by simp [IntKind.wrap, IntKind.bits, IntKind.signed]; omega
  unfold GK.ptr at *
  clear h he hep
  go_enter Tryz.func15, Tryz.ntmps15
  go_wp2_with (go_at_call 49; refine Hm.out.mono ?_; rintro e w' ⟨rfl, rfl⟩)
  go_ret
  exact ⟨rfl, rfl⟩
end Go.Proofs.YtjjdmdnklbdjcaaGreatDoor.Sgm
