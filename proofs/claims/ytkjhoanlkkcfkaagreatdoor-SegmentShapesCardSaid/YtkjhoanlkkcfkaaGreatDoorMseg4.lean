/- DERIVED. Texts of ours, merged: XHmacWorks XShaFoldsMath XShaEq XShaApp XHmacKeep XHmacPart XHmacDerive XBase2. -/
import Derived.Test.YtkjhoanlkkcfkaaGreatDoorMseg3
import Derived.KernelRfl
import Derived.Lib.SlBytesConst
import Derived.Test.YtkjhoanlkkcfkaaGreatDoorMseg2
import Derived.ProofKit
import Derived.ChangeKeysEq
import Derived.StillTailTactics
import Derived.Lib.ConvBytes
import Derived.Test.YtkjhoanlkkcfkaaGreatDoorMseg1
import Derived.Deep.Draws
/- DERIVED. Words of layer 2's helpers (hmac/XHmacWorks), without the statements' own functions: for seats of layer 11. -/
namespace Go.Proofs.YtkjhoanlkkcfkaaGreatDoor
open Go.RowKit
theorem inB_of {l : List Int} (h : (l.all fun x => decide (0 ≤ x) && decide (x < 256)) = true) : InB l := by
  intro j
  by_cases hj : j < l.length
  · have := List.all_eq_true.1 h l[j] (List.getElem_mem hj)
    simp at this
    simpa [List.getD_eq_getElem?_getD, hj] using this
  · rw [getD_out _ _ (by omega)]; omega
theorem byt_rowF {w : World} {g : Nat} {t : TypeId} {l : List Int} {fr : Nat × Nat} (h : w.heap[g]? = some (.cells (u8s l) t fr)) {n : Nat} (hn : l.length = n) : Byt w (some ⟨g, 0, none⟩) n l :=
  ⟨by omega, (fun h => by cases h), fun _ => ⟨g, 0, rfl, (Array.getElem?_eq_some_iff.1 h).1, fun j hj => by rw [Nat.zero_add, cell_row h, u8s_get _ _ hj]⟩⟩
theorem two_rows (w : World) (L M : List Int) (f g : Nat × Nat) : Byt ((w.alloc (.cells (u8s L) 5 f)).alloc (.cells (u8s M) 5 g)) (some ⟨w.heap.size, 0, none⟩) L.length L ∧ Byt ((w.alloc (.cells (u8s L) 5 f)).alloc (.cells (u8s M) 5 g)) (some ⟨w.heap.size + 1, 0, none⟩) M.length M :=
  ⟨byt_rowF (two_new w _ _).1 rfl, byt_rowF (two_new w _ _).2 rfl⟩
/-- bytes of a constant: the row, marked. -/
theorem conv_const (w : World) (C : Array Value) (n : Nat) : (convert 38 38 (.slice (some ⟨w.heap.size, 0, none⟩) n n)).run Tryz.prog (w.alloc (.cells C 5)) = .ok (.slice (some ⟨w.heap.size, 0, none⟩) n n) (w.alloc (.cells C 5 (C.size, C.size + 1))) :=
  Lib.run_convert_bytes_const (P := Tryz.prog) w 38 5 C n n Tryz.underlying38 Tryz.underlying5
theorem conv_const2 (w : World) (o : Obj) (C : Array Value) (n : Nat) : (convert 38 38 (.slice (some ⟨w.heap.size + 1, 0, none⟩) n n)).run Tryz.prog ((w.alloc o).alloc (.cells C 5)) = .ok (.slice (some ⟨w.heap.size + 1, 0, none⟩) n n) ((w.alloc o).alloc (.cells C 5 (C.size, C.size + 1))) := by
  have h := conv_const (w.alloc o) C n
  rwa [show (w.alloc o).heap.size = w.heap.size + 1 by simp] at h
theorem below_two (w : World) (A B : Obj) : Below w.heap.size w ((w.alloc A).alloc B) := ((Below.refl _ _).alloc (Nat.le_refl _) _).alloc (by simp) _
end Go.Proofs.YtkjhoanlkkcfkaaGreatDoor
/- DERIVED. PLAIN MATHEMATICS: the blocks of the bytes and their padding, folded one by one, are the digest; a row of the call's own across a call. -/
namespace Go.Proofs.YtkjhoanlkkcfkaaGreatDoor
open Go.RowKit
theorem blk_append_left (L M : List Int) (k : Nat) (h : 64 * k + 64 ≤ L.length) : blk (L ++ M) k = blk L k := by
  unfold blk
  rw [List.drop_append_of_le_length (by omega), List.take_append_of_le_length (by simp; omega)]
theorem foldB_append_left (s : W8) (L M : List Int) : ∀ k, 64 * k ≤ L.length → foldB s (L ++ M) k = foldB s L k
  | 0, _ => rfl
  | k + 1, h => by
    show mixK KW (foldB s (L ++ M) k) (blk (L ++ M) k) = mixK KW (foldB s L k) (blk L k)
    rw [foldB_append_left s L M k (by omega), blk_append_left L M k (by omega)]
theorem blk_drop (L : List Int) (a k : Nat) : blk (L.drop (64 * a)) k = blk L (a + k) := by
  unfold blk
  rw [List.drop_drop, ← Nat.mul_add]
theorem foldB_add (s : W8) (L : List Int) (a : Nat) : ∀ k, foldB (foldB s L a) (L.drop (64 * a)) k = foldB s L (a + k)
  | 0 => rfl
  | k + 1 => by
    show mixK KW (foldB (foldB s L a) (L.drop (64 * a)) k) (blk (L.drop (64 * a)) k) = mixK KW (foldB s L (a + k)) (blk L (a + k))
    rw [foldB_add s L a k, blk_drop]
/-- the whole blocks of L and M, one fold or two. -/
theorem fold_two (s : W8) (L M : List Int) : foldAll (foldAll s L) (L.drop (64 * (L.length / 64)) ++ M) = foldB s (L ++ M) ((L.length + M.length) / 64) := by
  have h : 64 * (L.length / 64) ≤ L.length := by omega
  have e : L.drop (64 * (L.length / 64)) ++ M = (L ++ M).drop (64 * (L.length / 64)) := (List.drop_append_of_le_length h).symm
  unfold foldAll
  rw [e, ← foldB_append_left s L M _ h, foldB_add]
  congr 1
  simp
  omega
theorem fin_eq (s : W8) (L : List Int) (n : Nat) : fin s L n = hashL (foldB s (L ++ padL n) ((L.length + padLen n) / 64)).list := by
  unfold fin
  rw [fold_two, padL_length]
theorem own_below {w w' : World} {base n : Nat} {v : Value} {xs : List Value} (h : w.ownsRow base 5 1 v n xs) (hb : Below w.heap.size w w') : w'.ownsRow base 5 1 v n xs := by
  obtain ⟨h0, h⟩ := h
  refine ⟨h0, ?_⟩
  rcases h with h | ⟨g, cap, cur, hv, hg, hh, r⟩
  · exact .inl h
  · exact .inr ⟨g, cap, cur, hv, hg, (hb.block g (Array.getElem?_eq_some_iff.1 hh).1).trans hh, r⟩
theorem own_form {w : World} {base n : Nat} {v : Value} {L : List Int} (h : w.ownsRow base 5 1 v n (vals L)) (hn : 0 < n) :
    ∃ g c, v = .slice (some ⟨g, 0, none⟩) n c ∧ Byt w (some ⟨g, 0, none⟩) c L ∧ L.length = n ∧ base ≤ g := by
  obtain ⟨h0, h⟩ := h
  rw [vals_length, Nat.mul_one] at h0
  rcases h with ⟨_, h⟩ | ⟨g, cap, cur, hv, hb, hh, hcap, _, hs, ht⟩
  · omega
  · refine ⟨g, cap, hv, ⟨by omega, (fun h => by cases h), fun _ => ⟨g, 0, rfl, (Array.getElem?_eq_some_iff.1 hh).1, fun j hj => ?_⟩⟩, h0, hb⟩
    rw [Nat.zero_add, cell_row hh]
    have h2 : cur[j]? = cur.toList[j]? := by simp
    have h3 : (cur.toList.take (n * 1))[j]? = cur.toList[j]? := by rw [List.getElem?_take, if_pos (by omega)]
    rw [h2, ← h3, ht]
    simp [vals, hj]
theorem own_empty (w : World) : (w.alloc (.cells #[] 5)).ownsRow w.heap.size 5 1 (.slice (some ⟨w.heap.size, 0, none⟩) 0 0) 0 (vals []) :=
  ⟨by simp [vals], .inr ⟨w.heap.size, 0, #[], rfl, Nat.le_refl _, Go.heap_alloc_new w _, Nat.le_refl _, Nat.zero_le _, rfl, by simp [vals]⟩⟩
theorem own_ge {w : World} {base n : Nat} {v : Value} {xs : List Value} (h : w.ownsRow base 5 1 v n xs) : ∀ k, v.ownBlock = some k → base ≤ k := by
  obtain ⟨_, h⟩ := h
  intro k hk
  rcases h with ⟨rfl, _⟩ | ⟨g, cap, cur, rfl, hg, _⟩
  · cases hk
  · cases hk; exact hg
theorem vals_append (L M : List Int) : vals L ++ vals M = vals (L ++ M) := by simp [vals]
theorem store_first (w : World) (s : W8) : opStore (.pointer (some ⟨w.heap.size, 0, none⟩)) (.agg (u32s s.list)) (w.alloc (.cells #[.int .u32 0, .int .u32 0, .int .u32 0, .int .u32 0, .int .u32 0, .int .u32 0, .int .u32 0, .int .u32 0] 195)) = .ok .skip (w.alloc (.cells (u32s s.list) 195)) := by
  have h := opStore_eq (s := ⟨0, 0, 0, 0, 0, 0, 0, 0⟩) (t := s) (Go.heap_alloc_new w (.cells (u32s (W8.mk 0 0 0 0 0 0 0 0).list) 195))
  rw [World.setRow_alloc_new] at h
  exact h
theorem setRow_new_drew (w : World) (c c' : Array Value) (t : TypeId) : ((w.alloc (.cells c t)).drew).setRow w.heap.size c' = (w.alloc (.cells c' t)).drew := by
  show ((w.alloc (.cells c t)).setRow w.heap.size c').drew = _
  rw [World.setRow_alloc_new]
end Go.Proofs.YtkjhoanlkkcfkaaGreatDoor
/- DERIVED. Two digests, compared. -/
namespace Go.Proofs.YtkjhoanlkkcfkaaGreatDoor
open Go.RowKit
theorem part5 (l : List Int) (i : Nat) (h : i < l.length) (w : World) : (part 5 (u8s l) i).run Tryz.prog w = .ok (.int .u8 (l.getD i 0)) w := by
  have ha : ∀ w', (isAgg 5).run Tryz.prog w' = .ok false w' := fun _ => by kernel_rfl
  simp [part, ha, u8s_get l i h]
theorem cellsOf5 : Tryz.prog.cellsOf 5 = 1 := by kernel_rfl
theorem eqItems_u8 (d n : Nat) (l m : List Int) (hl : l.length = n) (hm : m.length = n) : ∀ (is : List Nat) (w : World), (∀ i ∈ is, i < n) →
    (Op.eqItems (d + 1) 5 (Tryz.prog.cellsOf 5) (u8s l) (u8s m) is).run Tryz.prog w = .ok (is.all fun i => l.getD i 0 == m.getD i 0) w
  | [], w, _ => by simp [Op.eqItems]
  | i :: is, w, h => by
    have hi := h i (List.mem_cons_self ..)
    have ih := eqItems_u8 d n l m hl hm is w (fun j hj => h j (List.mem_cons_of_mem _ hj))
    rw [cellsOf5] at ih ⊢
    simp only [Op.eqItems, Sem.run_bind, Nat.mul_one, part5 l i (by omega) w, part5 m i (by omega) w, Result.andThen_ok, run_equalIn_int w d 5 .u8 .u8 _ _ Tryz.underlying5]
    by_cases e : (l.getD i 0 == m.getD i 0) = true
    · simp only [e, Bool.not_true, Bool.false_eq_true, if_false, List.all_cons, Bool.true_and]
      exact ih
    · have e' : (l.getD i 0 == m.getD i 0) = false := by simpa using e
      simp only [e', Bool.not_false, if_true, List.all_cons, Bool.false_and, Sem.run_pure]
theorem all_getD_self (l : List Int) (is : List Nat) : (is.all fun i => l.getD i 0 == l.getD i 0) = true := by simp
theorem equal35_same (l : List Int) (hl : l.length = 32) (w : World) : (Op.equalIn 10000 24 (.agg (u8s l)) (.agg (u8s l))).run Tryz.prog w = .ok true w := by
  cases hq : Tryz.prog.info? 5 with
  | none => have h5 := info5; rw [hq] at h5; cases h5
  | some i =>
    rw [run_equalIn_array w 9999 (u8s l) (u8s l) Tryz.underlying24 hq, eqItems_u8 9998 32 l l hl hl _ w (fun i hi => List.mem_range.1 hi), all_getD_self]
theorem eql35_same (l : List Int) (hl : l.length = 32) (w : World) : (binOp .eql 24 (.agg (u8s l)) (.agg (u8s l))).run Tryz.prog w = .ok (.bool true) w := by
  rw [run_eql_struct, equal35_same l hl w]
  rfl
end Go.Proofs.YtkjhoanlkkcfkaaGreatDoor
/- DERIVED. append of any slice of bytes to an own row; a digest loaded as a whole. -/
namespace Go.Proofs.YtkjhoanlkkcfkaaGreatDoor.lawAnybody
open Go.RowKit
/-- appending a slice of bytes, nil or not, to a row of the call's own. -/
theorem wpList_append_byt {w : World} {ops : Array Oper} {rest : List Oper} {o : Oper} {a : Act} {Q : Exit → Act → World → Prop} (hgd : o.guard = none) (s x : Operand)
    (ho : o.op = .call { callee := .builtin .append, args := #[s, x], argTypes := #[38, 38] }) (base : Nat) (v : Value) (n : Nat) (L : List Int) (hs : a.eval s = v) (hown : w.ownsRow base 5 1 v n (vals L))
    (A : Option Addr) (m c : Nat) (M : List Int) (hx : a.eval x = .slice A m c) (hm : M.length = m) (hB : Byt w A c M) (h63 : n + m ≤ 100000) (hbase : base ≤ w.heap.size)
    (h : ∀ v' w', w'.ownsRow base 5 1 v' (n + m) (vals (L ++ M)) → (∀ B u, Below B u w → B ≤ base → Below B u w') → (∀ k b, w.heap[k]? = some b → v.ownBlock ≠ some k → w'.heap[k]? = some b) →
      wpList Tryz.prog ops Q rest (a.put o.dst v') w') : wpList Tryz.prog ops Q (o :: rest) a w := by
  obtain ⟨i0, hi0, hz00, hz10, hz20⟩ := info_parts info5
  cases A with
  | none =>
    have hc := hB.2.1 rfl
    have hm0 : m = 0 := by have := hB.1; omega
    subst hc hm0
    obtain rfl : M = [] := List.eq_nil_of_length_eq_zero hm
    refine wpList_append_own_none hgd s x 38 ho base 5 i0 1 Tryz.underlying38 hi0 v n (vals L) hs hown hx ?_
    exact h v w (by rw [List.append_nil]; exact hown) (fun _ _ h _ => h) (fun _ _ h _ => h)
  | some ad =>
    refine wpList_append_own _ hgd s x 38 ho base 5 i0 (.int .u8 0) 1 1 Tryz.underlying38 hi0 hz00 hz10 hz20 rfl (by decide) v n (vals L) hs hown ad m c (vals M) hx (by rw [vals_length, hm]; omega)
      (hB.cells (fun _ _ => rfl) ad rfl) (vals_one _) (by unfold maxLen; omega) (by omega) hbase ?_
    intro v' w' hown' hgrow _
    rw [vals_append] at hown'
    exact h v' w' hown' (fun B u hb hB' => hb.grown hgrow (by omega) (fun k hk => Nat.le_trans hB' (own_ge hown k hk))) (fun k b hk hne => by
      rw [hgrow.block k (Array.getElem?_eq_some_iff.1 hk).1 (fun e => hne (by rw [e]))]; exact hk)
/-- a digest, loaded as a whole. -/
noncomputable def load35 (v : Value) : Sem Value := Instr.loadAt 24 v
theorem loadAt35 (v : Value) : Instr.loadAt 24 v = load35 v := rfl
theorem load35_eq {w : World} {g : Nat} {l : List Int} (hl : l.length = 32) (h : w.heap[g]? = some (.cells (u8s l) 24 (0, 0))) : (load35 (.pointer (some ⟨g, 0, none⟩))).run Tryz.prog w = .ok (.agg (u8s l)) w := by
  have hi : (Tryz.prog.info? 24).map (·.size) = some (u8s l).size := by rw [u8s_size, hl]; exact info35
  unfold load35
  simp only [Instr.loadAt, Instr.sureAddr, Sem.run_bind, Sem.run_pure, Result.andThen_ok, run_loadVar_row w g 24 24 _ (0, 0) _ h Tryz.underlying24 rfl hi]
/-- an append, run as a whole. -/
noncomputable def appendS (ts : Array TypeId) (ty : TypeId) (args : Array Value) : Sem Value := Builtin.append_ ts ty args
theorem appendS_eq (ts : Array TypeId) (ty : TypeId) (args : Array Value) : Builtin.append_ ts ty args = appendS ts ty args := rfl
theorem run_append_byt {w : World} (ty : TypeId) (base : Nat) (v : Value) (n : Nat) (L : List Int) (hown : w.ownsRow base 5 1 v n (vals L)) (A : Option Addr) (m c : Nat) (M : List Int) (hm : M.length = m) (hB : Byt w A c M) (h63 : n + m ≤ 100000) (hbase : base ≤ w.heap.size) :
    ∃ v' w', (appendS #[38, 38] ty #[v, .slice A m c]).run Tryz.prog w = .ok v' w' ∧ w'.ownsRow base 5 1 v' (n + m) (vals (L ++ M)) ∧ (∀ B u, Below B u w → B ≤ base → Below B u w') ∧ (∀ k b, w.heap[k]? = some b → v.ownBlock ≠ some k → w'.heap[k]? = some b) := by
  obtain ⟨i0, hi0, hz00, hz10, hz20⟩ := info_parts info5
  unfold appendS
  cases A with
  | none =>
    have hc := hB.2.1 rfl
    have hm0 : m = 0 := by have := hB.1; omega
    subst hc hm0
    obtain rfl : M = [] := List.eq_nil_of_length_eq_zero hm
    exact ⟨v, w, run_append_owned_none (P := Tryz.prog) (w := w) base 38 ty 5 i0 1 Tryz.underlying38 hi0 v n (vals L) hown, by rw [List.append_nil]; exact hown, fun _ _ h _ => h, fun _ _ h _ => h⟩
  | some ad =>
    obtain ⟨v', w', hr, hown', hgrow, _⟩ := run_append_own (P := Tryz.prog) w base 38 ty 5 i0 (.int .u8 0) 1 1 Tryz.underlying38 hi0 hz00 hz10 hz20 rfl (by decide) v n (vals L) hown ad m c (vals M) (by rw [vals_length, hm]; omega)
      (hB.cells (fun _ _ => rfl) ad rfl) (vals_one _) (by unfold maxLen; omega) (by omega) hbase
    rw [vals_append] at hown'
    exact ⟨v', w', hr, hown', fun B u hb hB' => hb.grown hgrow (by omega) (fun k hk => Nat.le_trans hB' (own_ge hown k hk)), fun k b hk hne => by
      rw [hgrow.block k (Array.getElem?_eq_some_iff.1 hk).1 (fun e => hne (by rw [e]))]; exact hk⟩
attribute [irreducible] load35 appendS
end Go.Proofs.YtkjhoanlkkcfkaaGreatDoor.lawAnybody
/- DERIVED. Appending to a row of the call's own that is used on; hmac.Equal's contracts in worlds that are letters. -/
namespace Go.Proofs.YtkjhoanlkkcfkaaGreatDoor
open Go.RowKit
/-- the first bytes of a slice. -/
theorem byt_take {w : World} {A : Option Addr} {c : Nat} {L : List Int} (h : Byt w A c L) (k : Nat) : Byt w A c (L.take k) :=
  ⟨by rw [List.length_take]; have := h.1; omega, h.2.1, fun hl => by
    rw [List.length_take] at hl
    obtain ⟨g, off, hA, hg, hc⟩ := h.2.2 (by omega)
    refine ⟨g, off, hA, hg, fun j hj => ?_⟩
    rw [List.length_take] at hj
    rw [hc j (by omega)]
    simp only [List.getD_eq_getElem?_getD, List.getElem?_take]
    rw [if_pos (by omega)]⟩
/-- nothing is written. -/
structure Still (w w' : World) : Prop where
  heap : w'.heap = w.heap
  low : Below w.heap.size w w'
theorem Still.drewN (w : World) (q : Nat) : Still w (w.drewN q) := ⟨rfl, ⟨rfl, rfl, rfl, Nat.le_refl _, fun _ _ => rfl⟩⟩
theorem own_still {w w' : World} {base n : Nat} {v : Value} {xs : List Value} (h : w.ownsRow base 5 1 v n xs) (k : Still w w') : w'.ownsRow base 5 1 v n xs := by
  unfold World.ownsRow at h ⊢
  rw [k.heap]; exact h
theorem Byt.still {w w' : World} {A : Option Addr} {c : Nat} {L : List Int} (h : Byt w A c L) (k : Still w w') : Byt w' A c L := h.below k.low (Nat.le_refl _)
theorem equal_yes' (L : List Int) (A A2 : Option Addr) (c c2 n : Nat) (w : World) (hn : L.length = n) (hb : InB L) (hB : Byt w A c L) (hB2 : Byt w A2 c2 L) (hx : n ≤ 9223372036854775807) :
    Calls Tryz.prog 111 #[.slice A n c, .slice A2 n c2] w fun e w' => e = .returned (.bool true) ∧ Still w w' :=
  (equal_yes L A A2 c c2 n w hn hb hB hB2 hx).mono (by rintro e w' ⟨he, q, rfl⟩; exact ⟨he, Still.drewN _ _⟩)
theorem equal_no' (L M : List Int) (A A2 : Option Addr) (c c2 n m : Nat) (w : World) (hn : L.length = n) (hm : M.length = m) (hb : InB L) (hb2 : InB M) (hB : Byt w A c L) (hB2 : Byt w A2 c2 M) (hx : n ≤ 9223372036854775807) (hne : L ≠ M) :
    Calls Tryz.prog 111 #[.slice A n c, .slice A2 m c2] w fun e w' => e = .returned (.bool false) ∧ Still w w' :=
  (equal_no L M A A2 c c2 n m w hn hm hb hb2 hB hB2 hx hne).mono (by rintro e w' ⟨he, q, rfl⟩; exact ⟨he, Still.drewN _ _⟩)
/-- texts of unlike length. -/
theorem equal_len (A A2 : Option Addr) (c c2 n m : Nat) (w : World) (hne : n ≠ m) :
    Calls Tryz.prog 111 #[.slice A n c, .slice A2 m c2] w fun e w' => e = .returned (.bool false) ∧ Still w w' := by
  have h1 : ¬ (n : Int) = m := by omega
  go_enter Tryz.func111, Tryz.ntmps111
  go_wp2
  go_ret
  exact ⟨rfl, Still.drewN _ 0⟩
/-- a row of the call's own reads as its bytes. -/
theorem own_byt {w : World} {base n : Nat} {v : Value} {L : List Int} (h : w.ownsRow base 5 1 v n (vals L)) : ∃ A c, v = .slice A n c ∧ L.length = n ∧ Byt w A c L := by
  have hlen : L.length = n := by have := h.1; rw [vals_length] at this; omega
  rcases h.2 with ⟨rfl, hx⟩ | ⟨g, cap, cur, rfl, _, hh, hcap, _, hs, ht⟩
  · subst hx
    obtain rfl : L = [] := List.eq_nil_of_length_eq_zero hlen
    exact ⟨none, 0, rfl, rfl, Nat.le_refl _, fun _ => rfl, fun h => absurd h (Nat.lt_irrefl 0)⟩
  · refine ⟨_, _, rfl, hlen, by omega, (fun h => by cases h), fun _ => ⟨g, 0, rfl, (Array.getElem?_eq_some_iff.1 hh).1, fun j hj => ?_⟩⟩
    rw [Nat.zero_add, cell_row hh]
    have h2 : cur[j]? = cur.toList[j]? := by simp
    have h3 : (cur.toList.take (n * 1))[j]? = cur.toList[j]? := by rw [List.getElem?_take, if_pos (by omega)]
    rw [h2, ← h3, ht]
    simp [vals, hj]
/-- what is appended to stays as it was. -/
theorem run_append_keeps {w : World} (ty : TypeId) (base : Nat) (v : Value) (n : Nat) (L : List Int) (hown : w.ownsRow base 5 1 v n (vals L)) (ad : Addr) (m c : Nat) (M : List Int) (hm : M.length = m) (hB : Byt w (some ad) c M) (h63 : n + m ≤ 100000) (hbase : base ≤ w.heap.size) :
    ∃ v' w', (lawAnybody.appendS #[38, 38] ty #[v, .slice (some ad) m c]).run Tryz.prog w = .ok v' w' ∧ w'.ownsRow base 5 1 v' (n + m) (vals (L ++ M)) ∧ w'.ownsRow base 5 1 v n (vals L) ∧ (∀ B u, Below B u w → B ≤ base → Below B u w') := by
  obtain ⟨i0, hi0, hz00, hz10, hz20⟩ := info_parts info5
  have hrun : ∀ x, (lawAnybody.appendS #[38, 38] ty x) = Builtin.append_ #[38, 38] ty x := fun x => (lawAnybody.appendS_eq _ _ _).symm
  rw [hrun]
  have hlm : (vals M).length = m * 1 := by rw [vals_length, hm]; omega
  have hnews := hB.cells (fun _ _ => rfl) ad rfl
  rcases hown.2 with ⟨rfl, hx⟩ | ⟨g, cap, cur, rfl, hbg, hh, hcap, hcm, hs, ht⟩
  · obtain ⟨v', w', hr, hown', hgrow, _⟩ := run_append_own (P := Tryz.prog) w base 38 ty 5 i0 (.int .u8 0) 1 1 Tryz.underlying38 hi0 hz00 hz10 hz20 rfl (by decide) _ n (vals L) hown ad m c (vals M) hlm hnews (vals_one _) (by unfold maxLen; omega) (by omega) hbase
    rw [vals_append] at hown'
    exact ⟨v', w', hr, hown', ⟨hown.1, .inl ⟨rfl, hx⟩⟩, fun B u hb hB' => hb.grown hgrow (by omega) (fun k hk => by cases hk)⟩
  · by_cases hroom : n + m ≤ cap
    · have hr := run_append_room (P := Tryz.prog) w 38 ty 5 i0 Tryz.underlying38 hi0 g n cap cur hh ad m c (vals M) (by rw [hlm, hz10]) hnews (vals_one _) hroom (by rw [hlm, hz10, hs]; omega)
      rw [hz10] at hr
      have hlen : (vals L).length = n * 1 := hown.1
      refine ⟨_, _, hr, ⟨by rw [vals_length, List.length_append, ← vals_length L, hlen, ← vals_length M, hlm]; omega, .inr ⟨g, cap, _, rfl, hbg, setRow_heap w g cur _ 5 _ hh, hroom, hcm, ?_, ?_⟩⟩, ⟨hlen, .inr ⟨g, cap, _, rfl, hbg, setRow_heap w g cur _ 5 _ hh, hcap, hcm, ?_, ?_⟩⟩, ?_⟩
      · simp only [List.size_toArray, List.length_append, List.length_take, List.length_drop, Array.length_toList]; omega
      · rw [ht, show vals (L ++ M) = vals L ++ vals M from (vals_append L M).symm]
        have : (n + m) * 1 = (vals L ++ vals M).length := by rw [List.length_append, hlen, hlm]; omega
        rw [this]
        exact List.take_left
      · simp only [List.size_toArray, List.length_append, List.length_take, List.length_drop, Array.length_toList]; omega
      · rw [ht, List.append_assoc, ← hlen]
        exact List.take_left
      · intro B u hb hB'
        exact below_setRow hb (by omega) _
    · obtain ⟨v', w', hr, hown', hgrow⟩ := run_append_arg_grows (P := Tryz.prog) w 38 ty 5 i0 (.int .u8 0) 1 1 Tryz.underlying38 hi0 hz00 hz10 hz20 rfl (by decide) ⟨g, 0, none⟩ n cap (vals L) hown.1 (hown.cells (g := g) rfl) ad m c (vals M) hlm hnews (by omega) (by unfold maxLen; omega) (by omega)
      rw [vals_append] at hown'
      refine ⟨v', w', hr, ?_, ⟨hown.1, .inr ⟨g, cap, cur, rfl, hbg, ?_, hcap, hcm, hs, ht⟩⟩, fun B u hb hB' => hb.grown hgrow (by omega) (fun k hk => by cases hk)⟩
      · refine ⟨hown'.1, hown'.2.imp id ?_⟩
        rintro ⟨g', cap', cur', h1, h2, h3⟩
        exact ⟨g', cap', cur', h1, Nat.le_trans hbase h2, h3⟩
      · rw [hgrow.block g (Array.getElem?_eq_some_iff.1 hh).1 (by simp)]; exact hh
end Go.Proofs.YtkjhoanlkkcfkaaGreatDoor
/- DERIVED. The contracts of hmac.appendPart and of the statements' own piece: a length, four bytes, and the bytes, behind others. -/
namespace Go.Proofs.YtkjhoanlkkcfkaaGreatDoor
open Go.RowKit lawAnybody
/-- a length as four bytes. -/
def lenL (m : Nat) : List Int := [(m : Int) / 16777216 % 256, (m : Int) / 65536 % 256, (m : Int) / 256 % 256, (m : Int) % 256]
def partL (M : List Int) : List Int := lenL M.length ++ M
theorem lenL_in (m : Nat) : InB (lenL m) := by
  intro j
  match j with
  | 0 => simp [lenL]; omega
  | 1 => simp [lenL]; omega
  | 2 => simp [lenL]; omega
  | 3 => simp [lenL]; omega
  | j + 4 => simp [lenL]
theorem partL_in {M : List Int} (h : InB M) : InB (partL M) := (lenL_in _).append h
theorem partL_length (M : List Int) : (partL M).length = 4 + M.length := by simp [partL, lenL]; omega
/-- what such a call leaves. -/
def Behind4 (base n m : Nat) (L M : List Int) (w : World) (e : Ending) (w' : World) : Prop :=
  ∃ v', e = .returned v' ∧ w'.ownsRow base 5 1 v' (n + (4 + m)) (vals (L ++ partL M)) ∧ ∀ B u, Below B u w → B ≤ base → Below B u w'
theorem byt_four (w : World) (a b c d : Int) : Byt (w.alloc (.cells #[.int .u8 a, .int .u8 b, .int .u8 c, .int .u8 d] 5)) (some ⟨w.heap.size, 0, none⟩) 4 [a, b, c, d] := byt_rowF (l := [a, b, c, d]) (fr := (0, 0)) (t := 5) (Go.heap_alloc_new w _) rfl
theorem lenL_small (m : Nat) (h : m ≤ 100000) : lenL m = [(m : Int) / 16777216, (m : Int) / 65536, (m : Int) / 256 % 256, (m : Int) % 256] := by
  unfold lenL
  rw [show (m : Int) / 16777216 % 256 = (m : Int) / 16777216 by omega, show (m : Int) / 65536 % 256 = (m : Int) / 65536 by omega]
theorem byt_len (w : World) (m : Nat) (h : m ≤ 100000) : Byt (w.alloc (.cells #[.int .u8 ((m : Int) / 16777216), .int .u8 ((m : Int) / 65536), .int .u8 ((m : Int) / 256 % 256), .int .u8 ((m : Int) % 256)] 5)) (some ⟨w.heap.size, 0, none⟩) 4 (lenL m) := by
  rw [lenL_small m h]; exact byt_four w _ _ _ _
set_option maxRecDepth 100000 in
set_option maxHeartbeats 1000000 in
theorem part_any (base : Nat) (v : Value) (n : Nat) (L : List Int) (A : Option Addr) (c m : Nat) (M : List Int) (wb w : World) (hown : w.ownsRow base 5 1 v n (vals L)) (hm : M.length = m) (hB : Byt wb A c M) (hwb : Below wb.heap.size wb w) (hbb : wb.heap.size ≤ base) (hs : n + 4 + m ≤ 100000) (hbase : base ≤ w.heap.size) :
    Calls Tryz.prog 130 #[v, .slice A m c] w (Behind4 base n m L M w) := by
  have Ho := Lib.hid hown
  have Hm := Lib.hid hm
  have HB := Lib.hid hB
  have Hwb := Lib.hid hwb
  have hmI : (m : Int) ≤ 100000 := by omega
  have hb4 := byt_len w m (by omega)
  clear hown hm hB hwb
  go_enter Tryz.func130, Tryz.ntmps130
  go_wp2_with (first
    | (at_builtin; refine wpList_append_byt rfl (.tmp 9) (.tmp 21) rfl base v n L rfl (own_below Ho.out ((Below.refl _ _).alloc (Nat.le_refl _) _)) (some ⟨w.heap.size, 0, none⟩) 4 4 (lenL m) rfl rfl hb4 (by omega) (Nat.le_trans hbase (by simp)) ?_; intro v1 w1 hown1 hlow1 _; have Own1 := Lib.hid hown1; have hs1 := (hlow1 base w ((Below.refl _ _).alloc hbase _) (Nat.le_refl _)).size; have Byt1 := Lib.hid (HB.out.below (hlow1 wb.heap.size wb (Hwb.out.alloc Hwb.out.size _) hbb) (Nat.le_refl _)); have Hlow1 := Lib.hid hlow1; clear hown1 hlow1 hb4)
    | (at_builtin; refine wpList_append_byt rfl (.tmp 23) (.tmp 24) rfl base v1 (n + 4) (L ++ lenL m) rfl Own1.out A m c M rfl Hm.out Byt1.out (by omega) (Nat.le_trans hbase hs1) ?_; intro v2 w2 hown2 hlow2 _; have Own2 := Lib.hid hown2; have Hlow2 := Lib.hid hlow2; clear hown2 hlow2))
  go_ret
  refine ⟨v2, rfl, ?_, fun B u hu hBb => Hlow2.out B u (Hlow1.out B u (hu.alloc (Nat.le_trans hBb hbase) _) hBb) hBb⟩
  have h := Own2.out
  rw [List.append_assoc] at h
  rw [show n + (4 + m) = n + 4 + m by omega, partL, Hm.out]
  exact h
end Go.Proofs.YtkjhoanlkkcfkaaGreatDoor
/- DERIVED. The contract of hmac.Derive: a key out of a key. -/
namespace Go.Proofs.YtkjhoanlkkcfkaaGreatDoor
open Go.RowKit lawAnybody
/-- a part: where it lies, its capacity, its bytes. -/
structure Part where
  A : Option Addr
  c : Nat
  M : List Int
def Part.val (p : Part) : Value := .slice p.A p.M.length p.c
def canonL (s : List Int) (ps : List Part) : List Int := partL s ++ ps.flatMap fun p => partL p.M
theorem canonL_snoc (s : List Int) (ps : List Part) (j : Nat) (h : j < ps.length) : canonL s (ps.take (j + 1)) = canonL s (ps.take j) ++ partL ps[j].M := by
  unfold canonL
  rw [List.take_succ_eq_append_getElem h, List.flatMap_append, List.append_assoc]
  simp
theorem canonL_le (s : List Int) (ps : List Part) (j : Nat) : (canonL s (ps.take j)).length ≤ (canonL s ps).length := by
  have : canonL s ps = canonL s (ps.take j) ++ (ps.drop j).flatMap fun p => partL p.M := by
    unfold canonL
    rw [List.append_assoc, ← List.flatMap_append, List.take_append_drop]
  rw [this, List.length_append]
  omega
/-- the parts lie where they should. -/
structure PartsAt (wb : World) (Ap : Option Addr) (ps : List Part) : Prop where
  row : ∀ j (h : j < ps.length), ∃ g off, Ap = some ⟨g, off, none⟩ ∧ g < wb.heap.size ∧ wb.cell? ⟨g, off + j, none⟩ = some ps[j].val
  byt : ∀ j (h : j < ps.length), Byt wb ps[j].A ps[j].c ps[j].M ∧ InB ps[j].M
theorem canonL_in {s : List Int} (hs : InB s) {wb : World} : ∀ {ps : List Part}, (∀ j (h : j < ps.length), Byt wb ps[j].A ps[j].c ps[j].M ∧ InB ps[j].M) → InB (canonL s ps) := by
  intro ps h
  have : ∀ (ps : List Part), (∀ p ∈ ps, InB p.M) → InB (ps.flatMap fun p => partL p.M) := by
    intro ps
    induction ps with
    | nil => intro _ j; simp
    | cons p ps ih =>
      intro hp
      rw [List.flatMap_cons]
      exact (partL_in (hp p (List.mem_cons_self ..))).append (ih fun q hq => hp q (List.mem_cons_of_mem _ hq))
  refine (partL_in hs).append (this ps fun p hp => ?_)
  obtain ⟨j, hj, rfl⟩ := List.getElem_of_mem hp
  exact (h j hj).2
/-- what the loop keeps. -/
def DerI (k s : List Int) (ps : List Part) (m B : Nat) (w : World) (v i : Value) (wr : World) : Prop :=
  ∃ j : Nat, j ≤ m ∧ i = .int .i64 j ∧ Hid (wr.ownsRow B 5 1 v (canonL s (ps.take j)).length (vals (canonL s (ps.take j)))) ∧ Hid (Below w.heap.size w wr) ∧ Hid (wr.heap[w.heap.size]? = some (.cells (u8s k) 24 (0, 0))) ∧ Hid (∃ Z : Array Value, Z.size = 32 ∧ wr.heap[w.heap.size + 1]? = some (.cells Z 24 (0, 0))) ∧ B ≤ wr.heap.size
set_option maxRecDepth 100000 in
set_option maxHeartbeats 1000000 in
theorem derive_any (k : List Int) (s : ByteArray) (Ap : Option Addr) (cp m : Nat) (ps : List Part) (w : World) (hk : k.length = 32) (hb : InB k) (hm : ps.length = m) (hP : PartsAt w Ap ps) (hL : Laid w) (hT : (canonL (bytesOf s) ps).length ≤ 40000) :
    Calls Tryz.prog 116 #[.agg (u8s k), .string s, .slice Ap m cp] w fun e w' => e = .returned (.agg (u8s (hmacL k (canonL (bytesOf s) ps)))) ∧ Below w.heap.size w w' := by
  have hsz := hL.sz
  have h2 := two_new w (.cells (u8s k) 24) (.cells zero32 24)
  have b2 : Below w.heap.size w ((w.alloc (.cells (u8s k) 24)).alloc (.cells zero32 24)) := below_two w _ _
  have HL := Lib.hid hL
  have HP := Lib.hid hP
  have Hk := Lib.hid hk
  have Hb := Lib.hid hb
  have Hm := Lib.hid hm
  have HT := Lib.hid hT
  have hs40 : s.size ≤ 40000 := by
    have h1 := canonL_le (bytesOf s) ps 0
    have h2 : (canonL (bytesOf s) (ps.take 0)).length = 4 + s.size := by simp [canonL, partL_length, bytesOf_length]
    omega
  have hm4 : m ≤ 40000 := by
    have : ∀ ps : List Part, ps.length ≤ (ps.flatMap fun p => partL p.M).length := by
      intro ps
      induction ps with
      | nil => simp
      | cons p ps ih => rw [List.flatMap_cons, List.length_append, partL_length, List.length_cons]; omega
    have h1 := this ps
    have h2 : (canonL (bytesOf s) ps).length = (partL (bytesOf s)).length + (ps.flatMap fun p => partL p.M).length := by simp [canonL]
    omega
  unfold zero32 at h2 b2
  have H2 := Lib.hid h2
  have B2 := Lib.hid b2
  clear hL hP hk hb hm hT h2 b2
  go_enter Tryz.func116, Tryz.ntmps116
  go_upto_region 1 with fail
  have h1 := H2.out.1
  have hz := H2.out.2
  have low := B2.out
  have hs0 : w.heap.size + 2 ≤ ((w.alloc (.cells (u8s k) 24)).alloc (.cells #[.int .u8 0, .int .u8 0, .int .u8 0, .int .u8 0, .int .u8 0, .int .u8 0, .int .u8 0, .int .u8 0, .int .u8 0, .int .u8 0, .int .u8 0, .int .u8 0, .int .u8 0, .int .u8 0, .int .u8 0, .int .u8 0, .int .u8 0, .int .u8 0, .int .u8 0, .int .u8 0, .int .u8 0, .int .u8 0, .int .u8 0, .int .u8 0, .int .u8 0, .int .u8 0, .int .u8 0, .int .u8 0, .int .u8 0, .int .u8 0, .int .u8 0, .int .u8 0] 24)).heap.size := by simp
  clear H2 B2
  generalize World.alloc _ _ = w0 at h1 hz low hs0 ⊢
  have kc := Lib.run_convert_string_bytes (P := Tryz.prog) w0 9 38 5 s Tryz.underlying9 Tryz.underlying38 Tryz.underlying5
  obtain ⟨c0, hc0⟩ : ∃ c, c = grownCap w0 s.size 0 5 := ⟨_, rfl⟩
  have hbs := byt_string w0 s
  have low0 := below_string w0 s
  rw [← hc0] at kc hbs
  obtain ⟨w1, hw1⟩ : ∃ w1, w1 = Lib.bytesWorld w0 5 s := ⟨_, rfl⟩
  rw [← hw1] at kc hbs low0
  have Hbs := Lib.hid hbs
  have Low1 := Lib.hid (low.trans (low0.mono low.size))
  have R1 := Lib.hid ((low0.block _ (by omega)).trans h1)
  have Z1 := Lib.hid ((low0.block _ (by omega)).trans hz)
  have hs1 : w.heap.size + 2 ≤ w1.heap.size := by have := low0.size; omega
  have hmI : (m : Int) ≤ 40000 := by omega
  clear hc0 hw1 hbs low0 h1 hz low
  go_upto_region 2 with (go_at_call 130; refine (part_any w1.heap.size (.slice none 0 0) 0 [] (some ⟨w0.heap.size, 0, none⟩) c0 s.size (bytesOf s) w1 w1 (World.ownsRow_nil w1 _ 5 1) (bytesOf_length s) Hbs.out (Below.refl _ _) (Nat.le_refl _) (by omega) (Nat.le_refl _)).mono ?_; rintro e w2 ⟨v2, rfl, own2, hlow2⟩; have Low2 := Lib.hid (hlow2 _ _ Low1.out (by omega)); have R2 := Lib.hid (((hlow2 _ _ (Below.refl w1.heap.size w1) (Nat.le_refl _)).block _ (by omega)).trans R1.out); have Z2 := Lib.hid (((hlow2 _ _ (Below.refl w1.heap.size w1) (Nat.le_refl _)).block _ (by omega)).trans Z1.out); have hs2 := (hlow2 _ _ (Below.refl w1.heap.size w1) (Nat.le_refl _)).size; have Own2 := Lib.hid own2; clear own2 hlow2)
  go_wp2
  go_loopw [7, 15] (fun v i wr => DerI k (bytesOf s) ps m w1.heap.size w v i wr) (fun _ i _ => m - (intOf i).toNat)
  case atStart => exact ⟨0, Nat.zero_le _, rfl, by have h := Own2.out; show World.ownsRow _ _ _ _ _ _ _; rw [show canonL (bytesOf s) (ps.take 0) = [] ++ partL (bytesOf s) by simp [canonL], List.nil_append, partL_length, bytesOf_length, ← Nat.zero_add (4 + s.size)]; exact h, Low2, R2, ⟨_, rfl, Z2.out⟩, hs2⟩
  case round =>
    obtain ⟨j, hj, rfl, own, low, hkr, hzr, hBr⟩ := hrel
    clear Own2 Low2 R2 Z2 hs2 kc
    by_cases hlt : j < m
    · have hltp : j < ps.length := by have := Hm.out; omega
      obtain ⟨g, off, rfl, hg, hcell⟩ := HP.out.row j hltp
      obtain ⟨hpb, hpi⟩ := HP.out.byt j hltp
      have hsn := canonL_snoc (bytesOf s) ps j hltp
      have hle := canonL_le (bytesOf s) ps (j + 1)
      obtain ⟨p, hp⟩ : ∃ p, p = ps[j] := ⟨_, rfl⟩
      rw [← hp] at hcell hpb hpi hsn
      obtain ⟨pA, pc, pM⟩ := p
      have cc : wr.cell? ⟨g, off + j, none⟩ = some (.slice pA pM.length pc) := (low.out.cell (p := ⟨g, off + j, none⟩) hg).trans hcell
      obtain ⟨C, hC⟩ : ∃ C, C = canonL (bytesOf s) (ps.take j) := ⟨_, rfl⟩
      have own' := own.out
      rw [← hC] at own' hsn
      have hbd : C.length + (4 + pM.length) ≤ 40000 := by
        have h1 : (canonL (bytesOf s) (ps.take (j + 1))).length = C.length + (4 + pM.length) := by rw [hsn, List.length_append, partL_length]
        have := HT.out
        omega
      have Own' := Lib.hid own'
      have Hpb := Lib.hid hpb
      have Hsn := Lib.hid hsn
      have hltI : (j : Int) < m := by omega
      clear own own' hcell hpb hpi hp hC hsn hle
      go_wp2_with (go_at_call 130; refine (part_any w1.heap.size _ C.length C pA pc pM.length pM w wr Own'.out rfl Hpb.out low.out (by omega) (by omega) hBr).mono ?_; rintro e w3 ⟨v3, rfl, own3, hlow3⟩; have b3 := hlow3 _ _ (Below.refl w1.heap.size wr) (Nat.le_refl _); have Low3 := Lib.hid (hlow3 _ _ low.out (by omega)); have K3 := Lib.hid ((b3.block _ (by omega)).trans hkr.out); have Z3 : Hid (∃ Z : Array Value, Z.size = 32 ∧ w3.heap[w.heap.size + 1]? = some (.cells Z 24 (0, 0))) := (by obtain ⟨Z, hZ, hz⟩ := hzr.out; exact ⟨Z, hZ, (b3.block _ (by omega)).trans hz⟩); have hs3 := b3.size; have Own3 := Lib.hid own3; clear own3 hlow3 b3)
      go_roundw
      case rel => exact ⟨j + 1, by omega, by go_num, by have h := Own3.out; show World.ownsRow _ _ _ _ _ _ _; rw [Hsn.out, List.length_append, partL_length]; exact h, Low3, K3, Z3, by omega⟩
      case measure => simp [intOf]; omega
    · obtain rfl : j = m := by omega
      have own' := own.out
      rw [List.take_of_length_le (by rw [Hm.out]; exact Nat.le_refl _)] at own'
      obtain ⟨At, ct, rfl, _, hbt⟩ := own_byt own'
      obtain ⟨T, hTt⟩ : ∃ T, T = canonL (bytesOf s) ps := ⟨_, rfl⟩
      obtain ⟨Z, hZ, hz⟩ := hzr.out
      have hTin : InB T := by rw [hTt]; exact canonL_in (bytesOf_in s) HP.out.byt
      have hTl : T.length ≤ 40000 := by rw [hTt]; exact HT.out
      rw [← hTt] at hbt ⊢
      have HTi := Lib.hid hTin
      have Hbt := Lib.hid hbt
      have Hz := Lib.hid hz
      have HZ := Lib.hid hZ
      obtain ⟨S, hS⟩ : ∃ S, S = hmacL k T := ⟨_, rfl⟩
      have HS := Lib.hid hS
      have H35 : Hid ((Tryz.prog.info? 24).map (·.size) = some (u8s S).size) := by show _ = _; rw [u8s_size, hS, hmacL_length]; exact info35
      have HTt := Lib.hid hTt
      clear own own' hbt hz hZ hTin hzr hS hTt
      go_wp2_with (first
        | (go_at_call 119; refine (hmac_any k T (some ⟨w.heap.size, 0, none⟩) At 32 32 ct T.length wr Hk.out rfl Hb.out HTi.out (byt_rowT hkr.out Hk.out) Hbt.out (HL.out.below low.out hsz) (by omega) (by omega)).mono ?_; rintro e w4 ⟨rfl, b4⟩; rw [← HS.out]; have Z4 := Lib.hid ((b4.block _ (by omega)).trans Hz.out); have Low4 := Lib.hid (low.out.trans (b4.mono low.out.size)); clear b4)
        | (refine wpList_store_row rfl 24 (.tmp 6) (.tmp 25) rfl (w.heap.size + 1) (u8s S) (by rfl) (by rfl) 24 _ Z4.out H35.out (by rw [HZ.out, u8s_size, HS.out, hmacL_length]) (u8s_one _) ?_))
      exact bodyPost_ret (v := .agg (u8s S)) (results_cell_row rfl _ _ (w.heap.size + 1) 24 _ (0, 0) _ rfl (setRow_heap w4 _ _ _ _ _ Z4.out) Tryz.underlying24 rfl H35.out) rfl ⟨by rw [HS.out, HTt.out], below_setRow Low4.out (by omega) _⟩
end Go.Proofs.YtkjhoanlkkcfkaaGreatDoor
/- DERIVED. More words on rows in memory; no program. -/
namespace Go.Proofs.YtkjhoanlkkcfkaaGreatDoor
open Go.RowKit
/-- a block that was new ahead of a call is there behind it. -/
theorem kept_new {w w1 : World} {C : Array Value} {T : Nat} (h : Below (w.alloc (.cells C T)).heap.size (w.alloc (.cells C T)) w1) : w.heap.size < w1.heap.size ∧ w1.heap[w.heap.size]? = some (.cells C T (0, 0)) := by
  have hs : w.heap.size < (w.alloc (.cells C T)).heap.size := by rw [World.size_alloc]; omega
  exact ⟨Nat.lt_of_lt_of_le hs h.size, (h.block _ hs).trans (Go.heap_alloc_new _ _)⟩
/-- four cells of a block. -/
theorem cells4 {w : World} {g T : Nat} {a b c d : Value} {fr : Nat × Nat} (h : w.heap[g]? = some (.cells #[a, b, c, d] T fr)) :
    w.cell? ⟨g, 0, none⟩ = some a ∧ w.cell? ⟨g, 1, none⟩ = some b ∧ w.cell? ⟨g, 2, none⟩ = some c ∧ w.cell? ⟨g, 3, none⟩ = some d :=
  ⟨cell_row h 0, cell_row h 1, cell_row h 2, cell_row h 3⟩
theorem u32s_set (l : List Int) (k : Nat) (v : Int) : (u32s l).setIfInBounds k (.int .u32 v) = u32s (l.set k v) := by
  simp [u32s, List.map_set]
theorem u8s_set (l : List Int) (k : Nat) (v : Int) : (u8s l).setIfInBounds k (.int .u8 v) = u8s (l.set k v) := by
  simp [u8s, List.map_set]
/-- a row of words, one word written. -/
theorem row32_set {w : World} {g T : Nat} {l : List Int} (h : w.heap[g]? = some (.cells (u32s l) T (0, 0))) (k : Nat) (v : Int) : (w.setCell ⟨g, k, none⟩ (.int .u32 v)).heap[g]? = some (.cells (u32s (l.set k v)) T (0, 0)) := by
  rw [← u32s_set]; exact heap_setCell_same _ _ _ _ _ _ h
theorem row8_set {w : World} {g T : Nat} {l : List Int} (h : w.heap[g]? = some (.cells (u8s l) T (0, 0))) (k : Nat) (v : Int) : (w.setCell ⟨g, k, none⟩ (.int .u8 v)).heap[g]? = some (.cells (u8s (l.set k v)) T (0, 0)) := by
  rw [← u8s_set]; exact heap_setCell_same _ _ _ _ _ _ h
theorem row32_cell {w : World} {g T : Nat} {l : List Int} {fr : Nat × Nat} (h : w.heap[g]? = some (.cells (u32s l) T fr)) (k : Nat) (hk : k < l.length) : w.cell? ⟨g, k, none⟩ = some (.int .u32 (l.getD k 0)) := by
  rw [cell_row h, u32s_get l k hk]
theorem row8_cell {w : World} {g T : Nat} {l : List Int} {fr : Nat × Nat} (h : w.heap[g]? = some (.cells (u8s l) T fr)) (k : Nat) (hk : k < l.length) : w.cell? ⟨g, k, none⟩ = some (.int .u8 (l.getD k 0)) := by
  rw [cell_row h, u8s_get l k hk]
theorem four_new (w : World) (A B C D : Obj) : ((((w.alloc A).alloc B).alloc C).alloc D).heap[w.heap.size]? = some A ∧ ((((w.alloc A).alloc B).alloc C).alloc D).heap[w.heap.size + 1]? = some B ∧ ((((w.alloc A).alloc B).alloc C).alloc D).heap[w.heap.size + 1 + 1]? = some C ∧ ((((w.alloc A).alloc B).alloc C).alloc D).heap[w.heap.size + 1 + 1 + 1]? = some D := by
  have h := three_new w A B C
  refine ⟨?_, ?_, ?_, ?_⟩
  · exact (Go.heap_alloc_old _ D (by simp; omega)).trans h.1
  · exact (Go.heap_alloc_old _ D (by simp)).trans h.2.1
  · exact (Go.heap_alloc_old _ D (by simp)).trans h.2.2
  · have := heap_alloc_new (((w.alloc A).alloc B).alloc C) D
    simpa using this
theorem below4 (w : World) (A B C D : Obj) : Below w.heap.size w ((((w.alloc A).alloc B).alloc C).alloc D) := (below3 w A B C).alloc (by simp; omega) _
theorem Below.drewN {B : Nat} {w w' : World} (h : Below B w w') (n : Nat) : Below B w (w'.drewN n) := ⟨h.os, h.tape, h.output, h.size, h.block⟩
end Go.Proofs.YtkjhoanlkkcfkaaGreatDoor
