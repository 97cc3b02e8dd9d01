/- DERIVED. The contracts of disk.New and Copy. -/
import Derived.Test.YtbmkejhkckdoeaaDskWrite
import Derived.Deep.WholeRow
namespace Go.Proofs.Ytbmkejhkckdoeaa.Dsk
open Go.RowKit
/-- a new disk. -/
def newD (n : Nat) : DS := { data := List.replicate (n * 128) 0, writes := 0, off := false, laid := false, whole := 0, mask := z16 }
theorem inb_zeros (n : Nat) : InB (List.replicate n 0) := by
  intro j
  simp only [List.getD_eq_getElem?_getD, List.getElem?_replicate]
  split <;> simp
theorem newD_ok (n : Nat) (h1 : 1 ≤ n) (h2 : n ≤ 16384) : (newD n).Ok := by
  have hs : (newD n).secs = n := by simp [newD, DS.secs]
  exact ⟨inb_zeros _, by rw [hs]; simp [newD], by rw [hs]; exact h1, by rw [hs]; exact h2, rfl, inb16, by simp [newD], by simp [newD]⟩
set_option maxRecDepth 100000 in
set_option maxHeartbeats 1000000 in
theorem new_no (n : Int) (w : World) (h : n < 1 ∨ 16384 < n) : Calls Try.prog 6 #[.int .i64 n] w fun e w' => e = .returned (.tuple #[.pointer none, .int .i64 2]) ∧ w = w' := by
  by_cases h1 : n < 1
  · go_enter Try.func6, Try.ntmps6
    go_wp2
    go_ret2
    exact ⟨rfl, rfl⟩
  · have h2 : 16384 < n := by omega
    clear h
    go_enter Try.func6, Try.ntmps6
    go_wp2
    go_ret2
    exact ⟨rfl, rfl⟩
theorem made_zeros (n : Nat) : madeCells (Value.cells (.int .u8 0)) n = u8s (List.replicate n 0) := by
  apply Array.ext_getElem?
  intro j
  by_cases h : j < n
  · simp [madeCells, u8s, h, Value.cells, Nat.mod_one]
  · simp [madeCells, u8s, h]
theorem mk_any (n : Nat) (hn : n ≤ 4294967296) (w : World) : (Instr.makeSlice 22 (.int .i64 n) (.int .i64 n)).run Try.prog w = .ok (.slice (some ⟨w.heap.size, 0, none⟩) n n) (w.alloc (.cells (u8s (List.replicate n 0)) 5)) := by
  obtain ⟨i0, hi, hz0, hz1, hz2⟩ := info_parts info8z
  have h := run_make (P := Try.prog) w 22 5 i0 (.int .u8 0) Try.underlying22 hi hz0 .i64 .i64 n n (by omega) (by omega) (by rw [hz2]; omega) (by omega)
  rw [hz1] at h
  rw [h, Int.toNat_natCast, Nat.mul_one, made_zeros]
theorem built_new (g m : Nat) : Try.prog.built 48 [(1, .slice (some ⟨g, 0, none⟩) m m)] = some (.pointer none :: .slice (some ⟨g, 0, none⟩) m m :: .int .i64 0 :: .bool false :: cutC false 0 z16).toArray := by kernel_rfl
set_option maxRecDepth 100000 in
set_option maxHeartbeats 1000000 in
theorem new_ok (n : Nat) (w : World) (h1 : 1 ≤ n) (h2 : n ≤ 16384) : Calls Try.prog 6 #[.int .i64 n] w fun e w' => ∃ K : DK, e = .returned (.tuple #[K.ptr, .int .i64 0]) ∧ Dsk w' K (newD n) ∧ Below w.heap.size w w' ∧ w.heap.size ≤ K.g ∧ w.heap.size ≤ K.h := by
  have hmk := mk_any (n * 128) (by omega)
  rw [show ((n * 128 : Nat) : Int) = (n : Int) * 128 by omega] at hmk
  have hwr : IntKind.i64.wrap ((n : Int) * 128) = (n : Int) * 128 := by rw [IntKind.wrap_i64]; omega
  obtain ⟨m, hm⟩ : ∃ m, m = n * 128 := ⟨_, rfl⟩
  rw [← hm] at hmk
  have Hm := Lib.hid hm
  clear hm
  go_enter Try.func6, Try.ntmps6
  go_upto_region 3 with (fail)
  refine wp_region_lit ?_
  refine wpList_plain rfl (fun K hK => ?_)
  go_simp
  refine hK _ _ ?_
  clear hK
  clear K
  refine wpList_plain rfl (fun K hK => ?_)
  go_simp
  refine hK _ _ ?_
  clear hK
  clear K
  refine wpList_plain rfl (fun K hK => ?_)
  go_simp
  refine hK _ _ ?_
  clear hK
  clear K
  refine wpList_buildTo rfl 48 #[(1, .tmp 13)] rfl (some 14) rfl (.pointer none :: .slice (some ⟨w.heap.size, 0, none⟩) m m :: .int .i64 0 :: .bool false :: cutC false 0 z16).toArray (by simp only [List.map_toArray, List.map_cons, List.map_nil]; exact built_new _ _) ?_
  refine wpList_plain rfl (fun K hK => ?_)
  go_simp
  refine hK _ _ ?_
  clear hK
  clear K
  refine wpList_plain rfl (fun K hK => ?_)
  go_simp
  refine hK _ _ ?_
  clear hK
  clear K
  refine wpList_nil ?_
  go_simp
  have h2n := two_new w (.cells (u8s (List.replicate m 0)) 5) (.cells (.pointer none :: .slice (some ⟨w.heap.size, 0, none⟩) m m :: .int .i64 0 :: .bool false :: cutC false 0 z16).toArray 48)
  have hlow : Below w.heap.size w ((w.alloc (.cells (u8s (List.replicate m 0)) 5)).alloc (.cells (.pointer none :: .slice (some ⟨w.heap.size, 0, none⟩) m m :: .int .i64 0 :: .bool false :: cutC false 0 z16).toArray 48)) := ((Below.refl _ _).alloc (Nat.le_refl _) _).alloc (by simp) _
  obtain ⟨w2, hw2⟩ : ∃ w2, w2 = (w.alloc (.cells (u8s (List.replicate m 0)) 5)).alloc (.cells (.pointer none :: .slice (some ⟨w.heap.size, 0, none⟩) m m :: .int .i64 0 :: .bool false :: cutC false 0 z16).toArray 48) := ⟨_, rfl⟩
  rw [← hw2] at h2n hlow ⊢
  have c0 := cell_row h2n.2 0
  have f0 := free_row h2n.2 0
  rw [show (Value.pointer none :: Value.slice (some ⟨w.heap.size, 0, none⟩) m m :: Value.int .i64 0 :: Value.bool false :: cutC false 0 z16).toArray[0]? = some (Value.pointer none) by rfl] at c0
  have H2 := Lib.hid h2n
  have Hlow := Lib.hid hlow
  clear h2n hlow hw2 hmk hwr
  go_wp2
  go_ret2
  have hd : Dsk (w2.setCell ⟨w.heap.size + 1, 0, none⟩ (.pointer (some ⟨w.heap.size + 1, 0, none⟩))) ⟨w.heap.size + 1, w.heap.size, []⟩ (newD n) := by
    have hl : (newD n).data.length = m := by simp [newD, Hm.out]
    refine ⟨?_, ?_, by simp, newD_ok n h1 h2⟩
    · rw [hl]
      exact heap_setCell_same _ _ _ _ _ _ H2.out.2
    · rw [Below.heap_setCell _ _ _ _ (by simp), H2.out.1, Hm.out]
      simp [newD, vals, u8s]
  exact ⟨⟨w.heap.size + 1, w.heap.size, []⟩, rfl, hd, Hlow.out.setCell (by simp) _, Nat.le_succ _, Nat.le_refl _⟩
/-- a row of the call's own, not empty: what it is. -/
theorem own_shape {w : World} {base n : Nat} {v : Value} {L : List Int} (h : w.ownsRow base 5 1 v n (vals L)) (_hl : L.length = n) (h0 : 0 < n) : ∃ g sp, v = .slice (some ⟨g, 0, none⟩) n (n + sp.length) ∧ base ≤ g ∧ w.heap[g]? = some (.cells (vals L ++ sp).toArray 5 (0, 0)) := by
  obtain ⟨_, h⟩ := h
  rcases h with ⟨_, h⟩ | ⟨g, cap, cur, hv, hb, hh, hcap, _, hs, ht⟩
  · omega
  · have e : cur.toList = vals L ++ cur.toList.drop n := by
      rw [← ht, Nat.mul_one, List.take_append_drop]
    have e2 : cap = n + (cur.toList.drop n).length := by
      rw [List.length_drop, Array.length_toList, hs]; omega
    refine ⟨g, cur.toList.drop n, by rw [hv, ← e2], hb, ?_⟩
    rw [hh, ← e]
theorem info48 : (Try.prog.info? 48).map (·.size) = some 22 := by kernel_rfl
theorem rowC_one (K : DK) (n : Nat) (wr : Int) (off : Bool) (l : Bool) (k : Int) (m : List Int) : (rowC K n wr off (cutC l k m)).all (·.oneCell') = true := by
  apply all_oneCell_toArray
  intro v hv
  simp only [cutC, List.mem_cons] at hv
  rcases hv with rfl | rfl | rfl | rfl | rfl | rfl | hv
  · rfl
  · rfl
  · rfl
  · rfl
  · rfl
  · rfl
  · exact vals_one _ v hv
set_option maxRecDepth 100000 in
set_option maxHeartbeats 1000000 in
theorem copy_any {w : World} {K : DK} {D : DS} (h : Dsk w K D) : Calls Try.prog 16 #[K.ptr] w fun e w' => ∃ K' : DK, e = .returned K'.ptr ∧ Dsk w' K' D ∧ Below w.heap.size w w' ∧ w.heap.size ≤ K'.g ∧ w.heap.size ≤ K'.h := by
  have Hm := Lib.hid (made_any h)
  have hsz := row_len (K := K) (n := D.data.length) (wr := D.writes) (off := D.off) (l := D.laid) (k := D.whole) h.ok.mlen
  have hi : (Try.prog.info? 48).map (·.size) = some (rowC K D.data.length D.writes D.off (cutC D.laid D.whole D.mask)).size := by rw [hsz]; exact info48
  have hlow : Below w.heap.size w (w.alloc (.cells (rowC K D.data.length D.writes D.off (cutC D.laid D.whole D.mask)) 48)) := (Below.refl _ _).alloc (Nat.le_refl _) _
  have hpos : 0 < D.data.length := by have := h.ok.one; have := h.ok.whole128; omega
  have hc : ∀ w1 : World, Dsk w1 K D → Calls Try.prog 22 #[.slice (some ⟨K.h, 0, none⟩) D.data.length (D.data.length + K.sp.length)] w1 fun e w' => ∃ (g : Nat) (sp : List Value), e = .returned (.slice (some ⟨g, 0, none⟩) D.data.length (D.data.length + sp.length)) ∧ w1.heap.size ≤ g ∧ w'.heap[g]? = some (.cells (vals D.data ++ sp).toArray 5 (0, 0)) ∧ Below w1.heap.size w1 w' := fun w1 h1 => by
    refine (clone_own h1.byt rfl (Nat.le_trans h1.ok.len (by decide))).mono ?_
    rintro e w' ⟨v, rfl, ho, hb⟩
    obtain ⟨g, sp, rfl, hg, hh⟩ := own_shape ho rfl hpos
    exact ⟨g, sp, rfl, hg, hh, hb⟩
  have hone := rowC_one K D.data.length D.writes D.off D.laid D.whole D.mask
  have hd1 := h.later hlow
  have hr1 := Go.heap_alloc_new w (.cells (rowC K D.data.length D.writes D.off (cutC D.laid D.whole D.mask)) 48)
  obtain ⟨R, hR⟩ : ∃ R, R = rowC K D.data.length D.writes D.off (cutC D.laid D.whole D.mask) := ⟨_, rfl⟩
  rw [← hR] at hsz hi hlow hone hd1 hr1
  have Hrow := Lib.hid h.row
  rw [← hR] at Hrow
  have Hi := Lib.hid hi
  have Hsz := Lib.hid hsz
  have Hone := Lib.hid hone
  have Hc := Lib.hid hc
  have Hd1 := Lib.hid hd1
  have Hr1 := Lib.hid hr1
  have Hlow := Lib.hid hlow
  have HR := Lib.hid hR
  have Hok := Lib.hid h.ok
  unfold DK.ptr at *
  clear h hi hsz hone hc hd1 hr1 hlow hR
  go_enter Try.func16, Try.ntmps16
  go_upto_region 3 with (go_at_call 20; refine Hm.out.mono ?_; rintro e w' ⟨rfl, rfl⟩)
  refine wp_region_lit ?_
  refine wpList_plain rfl (fun K hK => ?_)
  go_simp
  refine hK _ _ ?_
  clear hK
  clear K
  refine wpList_plain rfl (fun K hK => ?_)
  go_simp
  refine hK _ _ ?_
  clear hK
  clear K
  refine wpList_load_row rfl 48 (.tmp 8) rfl K.g (by rfl) 48 R (0, 0) _ Hrow.out Try.underlying48 rfl Hi.out ?_
  refine wpList_plain rfl (fun K hK => ?_)
  go_simp
  refine hK _ _ ?_
  clear hK
  clear K
  refine wpList_store_row rfl 48 (.tmp 3) (.tmp 9) rfl w.heap.size R rfl rfl 48 _ (Go.heap_alloc_new w _) Hi.out (by rw [Hsz.out]; rfl) Hone.out ?_
  rw [World.setRow_alloc_new]
  refine wpList_nil ?_
  go_simp
  obtain ⟨w1, hw1⟩ : ∃ w1, w1 = w.alloc (.cells R 48) := ⟨_, rfl⟩
  rw [← hw1] at Hd1 Hr1 Hlow ⊢
  have hws : w1.heap.size = w.heap.size + 1 := by rw [hw1, World.size_alloc]
  have Hws := Lib.hid hws
  obtain ⟨_, c1, _⟩ := row0 Hd1.out.row
  clear hw1 hws Hrow
  go_wp2_with (go_at_call 22; refine (Hc.out _ Hd1.out).mono ?_; rintro e w2 ⟨g2, sp, rfl, hg2, hh2, hb⟩; have r2 := (hb.block _ (by rw [Hws.out]; omega)).trans Hr1.out; have d0 := cell_row r2 0; have d1 := cell_row r2 1; rw [HR.out, rowC] at d0 d1; simp only [List.getElem?_toArray, List.getElem?_cons_zero, List.getElem?_cons_succ] at d0 d1; have f0 := free_row r2 0; have f1 := free_row r2 1; have Hh2 := Lib.hid hh2; have Hg2 := Lib.hid hg2; have Hb := Lib.hid hb; have R2 := Lib.hid r2; clear hh2 hg2 hb r2)
  go_ret
  have hg : w.heap.size < g2 := by have := Hg2.out; rw [Hws.out] at this; omega
  have r3 := heap_setCell_same w2 w.heap.size 0 _ _ (.pointer (some ⟨w.heap.size, 0, none⟩)) R2.out
  have r4 := heap_setCell_same _ w.heap.size 1 _ _ (.slice (some ⟨g2, 0, none⟩) D.data.length (D.data.length + sp.length)) r3
  refine ⟨⟨w.heap.size, g2, sp⟩, rfl, ⟨?_, ?_, Nat.ne_of_lt hg, Hok.out⟩, ?_, Nat.le_refl _, Nat.le_of_lt hg⟩
  · refine r4.trans ?_
    rw [HR.out]
    rfl
  · rw [Below.heap_setCell _ _ _ _ (Nat.ne_of_gt hg), Below.heap_setCell _ _ _ _ (Nat.ne_of_gt hg)]
    exact Hh2.out
  · exact ((Hlow.out.trans (Hb.out.mono (by rw [Hws.out]; omega))).setCell (Nat.le_refl _) _).setCell (Nat.le_refl _) _
end Go.Proofs.Ytbmkejhkckdoeaa.Dsk
