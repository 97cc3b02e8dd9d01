/- DERIVED. Texts of ours, merged: XGrfSmall XGrfMeets. -/
import Derived.Test.YtnjeppmpnaemlaaDoorMrk5
import Derived.Test.YtnjeppmpnaemlaaDoorMrk6
import Derived.Great.BuildSlice
import Derived.Deep.WholeRow
import Derived.DeepKeys
import Derived.Deep.MidRow
import Derived.Test.YtnjeppmpnaemlaaDoorMrk3
/- DERIVED. name, vertex, isLine, hasAll. -/
set_option maxRecDepth 100000
namespace Go.Proofs.YtnjeppmpnaemlaaDoor.Grf
open Go.RowKit Str Go.Maps
/-- a hash in the middle of a row, loaded as a whole. -/
noncomputable def loadHs (v : Value) : Sem Value := Instr.loadAt 25 v
theorem loadAtHs (v : Value) : Instr.loadAt 25 v = loadHs v := rfl
def hsC (h : List Int) : Array Value := (h.map (Value.int .u8)).toArray
theorem infoHs {h : List Int} (hl : h.length = 32) : (Tryd.prog.info? 25).map (·.size) = some (hsC h).toList.length := by
  rw [show (hsC h).toList.length = 32 by simp [hsC, hl]]; kernel_rfl
theorem loadHs_eq {w : World} {b o : Nat} {h : List Int} (hl : h.length = 32) (hr : w.rangeAt b o (hsC h).toList) : (loadHs (.pointer (some ⟨b, o, none⟩))).run Tryd.prog w = .ok (.agg (hsC h)) w := by
  unfold loadHs
  simp only [Instr.loadAt, Instr.sureAddr, Sem.run_bind, Sem.run_pure, Result.andThen_ok, run_loadVar_mid w b o 25 (hsC h).toList _ hr Tryd.underlying25 rfl (infoHs hl)]
attribute [irreducible] loadHs
attribute [local go_sem ↓ high] loadAtVx loadAtHs
theorem hs_range {w : World} {b : Nat} {v : Vx} (h : w.rangeAt b 0 v.c.toList) : w.rangeAt b 0 (hsC v.h).toList := fun j u hu => by
  refine h j u ?_
  have hj := (List.getElem?_eq_some_iff.1 hu).1
  rw [Vx.c_list, List.getElem?_append_left (by simpa [hsC] using hj)]
  simpa [hsC] using hu
theorem built_nameF (f : Nat → Value) (n : Int) : Tryd.prog.built 95 [(0, .agg ((List.range 32).map f).toArray), (1, .int .i64 n)] = some (((List.range 32).map f) ++ [Value.int .i64 n]).toArray := by kernel_rfl
theorem built_vtxF (f : Nat → Value) (n : Int) : Tryd.prog.built 27 [(0, .agg ((List.range 32).map f).toArray), (1, .int .i64 n)] = some (((List.range 32).map f) ++ [Value.int .i64 n]).toArray := by kernel_rfl
theorem hs_fun {h : List Int} (hl : h.length = 32) : ∃ f : Nat → Value, h.map (Value.int .u8) = (List.range 32).map f := by
  obtain ⟨f, hf⟩ := fun_of (hsC h) 32 (by simp [hsC, hl])
  exact ⟨f, by have := congrArg Array.toList hf; simpa [hsC] using this⟩
theorem built_name (v : Vx) : Tryd.prog.built 95 [(0, .agg (hsC v.h)), (1, .int .i64 v.n)] = some v.c := by
  obtain ⟨f, hf⟩ := hs_fun v.len
  unfold hsC Vx.c
  rw [hf]
  exact built_nameF f v.n
theorem built_vtx (v : Vx) : Tryd.prog.built 27 [(0, .agg (hsC v.h)), (1, .int .i64 v.n)] = some v.c := by
  obtain ⟨f, hf⟩ := hs_fun v.len
  unfold hsC Vx.c
  rw [hf]
  exact built_vtxF f v.n
/-- a part as it is given, in a box of its own. -/
def GRow (w : World) (b : Nat) (d : PD) (lnv gnv : Value) : Prop := w.heap[b]? = some (.cells (givC d lnv gnv) 31 (0, 0))
section
variable {w : World} {b : Nat} {d : PD} {lnv gnv : Value}
theorem GRow.name (h : GRow w b d lnv gnv) : w.rangeAt b 0 d.nm.c.toList :=
  row_range h [] d.nm.c.toList ([Value.int .i64 d.first] ++ d.up.c.toList ++ d.down.c.toList ++ [lnv, gnv]) (by rw [givC_list]; simp [List.append_assoc]) 0 rfl
theorem GRow.at_ (h : GRow w b d lnv gnv) : w.cell? ⟨b, 32, none⟩ = some (.int .i64 d.nm.n) := by
  have := h.name 32 (.int .i64 d.nm.n) (by rw [Vx.c_list, List.getElem?_append_right (by simp [d.nm.len])]; simp [d.nm.len])
  simpa using this
theorem GRow.first (h : GRow w b d lnv gnv) : w.cell? ⟨b, 33, none⟩ = some (.int .i64 d.first) :=
  row_cell h d.nm.c.toList (d.up.c.toList ++ d.down.c.toList ++ [lnv, gnv]) _ (by rw [givC_list]; simp [List.append_assoc]) 33 (by simp [Vx.c_size])
theorem GRow.up (h : GRow w b d lnv gnv) : w.rangeAt b 34 d.up.c.toList :=
  row_range h (d.nm.c.toList ++ [Value.int .i64 d.first]) d.up.c.toList (d.down.c.toList ++ [lnv, gnv]) (by rw [givC_list]; simp [List.append_assoc]) 34 (by simp [Vx.c_size])
theorem GRow.down (h : GRow w b d lnv gnv) : w.rangeAt b 67 d.down.c.toList :=
  row_range h (d.nm.c.toList ++ [Value.int .i64 d.first] ++ d.up.c.toList) d.down.c.toList [lnv, gnv] (by rw [givC_list]; simp [List.append_assoc]) 67 (by simp [Vx.c_size])
theorem GRow.lines (h : GRow w b d lnv gnv) : w.cell? ⟨b, 100, none⟩ = some lnv :=
  row_cell h (d.nm.c.toList ++ [Value.int .i64 d.first] ++ d.up.c.toList ++ d.down.c.toList) [gnv] lnv (by rw [givC_list]; simp [List.append_assoc]) 100 (by simp [Vx.c_size])
theorem GRow.gone (h : GRow w b d lnv gnv) : w.cell? ⟨b, 101, none⟩ = some gnv :=
  row_cell h (d.nm.c.toList ++ [Value.int .i64 d.first] ++ d.up.c.toList ++ d.down.c.toList ++ [lnv]) [] gnv (by rw [givC_list]; simp [List.append_assoc]) 101 (by simp [Vx.c_size])
end
theorem infoNs (v : Vx) : (Tryd.prog.info? 95).map (·.size) = some v.c.size := by rw [v.c_size]; kernel_rfl
theorem setRow_at {w : World} {g : Nat} {old cs : Array Value} {T : TypeId} (h : w.heap[g]? = some (.cells old T (0, 0))) : (w.setRow g cs).heap[g]? = some (.cells cs T (0, 0)) := by
  simp [World.setRow, Array.getElem?_modify, h]
theorem setRow_ne {w : World} {g k : Nat} {cs : Array Value} (h : g ≠ k) : (w.setRow g cs).heap[k]? = w.heap[k]? := by
  simp [World.setRow, Array.getElem?_modify, h]
theorem setRow_size (w : World) (g : Nat) (cs : Array Value) : (w.setRow g cs).heap.size = w.heap.size := by simp [World.setRow]
theorem below_setRow {B : Nat} {a w : World} (h : Below B a w) {g : Nat} (hg : B ≤ g) (cs : Array Value) : Below B a (w.setRow g cs) :=
  ⟨h.os, h.tape, h.output, by rw [setRow_size]; exact h.size, fun k hk => by rw [setRow_ne (by omega)]; exact h.block k hk⟩
set_option maxHeartbeats 2000000 in
theorem name_any (d : PD) (lnv gnv : Value) (w : World) :
    Calls Tryd.prog 73 #[.agg (givC d lnv gnv)] w fun e w' => e = .returned (.agg d.nm.c) ∧ Below w.heap.size w w' := by
  have h2 := fun c : Array Value => two_new w (.cells (givC d lnv gnv) 31) (.cells c 95)
  have k2 : ∀ c : Array Value, Below w.heap.size w ((w.alloc (.cells (givC d lnv gnv) 31)).alloc (.cells c 95)) := fun c => ((Below.refl _ _).alloc (Nat.le_refl _) _).alloc (by rw [World.size_alloc]; omega) _
  go_enter Tryd.func73, Tryd.ntmps73
  go_upto_region 1 with (fail)
  refine wp_region_lit ?_
  generalize hZ : (#[Value.int IntKind.u8 0, Value.int IntKind.u8 0, Value.int IntKind.u8 0, Value.int IntKind.u8 0, Value.int IntKind.u8 0, Value.int IntKind.u8 0, Value.int IntKind.u8 0, Value.int IntKind.u8 0, Value.int IntKind.u8 0, Value.int IntKind.u8 0, Value.int IntKind.u8 0, Value.int IntKind.u8 0, Value.int IntKind.u8 0, Value.int IntKind.u8 0, Value.int IntKind.u8 0, Value.int IntKind.u8 0, Value.int IntKind.u8 0, Value.int IntKind.u8 0, Value.int IntKind.u8 0, Value.int IntKind.u8 0, Value.int IntKind.u8 0, Value.int IntKind.u8 0, Value.int IntKind.u8 0, Value.int IntKind.u8 0, Value.int IntKind.u8 0, Value.int IntKind.u8 0, Value.int IntKind.u8 0, Value.int IntKind.u8 0, Value.int IntKind.u8 0, Value.int IntKind.u8 0, Value.int IntKind.u8 0, Value.int IntKind.u8 0, Value.int IntKind.i64 0] : Array Value) = Z
  have hZ33 : Z.size = 33 := by rw [← hZ]; rfl
  obtain ⟨W, hW⟩ : ∃ W, W = (w.alloc (.cells (givC d lnv gnv) 31)).alloc (.cells Z 95) := ⟨_, rfl⟩
  have r2 := h2 Z
  have l2 := k2 Z
  rw [← hW] at r2 l2 ⊢
  have hG : GRow W w.heap.size d lnv gnv := r2.1
  have eH := loadHs_eq d.nm.len (hs_range hG.name)
  have e32 := hG.at_
  have HB := Lib.hid r2.2
  have HL := Lib.hid l2
  clear hW h2 k2 r2 l2 hG hZ
  refine wpList_plain rfl (fun K hK => ?_)
  go_simp
  refine hK _ _ ?_
  clear hK
  clear K
  refine wpList_plain rfl (fun K hK => ?_)
  go_simp
  refine hK _ _ ?_
  clear hK
  clear K
  refine wpList_plain rfl (fun K hK => ?_)
  go_simp
  refine hK _ _ ?_
  clear hK
  clear K
  refine wpList_plain rfl (fun K hK => ?_)
  go_simp
  refine hK _ _ ?_
  clear hK
  clear K
  refine wpList_buildTo rfl 95 #[(0, .tmp 4), (1, .tmp 6)] rfl (some 7) rfl d.nm.c (by simp only [List.map_toArray, List.map_cons, List.map_nil]; exact built_name d.nm) ?_
  refine wpList_store_row rfl 95 (.tmp 2) (.tmp 7) rfl (w.heap.size + 1) d.nm.c rfl rfl 95 _ HB.out (infoNs _) (by rw [hZ33, Vx.c_size]) (Vx.one _) ?_
  refine wpList_nil ?_
  go_wp2
  exact bodyPost_ret (v := .agg d.nm.c) (results_cell_row rfl _ _ (w.heap.size + 1) 95 _ (0, 0) _ rfl (setRow_at HB.out) Tryd.underlying95 rfl (infoNs _)) rfl ⟨rfl, below_setRow HL.out (by omega) _⟩
set_option maxHeartbeats 2000000 in
theorem vertex_any (d : PD) (lnv gnv : Value) (i : Nat) (w : World) :
    Calls Tryd.prog 72 #[.agg (givC d lnv gnv), .int .i64 (i : Nat)] w fun e w' => e = .returned (.agg (vert d i).c) ∧ Below w.heap.size w w' := by
  have h2 := fun c : Array Value => two_new w (.cells (givC d lnv gnv) 31) (.cells c 27)
  have k2 : ∀ c : Array Value, Below w.heap.size w ((w.alloc (.cells (givC d lnv gnv) 31)).alloc (.cells c 27)) := fun c => ((Below.refl _ _).alloc (Nat.le_refl _) _).alloc (by rw [World.size_alloc]; omega) _
  go_enter Tryd.func72, Tryd.ntmps72
  go_upto_region 1 with (fail)
  refine wp_region_lit ?_
  generalize hZ : (#[Value.int IntKind.u8 0, Value.int IntKind.u8 0, Value.int IntKind.u8 0, Value.int IntKind.u8 0, Value.int IntKind.u8 0, Value.int IntKind.u8 0, Value.int IntKind.u8 0, Value.int IntKind.u8 0, Value.int IntKind.u8 0, Value.int IntKind.u8 0, Value.int IntKind.u8 0, Value.int IntKind.u8 0, Value.int IntKind.u8 0, Value.int IntKind.u8 0, Value.int IntKind.u8 0, Value.int IntKind.u8 0, Value.int IntKind.u8 0, Value.int IntKind.u8 0, Value.int IntKind.u8 0, Value.int IntKind.u8 0, Value.int IntKind.u8 0, Value.int IntKind.u8 0, Value.int IntKind.u8 0, Value.int IntKind.u8 0, Value.int IntKind.u8 0, Value.int IntKind.u8 0, Value.int IntKind.u8 0, Value.int IntKind.u8 0, Value.int IntKind.u8 0, Value.int IntKind.u8 0, Value.int IntKind.u8 0, Value.int IntKind.u8 0, Value.int IntKind.i64 0] : Array Value) = Z
  have hZ33 : Z.size = 33 := by rw [← hZ]; rfl
  obtain ⟨W, hW⟩ : ∃ W, W = (w.alloc (.cells (givC d lnv gnv) 31)).alloc (.cells Z 27) := ⟨_, rfl⟩
  have r2 := h2 Z
  have l2 := k2 Z
  rw [← hW] at r2 l2 ⊢
  have hG : GRow W w.heap.size d lnv gnv := r2.1
  have eH := loadHs_eq d.nm.len (hs_range hG.name)
  have e33 := hG.first
  have HB := Lib.hid r2.2
  have HL := Lib.hid l2
  clear hW h2 k2 r2 l2 hG hZ
  refine wpList_plain rfl (fun K hK => ?_)
  go_simp
  refine hK _ _ ?_
  clear hK
  clear K
  refine wpList_plain rfl (fun K hK => ?_)
  go_simp
  refine hK _ _ ?_
  clear hK
  clear K
  refine wpList_plain rfl (fun K hK => ?_)
  go_simp
  refine hK _ _ ?_
  clear hK
  clear K
  refine wpList_plain rfl (fun K hK => ?_)
  go_simp
  refine hK _ _ ?_
  clear hK
  clear K
  refine wpList_plain rfl (fun K hK => ?_)
  go_simp
  refine hK _ _ ?_
  clear hK
  clear K
  refine wpList_plain rfl (fun K hK => ?_)
  go_simp
  refine hK _ _ ?_
  clear hK
  clear K
  refine wpList_buildTo rfl 27 #[(0, .tmp 6), (1, .tmp 10)] rfl (some 11) rfl (vert d i).c (by simp only [List.map_toArray, List.map_cons, List.map_nil]; exact built_vtx (vert d i)) ?_
  refine wpList_store_row rfl 27 (.tmp 4) (.tmp 11) rfl (w.heap.size + 1) (vert d i).c rfl rfl 27 _ HB.out (infoVxA _) (by rw [hZ33, Vx.c_size]) (Vx.one _) ?_
  refine wpList_nil ?_
  go_wp2
  exact bodyPost_ret (v := .agg (vert d i).c) (results_cell_row rfl _ _ (w.heap.size + 1) 27 _ (0, 0) _ rfl (setRow_at HB.out) Tryd.underlying27 rfl (infoVxA _)) rfl ⟨rfl, below_setRow HL.out (by omega) _⟩
theorem eqV (a b : Vx) (w : World) : (Op.equal 27 (.agg a.c) (.agg b.c)).run Tryd.prog w = .ok (decide (a = b)) w := by
  obtain ⟨r, hr, hi⟩ := run_equal_deep w (m := 3) (by omega) (k := 27) (by kernel_rfl) (by kernel_rfl) (kbV.at a) (kbV.at b)
  rw [hr]
  have : r = decide (a = b) := by
    rw [Bool.eq_iff_iff, hi, decide_eq_true_eq]
    exact ⟨fun h => kbV.inj h, fun h => by rw [h]⟩
  rw [this]
theorem neV (a b : Vx) (w : World) : (binOp .neq 27 (.agg a.c) (.agg b.c)).run Tryd.prog w = .ok (.bool (!decide (a = b))) w := by
  simp only [binOp]
  simp [eqV]
theorem eqlV (a b : Vx) (w : World) : (binOp .eql 27 (.agg a.c) (.agg b.c)).run Tryd.prog w = .ok (.bool (decide (a = b))) w := by
  simp only [binOp]
  simp [eqV]
noncomputable def neVx (a b : Value) : Sem Value := binOp .neq 27 a b
theorem neVx_of (a b : Value) : binOp .neq 27 a b = neVx a b := rfl
noncomputable def eqVx (a b : Value) : Sem Value := binOp .eql 27 a b
theorem eqVx_of (a b : Value) : binOp .eql 27 a b = eqVx a b := rfl
theorem run_neVx (a b : Vx) (w : World) : (neVx (.agg a.c) (.agg b.c)).run Tryd.prog w = .ok (.bool (!decide (a = b))) w := neV a b w
theorem run_eqVx (a b : Vx) (w : World) : (eqVx (.agg a.c) (.agg b.c)).run Tryd.prog w = .ok (.bool (decide (a = b))) w := eqlV a b w
attribute [irreducible] neVx eqVx
attribute [local go_sem ↓ high] neVx_of eqVx_of
/-- is it a line's, if it is one of a graph? -/
def isL (v : Vx) : Bool := !decide (v = root) && !decide (v = fin)
set_option maxHeartbeats 2000000 in
theorem isLine_any (v : Vx) (w : World) (hL : Laid w) :
    Calls Tryd.prog 94 #[.agg v.c] w fun e w' => e = .returned (.bool (isL v)) ∧ Below w.heap.size w w' := by
  have hlow := (Below.refl w.heap.size w).alloc (Nat.le_refl _) (.cells v.c 27)
  have hnew := Go.heap_alloc_new w (.cells v.c 27)
  obtain ⟨w1, hw1⟩ : ∃ w1, w1 = w.alloc (.cells v.c 27) := ⟨_, rfl⟩
  rw [← hw1] at hlow hnew
  have HW := Lib.hid hw1.symm
  have Hlow := Lib.hid hlow
  have hL1 := hL.below hlow (Nat.le_refl _)
  have er := loadVx_eq hL1.r
  have ee := loadVx_eq hL1.e
  have ev := box_vx hnew
  have nr := run_neVx v root w1
  have ne := run_neVx v fin w1
  have HR : Hid (isL v = (!decide (v = root) && !decide (v = fin))) := rfl
  rw [HR.out]
  generalize hbr : (!decide (v = root)) = br at *
  generalize hbe : (!decide (v = fin)) = be at *
  clear hbr hbe HR hw1 hlow hnew hL hL1
  cases br
  all_goals
    go_enter Tryd.func94, Tryd.ntmps94
    go_upto_region 1 with (fail)
    rw [HW.out]
    go_wp2
    go_ret
    exact ⟨rfl, Hlow.out⟩
set_option maxHeartbeats 4000000 in
theorem hasAll_any (S : GS) (us : Nat → Int) (gn : Vx → Int) (v : Value) (l : List Vx) (w : World) (h : GM w S us gn) (hl : RdV w v l) (hn : l.length ≤ 100000) :
    Calls Tryd.prog 70 #[ptr S.g, v] w fun e w' => e = .returned (.bool (l.all fun x => (lineB S x).isSome)) ∧ Below w.heap.size w w' := by
  obtain ⟨A, c, rfl, hc, hr⟩ := hl
  have H := Lib.hid h
  have HR := Lib.hid hr
  have hcap : (l.length : Int) ≤ c := by omega
  obtain ⟨n, hN⟩ : ∃ n, n = l.length := ⟨_, rfl⟩
  rw [← hN] at hc hcap hn ⊢
  have HN := Lib.hid hN
  clear h hr hN
  go_enter Tryd.func70, Tryd.ntmps70
  go_upto_region 2 with (fail)
  go_loopw [9] (fun i wr => ∃ k : Nat, k ≤ n ∧ i = .int .i64 k ∧ Hid (∀ j x, j < k → l[j]? = some x → (lineB S x).isSome = true) ∧ Hid (Below w.heap.size w wr)) (fun i _ => n - (intOf i).toNat)
  case atStart => exact ⟨0, Nat.zero_le _, rfl, fun j x h => absurd h (Nat.not_lt_zero _), Below.refl _ _⟩
  case round =>
    obtain ⟨k, hk, rfl, hI, hlow⟩ := hrel
    by_cases hlt : k < n
    · have hltI : (k : Int) < n := by omega
      have hk0 : 0 ≤ (k : Int) := by omega
      obtain ⟨x, hx⟩ : ∃ x, l[k]? = some x := ⟨_, List.getElem?_eq_getElem (by have := HN.out; omega)⟩
      obtain ⟨g, off, rfl, hg, hcell⟩ := HR.out (by have := HN.out; omega)
      have hrg : wr.rangeAt g (off + k * 33) x.c.toList := fun j u hu => (hlow.out.cell (p := ⟨g, off + k * 33 + j, none⟩) hg).trans (hcell k x hx j u hu)
      have ex := loadVx_eq hrg
      have Hx := Lib.hid hx
      clear hcell hx hrg hg
      go_upto_region 4 with (refine wpList_store_row rfl 27 (.tmp 6) (.tmp 12) rfl wr.heap.size x.c rfl rfl 27 _ (Go.heap_alloc_new wr _) (infoVxA _) (by simp [Vx.c_size]) (Vx.one _) ?_; rw [World.setRow_alloc_new])
      obtain ⟨w4, hw4⟩ : ∃ w4, w4 = wr.alloc (.cells x.c 27) := ⟨_, rfl⟩
      have hl4 : Below w.heap.size w w4 := by rw [hw4]; exact hlow.out.alloc hlow.out.size _
      have ex4 := box_vx (w := w4) (b := wr.heap.size) (v := x) (by rw [hw4]; exact Go.heap_alloc_new _ _)
      rw [← hw4]
      have Hl4 := Lib.hid hl4
      have hC := has_any S us gn x w4 (H.out.below hl4)
      clear ex hw4 hl4
      rw [show ({ tmps := #[ptr S.g, Value.slice (some { block := g, off := off }) n c, undef, undef, u4, undef, Value.pointer (some { block := wr.heap.size, off := 0 }), Value.slice (some { block := g, off := off }) n c, Value.int IntKind.i64 n, Value.int IntKind.i64 k, Value.bool true, Value.pointer (some { block := g, off := off + k * 33 }), Value.agg x.c, u13, u14, u15, u16, u17], defers := [] } : Act).put none undef = { tmps := #[ptr S.g, Value.slice (some { block := g, off := off }) n c, undef, undef, u4, undef, Value.pointer (some { block := wr.heap.size, off := 0 }), Value.slice (some { block := g, off := off }) n c, Value.int IntKind.i64 n, Value.int IntKind.i64 k, Value.bool true, Value.pointer (some { block := g, off := off + k * 33 }), Value.agg x.c, u13, u14, u15, u16, u17], defers := [] } from rfl]
      by_cases hb : (lineB S x).isSome = true
      · rw [hb] at hC
        have HI' : Hid (∀ j y, j < k + 1 → l[j]? = some y → (lineB S y).isSome = true) := fun j y hj hy => by
          rcases Nat.lt_or_ge j k with h | h
          · exact hI.out j y h hy
          · obtain rfl : j = k := by omega
            rw [Hx.out] at hy
            obtain rfl := Option.some.inj hy
            exact hb
        have hwk : wrap64 ((k : Int) + 1) = ((k + 1 : Nat) : Int) := by unfold wrap64; omega
        clear hI hb hlow
        go_wp2_with (go_at_call 25; refine hC.mono ?_; rintro e w5 ⟨rfl, low⟩)
        refine ⟨⟨k + 1, hlt, rfl, HI', Hl4.out.trans (low.mono Hl4.out.size)⟩, ?_⟩
        simp only [intOf]
        omega
      · rw [Bool.not_eq_true] at hb
        rw [hb] at hC
        have HE : Hid ((l.all fun x => (lineB S x).isSome) = false) := by
          show _ = _
          rw [List.all_eq_false]
          exact ⟨x, List.mem_of_getElem? Hx.out, by rw [hb]; decide⟩
        clear hb hlow
        go_wp2_with (go_at_call 25; refine hC.mono ?_; rintro e w5 ⟨rfl, low⟩)
        go_ret
        exact ⟨by rw [HE.out]; rfl, Hl4.out.trans (low.mono Hl4.out.size)⟩
    · have hltI : ¬ (k : Int) < n := by omega
      have HE : Hid ((l.all fun x => (lineB S x).isSome) = true) := by
        show _ = _
        rw [List.all_eq_true]
        intro x hx
        obtain ⟨j, hj, rfl⟩ := List.getElem_of_mem hx
        exact hI.out j _ (by have := HN.out; omega) (List.getElem?_eq_getElem hj)
      go_wp2
      go_ret
      exact ⟨by rw [HE.out]; rfl, hlow.out⟩
end Go.Proofs.YtnjeppmpnaemlaaDoor.Grf
/- DERIVED. meets. Written by mkmeets.py. -/
set_option maxRecDepth 100000
namespace Go.Proofs.YtnjeppmpnaemlaaDoor.Grf
open Go.RowKit Str Go.Maps
attribute [local go_sem ↓ high] loadAtVx
theorem infoGiv (d : PD) (lnv gnv : Value) : (Tryd.prog.info? 31).map (·.size) = some (givC d lnv gnv).size := by rw [givC_size]; kernel_rfl
theorem put_none (a : Act) (v : Value) : a.put none v = a := rfl
/-- a given part in a box of its own, loaded as a whole. -/
noncomputable def loadGv (v : Value) : Sem Value := Instr.loadAt 31 v
theorem loadAtGv (v : Value) : Instr.loadAt 31 v = loadGv v := rfl
theorem loadGv_eq {w : World} {b : Nat} {d : PD} {lnv gnv : Value} (h : w.heap[b]? = some (.cells (givC d lnv gnv) 31 (0, 0))) : (loadGv (ptr b)).run Tryd.prog w = .ok (.agg (givC d lnv gnv)) w := by
  have hr : w.rangeAt b 0 (givC d lnv gnv).toList := row_range h [] _ [] (by simp) 0 rfl
  unfold loadGv
  simp only [Instr.loadAt, Instr.sureAddr, Sem.run_bind, Sem.run_pure, Result.andThen_ok, run_loadVar_mid w b 0 31 (givC d lnv gnv).toList _ hr Tryd.underlying31 rfl (by rw [Array.length_toList]; exact infoGiv d lnv gnv)]
attribute [irreducible] loadGv
attribute [local go_sem ↓ high] loadAtGv
/-- a part looked up by its name. -/
def partB (S : GS) (x : Vx) : Option PA := S.ps.find? fun p => decide (p.d.nm = x)
theorem GM.lookP {w : World} {S : GS} {us : Nat → Int} {gn : Vx → Int} (h : GM w S us gn) (x : Vx) : (Instr.lookup 35 (.map (some S.mp)) (.agg x.c) false).run Tryd.prog w = .ok (((partB S x).map fun p => ptr p.b).getD (.pointer none)) w :=
  h.mapP.look kbN Tryd.underlying35 (zeroP w) isPtr x
/-- a given part's line that is there. -/
def metB (S : GS) (d : PD) (i : Nat) : Bool := isL (vert d i) && (lineB S (vert d i)).isSome
def meetsB (S : GS) (d : PD) : Bool := (partB S d.nm).isSome || (List.range d.lines.length).any (metB S d)
set_option maxHeartbeats 8000000 in
theorem meets_any (S : GS) (us : Nat → Int) (gn : Vx → Int) (d : PD) (lnv gnv : Value) (w : World) (h : GM w S us gn) (hL : Laid w) (hl : RdS w lnv d.lines) (hn : d.lines.length ≤ 100000) :
    Calls Tryd.prog 68 #[ptr S.g, .agg (givC d lnv gnv)] w fun e w' => e = .returned (.bool (meetsB S d)) ∧ Below w.heap.size w w' := by
  obtain ⟨A, c, elv, hc, -⟩ := hl
  obtain ⟨n, hN⟩ : ∃ n, n = d.lines.length := ⟨_, rfl⟩
  rw [← hN] at hn elv hc
  have HN := Lib.hid hN
  have HLv := Lib.hid elv
  have h2 := Go.heap_alloc_new w (.cells (givC d lnv gnv) 31)
  have k2 : Below w.heap.size w (w.alloc (.cells (givC d lnv gnv) 31)) := (Below.refl _ _).alloc (Nat.le_refl _) _
  obtain ⟨W, hW⟩ : ∃ W, W = w.alloc (.cells (givC d lnv gnv) 31) := ⟨_, rfl⟩
  rw [← hW] at h2 k2
  have HW := Lib.hid hW.symm
  have K2 := Lib.hid k2
  have Hg : Hid (GM W S us gn) := h.below k2
  have HLd : Hid (Laid W) := hL.below k2 (Nat.le_refl _)
  obtain ⟨bx, hbx⟩ : ∃ bx, bx = w.heap.size := ⟨_, rfl⟩
  rw [← hbx] at h2
  have Hbx := Lib.hid hbx
  have HB := Lib.hid h2
  have HG2 : Hid (W.cell? ⟨S.g, 2, none⟩ = some (.map (some S.mp))) := Hg.out.g2
  clear h2 k2 hW h hL hbx hN elv
  cases hp : partB S d.nm with
  | some p =>
    have HP := Lib.hid hp
    have HR : Hid (meetsB S d = true) := by show _ = _; unfold meetsB; rw [hp]; rfl
    rw [HR.out]
    clear hp
    go_enter Tryd.func68, Tryd.ntmps68
    go_upto_region 1 with (fail)
    rw [HW.out, ← Hbx.out]
    have apx : apartB [7, 8, 9, 10, 11, 12, 13, 14] = true := by decide
    refine wp_region_any (by kernel_rfl) ?_
    change wpAny _ _ _ _ _ _ _ (World.drew _)
    refine wpAny_inv (fun ll aa wx => Hid (ll.size = 8 ∧ Below W.heap.size W wx) ∧ ∃ (z : Nat → Value), Hid (aa = ⟨#[ptr S.g, .agg (givC d lnv gnv), undef, .pointer (some ⟨bx, 0, none⟩), .bool false, undef, undef, z 7, z 8, z 9, z 10, z 11, z 12, z 13, z 14, undef, undef, undef, undef, undef, undef, undef, undef, undef, undef, undef, undef, undef, undef, undef, undef, undef], []⟩) ∧ Holding [7, 8, 9, 10, 11, 12, 13, 14] [some (ptr S.g), some (.pointer (some ⟨S.g, 0, none⟩)), some (.pointer (some ⟨S.g, 2, none⟩)), some (.map (some S.mp)), some (.agg (givC d lnv gnv)), some (.agg d.nm.c), some (ptr p.b), some (.bool true)] ll z) ?_ (by kernel_rfl) ?_ ?_ _ _ _ _ (unlisted_none _) ?_
    · rintro ll aa wx ⟨hI, _⟩
      exact hI.out.1
    · rintro ll aa wx ⟨hI, z, ha, hz⟩ hall
      have hx := Lib.hid hI.out.2
      have e0 : z 7 = ptr S.g := hz 0 _ (hall 0 (by decide)) rfl
      have e1 : z 8 = .pointer (some ⟨S.g, 0, none⟩) := hz 1 _ (hall 1 (by decide)) rfl
      have e2 : z 9 = .pointer (some ⟨S.g, 2, none⟩) := hz 2 _ (hall 2 (by decide)) rfl
      have e3 : z 10 = .map (some S.mp) := hz 3 _ (hall 3 (by decide)) rfl
      have e4 : z 11 = .agg (givC d lnv gnv) := hz 4 _ (hall 4 (by decide)) rfl
      have e5 : z 12 = .agg d.nm.c := hz 5 _ (hall 5 (by decide)) rfl
      have e6 : z 13 = ptr p.b := hz 6 _ (hall 6 (by decide)) rfl
      have e7 : z 14 = .bool true := hz 7 _ (hall 7 (by decide)) rfl
      clear hall hz hI 
      obtain rfl := ha.out
      clear ha
      clear apx
      have HX := Lib.hid hx.out
      have E7 := Lib.hid e7
      clear e0 e1 e2 e3 e4 e5 e6 e7 hx
      rw [E7.out]
      go_wp2
      go_ret
      exact ⟨rfl, K2.out.trans (HX.out.mono K2.out.size)⟩
    · rintro ll aa wx i ⟨hI, z, ha, hz⟩ hi hu hw
      obtain rfl := ha.out
      have hsz := Lib.hid hI.out.1
      have hx := Lib.hid hI.out.2
      clear ha hI
      have hin : i < 8 := hi
      obtain rfl | rfl | rfl | rfl | rfl | rfl | rfl | rfl : i = 0 ∨ i = 1 ∨ i = 2 ∨ i = 3 ∨ i = 4 ∨ i = 5 ∨ i = 6 ∨ i = 7 := by omega
      · refine wpOp_plain rfl rfl ?_
        go_simp
        exact ⟨⟨by simp [hsz.out], hx.out⟩, upd z 7 (ptr S.g), (by unfold Hid; simp [upd]), hz.next apx hsz.out 0 (by decide) _ (fun _ h => Option.some.inj h)⟩
      · have e0 : z 7 = ptr S.g := hz 0 _ (hw 0 (by kernel_rfl)) rfl
        refine wpOp_plain rfl rfl ?_
        go_simp
        exact ⟨⟨by simp [hsz.out], hx.out⟩, upd z 8 (.pointer (some ⟨S.g, 0, none⟩)), (by unfold Hid; simp [upd, e0]), hz.next apx hsz.out 1 (by decide) _ (fun _ h => Option.some.inj h)⟩
      · have e1 : z 8 = .pointer (some ⟨S.g, 0, none⟩) := hz 1 _ (hw 1 (by kernel_rfl)) rfl
        refine wpOp_plain rfl rfl ?_
        go_simp
        exact ⟨⟨by simp [hsz.out], hx.out⟩, upd z 9 (.pointer (some ⟨S.g, 2, none⟩)), (by unfold Hid; simp [upd, e1]), hz.next apx hsz.out 2 (by decide) _ (fun _ h => Option.some.inj h)⟩
      · have e2 : z 9 = .pointer (some ⟨S.g, 2, none⟩) := hz 2 _ (hw 2 (by kernel_rfl)) rfl
        have cl : wx.cell? ⟨S.g, 2, none⟩ = some (.map (some S.mp)) := (hx.out.cell (p := ⟨S.g, 2, none⟩) (World.block_lt_of_cell? _ _ HG2.out)).trans HG2.out
        refine wpOp_plain rfl rfl ?_
        go_simp
        exact ⟨⟨by simp [hsz.out], hx.out⟩, upd z 10 (.map (some S.mp)), (by unfold Hid; simp [upd, e2]), hz.next apx hsz.out 3 (by decide) _ (fun _ h => Option.some.inj h)⟩
      · have cl := (hx.out.block _ (Array.getElem?_eq_some_iff.1 HB.out).1).trans HB.out
        refine wpOp_plain rfl rfl (wp_load_row 31 (.tmp 3) rfl (bx) rfl 31 (givC d lnv gnv) (0, 0) _ cl Tryd.underlying31 rfl (infoGiv d lnv gnv) ?_)
        go_simp
        exact ⟨⟨by simp [hsz.out], hx.out⟩, upd z 11 (.agg (givC d lnv gnv)), (by unfold Hid; simp [upd]), hz.next apx hsz.out 4 (by decide) _ (fun _ h => Option.some.inj h)⟩
      · have e4 : z 11 = .agg (givC d lnv gnv) := hz 4 _ (hw 4 (by kernel_rfl)) rfl
        refine wpOp_plain rfl rfl ?_
        go_simp
        go_at_call 73
        refine (name_any d lnv gnv wx).mono ?_
        rintro e w8 ⟨rfl, low⟩
        exact ⟨⟨by simp [hsz.out], hx.out.trans (low.mono hx.out.size)⟩, upd z 12 (.agg d.nm.c), (by unfold Hid; simp [upd, e4]), hz.next apx hsz.out 5 (by decide) _ (fun _ h => Option.some.inj h)⟩
      · have e3 : z 10 = .map (some S.mp) := hz 3 _ (hw 3 (by kernel_rfl)) rfl
        have e5 : z 12 = .agg d.nm.c := hz 5 _ (hw 5 (by kernel_rfl)) rfl
        have lk := (Hg.out.below hx.out).lookP d.nm
        rw [HP.out] at lk
        simp only [Option.map_some, Option.map_none, Option.getD_some, Option.getD_none] at lk
        refine wpOp_plain rfl rfl ?_
        go_simp
        exact ⟨⟨by simp [hsz.out], hx.out⟩, upd z 13 (ptr p.b), (by unfold Hid; simp [upd, e3, e5]), hz.next apx hsz.out 6 (by decide) _ (fun _ h => Option.some.inj h)⟩
      · have e6 : z 13 = ptr p.b := hz 6 _ (hw 6 (by kernel_rfl)) rfl
        refine wpOp_plain rfl rfl ?_
        go_simp
        exact ⟨⟨by simp [hsz.out], hx.out⟩, upd z 14 (.bool true), (by unfold Hid; simp [upd, e6]), hz.next apx hsz.out 7 (by decide) _ (fun _ h => Option.some.inj h)⟩
    · exact ⟨⟨rfl, (Below.refl _ _).drew⟩, fun xx => (#[ptr S.g, .agg (givC d lnv gnv), undef, .pointer (some ⟨bx, 0, none⟩), .bool false, undef, undef, undef, undef, undef, undef, undef, undef, undef, undef, undef, undef, undef, undef, undef, undef, undef, undef, undef, undef, undef, undef, undef, undef, undef, undef, undef] : Array Value).getD xx undef, (by rfl), Holding.start⟩
  | none =>
    have HP := Lib.hid hp
    have HR : Hid (meetsB S d = (List.range n).any (metB S d)) := by show _ = _; unfold meetsB; rw [hp, HN.out]; rfl
    rw [HR.out]
    clear hp
    go_enter Tryd.func68, Tryd.ntmps68
    go_upto_region 1 with (fail)
    rw [HW.out, ← Hbx.out]
    have apx : apartB [7, 8, 9, 10, 11, 12, 13, 14] = true := by decide
    refine wp_region_any (by kernel_rfl) ?_
    change wpAny _ _ _ _ _ _ _ (World.drew _)
    refine wpAny_inv (fun ll aa wx => Hid (ll.size = 8 ∧ Below W.heap.size W wx) ∧ ∃ (z : Nat → Value), Hid (aa = ⟨#[ptr S.g, .agg (givC d lnv gnv), undef, .pointer (some ⟨bx, 0, none⟩), .bool false, undef, undef, z 7, z 8, z 9, z 10, z 11, z 12, z 13, z 14, undef, undef, undef, undef, undef, undef, undef, undef, undef, undef, undef, undef, undef, undef, undef, undef, undef], []⟩) ∧ Holding [7, 8, 9, 10, 11, 12, 13, 14] [some (ptr S.g), some (.pointer (some ⟨S.g, 0, none⟩)), some (.pointer (some ⟨S.g, 2, none⟩)), some (.map (some S.mp)), some (.agg (givC d lnv gnv)), some (.agg d.nm.c), some (.pointer none), some (.bool false)] ll z) ?_ (by kernel_rfl) ?_ ?_ _ _ _ _ (unlisted_none _) ?_
    · rintro ll aa wx ⟨hI, _⟩
      exact hI.out.1
    · rintro ll aa wx ⟨hI, z, ha, hz⟩ hall
      have hx := Lib.hid hI.out.2
      have e0 : z 7 = ptr S.g := hz 0 _ (hall 0 (by decide)) rfl
      have e1 : z 8 = .pointer (some ⟨S.g, 0, none⟩) := hz 1 _ (hall 1 (by decide)) rfl
      have e2 : z 9 = .pointer (some ⟨S.g, 2, none⟩) := hz 2 _ (hall 2 (by decide)) rfl
      have e3 : z 10 = .map (some S.mp) := hz 3 _ (hall 3 (by decide)) rfl
      have e4 : z 11 = .agg (givC d lnv gnv) := hz 4 _ (hall 4 (by decide)) rfl
      have e5 : z 12 = .agg d.nm.c := hz 5 _ (hall 5 (by decide)) rfl
      have e6 : z 13 = .pointer none := hz 6 _ (hall 6 (by decide)) rfl
      have e7 : z 14 = .bool false := hz 7 _ (hall 7 (by decide)) rfl
      clear hall hz hI 
      obtain rfl := ha.out
      clear ha
      clear apx
      have HX := Lib.hid hx.out
      have E7 := Lib.hid e7
      have e100 : wx.cell? ⟨bx, 100, none⟩ = some (.slice A n c) := by
        rw [← HLv.out]
        exact GRow.lines (gnv := gnv) (d := d) (at_below HB.out hx.out)
      clear e0 e1 e2 e3 e4 e5 e6 e7 hx
      rw [E7.out]
      clear E7
      generalize z 7 = y7
      generalize z 8 = y8
      generalize z 9 = y9
      generalize z 10 = y10
      generalize z 11 = y11
      generalize z 12 = y12
      generalize z 13 = y13
      go_upto_region 4 with (fail)
      go_loopw [18] (fun i wr => ∃ k : Nat, k ≤ n ∧ i = .int .i64 k ∧ Hid (∀ j, j < k → metB S d j = false) ∧ Hid (Below W.heap.size W wr)) (fun i _ => n - (intOf i).toNat)
      case atStart => exact ⟨0, Nat.zero_le _, rfl, fun j h => absurd h (Nat.not_lt_zero _), HX.out⟩
      case round =>
        obtain ⟨k, hk, rfl, hI, hlow⟩ := hrel
        clear HX e100
        by_cases hlt : k < n
        · have hltI : (k : Int) < n := by omega
          have hk0 : 0 ≤ (k : Int) := by omega
          have hB := at_below HB.out hlow.out
          have eg := loadGv_eq hB
          have hV := vertex_any d lnv gnv k wr
          clear hB
          go_upto_region 7 with (first | (go_at_call 72; refine hV.mono ?_; rintro e w5 ⟨rfl, low5⟩) | (refine wpList_store_row rfl 27 (.tmp 6) (.tmp 23) rfl w5.heap.size (vert d k).c rfl rfl 27 _ (Go.heap_alloc_new w5 _) (infoVxA _) (by simp [Vx.c_size]) (Vx.one _) ?_; rw [World.setRow_alloc_new]))
          rw [put_none]
          have hlowV := hlow.out.trans (low5.mono hlow.out.size)
          obtain ⟨w7, hw7⟩ : ∃ w7, w7 = w5.alloc (.cells (vert d k).c 27) := ⟨_, rfl⟩
          have hl7 : Below W.heap.size W w7 := by rw [hw7]; exact hlowV.alloc hlowV.size _
          have hb7 : w7.heap[w5.heap.size]? = some (.cells (vert d k).c 27 (0, 0)) := by rw [hw7]; exact Go.heap_alloc_new _ _
          rw [← hw7]
          have ex7 := box_vx hb7
          have hC1 := isLine_any (vert d k) w7 (HLd.out.below hl7 (Nat.le_refl _))
          have HC2 : Hid (∀ w8, Below w7.heap.size w7 w8 → Calls Tryd.prog 25 #[ptr S.g, .agg (vert d k).c] w8 fun e w' => e = .returned (.bool (lineB S (vert d k)).isSome) ∧ Below w8.heap.size w8 w') := fun w8 h8 => has_any S us gn (vert d k) w8 (Hg.out.below (hl7.trans (h8.mono hl7.size)))
          have HX8 : Hid (∀ w8, Below w7.heap.size w7 w8 → (loadVx (ptr w5.heap.size)).run Tryd.prog w8 = .ok (.agg (vert d k).c) w8) := fun w8 h8 => box_vx (at_below hb7 h8)
          have HM : Hid (metB S d k = (isL (vert d k) && (lineB S (vert d k)).isSome)) := rfl
          have Hl7 := Lib.hid hl7
          have HI' : Hid (metB S d k = false → ∀ j, j < k + 1 → metB S d j = false) := fun h j hj => by
            rcases Nat.lt_or_ge j k with h' | h'
            · exact hI.out j h'
            · obtain rfl : j = k := by omega
              exact h
          have hwk : wrap64 ((k : Int) + 1) = ((k + 1 : Nat) : Int) := by unfold wrap64; omega
          have HT : Hid (metB S d k = true → (List.range n).any (metB S d) = true) := fun h => List.any_eq_true.2 ⟨k, List.mem_range.2 hlt, h⟩
          clear hw7 hl7 hb7 eg hV hlowV low5 hlow hI
          generalize w5.heap.size = b6 at *
          cases hq : isL (vert d k) with
          | false =>
            have HF : Hid (metB S d k = false) := by show _ = _; rw [HM.out, hq]; rfl
            rw [hq] at hC1
            clear hq
            go_wp2_with (go_at_call 94; refine hC1.mono ?_; rintro e w8 ⟨rfl, low8⟩; have ex8 := HX8.out w8 low8)
            refine ⟨⟨k + 1, hlt, rfl, HI'.out HF.out, Hl7.out.trans (low8.mono Hl7.out.size)⟩, ?_⟩
            simp only [intOf]
            omega
          | true =>
            rw [hq] at hC1
            cases hs : (lineB S (vert d k)).isSome with
            | false =>
              have HF : Hid (metB S d k = false) := by show _ = _; rw [HM.out, hq, hs]; rfl
              rw [hs] at HC2
              clear hq hs
              go_wp2_with (first | (go_at_call 94; refine hC1.mono ?_; rintro e w8 ⟨rfl, low8⟩; have ex8 := HX8.out w8 low8) | (go_at_call 25; refine (HC2.out w8 low8).mono ?_; rintro e w9 ⟨rfl, low9⟩))
              refine ⟨⟨k + 1, hlt, rfl, HI'.out HF.out, (Hl7.out.trans (low8.mono Hl7.out.size)).trans (low9.mono (Nat.le_trans Hl7.out.size low8.size))⟩, ?_⟩
              simp only [intOf]
              omega
            | true =>
              have HF : Hid (metB S d k = true) := by show _ = _; rw [HM.out, hq, hs]; rfl
              rw [hs] at HC2
              clear hq hs
              go_wp2_with (first | (go_at_call 94; refine hC1.mono ?_; rintro e w8 ⟨rfl, low8⟩; have ex8 := HX8.out w8 low8) | (go_at_call 25; refine (HC2.out w8 low8).mono ?_; rintro e w9 ⟨rfl, low9⟩))
              go_ret
              exact ⟨by rw [HT.out HF.out]; rfl, K2.out.trans (((Hl7.out.trans (low8.mono Hl7.out.size)).trans (low9.mono (Nat.le_trans Hl7.out.size low8.size))).mono K2.out.size)⟩
        · have hltI : ¬ (k : Int) < n := by omega
          have HE : Hid ((List.range n).any (metB S d) = false) := by
            show _ = _
            rw [List.any_eq_false]
            intro j hj
            rw [hI.out j (by have := List.mem_range.1 hj; omega)]
            decide
          go_wp2
          go_ret
          exact ⟨by rw [HE.out]; rfl, K2.out.trans (hlow.out.mono K2.out.size)⟩
    · rintro ll aa wx i ⟨hI, z, ha, hz⟩ hi hu hw
      obtain rfl := ha.out
      have hsz := Lib.hid hI.out.1
      have hx := Lib.hid hI.out.2
      clear ha hI
      have hin : i < 8 := hi
      obtain rfl | rfl | rfl | rfl | rfl | rfl | rfl | rfl : i = 0 ∨ i = 1 ∨ i = 2 ∨ i = 3 ∨ i = 4 ∨ i = 5 ∨ i = 6 ∨ i = 7 := by omega
      · refine wpOp_plain rfl rfl ?_
        go_simp
        exact ⟨⟨by simp [hsz.out], hx.out⟩, upd z 7 (ptr S.g), (by unfold Hid; simp [upd]), hz.next apx hsz.out 0 (by decide) _ (fun _ h => Option.some.inj h)⟩
      · have e0 : z 7 = ptr S.g := hz 0 _ (hw 0 (by kernel_rfl)) rfl
        refine wpOp_plain rfl rfl ?_
        go_simp
        exact ⟨⟨by simp [hsz.out], hx.out⟩, upd z 8 (.pointer (some ⟨S.g, 0, none⟩)), (by unfold Hid; simp [upd, e0]), hz.next apx hsz.out 1 (by decide) _ (fun _ h => Option.some.inj h)⟩
      · have e1 : z 8 = .pointer (some ⟨S.g, 0, none⟩) := hz 1 _ (hw 1 (by kernel_rfl)) rfl
        refine wpOp_plain rfl rfl ?_
        go_simp
        exact ⟨⟨by simp [hsz.out], hx.out⟩, upd z 9 (.pointer (some ⟨S.g, 2, none⟩)), (by unfold Hid; simp [upd, e1]), hz.next apx hsz.out 2 (by decide) _ (fun _ h => Option.some.inj h)⟩
      · have e2 : z 9 = .pointer (some ⟨S.g, 2, none⟩) := hz 2 _ (hw 2 (by kernel_rfl)) rfl
        have cl : wx.cell? ⟨S.g, 2, none⟩ = some (.map (some S.mp)) := (hx.out.cell (p := ⟨S.g, 2, none⟩) (World.block_lt_of_cell? _ _ HG2.out)).trans HG2.out
        refine wpOp_plain rfl rfl ?_
        go_simp
        exact ⟨⟨by simp [hsz.out], hx.out⟩, upd z 10 (.map (some S.mp)), (by unfold Hid; simp [upd, e2]), hz.next apx hsz.out 3 (by decide) _ (fun _ h => Option.some.inj h)⟩
      · have cl := (hx.out.block _ (Array.getElem?_eq_some_iff.1 HB.out).1).trans HB.out
        refine wpOp_plain rfl rfl (wp_load_row 31 (.tmp 3) rfl (bx) rfl 31 (givC d lnv gnv) (0, 0) _ cl Tryd.underlying31 rfl (infoGiv d lnv gnv) ?_)
        go_simp
        exact ⟨⟨by simp [hsz.out], hx.out⟩, upd z 11 (.agg (givC d lnv gnv)), (by unfold Hid; simp [upd]), hz.next apx hsz.out 4 (by decide) _ (fun _ h => Option.some.inj h)⟩
      · have e4 : z 11 = .agg (givC d lnv gnv) := hz 4 _ (hw 4 (by kernel_rfl)) rfl
        refine wpOp_plain rfl rfl ?_
        go_simp
        go_at_call 73
        refine (name_any d lnv gnv wx).mono ?_
        rintro e w8 ⟨rfl, low⟩
        exact ⟨⟨by simp [hsz.out], hx.out.trans (low.mono hx.out.size)⟩, upd z 12 (.agg d.nm.c), (by unfold Hid; simp [upd, e4]), hz.next apx hsz.out 5 (by decide) _ (fun _ h => Option.some.inj h)⟩
      · have e3 : z 10 = .map (some S.mp) := hz 3 _ (hw 3 (by kernel_rfl)) rfl
        have e5 : z 12 = .agg d.nm.c := hz 5 _ (hw 5 (by kernel_rfl)) rfl
        have lk := (Hg.out.below hx.out).lookP d.nm
        rw [HP.out] at lk
        simp only [Option.map_some, Option.map_none, Option.getD_some, Option.getD_none] at lk
        refine wpOp_plain rfl rfl ?_
        go_simp
        exact ⟨⟨by simp [hsz.out], hx.out⟩, upd z 13 (.pointer none), (by unfold Hid; simp [upd, e3, e5]), hz.next apx hsz.out 6 (by decide) _ (fun _ h => Option.some.inj h)⟩
      · have e6 : z 13 = .pointer none := hz 6 _ (hw 6 (by kernel_rfl)) rfl
        refine wpOp_plain rfl rfl ?_
        go_simp
        exact ⟨⟨by simp [hsz.out], hx.out⟩, upd z 14 (.bool false), (by unfold Hid; simp [upd, e6]), hz.next apx hsz.out 7 (by decide) _ (fun _ h => Option.some.inj h)⟩
    · exact ⟨⟨rfl, (Below.refl _ _).drew⟩, fun xx => (#[ptr S.g, .agg (givC d lnv gnv), undef, .pointer (some ⟨bx, 0, none⟩), .bool false, undef, undef, undef, undef, undef, undef, undef, undef, undef, undef, undef, undef, undef, undef, undef, undef, undef, undef, undef, undef, undef, undef, undef, undef, undef, undef, undef] : Array Value).getD xx undef, (by rfl), Holding.start⟩
end Go.Proofs.YtnjeppmpnaemlaaDoor.Grf
