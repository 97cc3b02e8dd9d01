/- DERIVED. Texts of ours, merged: XHmacTwo XHmacSum XHmacWorks XShaFoldsMath XShaEq XShaApp. -/
import Derived.Test.YtkbkgbcdmhkicaaDoorMseal3
import Derived.Deep.DeepCutAuto
import Derived.Deep.RegionWith
import Derived.Outline
import Derived.KernelRfl
import Derived.Lib.SlBytesConst
import Derived.Test.YtkbkgbcdmhkicaaDoorMseal2
import Derived.ProofKit
import Derived.ChangeKeysEq
import Derived.StillTailTactics
/- DERIVED. What the region of hmac.Sum keeps that draws its order: two masked blocks, boxed. -/
namespace Go.Proofs.YtkbkgbcdmhkicaaDoor
open Go.RowKit
theorem lstT {l : Array Bool} {i j : Nat} (h : (l.setIfInBounds i true).getD j false = true) (hne : j ≠ i) : l.getD j false = true := (getD_listed h).resolve_left hne
/-- all blocks stay. -/
def Kept (w w' : World) : Prop := ∀ (k : Nat) (o : Obj), w.heap[k]? = some o → w'.heap[k]? = some o
theorem Kept.refl (w : World) : Kept w w := fun _ _ h => h
theorem Kept.below {w w' : World} (h : Below w.heap.size w w') : Kept w w' := fun k _ hk => (h.block k (Array.getElem?_eq_some_iff.1 hk).1).trans hk
theorem Kept.alloc (w : World) (o : Obj) : Kept w (w.alloc o) := Kept.below ((Below.refl _ _).alloc (Nat.le_refl _) _)
/-- a row of one's own. -/
def rowIf (b : Bool) (X : List Int) : Array Value := if b = true then u8s X else zero64
theorem rowIf_size (b : Bool) (X : List Int) (h : X.length = 64) : (rowIf b X).size = 64 := by
  unfold rowIf
  split
  · rw [u8s_size, h]
  · rfl
theorem notYet {l : Array Bool} {i j : Nat} (h : l.getD i false = true → l.getD j false = true) (hu : l.getD j false = false) : l.getD i false = false := by
  cases e : l.getD i false with
  | false => rfl
  | true => rw [h e] at hu; cases hu
structure Two (l : Array Bool) (v11 v12 v13 v14 v6 v7 : Value) (g6 g7 N G : Nat) (X Y Z : List Int) (w wx : World) : Prop where
  sz : l.size = 8
  p0 : l.getD 0 false = true → v11 = .agg (u8s X)
  p1 : l.getD 1 false = true → v12 = .agg (u8s Y)
  p2 : l.getD 2 false = true → v13 = .agg (u8s X)
  p3 : l.getD 3 false = true → v14 = .agg (u8s Z)
  p4 : l.getD 4 false = true → v6 = .pointer (some ⟨g6, 0, none⟩) ∧ G < g6 ∧ wx.heap[g6]? = some (.cells (rowIf (l.getD 6 false) Y) 62 (0, 0))
  p5 : l.getD 5 false = true → v7 = .pointer (some ⟨g7, 0, none⟩) ∧ G < g7 ∧ wx.heap[g7]? = some (.cells (rowIf (l.getD 7 false) Z) 62 (0, 0))
  ne : l.getD 4 false = true → l.getD 5 false = true → g6 ≠ g7
  q6 : l.getD 6 false = true → l.getD 4 false = true ∧ l.getD 5 false = true
  q7 : l.getD 7 false = true → l.getD 4 false = true ∧ l.getD 5 false = true
  src : wx.heap[G]? = some (.cells (u8s X) 62 (0, 0))
  res : wx.heap[N]? = some (.cells zero32 23 (0, 0))
  NG : N < G
  low : Below N w wx
section
variable {l : Array Bool} {v11 v12 v13 v14 v6 v7 : Value} {g6 g7 N G : Nat} {X Y Z : List Int} {w wx : World}
theorem Two.same (h : Two l v11 v12 v13 v14 v6 v7 g6 g7 N G X Y Z w wx) (i : Nat) (hi : i = 0 ∨ i = 1 ∨ i = 2 ∨ i = 3) (v11' v12' v13' v14' : Value)
    (h0 : (i = 0 ∧ v11' = .agg (u8s X)) ∨ (i ≠ 0 ∧ v11' = v11)) (h1 : (i = 1 ∧ v12' = .agg (u8s Y)) ∨ (i ≠ 1 ∧ v12' = v12)) (h2 : (i = 2 ∧ v13' = .agg (u8s X)) ∨ (i ≠ 2 ∧ v13' = v13)) (h3 : (i = 3 ∧ v14' = .agg (u8s Z)) ∨ (i ≠ 3 ∧ v14' = v14))
    {wx' : World} (hk : Kept wx wx') (hl : Below wx.heap.size wx wx') : Two (l.setIfInBounds i true) v11' v12' v13' v14' v6 v7 g6 g7 N G X Y Z w wx' where
  sz := by simp [h.sz]
  p0 hl := h0.elim (fun e => e.2) (fun e => e.2.trans (h.p0 (lstT hl (Ne.symm e.1))))
  p1 hl := h1.elim (fun e => e.2) (fun e => e.2.trans (h.p1 (lstT hl (Ne.symm e.1))))
  p2 hl := h2.elim (fun e => e.2) (fun e => e.2.trans (h.p2 (lstT hl (Ne.symm e.1))))
  p3 hl := h3.elim (fun e => e.2) (fun e => e.2.trans (h.p3 (lstT hl (Ne.symm e.1))))
  p4 hl := by
    obtain ⟨a, b, c⟩ := h.p4 (lstT hl (by omega))
    exact ⟨a, b, by rw [getD_set_ne false (by omega)]; exact hk _ _ c⟩
  p5 hl := by
    obtain ⟨a, b, c⟩ := h.p5 (lstT hl (by omega))
    exact ⟨a, b, by rw [getD_set_ne false (by omega)]; exact hk _ _ c⟩
  ne h4 h5 := h.ne (lstT h4 (by omega)) (lstT h5 (by omega))
  q6 hl := ⟨getD_set_true (h.q6 (lstT hl (by omega))).1, getD_set_true (h.q6 (lstT hl (by omega))).2⟩
  q7 hl := ⟨getD_set_true (h.q7 (lstT hl (by omega))).1, getD_set_true (h.q7 (lstT hl (by omega))).2⟩
  src := hk _ _ h.src
  res := hk _ _ h.res
  NG := h.NG
  low := h.low.trans (hl.mono (by have := (Array.getElem?_eq_some_iff.1 h.res).1; omega))
theorem Two.alloc6 (h : Two l v11 v12 v13 v14 v6 v7 g6 g7 N G X Y Z w wx) (hu : l.getD 4 false = false) :
    Two (l.setIfInBounds 4 true) v11 v12 v13 v14 (.pointer (some ⟨wx.heap.size, 0, none⟩)) v7 wx.heap.size g7 N G X Y Z w (wx.alloc (.cells zero64 62)) where
  sz := by simp [h.sz]
  p0 hl := h.p0 (lstT hl (by omega))
  p1 hl := h.p1 (lstT hl (by omega))
  p2 hl := h.p2 (lstT hl (by omega))
  p3 hl := h.p3 (lstT hl (by omega))
  p4 _ := ⟨rfl, (Array.getElem?_eq_some_iff.1 h.src).1, by rw [getD_set_ne false (by omega), notYet (fun e => (h.q6 e).1) hu]; exact Go.heap_alloc_new _ _⟩
  p5 hl := by
    obtain ⟨a, b, c⟩ := h.p5 (lstT hl (by omega))
    exact ⟨a, b, by rw [getD_set_ne false (by omega)]; exact (Kept.alloc _ _) _ _ c⟩
  ne _ h5 := by
    have := (Array.getElem?_eq_some_iff.1 (h.p5 (lstT h5 (by omega))).2.2).1
    omega
  q6 hl := ⟨getD_set_true (h.q6 (lstT hl (by omega))).1, getD_set_true (h.q6 (lstT hl (by omega))).2⟩
  q7 hl := ⟨getD_set_true (h.q7 (lstT hl (by omega))).1, getD_set_true (h.q7 (lstT hl (by omega))).2⟩
  src := (Kept.alloc _ _) _ _ h.src
  res := (Kept.alloc _ _) _ _ h.res
  NG := h.NG
  low := h.low.alloc (by have := (Array.getElem?_eq_some_iff.1 h.res).1; omega) _
theorem Two.alloc7 (h : Two l v11 v12 v13 v14 v6 v7 g6 g7 N G X Y Z w wx) (hu : l.getD 5 false = false) :
    Two (l.setIfInBounds 5 true) v11 v12 v13 v14 v6 (.pointer (some ⟨wx.heap.size, 0, none⟩)) g6 wx.heap.size N G X Y Z w (wx.alloc (.cells zero64 62)) where
  sz := by simp [h.sz]
  p0 hl := h.p0 (lstT hl (by omega))
  p1 hl := h.p1 (lstT hl (by omega))
  p2 hl := h.p2 (lstT hl (by omega))
  p3 hl := h.p3 (lstT hl (by omega))
  p5 _ := ⟨rfl, (Array.getElem?_eq_some_iff.1 h.src).1, by rw [getD_set_ne false (by omega), notYet (fun e => (h.q7 e).2) hu]; exact Go.heap_alloc_new _ _⟩
  p4 hl := by
    obtain ⟨a, b, c⟩ := h.p4 (lstT hl (by omega))
    exact ⟨a, b, by rw [getD_set_ne false (by omega)]; exact (Kept.alloc _ _) _ _ c⟩
  ne h4 _ := by
    have := (Array.getElem?_eq_some_iff.1 (h.p4 (lstT h4 (by omega))).2.2).1
    omega
  q6 hl := ⟨getD_set_true (h.q6 (lstT hl (by omega))).1, getD_set_true (h.q6 (lstT hl (by omega))).2⟩
  q7 hl := ⟨getD_set_true (h.q7 (lstT hl (by omega))).1, getD_set_true (h.q7 (lstT hl (by omega))).2⟩
  src := (Kept.alloc _ _) _ _ h.src
  res := (Kept.alloc _ _) _ _ h.res
  NG := h.NG
  low := h.low.alloc (by have := (Array.getElem?_eq_some_iff.1 h.res).1; omega) _
theorem Two.store6 (h : Two l v11 v12 v13 v14 v6 v7 g6 g7 N G X Y Z w wx) (h4 : l.getD 4 false = true) (h5 : l.getD 5 false = true) :
    Two (l.setIfInBounds 6 true) v11 v12 v13 v14 v6 v7 g6 g7 N G X Y Z w (wx.setRow g6 (u8s Y)) where
  sz := by simp [h.sz]
  p0 hl := h.p0 (lstT hl (by omega))
  p1 hl := h.p1 (lstT hl (by omega))
  p2 hl := h.p2 (lstT hl (by omega))
  p3 hl := h.p3 (lstT hl (by omega))
  p4 _ := by
    obtain ⟨a, b, c⟩ := h.p4 h4
    have e : (l.setIfInBounds 6 true).getD 6 false = true := by simp [h.sz]
    exact ⟨a, b, by rw [e]; exact setRow_heap _ _ _ _ _ _ c⟩
  p5 _ := by
    obtain ⟨a, b, c⟩ := h.p5 h5
    exact ⟨a, b, by rw [getD_set_ne false (by omega), setRow_other _ _ _ _ (Ne.symm (h.ne h4 h5))]; exact c⟩
  ne _ _ := h.ne h4 h5
  q6 _ := ⟨getD_set_true h4, getD_set_true h5⟩
  q7 _ := ⟨getD_set_true h4, getD_set_true h5⟩
  src := by rw [setRow_other _ _ _ _ (by have := (h.p4 h4).2.1; omega)]; exact h.src
  res := by rw [setRow_other _ _ _ _ (by have := (h.p4 h4).2.1; have := h.NG; omega)]; exact h.res
  NG := h.NG
  low := below_setRow h.low (by have := (h.p4 h4).2.1; have := h.NG; omega) _
theorem Two.store7 (h : Two l v11 v12 v13 v14 v6 v7 g6 g7 N G X Y Z w wx) (h4 : l.getD 4 false = true) (h5 : l.getD 5 false = true) :
    Two (l.setIfInBounds 7 true) v11 v12 v13 v14 v6 v7 g6 g7 N G X Y Z w (wx.setRow g7 (u8s Z)) where
  sz := by simp [h.sz]
  p0 hl := h.p0 (lstT hl (by omega))
  p1 hl := h.p1 (lstT hl (by omega))
  p2 hl := h.p2 (lstT hl (by omega))
  p3 hl := h.p3 (lstT hl (by omega))
  p5 _ := by
    obtain ⟨a, b, c⟩ := h.p5 h5
    have e : (l.setIfInBounds 7 true).getD 7 false = true := by simp [h.sz]
    exact ⟨a, b, by rw [e]; exact setRow_heap _ _ _ _ _ _ c⟩
  p4 _ := by
    obtain ⟨a, b, c⟩ := h.p4 h4
    exact ⟨a, b, by rw [getD_set_ne false (by omega), setRow_other _ _ _ _ (h.ne h4 h5)]; exact c⟩
  ne _ _ := h.ne h4 h5
  q6 _ := ⟨getD_set_true h4, getD_set_true h5⟩
  q7 _ := ⟨getD_set_true h4, getD_set_true h5⟩
  src := by rw [setRow_other _ _ _ _ (by have := (h.p5 h5).2.1; omega)]; exact h.src
  res := by rw [setRow_other _ _ _ _ (by have := (h.p5 h5).2.1; have := h.NG; omega)]; exact h.res
  NG := h.NG
  low := below_setRow h.low (by have := (h.p5 h5).2.1; have := h.NG; omega) _
end
end Go.Proofs.YtkbkgbcdmhkicaaDoor
/- DERIVED. The contract of hmac.Sum: a tag. -/
namespace Go.Proofs.YtkbkgbcdmhkicaaDoor
open Go.RowKit
theorem byt_rowT {w : World} {g : Nat} {t : TypeId} {l : List Int} (h : w.heap[g]? = some (.cells (u8s l) t (0, 0))) {n : Nat} (hn : l.length = n) : Byt w (some ⟨g, 0, none⟩) n l :=
  ⟨by omega, (fun h => by cases h), fun _ => ⟨g, 0, rfl, (Array.getElem?_eq_some_iff.1 h).1, fun j hj => by rw [Nat.zero_add, cell_row h, u8s_get _ _ hj]⟩⟩
/-- a block and more bytes, one behind the other. -/
theorem conc1 (g : Nat) (A : Option Addr) (c m : Nat) (w : World) (Y T : List Int) (hY : Y.length = 64) (hT : T.length = m) (hm : m ≤ 150000) (hg : w.heap[g]? = some (.cells (u8s Y) 62 (0, 0))) (hB : Byt w A c T) :
    Calls Tryd.prog 38 #[.slice (some ⟨w.heap.size, 0, none⟩) 2 2] (w.alloc (.cells #[.slice (some ⟨g, 0, none⟩) 64 64, .slice A m c] 24)) fun e' w' => ∃ g' c', e' = .returned (.slice (some ⟨g', 0, none⟩) (64 + m) c') ∧ Byt w' (some ⟨g', 0, none⟩) c' (Y ++ T) ∧ Below w.heap.size w w' := by
  refine (concat_any (some ⟨g, 0, none⟩) A 64 c w.heap.size 64 m Y T _ hY hT (by omega) (by omega) (by omega) (Go.heap_alloc_new w _) ((byt_rowT hg hY).below ((Below.refl _ _).alloc (Nat.le_refl _) _) (Nat.le_refl _)) (hB.below ((Below.refl _ _).alloc (Nat.le_refl _) _) (Nat.le_refl _))).mono ?_
  rintro e w' ⟨g', c', he, hb, hl⟩
  exact ⟨g', c', he, hb, ((Below.refl _ _).alloc (Nat.le_refl _) _).trans (hl.mono (by simp))⟩
/-- a digest, stored as a whole. -/
noncomputable def store35 (a v : Value) : Sem Unit := Instr.storeAt 23 a v
theorem storeAt35 (a v : Value) : Instr.storeAt 23 a v = store35 a v := rfl
theorem store35_eq {w : World} {g : Nat} {old : Array Value} {l : List Int} (hl : l.length = 32) (ho : old.size = 32) (h : w.heap[g]? = some (.cells old 23 (0, 0))) :
    (store35 (.pointer (some ⟨g, 0, none⟩)) (.agg (u8s l))).run Tryd.prog w = .ok () (w.setRow g (u8s l)) := by
  unfold store35
  simp only [Instr.storeAt, Instr.sureAddr, Sem.run_bind, Sem.run_pure, Result.andThen_ok, run_storeVar_row w g 23 23 old (u8s l) h (by rw [u8s_size, hl]; exact info35) (by rw [u8s_size, hl, ho]) (u8s_one _)]
attribute [irreducible] store35
attribute [local go_sem ↓ high] storeAt35
/-- the region's invariant: the frame, and what is known of it. -/
def TwoI (A A2 : Option Addr) (c n c2 m N G : Nat) (X : List Int) (w : World) (l : Array Bool) (a : Act) (wx : World) : Prop :=
  ∃ (v11 v12 v13 v14 v6 v7 : Value) (g6 g7 : Nat), a = ⟨#[.slice A n c, .slice A2 m c2, undef, undef, .pointer (some ⟨N, 0, none⟩), .pointer (some ⟨G, 0, none⟩), v6, v7, undef, .slice A n c, .agg (u8s X), v11, v12, v13, v14, undef, undef, undef, undef, undef, undef, undef, undef, undef, undef], []⟩ ∧ Two l v11 v12 v13 v14 v6 v7 g6 g7 N G X (xorL 54 X) (xorL 92 X) w wx
set_option maxRecDepth 100000 in
set_option maxHeartbeats 1000000 in
theorem hmac_any (K T : List Int) (A A2 : Option Addr) (c n c2 m : Nat) (w : World) (hn : K.length = n) (hm : T.length = m) (hb : InB K) (hb2 : InB T) (hB : Byt w A c K) (hB2 : Byt w A2 c2 T) (hL : Laid w) (hx : n < 2305843009213693952) (hx2 : m ≤ 150000) :
    Calls Tryd.prog 21 #[.slice A n c, .slice A2 m c2] w fun e w' => e = .returned (.agg (u8s (hmacL K T))) ∧ Below w.heap.size w w' := by
  have hsz := hL.sz
  have b0 : Below w.heap.size w (w.alloc (.cells zero32 23)) := (Below.refl _ _).alloc (Nat.le_refl _) _
  have HC := Lib.hid (block_any K A c n (w.alloc (.cells zero32 23)) hn hb (hB.below b0 (Nat.le_refl _)) (hL.below b0 hsz) hx)
  have R0 := Lib.hid (Go.heap_alloc_new w (.cells zero32 23))
  have B0 := Lib.hid b0
  have HL := Lib.hid hL
  have Hm := Lib.hid hm
  have HB2 := Lib.hid hB2
  have Hb2 := Lib.hid hb2
  have Hb := Lib.hid hb.blockL
  have Hl := Lib.hid (blockL_length K)
  obtain ⟨X, hX⟩ : ∃ X, X = blockL K := ⟨_, rfl⟩
  rw [← hX] at HC Hl Hb
  have HX := Lib.hid hX
  have Hi : Hid ((Tryd.prog.info? 62).map (·.size) = some (u8s X).size) := by show _ = _; rw [u8s_size, Hl.out]; exact info79
  unfold zero32 at HC R0 B0
  clear hn hm hb hb2 hB hB2 hL b0 hX hx
  go_enter Tryd.func21, Tryd.ntmps21
  go_upto_region 2 with (first
    | (go_at_call 35; refine HC.out.mono ?_; rintro e w1 ⟨rfl, low1⟩; have R1 := Lib.hid ((low1.block _ (Array.getElem?_eq_some_iff.1 R0.out).1).trans R0.out); have Low1 := Lib.hid (B0.out.trans (low1.mono (by simp))); clear low1)
    | (refine wpList_store_row rfl 62 (.tmp 5) (.tmp 10) rfl w1.heap.size (u8s X) (by rfl) (by rfl) 62 _ (Go.heap_alloc_new w1 _) Hi.out (by rw [u8s_size, Hl.out]; rfl) (u8s_one _) ?_; rw [World.setRow_alloc_new]))
  simp only [Act.put]
  go_cut [6, 7] (fun s6 s7 wx => ∃ g6 g7 : Nat, s6 = .pointer (some ⟨g6, 0, none⟩) ∧ s7 = .pointer (some ⟨g7, 0, none⟩) ∧ Hid (wx.heap[g6]? = some (.cells (u8s (xorL 54 X)) 62 (0, 0))) ∧ Hid (wx.heap[g7]? = some (.cells (u8s (xorL 92 X)) 62 (0, 0))) ∧ Hid (wx.heap[w.heap.size]? = some (.cells zero32 23 (0, 0))) ∧ Hid (Below w.heap.size w wx))
  case first =>
    skip
    refine wp_region_any (by kernel_rfl) ?_
    change wpAny _ _ _ _ _ _ _ (World.drew _)
    refine wpAny_inv (TwoI A A2 c n c2 m w.heap.size w1.heap.size X w) ?_ (by kernel_rfl) ?_ ?_ _ _ _ _ (unlisted_none _) ?_
    · rintro l a wx ⟨_, _, _, _, _, _, _, _, _, h⟩
      exact h.sz
    · rintro l a wx ⟨v11, v12, v13, v14, v6, v7, g6, g7, rfl, h⟩ hall
      obtain ⟨rfl, _, h6⟩ := h.p4 (hall 4 (by decide))
      obtain ⟨rfl, _, h7⟩ := h.p5 (hall 5 (by decide))
      have e6 := hall 6 (by decide)
      have e7 := hall 7 (by decide)
      rw [e6] at h6
      rw [e7] at h7
      have hr := h.res
      have hl := h.low
      go_wp2_with fail
      go_meet
      exact ⟨g6, g7, rfl, rfl, h6, h7, hr, hl⟩
    · rintro l a wx i ⟨v11, v12, v13, v14, v6, v7, g6, g7, rfl, h⟩ hi hu hw
      have hi8 : i < 8 := hi
      obtain rfl | rfl | rfl | rfl | rfl | rfl | rfl | rfl : i = 0 ∨ i = 1 ∨ i = 2 ∨ i = 3 ∨ i = 4 ∨ i = 5 ∨ i = 6 ∨ i = 7 := by omega
      · refine wpOp_plain rfl rfl (wp_load_row 62 (.tmp 5) rfl w1.heap.size rfl 62 (u8s X) (0, 0) _ h.src Tryd.underlying62 rfl Hi.out ?_)
        exact ⟨_, _, _, _, _, _, g6, g7, rfl, h.same 0 (by omega) _ _ _ _ (.inl ⟨rfl, rfl⟩) (.inr ⟨by decide, rfl⟩) (.inr ⟨by decide, rfl⟩) (.inr ⟨by decide, rfl⟩) (Kept.refl _) (Below.refl _ _)⟩
      · obtain rfl := h.p0 (hw 0 (by kernel_rfl))
        refine wpOp_plain rfl rfl ?_
        go_simp
        go_at_call 36
        refine (masked_any X 54 Hl.out _).mono ?_
        rintro e w' ⟨rfl, low⟩
        exact ⟨_, _, _, _, _, _, g6, g7, rfl, h.same 1 (by omega) _ _ _ _ (.inr ⟨by decide, rfl⟩) (.inl ⟨rfl, rfl⟩) (.inr ⟨by decide, rfl⟩) (.inr ⟨by decide, rfl⟩) (Kept.below low) low⟩
      · refine wpOp_plain rfl rfl (wp_load_row 62 (.tmp 5) rfl w1.heap.size rfl 62 (u8s X) (0, 0) _ h.src Tryd.underlying62 rfl Hi.out ?_)
        exact ⟨_, _, _, _, _, _, g6, g7, rfl, h.same 2 (by omega) _ _ _ _ (.inr ⟨by decide, rfl⟩) (.inr ⟨by decide, rfl⟩) (.inl ⟨rfl, rfl⟩) (.inr ⟨by decide, rfl⟩) (Kept.refl _) (Below.refl _ _)⟩
      · obtain rfl := h.p2 (hw 2 (by kernel_rfl))
        refine wpOp_plain rfl rfl ?_
        go_simp
        go_at_call 36
        refine (masked_any X 92 Hl.out _).mono ?_
        rintro e w' ⟨rfl, low⟩
        exact ⟨_, _, _, _, _, _, g6, g7, rfl, h.same 3 (by omega) _ _ _ _ (.inr ⟨by decide, rfl⟩) (.inr ⟨by decide, rfl⟩) (.inr ⟨by decide, rfl⟩) (.inl ⟨rfl, rfl⟩) (Kept.below low) low⟩
      · refine wpOp_plain rfl rfl ?_
        go_simp
        exact ⟨_, _, _, _, _, _, _, g7, rfl, h.alloc6 hu⟩
      · refine wpOp_plain rfl rfl ?_
        go_simp
        exact ⟨_, _, _, _, _, _, g6, _, rfl, h.alloc7 hu⟩
      · obtain rfl := h.p1 (hw 1 (by kernel_rfl))
        have h4 := hw 4 (by kernel_rfl)
        have h5 := hw 5 (by kernel_rfl)
        obtain ⟨rfl, _, hr⟩ := h.p4 h4
        refine wpOp_plain rfl rfl (wp_store_row 62 (.tmp 6) (.tmp 12) rfl g6 (u8s (xorL 54 X)) rfl rfl 62 _ hr (by rw [u8s_size, xorL_length, Hl.out]; exact info79) (by rw [rowIf_size _ _ (by rw [xorL_length, Hl.out]), u8s_size, xorL_length, Hl.out]) (u8s_one _) ?_)
        exact ⟨_, _, _, _, _, _, g6, g7, rfl, h.store6 h4 h5⟩
      · obtain rfl := h.p3 (hw 3 (by kernel_rfl))
        have h4 := hw 4 (by kernel_rfl)
        have h5 := hw 5 (by kernel_rfl)
        obtain ⟨rfl, _, hr⟩ := h.p5 h5
        refine wpOp_plain rfl rfl (wp_store_row 62 (.tmp 7) (.tmp 14) rfl g7 (u8s (xorL 92 X)) rfl rfl 62 _ hr (by rw [u8s_size, xorL_length, Hl.out]; exact info79) (by rw [rowIf_size _ _ (by rw [xorL_length, Hl.out]), u8s_size, xorL_length, Hl.out]) (u8s_one _) ?_)
        exact ⟨_, _, _, _, _, _, g6, g7, rfl, h.store7 h4 h5⟩
    · refine ⟨undef, undef, undef, undef, undef, undef, 0, 0, rfl, ⟨rfl, fun h => absurd h (by decide), fun h => absurd h (by decide), fun h => absurd h (by decide), fun h => absurd h (by decide), fun h => absurd h (by decide), fun h => absurd h (by decide), fun h => absurd h (by decide), fun h => absurd h (by decide), fun h => absurd h (by decide), ?_, ?_, ?_, ?_⟩⟩
      · exact Go.heap_alloc_new w1 _
      · exact (Go.heap_alloc_old w1 _ (Array.getElem?_eq_some_iff.1 R1.out).1).trans R1.out
      · exact (Array.getElem?_eq_some_iff.1 R1.out).1
      · exact (Low1.out.alloc Low1.out.size _).drew
  case rest =>
    obtain ⟨g6, g7, rfl, rfl, h6, h7, hr, hl⟩ := hcut
    rename World => wx
    have c1 := conc1 g6 A2 c2 m wx (xorL 54 X) T (by rw [xorL_length, Hl.out]) Hm.out hx2 h6.out (HB2.out.below hl.out (Nat.le_refl _))
    have C1 := Lib.hid c1
    have Hin := Lib.hid ((Hb.out.xorL 54 (by decide) (by decide)).append Hb2.out)
    have Hlen : Hid ((xorL 54 X ++ T).length = 64 + m) := by show _ = _; rw [List.length_append, xorL_length, Hl.out, Hm.out]
    obtain ⟨S1, hS1⟩ : ∃ S1, S1 = sumL (xorL 54 X ++ T) := ⟨_, rfl⟩
    have HS1 := Lib.hid hS1
    have Hl1 : Hid (S1.length = 32) := by show _ = _; rw [hS1, sumL_length]
    have Hi1 : Hid (InB S1) := by show InB _; rw [hS1]; exact sumL_in _
    have HN := Lib.hid (Array.getElem?_eq_some_iff.1 hr.out).1
    clear c1 hS1
    go_upto_region 4 with (first
      | (go_at_call 38; refine C1.out.mono ?_; rintro e w2 ⟨g, c3, rfl, byt, low2⟩; have Low2 := Lib.hid (hl.out.trans (low2.mono hl.out.size)); have K2 := Lib.hid (Kept.below low2); have Byt2 := Lib.hid byt; clear byt low2)
      | (go_at_call 37; refine (sum_any (xorL 54 X ++ T) (some ⟨g, 0, none⟩) c3 (64 + m) w2 Hlen.out Hin.out Byt2.out (HL.out.below Low2.out hsz) (by omega)).mono ?_; rintro e w3 ⟨rfl, low3⟩; rw [← HS1.out]; have Low3 := Lib.hid (Low2.out.trans (low3.mono Low2.out.size)); have K3 := Lib.hid (Kept.below low3); clear low3)
      | (refine wpList_store_row rfl 23 (.tmp 8) (.tmp 19) rfl w3.heap.size (u8s S1) (by rfl) (by rfl) 23 _ (Go.heap_alloc_new w3 _) (by rw [u8s_size, Hl1.out]; exact info35) (by rw [u8s_size, Hl1.out]; rfl) (u8s_one _) ?_; rw [World.setRow_alloc_new]))
    simp only [Act.put]
    have h3 : (w3.alloc (.cells (u8s S1) 23)).heap[w3.heap.size]? = some (.cells (u8s S1) 23 (0, 0)) := Go.heap_alloc_new w3 _
    have k3 := Kept.alloc w3 (.cells (u8s S1) 23)
    have h7' := k3 _ _ (K3.out _ _ (K2.out _ _ h7.out))
    have hr' := k3 _ _ (K3.out _ _ (K2.out _ _ hr.out))
    have low4 := Low3.out.alloc Low3.out.size (.cells (u8s S1) 23)
    generalize World.alloc w3 _ = w4 at h3 h7' hr' low4 ⊢
    have C2 := Lib.hid (conc1 g7 (some ⟨w3.heap.size, 0, none⟩) 32 32 w4.drew (xorL 92 X) S1 (by rw [xorL_length, Hl.out]) Hl1.out (by omega) h7' (byt_rowT (w := w4.drew) h3 Hl1.out))
    have Hin2 := Lib.hid ((Hb.out.xorL 92 (by decide) (by decide)).append Hi1.out)
    have Hlen2 : Hid ((xorL 92 X ++ S1).length = 64 + 32) := by show _ = _; rw [List.length_append, xorL_length, Hl.out, Hl1.out]
    obtain ⟨S2, hS2⟩ : ∃ S2, S2 = sumL (xorL 92 X ++ S1) := ⟨_, rfl⟩
    have HS2 := Lib.hid hS2
    have Hl2 : Hid (S2.length = 32) := by show _ = _; rw [hS2, sumL_length]
    have HS3 : Hid (hmacL K T = S2) := by show _ = _; rw [hS2, HS1.out, HX.out]; rfl
    have Hr4 := Lib.hid hr'
    have Low4 := Lib.hid low4
    have H35 : Hid ((Tryd.prog.info? 23).map (·.size) = some (u8s S2).size) := by show _ = _; rw [u8s_size, Hl2.out]; exact info35
    clear h3 k3 h7' hr' low4 hS2
    go_region_with (first
      | (go_at_call 38; refine C2.out.mono ?_; rintro e w5 ⟨g', c5, rfl, byt, low5⟩; have Low5 := Lib.hid (Low4.out.drew.trans (low5.mono Low4.out.size)); have Byt5 := Lib.hid byt; have K5 := Lib.hid (Kept.below low5); clear byt low5)
      | (go_at_call 37; refine (sum_any (xorL 92 X ++ S1) (some ⟨g', 0, none⟩) c5 (64 + 32) w5 Hlen2.out Hin2.out Byt5.out (HL.out.below Low5.out hsz) (by omega)).mono ?_; rintro e w6 ⟨rfl, low6⟩; rw [← HS2.out]; have R6 := Lib.hid (Kept.below low6 _ _ (K5.out _ _ Hr4.out)); have st := store35_eq (l := S2) Hl2.out rfl R6.out; have Low6 := Lib.hid (Low5.out.trans (low6.mono Low5.out.size)); clear low6))
    all_goals
      go_wp2
      exact bodyPost_ret (v := .agg (u8s S2)) (results_cell_row rfl _ _ w.heap.size 23 _ (0, 0) _ rfl (setRow_heap w6 _ _ _ _ _ R6.out) Tryd.underlying23 rfl H35.out) rfl ⟨by rw [HS3.out], below_setRow Low6.out (Nat.le_refl _) _⟩
end Go.Proofs.YtkbkgbcdmhkicaaDoor
/- DERIVED. Words of layer 2's helpers (hmac/XHmacWorks), without the statements' own functions: for seats of layer 11. -/
namespace Go.Proofs.YtkbkgbcdmhkicaaDoor
open Go.RowKit
theorem inB_of {l : List Int} (h : (l.all fun x => decide (0 ≤ x) && decide (x < 256)) = true) : InB l := by
  intro j
  by_cases hj : j < l.length
  · have := List.all_eq_true.1 h l[j] (List.getElem_mem hj)
    simp at this
    simpa [List.getD_eq_getElem?_getD, hj] using this
  · rw [getD_out _ _ (by omega)]; omega
theorem byt_rowF {w : World} {g : Nat} {t : TypeId} {l : List Int} {fr : Nat × Nat} (h : w.heap[g]? = some (.cells (u8s l) t fr)) {n : Nat} (hn : l.length = n) : Byt w (some ⟨g, 0, none⟩) n l :=
  ⟨by omega, (fun h => by cases h), fun _ => ⟨g, 0, rfl, (Array.getElem?_eq_some_iff.1 h).1, fun j hj => by rw [Nat.zero_add, cell_row h, u8s_get _ _ hj]⟩⟩
theorem two_rows (w : World) (L M : List Int) (f g : Nat × Nat) : Byt ((w.alloc (.cells (u8s L) 5 f)).alloc (.cells (u8s M) 5 g)) (some ⟨w.heap.size, 0, none⟩) L.length L ∧ Byt ((w.alloc (.cells (u8s L) 5 f)).alloc (.cells (u8s M) 5 g)) (some ⟨w.heap.size + 1, 0, none⟩) M.length M :=
  ⟨byt_rowF (two_new w _ _).1 rfl, byt_rowF (two_new w _ _).2 rfl⟩
/-- bytes of a constant: the row, marked. -/
theorem conv_const (w : World) (C : Array Value) (n : Nat) : (convert 24 24 (.slice (some ⟨w.heap.size, 0, none⟩) n n)).run Tryd.prog (w.alloc (.cells C 5)) = .ok (.slice (some ⟨w.heap.size, 0, none⟩) n n) (w.alloc (.cells C 5 (C.size, C.size + 1))) :=
  Lib.run_convert_bytes_const (P := Tryd.prog) w 24 5 C n n Tryd.underlying24 Tryd.underlying5
theorem conv_const2 (w : World) (o : Obj) (C : Array Value) (n : Nat) : (convert 24 24 (.slice (some ⟨w.heap.size + 1, 0, none⟩) n n)).run Tryd.prog ((w.alloc o).alloc (.cells C 5)) = .ok (.slice (some ⟨w.heap.size + 1, 0, none⟩) n n) ((w.alloc o).alloc (.cells C 5 (C.size, C.size + 1))) := by
  have h := conv_const (w.alloc o) C n
  rwa [show (w.alloc o).heap.size = w.heap.size + 1 by simp] at h
theorem below_two (w : World) (A B : Obj) : Below w.heap.size w ((w.alloc A).alloc B) := ((Below.refl _ _).alloc (Nat.le_refl _) _).alloc (by simp) _
end Go.Proofs.YtkbkgbcdmhkicaaDoor
/- DERIVED. PLAIN MATHEMATICS: the blocks of the bytes and their padding, folded one by one, are the digest; a row of the call's own across a call. -/
namespace Go.Proofs.YtkbkgbcdmhkicaaDoor
open Go.RowKit
theorem blk_append_left (L M : List Int) (k : Nat) (h : 64 * k + 64 ≤ L.length) : blk (L ++ M) k = blk L k := by
  unfold blk
  rw [List.drop_append_of_le_length (by omega), List.take_append_of_le_length (by simp; omega)]
theorem foldB_append_left (s : W8) (L M : List Int) : ∀ k, 64 * k ≤ L.length → foldB s (L ++ M) k = foldB s L k
  | 0, _ => rfl
  | k + 1, h => by
    show mixK KW (foldB s (L ++ M) k) (blk (L ++ M) k) = mixK KW (foldB s L k) (blk L k)
    rw [foldB_append_left s L M k (by omega), blk_append_left L M k (by omega)]
theorem blk_drop (L : List Int) (a k : Nat) : blk (L.drop (64 * a)) k = blk L (a + k) := by
  unfold blk
  rw [List.drop_drop, ← Nat.mul_add]
theorem foldB_add (s : W8) (L : List Int) (a : Nat) : ∀ k, foldB (foldB s L a) (L.drop (64 * a)) k = foldB s L (a + k)
  | 0 => rfl
  | k + 1 => by
    show mixK KW (foldB (foldB s L a) (L.drop (64 * a)) k) (blk (L.drop (64 * a)) k) = mixK KW (foldB s L (a + k)) (blk L (a + k))
    rw [foldB_add s L a k, blk_drop]
/-- the whole blocks of L and M, one fold or two. -/
theorem fold_two (s : W8) (L M : List Int) : foldAll (foldAll s L) (L.drop (64 * (L.length / 64)) ++ M) = foldB s (L ++ M) ((L.length + M.length) / 64) := by
  have h : 64 * (L.length / 64) ≤ L.length := by omega
  have e : L.drop (64 * (L.length / 64)) ++ M = (L ++ M).drop (64 * (L.length / 64)) := (List.drop_append_of_le_length h).symm
  unfold foldAll
  rw [e, ← foldB_append_left s L M _ h, foldB_add]
  congr 1
  simp
  omega
theorem fin_eq (s : W8) (L : List Int) (n : Nat) : fin s L n = hashL (foldB s (L ++ padL n) ((L.length + padLen n) / 64)).list := by
  unfold fin
  rw [fold_two, padL_length]
theorem own_below {w w' : World} {base n : Nat} {v : Value} {xs : List Value} (h : w.ownsRow base 5 1 v n xs) (hb : Below w.heap.size w w') : w'.ownsRow base 5 1 v n xs := by
  obtain ⟨h0, h⟩ := h
  refine ⟨h0, ?_⟩
  rcases h with h | ⟨g, cap, cur, hv, hg, hh, r⟩
  · exact .inl h
  · exact .inr ⟨g, cap, cur, hv, hg, (hb.block g (Array.getElem?_eq_some_iff.1 hh).1).trans hh, r⟩
theorem own_form {w : World} {base n : Nat} {v : Value} {L : List Int} (h : w.ownsRow base 5 1 v n (vals L)) (hn : 0 < n) :
    ∃ g c, v = .slice (some ⟨g, 0, none⟩) n c ∧ Byt w (some ⟨g, 0, none⟩) c L ∧ L.length = n ∧ base ≤ g := by
  obtain ⟨h0, h⟩ := h
  rw [vals_length, Nat.mul_one] at h0
  rcases h with ⟨_, h⟩ | ⟨g, cap, cur, hv, hb, hh, hcap, _, hs, ht⟩
  · omega
  · refine ⟨g, cap, hv, ⟨by omega, (fun h => by cases h), fun _ => ⟨g, 0, rfl, (Array.getElem?_eq_some_iff.1 hh).1, fun j hj => ?_⟩⟩, h0, hb⟩
    rw [Nat.zero_add, cell_row hh]
    have h2 : cur[j]? = cur.toList[j]? := by simp
    have h3 : (cur.toList.take (n * 1))[j]? = cur.toList[j]? := by rw [List.getElem?_take, if_pos (by omega)]
    rw [h2, ← h3, ht]
    simp [vals, hj]
theorem own_empty (w : World) : (w.alloc (.cells #[] 5)).ownsRow w.heap.size 5 1 (.slice (some ⟨w.heap.size, 0, none⟩) 0 0) 0 (vals []) :=
  ⟨by simp [vals], .inr ⟨w.heap.size, 0, #[], rfl, Nat.le_refl _, Go.heap_alloc_new w _, Nat.le_refl _, Nat.zero_le _, rfl, by simp [vals]⟩⟩
theorem own_ge {w : World} {base n : Nat} {v : Value} {xs : List Value} (h : w.ownsRow base 5 1 v n xs) : ∀ k, v.ownBlock = some k → base ≤ k := by
  obtain ⟨_, h⟩ := h
  intro k hk
  rcases h with ⟨rfl, _⟩ | ⟨g, cap, cur, rfl, hg, _⟩
  · cases hk
  · cases hk; exact hg
theorem vals_append (L M : List Int) : vals L ++ vals M = vals (L ++ M) := by simp [vals]
theorem store_first (w : World) (s : W8) : opStore (.pointer (some ⟨w.heap.size, 0, none⟩)) (.agg (u32s s.list)) (w.alloc (.cells #[.int .u32 0, .int .u32 0, .int .u32 0, .int .u32 0, .int .u32 0, .int .u32 0, .int .u32 0, .int .u32 0] 77)) = .ok .skip (w.alloc (.cells (u32s s.list) 77)) := by
  have h := opStore_eq (s := ⟨0, 0, 0, 0, 0, 0, 0, 0⟩) (t := s) (Go.heap_alloc_new w (.cells (u32s (W8.mk 0 0 0 0 0 0 0 0).list) 77))
  rw [World.setRow_alloc_new] at h
  exact h
theorem setRow_new_drew (w : World) (c c' : Array Value) (t : TypeId) : ((w.alloc (.cells c t)).drew).setRow w.heap.size c' = (w.alloc (.cells c' t)).drew := by
  show ((w.alloc (.cells c t)).setRow w.heap.size c').drew = _
  rw [World.setRow_alloc_new]
end Go.Proofs.YtkbkgbcdmhkicaaDoor
/- DERIVED. Two digests, compared. -/
namespace Go.Proofs.YtkbkgbcdmhkicaaDoor
open Go.RowKit
theorem part5 (l : List Int) (i : Nat) (h : i < l.length) (w : World) : (part 5 (u8s l) i).run Tryd.prog w = .ok (.int .u8 (l.getD i 0)) w := by
  have ha : ∀ w', (isAgg 5).run Tryd.prog w' = .ok false w' := fun _ => by kernel_rfl
  simp [part, ha, u8s_get l i h]
theorem cellsOf5 : Tryd.prog.cellsOf 5 = 1 := by kernel_rfl
theorem eqItems_u8 (d n : Nat) (l m : List Int) (hl : l.length = n) (hm : m.length = n) : ∀ (is : List Nat) (w : World), (∀ i ∈ is, i < n) →
    (Op.eqItems (d + 1) 5 (Tryd.prog.cellsOf 5) (u8s l) (u8s m) is).run Tryd.prog w = .ok (is.all fun i => l.getD i 0 == m.getD i 0) w
  | [], w, _ => by simp [Op.eqItems]
  | i :: is, w, h => by
    have hi := h i (List.mem_cons_self ..)
    have ih := eqItems_u8 d n l m hl hm is w (fun j hj => h j (List.mem_cons_of_mem _ hj))
    rw [cellsOf5] at ih ⊢
    simp only [Op.eqItems, Sem.run_bind, Nat.mul_one, part5 l i (by omega) w, part5 m i (by omega) w, Result.andThen_ok, run_equalIn_int w d 5 .u8 .u8 _ _ Tryd.underlying5]
    by_cases e : (l.getD i 0 == m.getD i 0) = true
    · simp only [e, Bool.not_true, Bool.false_eq_true, if_false, List.all_cons, Bool.true_and]
      exact ih
    · have e' : (l.getD i 0 == m.getD i 0) = false := by simpa using e
      simp only [e', Bool.not_false, if_true, List.all_cons, Bool.false_and, Sem.run_pure]
theorem all_getD_self (l : List Int) (is : List Nat) : (is.all fun i => l.getD i 0 == l.getD i 0) = true := by simp
theorem equal35_same (l : List Int) (hl : l.length = 32) (w : World) : (Op.equalIn 10000 23 (.agg (u8s l)) (.agg (u8s l))).run Tryd.prog w = .ok true w := by
  cases hq : Tryd.prog.info? 5 with
  | none => have h5 := info5; rw [hq] at h5; cases h5
  | some i =>
    rw [run_equalIn_array w 9999 (u8s l) (u8s l) Tryd.underlying23 hq, eqItems_u8 9998 32 l l hl hl _ w (fun i hi => List.mem_range.1 hi), all_getD_self]
theorem eql35_same (l : List Int) (hl : l.length = 32) (w : World) : (binOp .eql 23 (.agg (u8s l)) (.agg (u8s l))).run Tryd.prog w = .ok (.bool true) w := by
  rw [run_eql_struct, equal35_same l hl w]
  rfl
end Go.Proofs.YtkbkgbcdmhkicaaDoor
/- DERIVED. append of any slice of bytes to an own row; a digest loaded as a whole. -/
namespace Go.Proofs.YtkbkgbcdmhkicaaDoor.lawAnybody
open Go.RowKit
/-- appending a slice of bytes, nil or not, to a row of the call's own. -/
theorem wpList_append_byt {w : World} {ops : Array Oper} {rest : List Oper} {o : Oper} {a : Act} {Q : Exit → Act → World → Prop} (hgd : o.guard = none) (s x : Operand)
    (ho : o.op = .call { callee := .builtin .append, args := #[s, x], argTypes := #[24, 24] }) (base : Nat) (v : Value) (n : Nat) (L : List Int) (hs : a.eval s = v) (hown : w.ownsRow base 5 1 v n (vals L))
    (A : Option Addr) (m c : Nat) (M : List Int) (hx : a.eval x = .slice A m c) (hm : M.length = m) (hB : Byt w A c M) (h63 : n + m ≤ 100000) (hbase : base ≤ w.heap.size)
    (h : ∀ v' w', w'.ownsRow base 5 1 v' (n + m) (vals (L ++ M)) → (∀ B u, Below B u w → B ≤ base → Below B u w') → (∀ k b, w.heap[k]? = some b → v.ownBlock ≠ some k → w'.heap[k]? = some b) →
      wpList Tryd.prog ops Q rest (a.put o.dst v') w') : wpList Tryd.prog ops Q (o :: rest) a w := by
  obtain ⟨i0, hi0, hz00, hz10, hz20⟩ := info_parts info5
  cases A with
  | none =>
    have hc := hB.2.1 rfl
    have hm0 : m = 0 := by have := hB.1; omega
    subst hc hm0
    obtain rfl : M = [] := List.eq_nil_of_length_eq_zero hm
    refine wpList_append_own_none hgd s x 24 ho base 5 i0 1 Tryd.underlying24 hi0 v n (vals L) hs hown hx ?_
    exact h v w (by rw [List.append_nil]; exact hown) (fun _ _ h _ => h) (fun _ _ h _ => h)
  | some ad =>
    refine wpList_append_own _ hgd s x 24 ho base 5 i0 (.int .u8 0) 1 1 Tryd.underlying24 hi0 hz00 hz10 hz20 rfl (by decide) v n (vals L) hs hown ad m c (vals M) hx (by rw [vals_length, hm]; omega)
      (hB.cells (fun _ _ => rfl) ad rfl) (vals_one _) (by unfold maxLen; omega) (by omega) hbase ?_
    intro v' w' hown' hgrow _
    rw [vals_append] at hown'
    exact h v' w' hown' (fun B u hb hB' => hb.grown hgrow (by omega) (fun k hk => Nat.le_trans hB' (own_ge hown k hk))) (fun k b hk hne => by
      rw [hgrow.block k (Array.getElem?_eq_some_iff.1 hk).1 (fun e => hne (by rw [e]))]; exact hk)
/-- a digest, loaded as a whole. -/
noncomputable def load35 (v : Value) : Sem Value := Instr.loadAt 23 v
theorem loadAt35 (v : Value) : Instr.loadAt 23 v = load35 v := rfl
theorem load35_eq {w : World} {g : Nat} {l : List Int} (hl : l.length = 32) (h : w.heap[g]? = some (.cells (u8s l) 23 (0, 0))) : (load35 (.pointer (some ⟨g, 0, none⟩))).run Tryd.prog w = .ok (.agg (u8s l)) w := by
  have hi : (Tryd.prog.info? 23).map (·.size) = some (u8s l).size := by rw [u8s_size, hl]; exact info35
  unfold load35
  simp only [Instr.loadAt, Instr.sureAddr, Sem.run_bind, Sem.run_pure, Result.andThen_ok, run_loadVar_row w g 23 23 _ (0, 0) _ h Tryd.underlying23 rfl hi]
/-- an append, run as a whole. -/
noncomputable def appendS (ts : Array TypeId) (ty : TypeId) (args : Array Value) : Sem Value := Builtin.append_ ts ty args
theorem appendS_eq (ts : Array TypeId) (ty : TypeId) (args : Array Value) : Builtin.append_ ts ty args = appendS ts ty args := rfl
theorem run_append_byt {w : World} (ty : TypeId) (base : Nat) (v : Value) (n : Nat) (L : List Int) (hown : w.ownsRow base 5 1 v n (vals L)) (A : Option Addr) (m c : Nat) (M : List Int) (hm : M.length = m) (hB : Byt w A c M) (h63 : n + m ≤ 100000) (hbase : base ≤ w.heap.size) :
    ∃ v' w', (appendS #[24, 24] ty #[v, .slice A m c]).run Tryd.prog w = .ok v' w' ∧ w'.ownsRow base 5 1 v' (n + m) (vals (L ++ M)) ∧ (∀ B u, Below B u w → B ≤ base → Below B u w') ∧ (∀ k b, w.heap[k]? = some b → v.ownBlock ≠ some k → w'.heap[k]? = some b) := by
  obtain ⟨i0, hi0, hz00, hz10, hz20⟩ := info_parts info5
  unfold appendS
  cases A with
  | none =>
    have hc := hB.2.1 rfl
    have hm0 : m = 0 := by have := hB.1; omega
    subst hc hm0
    obtain rfl : M = [] := List.eq_nil_of_length_eq_zero hm
    exact ⟨v, w, run_append_owned_none (P := Tryd.prog) (w := w) base 24 ty 5 i0 1 Tryd.underlying24 hi0 v n (vals L) hown, by rw [List.append_nil]; exact hown, fun _ _ h _ => h, fun _ _ h _ => h⟩
  | some ad =>
    obtain ⟨v', w', hr, hown', hgrow, _⟩ := run_append_own (P := Tryd.prog) w base 24 ty 5 i0 (.int .u8 0) 1 1 Tryd.underlying24 hi0 hz00 hz10 hz20 rfl (by decide) v n (vals L) hown ad m c (vals M) (by rw [vals_length, hm]; omega)
      (hB.cells (fun _ _ => rfl) ad rfl) (vals_one _) (by unfold maxLen; omega) (by omega) hbase
    rw [vals_append] at hown'
    exact ⟨v', w', hr, hown', fun B u hb hB' => hb.grown hgrow (by omega) (fun k hk => Nat.le_trans hB' (own_ge hown k hk)), fun k b hk hne => by
      rw [hgrow.block k (Array.getElem?_eq_some_iff.1 hk).1 (fun e => hne (by rw [e]))]; exact hk⟩
attribute [irreducible] load35 appendS
end Go.Proofs.YtkbkgbcdmhkicaaDoor.lawAnybody
