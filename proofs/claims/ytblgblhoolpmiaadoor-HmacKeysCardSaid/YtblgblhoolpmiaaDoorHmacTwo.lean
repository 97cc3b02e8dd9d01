/- DERIVED. What the region of hmac.Sum keeps that draws its order: two masked blocks, boxed. -/
import Derived.Test.YtblgblhoolpmiaaDoorHmacMask
import Derived.Test.YtblgblhoolpmiaaDoorRegionInv
namespace Go.Proofs.YtblgblhoolpmiaaDoor
open Go.RowKit
theorem lst {l : Array Bool} {i j : Nat} (h : (l.setIfInBounds i true).getD j false = true) (hne : j ≠ i) : l.getD j false = true := (getD_listed h).resolve_left hne
/-- all blocks stay. -/
def Kept (w w' : World) : Prop := ∀ (k : Nat) (o : Obj), w.heap[k]? = some o → w'.heap[k]? = some o
theorem Kept.refl (w : World) : Kept w w := fun _ _ h => h
theorem Kept.below {w w' : World} (h : Below w.heap.size w w') : Kept w w' := fun k _ hk => (h.block k (Array.getElem?_eq_some_iff.1 hk).1).trans hk
theorem Kept.alloc (w : World) (o : Obj) : Kept w (w.alloc o) := Kept.below ((Below.refl _ _).alloc (Nat.le_refl _) _)
/-- a row of one's own. -/
def rowIf (b : Bool) (X : List Int) : Array Value := if b = true then u8s X else zero64
theorem rowIf_size (b : Bool) (X : List Int) (h : X.length = 64) : (rowIf b X).size = 64 := by
  unfold rowIf
  split
  · rw [u8s_size, h]
  · rfl
theorem notYet {l : Array Bool} {i j : Nat} (h : l.getD i false = true → l.getD j false = true) (hu : l.getD j false = false) : l.getD i false = false := by
  cases e : l.getD i false with
  | false => rfl
  | true => rw [h e] at hu; cases hu
structure Two (l : Array Bool) (v11 v12 v13 v14 v6 v7 : Value) (g6 g7 N G : Nat) (X Y Z : List Int) (w wx : World) : Prop where
  sz : l.size = 8
  p0 : l.getD 0 false = true → v11 = .agg (u8s X)
  p1 : l.getD 1 false = true → v12 = .agg (u8s Y)
  p2 : l.getD 2 false = true → v13 = .agg (u8s X)
  p3 : l.getD 3 false = true → v14 = .agg (u8s Z)
  p4 : l.getD 4 false = true → v6 = .pointer (some ⟨g6, 0, none⟩) ∧ G < g6 ∧ wx.heap[g6]? = some (.cells (rowIf (l.getD 6 false) Y) 67 (0, 0))
  p5 : l.getD 5 false = true → v7 = .pointer (some ⟨g7, 0, none⟩) ∧ G < g7 ∧ wx.heap[g7]? = some (.cells (rowIf (l.getD 7 false) Z) 67 (0, 0))
  ne : l.getD 4 false = true → l.getD 5 false = true → g6 ≠ g7
  q6 : l.getD 6 false = true → l.getD 4 false = true ∧ l.getD 5 false = true
  q7 : l.getD 7 false = true → l.getD 4 false = true ∧ l.getD 5 false = true
  src : wx.heap[G]? = some (.cells (u8s X) 67 (0, 0))
  res : wx.heap[N]? = some (.cells zero32 35 (0, 0))
  NG : N < G
  low : Below N w wx
section
variable {l : Array Bool} {v11 v12 v13 v14 v6 v7 : Value} {g6 g7 N G : Nat} {X Y Z : List Int} {w wx : World}
theorem Two.same (h : Two l v11 v12 v13 v14 v6 v7 g6 g7 N G X Y Z w wx) (i : Nat) (hi : i = 0 ∨ i = 1 ∨ i = 2 ∨ i = 3) (v11' v12' v13' v14' : Value)
    (h0 : (i = 0 ∧ v11' = .agg (u8s X)) ∨ (i ≠ 0 ∧ v11' = v11)) (h1 : (i = 1 ∧ v12' = .agg (u8s Y)) ∨ (i ≠ 1 ∧ v12' = v12)) (h2 : (i = 2 ∧ v13' = .agg (u8s X)) ∨ (i ≠ 2 ∧ v13' = v13)) (h3 : (i = 3 ∧ v14' = .agg (u8s Z)) ∨ (i ≠ 3 ∧ v14' = v14))
    {wx' : World} (hk : Kept wx wx') (hl : Below wx.heap.size wx wx') : Two (l.setIfInBounds i true) v11' v12' v13' v14' v6 v7 g6 g7 N G X Y Z w wx' where
  sz := by simp [h.sz]
  p0 hl := h0.elim (fun e => e.2) (fun e => e.2.trans (h.p0 (lst hl (Ne.symm e.1))))
  p1 hl := h1.elim (fun e => e.2) (fun e => e.2.trans (h.p1 (lst hl (Ne.symm e.1))))
  p2 hl := h2.elim (fun e => e.2) (fun e => e.2.trans (h.p2 (lst hl (Ne.symm e.1))))
  p3 hl := h3.elim (fun e => e.2) (fun e => e.2.trans (h.p3 (lst hl (Ne.symm e.1))))
  p4 hl := by
    obtain ⟨a, b, c⟩ := h.p4 (lst hl (by omega))
    exact ⟨a, b, by rw [getD_set_ne false (by omega)]; exact hk _ _ c⟩
  p5 hl := by
    obtain ⟨a, b, c⟩ := h.p5 (lst hl (by omega))
    exact ⟨a, b, by rw [getD_set_ne false (by omega)]; exact hk _ _ c⟩
  ne h4 h5 := h.ne (lst h4 (by omega)) (lst h5 (by omega))
  q6 hl := ⟨getD_set_true (h.q6 (lst hl (by omega))).1, getD_set_true (h.q6 (lst hl (by omega))).2⟩
  q7 hl := ⟨getD_set_true (h.q7 (lst hl (by omega))).1, getD_set_true (h.q7 (lst hl (by omega))).2⟩
  src := hk _ _ h.src
  res := hk _ _ h.res
  NG := h.NG
  low := h.low.trans (hl.mono (by have := (Array.getElem?_eq_some_iff.1 h.res).1; omega))
theorem Two.alloc6 (h : Two l v11 v12 v13 v14 v6 v7 g6 g7 N G X Y Z w wx) (hu : l.getD 4 false = false) :
    Two (l.setIfInBounds 4 true) v11 v12 v13 v14 (.pointer (some ⟨wx.heap.size, 0, none⟩)) v7 wx.heap.size g7 N G X Y Z w (wx.alloc (.cells zero64 67)) where
  sz := by simp [h.sz]
  p0 hl := h.p0 (lst hl (by omega))
  p1 hl := h.p1 (lst hl (by omega))
  p2 hl := h.p2 (lst hl (by omega))
  p3 hl := h.p3 (lst hl (by omega))
  p4 _ := ⟨rfl, (Array.getElem?_eq_some_iff.1 h.src).1, by rw [getD_set_ne false (by omega), notYet (fun e => (h.q6 e).1) hu]; exact Go.heap_alloc_new _ _⟩
  p5 hl := by
    obtain ⟨a, b, c⟩ := h.p5 (lst hl (by omega))
    exact ⟨a, b, by rw [getD_set_ne false (by omega)]; exact (Kept.alloc _ _) _ _ c⟩
  ne _ h5 := by
    have := (Array.getElem?_eq_some_iff.1 (h.p5 (lst h5 (by omega))).2.2).1
    omega
  q6 hl := ⟨getD_set_true (h.q6 (lst hl (by omega))).1, getD_set_true (h.q6 (lst hl (by omega))).2⟩
  q7 hl := ⟨getD_set_true (h.q7 (lst hl (by omega))).1, getD_set_true (h.q7 (lst hl (by omega))).2⟩
  src := (Kept.alloc _ _) _ _ h.src
  res := (Kept.alloc _ _) _ _ h.res
  NG := h.NG
  low := h.low.alloc (by have := (Array.getElem?_eq_some_iff.1 h.res).1; omega) _
theorem Two.alloc7 (h : Two l v11 v12 v13 v14 v6 v7 g6 g7 N G X Y Z w wx) (hu : l.getD 5 false = false) :
    Two (l.setIfInBounds 5 true) v11 v12 v13 v14 v6 (.pointer (some ⟨wx.heap.size, 0, none⟩)) g6 wx.heap.size N G X Y Z w (wx.alloc (.cells zero64 67)) where
  sz := by simp [h.sz]
  p0 hl := h.p0 (lst hl (by omega))
  p1 hl := h.p1 (lst hl (by omega))
  p2 hl := h.p2 (lst hl (by omega))
  p3 hl := h.p3 (lst hl (by omega))
  p5 _ := ⟨rfl, (Array.getElem?_eq_some_iff.1 h.src).1, by rw [getD_set_ne false (by omega), notYet (fun e => (h.q7 e).2) hu]; exact Go.heap_alloc_new _ _⟩
  p4 hl := by
    obtain ⟨a, b, c⟩ := h.p4 (lst hl (by omega))
    exact ⟨a, b, by rw [getD_set_ne false (by omega)]; exact (Kept.alloc _ _) _ _ c⟩
  ne h4 _ := by
    have := (Array.getElem?_eq_some_iff.1 (h.p4 (lst h4 (by omega))).2.2).1
    omega
  q6 hl := ⟨getD_set_true (h.q6 (lst hl (by omega))).1, getD_set_true (h.q6 (lst hl (by omega))).2⟩
  q7 hl := ⟨getD_set_true (h.q7 (lst hl (by omega))).1, getD_set_true (h.q7 (lst hl (by omega))).2⟩
  src := (Kept.alloc _ _) _ _ h.src
  res := (Kept.alloc _ _) _ _ h.res
  NG := h.NG
  low := h.low.alloc (by have := (Array.getElem?_eq_some_iff.1 h.res).1; omega) _
theorem Two.store6 (h : Two l v11 v12 v13 v14 v6 v7 g6 g7 N G X Y Z w wx) (h4 : l.getD 4 false = true) (h5 : l.getD 5 false = true) :
    Two (l.setIfInBounds 6 true) v11 v12 v13 v14 v6 v7 g6 g7 N G X Y Z w (wx.setRow g6 (u8s Y)) where
  sz := by simp [h.sz]
  p0 hl := h.p0 (lst hl (by omega))
  p1 hl := h.p1 (lst hl (by omega))
  p2 hl := h.p2 (lst hl (by omega))
  p3 hl := h.p3 (lst hl (by omega))
  p4 _ := by
    obtain ⟨a, b, c⟩ := h.p4 h4
    have e : (l.setIfInBounds 6 true).getD 6 false = true := by simp [h.sz]
    exact ⟨a, b, by rw [e]; exact setRow_heap _ _ _ _ _ _ c⟩
  p5 _ := by
    obtain ⟨a, b, c⟩ := h.p5 h5
    exact ⟨a, b, by rw [getD_set_ne false (by omega), setRow_other _ _ _ _ (Ne.symm (h.ne h4 h5))]; exact c⟩
  ne _ _ := h.ne h4 h5
  q6 _ := ⟨getD_set_true h4, getD_set_true h5⟩
  q7 _ := ⟨getD_set_true h4, getD_set_true h5⟩
  src := by rw [setRow_other _ _ _ _ (by have := (h.p4 h4).2.1; omega)]; exact h.src
  res := by rw [setRow_other _ _ _ _ (by have := (h.p4 h4).2.1; have := h.NG; omega)]; exact h.res
  NG := h.NG
  low := below_setRow h.low (by have := (h.p4 h4).2.1; have := h.NG; omega) _
theorem Two.store7 (h : Two l v11 v12 v13 v14 v6 v7 g6 g7 N G X Y Z w wx) (h4 : l.getD 4 false = true) (h5 : l.getD 5 false = true) :
    Two (l.setIfInBounds 7 true) v11 v12 v13 v14 v6 v7 g6 g7 N G X Y Z w (wx.setRow g7 (u8s Z)) where
  sz := by simp [h.sz]
  p0 hl := h.p0 (lst hl (by omega))
  p1 hl := h.p1 (lst hl (by omega))
  p2 hl := h.p2 (lst hl (by omega))
  p3 hl := h.p3 (lst hl (by omega))
  p5 _ := by
    obtain ⟨a, b, c⟩ := h.p5 h5
    have e : (l.setIfInBounds 7 true).getD 7 false = true := by simp [h.sz]
    exact ⟨a, b, by rw [e]; exact setRow_heap _ _ _ _ _ _ c⟩
  p4 _ := by
    obtain ⟨a, b, c⟩ := h.p4 h4
    exact ⟨a, b, by rw [getD_set_ne false (by omega), setRow_other _ _ _ _ (h.ne h4 h5)]; exact c⟩
  ne _ _ := h.ne h4 h5
  q6 _ := ⟨getD_set_true h4, getD_set_true h5⟩
  q7 _ := ⟨getD_set_true h4, getD_set_true h5⟩
  src := by rw [setRow_other _ _ _ _ (by have := (h.p5 h5).2.1; omega)]; exact h.src
  res := by rw [setRow_other _ _ _ _ (by have := (h.p5 h5).2.1; have := h.NG; omega)]; exact h.res
  NG := h.NG
  low := below_setRow h.low (by have := (h.p5 h5).2.1; have := h.NG; omega) _
end
end Go.Proofs.YtblgblhoolpmiaaDoor
