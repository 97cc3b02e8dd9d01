/- DERIVED. A region that draws its order and holds one call, what comes ahead of it and behind it being pure. -/
import Derived.Test.YtnpbogioehpeoaaRegionFix
namespace Go.Proofs.Ytnpbogioehpeoaa
section
variable {P : Program} {ops : Array Oper} {Q : Exit → Act → World → Prop} {md : Region.Mode}
/-- what has come up has come behind all that it waits for. -/
def Closed (md : Region.Mode) (ops : Array Oper) (l : Array Bool) : Prop := ∀ i j, l.getD i false = true → waitsB md ops i j = true → l.getD j false = true
theorem Closed.next {l : Array Bool} (h : Closed md ops l) (i : Nat) (hw : ∀ j, waitsB md ops i j = true → l.getD j false = true) : Closed md ops (l.setIfInBounds i true) := fun k j hk hj => by
  rcases getD_listed hk with rfl | hk
  · exact getD_set_true (hw j hj)
  · exact getD_set_true (h k j hk hj)
theorem Closed.none (n : Nat) : Closed md ops (Array.replicate n false) := fun i j h _ => by
  by_cases hi : i < n <;> simp [Array.getD_eq_getD_getElem?, hi] at h
theorem wpAny_inv2 (I : Array Bool → Act → World → Prop) (hs : ∀ l a w, I l a w → l.size = ops.size) (hb : backB md ops = true)
    (hfin : ∀ l a w, I l a w → (∀ i, i < ops.size → l.getD i false = true) → Q .normal a w)
    (hstep : ∀ l a w i, I l a w → Closed md ops l → i < ops.size → l.getD i false = false → (∀ j, waitsB md ops i j = true → l.getD j false = true) → wpOp P ops Q i (I (l.setIfInBounds i true)) a w)
    (n : Nat) (hn : n = ops.size) (a : Act) (w : World) (h0 : I (Array.replicate n false) a w) : wpAny P md ops Q n (Array.replicate n false) a w := by
  subst hn
  refine wpAny_inv (fun l a w => I l a w ∧ Closed md ops l) (fun l a w h => hs l a w h.1) hb (fun l a w h => hfin l a w h.1) ?_ _ _ _ _ (unlisted_none _) ⟨h0, Closed.none _⟩
  intro l a w i h hi hu hw
  exact wpOp_mono (fun a' w' h' => ⟨h', h.2.next i hw⟩) (hstep l a w i h.1 h.2 hi hu hw)
end
theorem Holding.swap {dsts : List Nat} {vl vl' : List (Option Value)} {l : Array Bool} {s : Nat → Value} (h : Holding dsts vl l s) (he : ∀ j, l.getD j false = true → vl'.getD j none = vl.getD j none) : Holding dsts vl' l s := fun j v hl hj => h j v hl (by rw [← he j hl]; exact hj)
/-- the world, by whether the call (operation q of n) has come. -/
structure CI (n q : Nat) (W0 : World) (P : World → Prop) (L : Array Bool) (wx : World) : Prop where
  sz : L.size = n
  bef : L.getD q false = false → wx = W0
  aft : L.getD q false = true → P wx
theorem CI.read {n q : Nat} {W0 : World} {P : World → Prop} {L : Array Bool} {wx : World} (h : CI n q W0 P L wx) (i : Nat) (hi : i ≠ q) : CI n q W0 P (L.setIfInBounds i true) wx :=
  ⟨by simp [h.sz], by rw [getD_set_ne false hi]; exact h.bef, by rw [getD_set_ne false hi]; exact h.aft⟩
theorem CI.call {n q : Nat} {W0 : World} {P P' : World → Prop} {L : Array Bool} {wx wy : World} (h : CI n q W0 P L wx) (hq : q < n) (hp : P' wy) : CI n q W0 P' (L.setIfInBounds q true) wy :=
  ⟨by simp [h.sz], fun hl => by simp [h.sz, hq] at hl, fun _ => hp⟩
theorem not_listed {a b : Bool} (h : a = true → b = true) (hb : b = false) : a = false := by
  cases a with
  | false => rfl
  | true => rw [h rfl] at hb; cases hb
end Go.Proofs.Ytnpbogioehpeoaa
