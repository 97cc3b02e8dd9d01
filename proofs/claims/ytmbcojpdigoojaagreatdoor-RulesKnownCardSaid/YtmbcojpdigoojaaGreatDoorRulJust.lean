/- DERIVED. PLAIN MATHEMATICS: what a change makes of the labels of paths. No program. -/
import Derived.Test.YtmbcojpdigoojaaGreatDoorRulSpec
namespace Go.Proofs.YtmbcojpdigoojaaGreatDoor.Rul
open Pth Lab
def ordR (x y : Rl) : Int := Pth.ordL (bl x.p) (bl y.p)
def StrictR (rs : List Rl) : Prop := rs.Pairwise fun x y => ordR x y < 0
theorem strict_same {rs : List Rl} (h : StrictR rs) {x y : Rl} (hx : x ∈ rs) (hy : y ∈ rs) (e : x.p = y.p) : x = y := by
  obtain ⟨i, hi, rfl⟩ := List.mem_iff_getElem.1 hx
  obtain ⟨j, hj, rfl⟩ := List.mem_iff_getElem.1 hy
  have hz : ordR rs[i] rs[j] = 0 := (Pth.ord_eq _ _).2 (by rw [e])
  have hz2 : ordR rs[j] rs[i] = 0 := (Pth.ord_eq _ _).2 (by rw [e])
  rcases Nat.lt_trichotomy i j with h1 | h1 | h1
  · have := List.pairwise_iff_getElem.1 h i j hi hj h1
    omega
  · subst h1; rfl
  · have := List.pairwise_iff_getElem.1 h j i hj hi h1
    omega
/-- the rules with another prefix, and the new one. -/
def othersL (p : ByteArray) (rs : List Rl) : List Rl := rs.filter fun r => !decide (bl r.p = bl p)
theorem mem_others {p : ByteArray} {rs : List Rl} {x : Rl} : x ∈ othersL p rs ↔ x ∈ rs ∧ x.p ≠ p := by
  unfold othersL
  rw [List.mem_filter]
  simp only [Bool.not_eq_true', decide_eq_false_iff_not]
  constructor
  · rintro ⟨h, k⟩
    exact ⟨h, fun e => k (by rw [e])⟩
  · rintro ⟨h, k⟩
    exact ⟨h, fun e => k (bl_inj e)⟩
/-- does a longer prefix of the table cover the path? -/
def longer (p s : ByteArray) (rs : List Rl) : Bool := rs.any fun r => decide (p.size < r.p.size) && cov r.p s
theorem longer_iff (p s : ByteArray) (rs : List Rl) : longer p s rs = true ↔ ∃ r ∈ rs, p.size < r.p.size ∧ cov r.p s = true := by
  unfold longer
  rw [List.any_eq_true]
  constructor
  · rintro ⟨r, h, k⟩
    rw [Bool.and_eq_true, decide_eq_true_eq] at k
    exact ⟨r, h, k⟩
  · rintro ⟨r, h, k⟩
    refine ⟨r, h, ?_⟩
    rw [Bool.and_eq_true, decide_eq_true_eq]
    exact k
theorem find_new {p s : ByteArray} {rs us : List Rl} {n : Rl} (hn : n.p = p) (hu : ∀ x, x ∈ us ↔ x ∈ othersL p rs ∨ x = n) (hc : cov p s = true) (hl : longer p s rs = false) : find s us = (n.a, n.c) := by
  have hnu : n ∈ us := (hu n).2 (.inr rfl)
  obtain ⟨k, hk, hke⟩ := List.mem_iff_getElem.1 hnu
  have hk2 : us[k]? = some n := by rw [List.getElem?_eq_getElem hk, hke]
  unfold find
  rcases best_all s us with ⟨_, h⟩ | ⟨i, x, hx, hcx, e, hm⟩
  · have := h k n hk2
    rw [hn, hc] at this
    cases this
  · rw [e]
    have h1 := (hm k n hk2 (by rw [hn]; exact hc)).1
    rcases (hu x).1 (List.mem_of_getElem? hx) with hxo | rfl
    · obtain ⟨hxr, hne⟩ := mem_others.1 hxo
      have h2 : ¬ p.size < x.p.size := fun h => by
        have := (longer_iff p s rs).2 ⟨x, hxr, h, hcx⟩
        rw [hl] at this
        cases this
      exact absurd (cov_same hcx hc (by rw [hn] at h1; omega)) hne
    · rfl
theorem find_old {p s : ByteArray} {rs us : List Rl} {n : Rl} (hn : n.p = p) (hs : StrictR rs) (hu : ∀ x, x ∈ us ↔ x ∈ othersL p rs ∨ x = n) (h : cov p s = false ∨ longer p s rs = true) : find s us = find s rs := by
  have hboth : ∀ {i j : Nat} {x y : Rl}, us[i]? = some x → rs[j]? = some y → cov x.p s = true → cov y.p s = true → x ∈ rs → y ∈ us →
      (∀ (k : Nat) (z : Rl), us[k]? = some z → cov z.p s = true → z.p.size ≤ x.p.size) → (∀ (k : Nat) (z : Rl), rs[k]? = some z → cov z.p s = true → z.p.size ≤ y.p.size) → x = y := by
    intro i j x y hx hy hcx hcy hxr hyu h1 h2
    obtain ⟨k, hk, hke⟩ := List.mem_iff_getElem.1 hxr
    obtain ⟨k', hk', hke'⟩ := List.mem_iff_getElem.1 hyu
    have e1 := h2 k x (by rw [List.getElem?_eq_getElem hk, hke]) hcx
    have e2 := h1 k' y (by rw [List.getElem?_eq_getElem hk', hke']) hcy
    exact strict_same hs hxr (List.mem_of_getElem? hy) (cov_same hcx hcy (by omega))
  unfold find
  rcases h with h | h
  · have hxr : ∀ x, x ∈ us → cov x.p s = true → x ∈ rs := by
      intro x hx hc
      rcases (hu x).1 hx with ho | rfl
      · exact (mem_others.1 ho).1
      · rw [hn, h] at hc; cases hc
    have hyu : ∀ y, y ∈ rs → cov y.p s = true → y ∈ us := by
      intro y hy hc
      exact (hu y).2 (.inl (mem_others.2 ⟨hy, fun e => by rw [e, h] at hc; cases hc⟩))
    rcases best_all s us with ⟨e1, h1⟩ | ⟨i, x, hx, hcx, e1, hm1⟩
    · rcases best_all s rs with ⟨e2, _⟩ | ⟨j, y, hy, hcy, e2, hm2⟩
      · rw [e1, e2]
      · obtain ⟨k, hk, hke⟩ := List.mem_iff_getElem.1 (hyu y (List.mem_of_getElem? hy) hcy)
        have := h1 k y (by rw [List.getElem?_eq_getElem hk, hke])
        rw [hcy] at this
        cases this
    · rcases best_all s rs with ⟨e2, h2⟩ | ⟨j, y, hy, hcy, e2, hm2⟩
      · obtain ⟨k, hk, hke⟩ := List.mem_iff_getElem.1 (hxr x (List.mem_of_getElem? hx) hcx)
        have := h2 k x (by rw [List.getElem?_eq_getElem hk, hke])
        rw [hcx] at this
        cases this
      · have := hboth hx hy hcx hcy (hxr x (List.mem_of_getElem? hx) hcx) (hyu y (List.mem_of_getElem? hy) hcy) (fun k z a b => (hm1 k z a b).1) (fun k z a b => (hm2 k z a b).1)
        rw [e1, e2, this]
  · obtain ⟨z, hz, hzl, hzc⟩ := (longer_iff p s rs).1 h
    have hzu : z ∈ us := (hu z).2 (.inl (mem_others.2 ⟨hz, fun e => by rw [e] at hzl; omega⟩))
    obtain ⟨k1, hk1, hke1⟩ := List.mem_iff_getElem.1 hzu
    obtain ⟨k2, hk2, hke2⟩ := List.mem_iff_getElem.1 hz
    have g1 : us[k1]? = some z := by rw [List.getElem?_eq_getElem hk1, hke1]
    have g2 : rs[k2]? = some z := by rw [List.getElem?_eq_getElem hk2, hke2]
    rcases best_all s us with ⟨_, h1⟩ | ⟨i, x, hx, hcx, e1, hm1⟩
    · rw [h1 k1 z g1] at hzc; cases hzc
    · rcases best_all s rs with ⟨_, h2⟩ | ⟨j, y, hy, hcy, e2, hm2⟩
      · rw [h2 k2 z g2] at hzc; cases hzc
      · have f1 := (hm1 k1 z g1 hzc).1
        have f2 := (hm2 k2 z g2 hzc).1
        have hxr : x ∈ rs := by
          rcases (hu x).1 (List.mem_of_getElem? hx) with ho | rfl
          · exact (mem_others.1 ho).1
          · rw [hn] at f1; omega
        have hyu : y ∈ us := (hu y).2 (.inl (mem_others.2 ⟨List.mem_of_getElem? hy, fun e => by rw [e] at f2; omega⟩))
        have := hboth hx hy hcx hcy hxr hyu (fun k z a b => (hm1 k z a b).1) (fun k z a b => (hm2 k z a b).1)
        rw [e1, e2, this]
end Go.Proofs.YtmbcojpdigoojaaGreatDoor.Rul
