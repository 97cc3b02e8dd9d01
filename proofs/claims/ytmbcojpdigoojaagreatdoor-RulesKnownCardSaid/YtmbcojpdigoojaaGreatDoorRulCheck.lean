/- DERIVED. The contract of rules.Check: may a table be? -/
import Derived.Test.YtmbcojpdigoojaaGreatDoorRulFind
import Derived.Test.YtmbcojpdigoojaaGreatDoorRulJust
import Derived.Deep.RegionWith
namespace Go.Proofs.YtmbcojpdigoojaaGreatDoor.Rul
open Go.RowKit Lab
/-- one rule's prefix and label may be. -/
def okR (r : Rl) : Bool := decide (Pth.pre r.p = 0) && decide (Lab.chk r.a = 0)
/-- of the first rules each may be, and stands behind the one ahead. -/
def okN (rs : List Rl) (k : Nat) : Prop := ∀ (i : Nat) (r : Rl), i < k → rs[i]? = some r → okR r = true ∧ ∀ x : Rl, 0 < i → rs[i - 1]? = some x → ordR x r < 0
theorem okN_next {rs : List Rl} {k : Nat} {r : Rl} (h : okN rs k) (hr : rs[k]? = some r) (h1 : okR r = true) (h2 : ∀ x : Rl, 0 < k → rs[k - 1]? = some x → ordR x r < 0) : okN rs (k + 1) := by
  intro i y hi hy
  by_cases e : i < k
  · exact h i y e hy
  · obtain rfl : i = k := by omega
    rw [hr] at hy
    obtain rfl := Option.some.inj hy
    exact ⟨h1, h2⟩
/-- a table that may be. -/
def Okay (v : Int) (rs : List Rl) : Prop := rs.length ≤ 32 ∧ (rs.length : Int) ≤ v ∧ okN rs rs.length
theorem okN_strict {rs : List Rl} (h : okN rs rs.length) : StrictR rs := by
  have step : ∀ i (hi : i + 1 < rs.length), ordR rs[i] rs[i + 1] < 0 := fun i hi =>
    (h (i + 1) rs[i + 1] hi (List.getElem?_eq_getElem hi)).2 rs[i] (Nat.succ_pos _) (by rw [Nat.add_sub_cancel]; exact List.getElem?_eq_getElem (by omega))
  have trans : ∀ x y z : Rl, ordR x y < 0 → ordR y z < 0 → ordR x z < 0 := by
    intro x y z h1 h2
    have h3 := Pth.ord_trans (bl x.p) (bl y.p) (bl z.p) (by unfold ordR at h1; omega) (by unfold ordR at h2; omega)
    by_cases e : ordR x z = 0
    · have e2 := (Pth.ord_eq _ _).1 e
      have h4 : ordR y x < 0 := by unfold ordR at h2 ⊢; rw [e2]; exact h2
      have h5 : ordR y x = - ordR x y := Pth.ord_neg (bl x.p) (bl y.p)
      omega
    · unfold ordR at e ⊢; omega
  unfold StrictR
  rw [List.pairwise_iff_getElem]
  intro i j hi hj hij
  obtain ⟨d, rfl⟩ : ∃ d, j = i + 1 + d := ⟨j - (i + 1), by omega⟩
  induction d with
  | zero => exact step i hj
  | succ d ih => exact trans _ _ _ (ih (by omega) (by omega)) (step (i + 1 + d) (by omega))
theorem strict_okN {rs : List Rl} (h : StrictR rs) (k : ∀ r ∈ rs, okR r = true) : okN rs rs.length := by
  intro i r hi hr
  refine ⟨k r (List.mem_of_getElem? hr), fun x h0 hx => ?_⟩
  have h1 := (List.getElem?_eq_some_iff.1 hr)
  have h2 := (List.getElem?_eq_some_iff.1 hx)
  obtain ⟨a1, rfl⟩ := h1
  obtain ⟨a2, rfl⟩ := h2
  exact List.pairwise_iff_getElem.1 h (i - 1) i a2 a1 (by omega)
theorem okN_last {rs : List Rl} {k : Nat} {r : Rl} (hr : rs[k]? = some r) (h : okN rs rs.length) : okR r = true ∧ ∀ x : Rl, 0 < k → rs[k - 1]? = some x → ordR x r < 0 := h k r (List.getElem?_eq_some_iff.1 hr).1 hr
end Go.Proofs.YtmbcojpdigoojaaGreatDoor.Rul
