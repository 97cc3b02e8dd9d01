/- DERIVED. With's and the reference's answers in one form. -/
import Derived.Test.YtmbcojpdigoojaaDoorRulLawCopied
import Derived.Test.YtmbcojpdigoojaaDoorRulWith
namespace Go.Proofs.YtmbcojpdigoojaaDoor.Rul
open Go.RowKit Lab Pth
noncomputable def resV (v : Int) (rs : List Rl) (r : Rl) : Int := if withZ v rs r = 0 then v + 1 else 0
noncomputable def resL (v : Int) (rs : List Rl) (r : Rl) : List Rl := if withZ v rs r = 0 then insW r rs else []
theorem ruls_none (w : World) : Ruls w none 0 [] := ⟨Nat.le_refl _, fun _ => rfl, fun h => absurd h (Nat.lt_irrefl 0)⟩
/-- With's answer: the table lies in a block that is new and may be written, or has no rules. -/
theorem with_res {v : Int} {rs : List Rl} {r : Rl} {w w' : World} {e : Ending} (h : WithR v rs r w e w') :
    ∃ Aa ca, e = .returned (.tuple #[.agg (tabV (resV v rs r) Aa (resL v rs r).length ca), .int .i64 (withZ v rs r)]) ∧ Ruls w' Aa ca (resL v rs r) ∧ (resL v rs r).length ≤ 32 ∧
      (0 < (resL v rs r).length → ∃ g, Aa = some ⟨g, 0, none⟩ ∧ w.heap.size ≤ g ∧ ∀ i, i < (resL v rs r).length → w'.frozen? ⟨g, i * 3, none⟩ = false) := by
  rcases h with ⟨z, hz, rfl, rfl⟩ | ⟨g, cap, hz, rfl, hg, h32, hr, hf⟩
  · have e1 : resL v rs r = [] := if_neg hz
    have e2 : resV v rs r = 0 := if_neg hz
    rw [e1, e2]
    exact ⟨none, 0, rfl, ruls_none _, Nat.zero_le _, fun h => absurd h (Nat.lt_irrefl 0)⟩
  · have e1 : resL v rs r = insW r rs := if_pos hz
    have e2 : resV v rs r = v + 1 := if_pos hz
    rw [e1, e2, hz]
    exact ⟨_, cap, rfl, hr, h32, fun _ => ⟨g, rfl, hg, hf⟩⟩
theorem rwith_res {v : Int} {rs : List Rl} {r : Rl} {w' : World} {e : Ending} (h : WithE v rs r e w') :
    ∃ Ab cb, e = .returned (.tuple #[.agg (tabV (resV v rs r) Ab (resL v rs r).length cb), .int .i64 (withZ v rs r)]) ∧ Ruls w' Ab cb (resL v rs r) := by
  rcases h with ⟨z, hz, rfl, rfl⟩ | ⟨A, cap, hz, rfl, hr⟩
  · have e1 : resL v rs r = [] := if_neg hz
    have e2 : resV v rs r = 0 := if_neg hz
    rw [e1, e2]
    exact ⟨none, 0, rfl, ruls_none _⟩
  · have e1 : resL v rs r = insW r rs := if_pos hz
    have e2 : resV v rs r = v + 1 := if_pos hz
    rw [e1, e2, hz]
    exact ⟨A, cap, rfl, hr⟩
end Go.Proofs.YtmbcojpdigoojaaDoor.Rul
