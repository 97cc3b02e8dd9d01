/- What is proved: LinesCheck (P13.1, P13.2, P13.5): for every slice of texts, nil or not, whatever memory they lie in, the law returns true and its arguments read as before. Conditions: the row's own; internal/bytealg.MaxLen holds any number (the row names it). -/
import Derived.Test.YtpaolndgagedkaaLaw
import Derived.Test.YtpaolndgagedkaaLnsLaid
import Derived.Test.YtpaolndgagedkaaLnsOpen
import Derived.Test.YtpaolndgagedkaaLnsChecks
import Derived.ProofKit
import Derived.OpenShut
namespace Go.Proofs.Ytpaolndgagedkaa.lawCheck13
open Lns Go.ChangeShapes Go.WideShapes Go.ChangeAt Go.RowKit
set_option maxRecDepth 100000 in
/-- what the walks give, for every argument and every world that holds the tables. -/
theorem contract (H : Type) (enc : TypeId × Value → H) (W : World) (base : Nat) (args : Array Value) (ds gs : List (DataW H)) (before : List MemPlace)
    (hval : ∀ (j : Nat) t v, Try.f4.params[j]? = some t → args[j]? = some v → Value.okWide Try.prog W .any base t v)
    (hW : DataW.Whole enc Try.prog Try.f4.params.toList Rows.linesCheckSpec.vars false W args.toList ds gs before) (hz0 : (DataW.weightsEach Try.prog (Try.f4.params.toList ++ (OpenSpec.ofChange Rows.linesCheckSpec).bare.plain.varTypes Try.prog) (ds ++ gs)).all (· ≤ reachBytes) = true) (hL : W.ShapedOpen Try.prog) :
    Calls Try.prog 4 args W fun e W' => ∃ v, e = .returned v ∧ Rows.linesCheckSpec.post enc Try.prog Try.f4 false true false false W args v W' := by
  have hlaid := laid_of hL
  have hW' := hW
  obtain ⟨p, q, hA0, hV, rfl, hfz, hnd⟩ := hW
  have hA : DataW.TrodAll enc Try.prog W 0 (fun _ => true) true Try.f4.params.toList args.toList ds p := hA0
  rw [Try.params4] at hA hval
  obtain ⟨v0, vs0, d0, ds0, p0, q0, hargs0, rfl, rfl, h0, r0⟩ := trodAll_cons hA
  obtain ⟨rfl, rfl, rfl⟩ := trodAll_nil r0
  obtain rfl : args = #[v0] := by cases args; simp_all
  obtain ⟨L, hrd, hnil, hLd⟩ := open_strs (hval 0 23 v0 rfl rfl) h0
  have hz1 : L.length ≤ 140737488355328 ∧ ∀ x ∈ L, x.size ≤ 140737488355328 := by
    rcases hLd with rfl | ⟨sp, rfl⟩
    · exact ⟨Nat.zero_le _, fun _ h => by cases h⟩
    · exact strs_sized hz0 (j := 0) (t := 23) (e := 9) rfl rfl Try.underlying23 (by decide +kernel)
  obtain ⟨hlen, hsz⟩ := hz1
  have walk := check_walk L v0 W hlaid hrd hnil hlen hsz
  refine walk.mono fun e W' ⟨he, hb⟩ => ?_
  subst he
  exact ⟨_, rfl, law_post hW' rfl rfl (by rw [Try.params4]; intro t ht; simp only [List.mem_cons, List.mem_nil_iff, or_false] at ht; subst ht; exact ⟨by kernel_rfl, of_decide_eq_true (by kernel_rfl)⟩) ⟨rfl, rfl, rfl⟩ hb⟩
theorem laid_met (os : Os) : laidMet Try.prog Rows.linesCheckRow.laid ((World.holding Try.prog os ⟨#[], #[], []⟩).forCall (fun _ _ => 0) ⟨#[], #[.slice none 0 0], []⟩).memory :=
  laidMet_of_run' 8 (by kernel_rfl) (by kernel_rfl)
theorem reads (os : Os) {H : Type} (enc : TypeId × Value → H) : ∃ places, DataW.whole enc Try.prog ((World.holding Try.prog os ⟨#[], #[], []⟩).forCall (fun _ _ => 0) ⟨#[], #[.slice none 0 0], []⟩).memory Try.f4.params.toList Rows.linesCheckSpec.vars false (#[Value.slice none 0 0] : Array Value).toList 8 = some ([.nil], [], places) :=
  ⟨[], by kernel_rfl⟩
set_option maxRecDepth 100000 in
theorem lifted (os : Os) (started : os.Started) (H : Type) (enc : TypeId × Value → H) (F : Stop.Interp) :
    ReturnsInHanded {} Try.checked os 4 .any ((OpenSpec.ofChange Rows.linesCheckSpec).preRow enc Try.prog Try.f4 Rows.linesCheckRow.domain false Rows.linesCheckRow.laid) (((OpenSpec.ofChange Rows.linesCheckSpec).at F).post enc Try.prog Try.f4 false true false false) := by
  obtain ⟨places, hx⟩ := reads os enc
  refine returnsInHanded_of_row (C := Try.checked) (s := OpenSpec.ofChange Rows.linesCheckSpec) own started (by kernel_rfl) Try.func4
    (witness_row_at (enc := enc) (C := Try.checked) false (World.holding Try.prog os ⟨#[], #[], []⟩) #[.slice none 0 0] rfl (by kernel_rfl) (by kernel_rfl) (by kernel_rfl)
      (OpenSpec.preRow_of_cond 8 hx (by kernel_rfl) (fun k hk => by cases hk) (by kernel_rfl) (laid_met os))) ?_
  intro W base args ds gs before hval hW _ _ hz0 _ hL _
  exact contract H enc W base args ds gs before hval hW hz0 hL
theorem said : Rows.LinesCheckSaid :=
  OpenClaim.holds_of_cond 4 Try.f4 rfl rfl rfl rfl rfl rfl rfl ⟨rfl, rfl, rfl, rfl, rfl⟩ rfl rfl rfl rfl rfl (by kernel_rfl) Try.func4 (by kernel_rfl)
    (of_decide_eq_true (by kernel_rfl)) (by unfold Func.isWrapper; first | (rw [if_pos (by decide +kernel)]; kernel_rfl) | (rw [if_neg (by decide +kernel)]; exact ⟨rfl, rfl⟩))
    (fun os started H enc _ F => by rw [OpenClaim.pre_eq_preRow]; exact lifted os started H enc F)
end Go.Proofs.Ytpaolndgagedkaa.lawCheck13
