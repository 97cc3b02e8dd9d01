/- What is proved: ChachaBlocks (P3.1, P3.2): for every four words, key and nonce, whatever memory they lie in, the law returns true and its arguments read as before. Conditions: the row's own; the table of package chacha (quarters) holds what the program's text lays, which the card ties to the text by the given tie. -/
import Derived.Test.YtdkfofnkacmliaaDoorChaCase
import Derived.Test.YtdkfofnkacmliaaDoorChaBlocksWalk
namespace Go.Proofs.YtdkfofnkacmliaaDoor.lawBlocks3
open Cha Go.ChangeShapes Go.WideShapes Go.ChangeAt Go.RowKit
theorem arrFour : WideMaps.ArrKey Tryd.prog 23 22 4 := ⟨by kernel_rfl, by kernel_rfl, by kernel_rfl, by kernel_rfl⟩
/-- what the walks give, for every argument and every world that holds the tables. -/
theorem contract (H : Type) (enc : TypeId × Value → H) (W : World) (base : Nat) (args : Array Value) (ds gs : List (DataW H)) (before : List MemPlace)
    (hval : ∀ (j : Nat) t v, Tryd.f3.params[j]? = some t → args[j]? = some v → Value.okWide Tryd.prog W .any base t v)
    (hW : DataW.Whole enc Tryd.prog Tryd.f3.params.toList Rows.chachaBlocksSpec.vars false W args.toList ds gs before) (hL : laidMetH Tryd.prog Rows.chachaBlocksRow.laid W) :
    Calls Tryd.prog 3 args W fun e W' => ∃ v, e = .returned v ∧ Rows.chachaBlocksSpec.post enc Tryd.prog Tryd.f3 false true false false W args v W' := by
  have hlaid := Cha.laid_of hL
  have hW' := hW
  obtain ⟨p, q, hA0, hV, rfl, hfz, hnd⟩ := hW
  have hA : DataW.TrodAll enc Tryd.prog W 0 (fun _ => true) true Tryd.f3.params.toList args.toList ds p := hA0
  rw [Tryd.params3] at hA hval
  obtain ⟨v0, vs0, d0, ds0, p0, q0, hargs0, rfl, rfl, h0, r0⟩ := trodAll_cons hA
  obtain ⟨v1, vs1, d1, ds1, p1, q1, hargs1, rfl, rfl, h1, r1⟩ := trodAll_cons r0
  obtain ⟨v2, vs2, d2, ds2, p2, q2, hargs2, rfl, rfl, h2, r2⟩ := trodAll_cons r1
  obtain ⟨rfl, rfl, rfl⟩ := trodAll_nil r2
  obtain rfl : args = #[v0, v1, v2] := by cases args; simp_all
  obtain ⟨l, rfl, hl, _⟩ := open_arr arrFour Tryd.underlying22 (hval 0 23 v0 rfl rfl) h0
  obtain ⟨K, rfl, hK, bK⟩ := open_hash (hval 1 25 v1 rfl rfl) h1
  obtain ⟨Nn, rfl, hN, bN0⟩ := open_arr arrNonce Tryd.underlying5 (hval 2 27 v2 rfl rfl) h2
  have bN := inB_wf hN bN0
  have walk : Calls Tryd.prog 3 #[.agg (l.map (Value.int .u32)).toArray, .agg (u8s K), .agg (Nn.map (Value.int .u8)).toArray] W fun e w' => e = .returned (.bool true) ∧ Below W.heap.size W w' := by
    match l, hl with
    | [a, b, c, d], _ => exact blocks_walk a b c d K Nn hK hN bK bN W hlaid
  refine walk.mono fun e W' ⟨he, hb⟩ => ?_
  subst he
  exact ⟨_, rfl, law_post hW' rfl rfl (by rw [Tryd.params3]; intro t ht; simp only [List.mem_cons, List.mem_nil_iff, or_false] at ht; rcases ht with rfl | rfl | rfl <;> exact ⟨by kernel_rfl, of_decide_eq_true (by kernel_rfl)⟩) ⟨rfl, rfl, rfl⟩ hb⟩
theorem laid_met (os : Os) : laidMet Tryd.prog Rows.chachaBlocksRow.laid ((Cha.laidWorld os).forCall (fun _ _ => 0) ⟨#[], #[.agg #[.int .u32 0, .int .u32 0, .int .u32 0, .int .u32 0], .agg (List.replicate 32 (Value.int .u8 0)).toArray, .agg (List.replicate 12 (Value.int .u8 0)).toArray], []⟩).memory :=
  laidMet_of_run' 8 (by kernel_rfl) (by kernel_rfl)
theorem reads (os : Os) {H : Type} (enc : TypeId × Value → H) : ∃ places, DataW.whole enc Tryd.prog ((Cha.laidWorld os).forCall (fun _ _ => 0) ⟨#[], #[.agg #[.int .u32 0, .int .u32 0, .int .u32 0, .int .u32 0], .agg (List.replicate 32 (Value.int .u8 0)).toArray, .agg (List.replicate 12 (Value.int .u8 0)).toArray], []⟩).memory Tryd.f3.params.toList Rows.chachaBlocksSpec.vars false (#[Value.agg #[.int .u32 0, .int .u32 0, .int .u32 0, .int .u32 0], Value.agg (List.replicate 32 (Value.int .u8 0)).toArray, Value.agg (List.replicate 12 (Value.int .u8 0)).toArray] : Array Value).toList 8 = some ([.agg (List.replicate 4 (.lit (.int .u32 0))), .agg (List.replicate 32 (.lit (.int .u8 0))), .agg (List.replicate 12 (.lit (.int .u8 0)))], [], places) :=
  ⟨[], by kernel_rfl⟩
set_option maxRecDepth 100000 in
theorem lifted (os : Os) (started : os.Started) (H : Type) (enc : TypeId × Value → H) (F : Stop.Interp) :
    ReturnsInHanded {} Tryd.checked os 3 .any ((OpenSpec.ofChange Rows.chachaBlocksSpec).preRow enc Tryd.prog Tryd.f3 Rows.chachaBlocksRow.domain false Rows.chachaBlocksRow.laid) (((OpenSpec.ofChange Rows.chachaBlocksSpec).at F).post enc Tryd.prog Tryd.f3 false true false false) := by
  obtain ⟨places, hx⟩ := reads os enc
  refine returnsInHanded_of_row (C := Tryd.checked) (s := OpenSpec.ofChange Rows.chachaBlocksSpec) own started (by kernel_rfl) Tryd.func3
    (witness_row_at (enc := enc) (C := Tryd.checked) false (Cha.laidWorld os) #[.agg #[.int .u32 0, .int .u32 0, .int .u32 0, .int .u32 0], .agg (List.replicate 32 (Value.int .u8 0)).toArray, .agg (List.replicate 12 (Value.int .u8 0)).toArray] rfl (by kernel_rfl) (by kernel_rfl) (by kernel_rfl)
      (OpenSpec.preRow_of_cond 8 hx (by kernel_rfl) (fun k hk => by cases hk) (by kernel_rfl) (laid_met os))) ?_
  intro W base args ds gs before hval hW _ _ _ hL _ _
  exact contract H enc W base args ds gs before hval hW hL
theorem said : Rows.ChachaBlocksSaid :=
  OpenClaim.holds_of_cond 3 Tryd.f3 rfl rfl rfl rfl rfl rfl rfl ⟨rfl, rfl, rfl, rfl, rfl⟩ rfl rfl rfl rfl rfl (by kernel_rfl) Tryd.func3 (by kernel_rfl)
    (of_decide_eq_true (by kernel_rfl)) (by unfold Func.isWrapper; first | (rw [if_pos (by decide +kernel)]; kernel_rfl) | (rw [if_neg (by decide +kernel)]; exact ⟨rfl, rfl⟩))
    (fun os started H enc _ F => by rw [OpenClaim.pre_eq_preRow]; exact lifted os started H enc F)
theorem card : Rows.ChachaBlocksCardSaid :=
  Claim7.holds_tied_plain_at .later [] _ _ _ _ said (fun _ h => by cases h) (by kernel_rfl) (fun _ h => by cases h) chachaBlocks_row_tie rfl ⟨rfl, rfl⟩ (by kernel_rfl) rfl
    (plain_of (by kernel_rfl) Tryd.func3 (by rw [Tryd.params3]) (by kernel_rfl) (by kernel_rfl)) (by kernel_rfl)
end Go.Proofs.YtdkfofnkacmliaaDoor.lawBlocks3
