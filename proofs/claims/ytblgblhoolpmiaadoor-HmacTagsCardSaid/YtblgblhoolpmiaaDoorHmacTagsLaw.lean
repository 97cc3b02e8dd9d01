/- What is proved: HmacTags (P2.1, P2.2): for every two slices of bytes, nil or not, whatever memory they lie in, the law returns true and its arguments read as before. Conditions: the row's own; the two tables of package sha (startWords, roundWords) hold what the program's text lays, which the card ties to the text by the given tie. -/
import Derived.Test.YtblgblhoolpmiaaDoorShaLaid
import Derived.Test.YtblgblhoolpmiaaDoorHmacTags
import Derived.Test.YtblgblhoolpmiaaDoorLawBytes
namespace Go.Proofs.YtblgblhoolpmiaaDoor.lawTags
open Go.ChangeShapes Go.WideShapes Go.ChangeAt Go.RowKit
set_option maxRecDepth 100000 in
/-- what the walks give, for every argument and every world that holds the tables. -/
theorem contract (H : Type) (enc : TypeId × Value → H) (W : World) (base : Nat) (args : Array Value) (ds gs : List (DataW H)) (before : List MemPlace)
    (hval : ∀ (j : Nat) t v, Tryd.f6.params[j]? = some t → args[j]? = some v → Value.okWide Tryd.prog W .any base t v)
    (hW : DataW.Whole enc Tryd.prog Tryd.f6.params.toList Rows.hmacTagsSpec.vars false W args.toList ds gs before) (hL : laidMetH Tryd.prog Rows.hmacTagsRow.laid W) :
    Calls Tryd.prog 6 args W fun e W' => ∃ v, e = .returned v ∧ Rows.hmacTagsSpec.post enc Tryd.prog Tryd.f6 false true false false W args v W' := by
  have hlaid := laid_of hL
  have hW' := hW
  obtain ⟨p, q, hA0, hV, rfl, hfz, hnd⟩ := hW
  have hA : DataW.TrodAll enc Tryd.prog W 0 (fun _ => true) true Tryd.f6.params.toList args.toList ds p := hA0
  rw [Tryd.params6] at hA hval
  obtain ⟨v0, vs0, d0, ds0, p0, q0, hargs0, rfl, rfl, h0, r0⟩ := trodAll_cons hA
  obtain ⟨v1, vs1, d1, ds1, p1, q1, hargs1, rfl, rfl, h1, r1⟩ := trodAll_cons r0
  obtain ⟨rfl, rfl, rfl⟩ := trodAll_nil r1
  obtain rfl : args = #[v0, v1] := by cases args; simp_all
  obtain ⟨A, c, L, rfl, hin, hbyt, hmax⟩ := open_bytes (hval 0 26 v0 rfl rfl) h0
  obtain ⟨A2, c2, M, rfl, hin2, hbyt2, hmax2⟩ := open_bytes (hval 1 26 v1 rfl rfl) h1
  have l1 : (L.take (min L.length 600)).length = min L.length 600 := by rw [List.length_take]; omega
  have l2 : (M.take (min M.length 600)).length = min M.length 600 := by rw [List.length_take]; omega
  have walk : Calls Tryd.prog 6 #[.slice A L.length c, .slice A2 M.length c2] W fun e w' => e = .returned (.bool true) ∧ Below W.heap.size W w' := by
    by_cases he : L.take (min L.length 600) = M.take (min M.length 600)
    · have hk : min M.length 600 = min L.length 600 := by rw [← l1, ← l2, he]
      exact walk_same (L.take (min L.length 600)) A A2 c L.length (min L.length 600) c2 M.length W l1 (by omega) (hin.take _) (by rw [he]; exact hin2.take _) (byt_take hbyt _) (by rw [he]; exact byt_take hbyt2 _) hlaid (fun W' => cut_any A c L.length W' hbyt.1) (fun W' => by rw [← hk]; exact cut_any A2 c2 M.length W' hbyt2.1)
    · exact walk_not (L.take (min L.length 600)) (M.take (min M.length 600)) A A2 c L.length (min L.length 600) c2 M.length (min M.length 600) W l1 l2 (by omega) (by omega) (hin.take _) (hin2.take _) (byt_take hbyt _) (byt_take hbyt2 _) hlaid he (fun W' => cut_any A c L.length W' hbyt.1) (fun W' => cut_any A2 c2 M.length W' hbyt2.1)
  refine walk.mono fun e W' ⟨he, hb⟩ => ?_
  subst he
  exact ⟨_, rfl, law_post hW' rfl rfl (by rw [Tryd.params6]; intro t ht; simp only [List.mem_cons, List.mem_nil_iff, or_false] at ht; rcases ht with rfl | rfl <;> exact ⟨by kernel_rfl, of_decide_eq_true (by kernel_rfl)⟩) ⟨rfl, rfl, rfl⟩ hb⟩
theorem laid_met (os : Os) : laidMet Tryd.prog Rows.hmacTagsRow.laid ((laidWorld os).forCall (fun _ _ => 0) ⟨#[], #[.slice none 0 0, .slice none 0 0], []⟩).memory :=
  laidMet_of_run' 8 (by kernel_rfl) (by kernel_rfl)
theorem reads (os : Os) {H : Type} (enc : TypeId × Value → H) : ∃ places, DataW.whole enc Tryd.prog ((laidWorld os).forCall (fun _ _ => 0) ⟨#[], #[.slice none 0 0, .slice none 0 0], []⟩).memory Tryd.f6.params.toList Rows.hmacTagsSpec.vars false (#[Value.slice none 0 0, Value.slice none 0 0] : Array Value).toList 8 = some ([.nil, .nil], [], places) :=
  ⟨[], by kernel_rfl⟩
set_option maxRecDepth 100000 in
theorem lifted (os : Os) (started : os.Started) (H : Type) (enc : TypeId × Value → H) (F : Stop.Interp) :
    ReturnsInHanded {} Tryd.checked os 6 .any ((OpenSpec.ofChange Rows.hmacTagsSpec).preRow enc Tryd.prog Tryd.f6 Rows.hmacTagsRow.domain false Rows.hmacTagsRow.laid) (((OpenSpec.ofChange Rows.hmacTagsSpec).at F).post enc Tryd.prog Tryd.f6 false true false false) := by
  obtain ⟨places, hx⟩ := reads os enc
  refine returnsInHanded_of_row (C := Tryd.checked) (s := OpenSpec.ofChange Rows.hmacTagsSpec) own started (by kernel_rfl) Tryd.func6
    (witness_row_at (enc := enc) (C := Tryd.checked) false (laidWorld os) #[.slice none 0 0, .slice none 0 0] rfl (by kernel_rfl) (by kernel_rfl) (by kernel_rfl)
      (OpenSpec.preRow_of_cond 8 hx (by kernel_rfl) (fun k hk => by cases hk) (by kernel_rfl) (laid_met os))) ?_
  intro W base args ds gs before hval hW _ _ _ hL _ _
  exact contract H enc W base args ds gs before hval hW hL
theorem said : Rows.HmacTagsSaid :=
  OpenClaim.holds_of_cond 6 Tryd.f6 rfl rfl rfl rfl rfl rfl rfl ⟨rfl, rfl, rfl, rfl, rfl⟩ rfl rfl rfl rfl rfl (by kernel_rfl) Tryd.func6 (by kernel_rfl)
    (of_decide_eq_true (by kernel_rfl)) (by unfold Func.isWrapper; first | (rw [if_pos (by decide +kernel)]; kernel_rfl) | (rw [if_neg (by decide +kernel)]; exact ⟨rfl, rfl⟩))
    (fun os started H enc _ F => by rw [OpenClaim.pre_eq_preRow]; exact lifted os started H enc F)
theorem card : Rows.HmacTagsCardSaid :=
  Claim7.holds_tied_plain_at .later [] _ _ _ _ said (fun _ h => by cases h) (by kernel_rfl) (fun _ h => by cases h) hmacTags_row_tie rfl ⟨rfl, rfl⟩ (by kernel_rfl) rfl
    (plain_of (by kernel_rfl) Tryd.func6 (by rw [Tryd.params6]) (by kernel_rfl) (by kernel_rfl)) (by kernel_rfl)
end Go.Proofs.YtblgblhoolpmiaaDoor.lawTags
