/- What is proved: ShaGoesOn (P1.3): for every digest, every whole number and every slice of bytes, whatever memory they lie in, the law returns true and its arguments read as before. Conditions: the row's own; the two tables of package sha (startWords, roundWords) hold what the program's text lays, which the card ties to the text by the given tie. -/
import Derived.Test.YtblgblhoolpmiaaDoorShaLaid
import Derived.Test.YtblgblhoolpmiaaDoorShaGoesOnWalk
import Derived.Test.YtblgblhoolpmiaaDoorLawHash
import Derived.Test.YtblgblhoolpmiaaDoorLawBytes
namespace Go.Proofs.YtblgblhoolpmiaaDoor.lawGoesOn
open Go.ChangeShapes Go.WideShapes Go.ChangeAt Go.RowKit
set_option maxRecDepth 100000 in
/-- what the walks give, for every argument and every world that holds the tables. -/
theorem contract (H : Type) (enc : TypeId × Value → H) (W : World) (base : Nat) (args : Array Value) (ds gs : List (DataW H)) (before : List MemPlace)
    (hval : ∀ (j : Nat) t v, Tryd.f5.params[j]? = some t → args[j]? = some v → Value.okWide Tryd.prog W .any base t v)
    (hW : DataW.Whole enc Tryd.prog Tryd.f5.params.toList Rows.shaGoesOnSpec.vars false W args.toList ds gs before) (hL : laidMetH Tryd.prog Rows.shaGoesOnRow.laid W) :
    Calls Tryd.prog 5 args W fun e W' => ∃ v, e = .returned v ∧ Rows.shaGoesOnSpec.post enc Tryd.prog Tryd.f5 false true false false W args v W' := by
  have hlaid := laid_of hL
  have hW' := hW
  obtain ⟨p, q, hA0, hV, rfl, hfz, hnd⟩ := hW
  have hA : DataW.TrodAll enc Tryd.prog W 0 (fun _ => true) true Tryd.f5.params.toList args.toList ds p := hA0
  rw [Tryd.params5] at hA hval
  obtain ⟨v0, vs0, d0, ds0, p0, q0, hargs0, rfl, rfl, h0, r0⟩ := trodAll_cons hA
  obtain ⟨v1, vs1, d1, ds1, p1, q1, hargs1, rfl, rfl, h1, r1⟩ := trodAll_cons r0
  obtain ⟨v2, vs2, d2, ds2, p2, q2, hargs2, rfl, rfl, h2, r2⟩ := trodAll_cons r1
  obtain ⟨rfl, rfl, rfl⟩ := trodAll_nil r2
  obtain rfl : args = #[v0, v1, v2] := by cases args; simp_all
  obtain ⟨h, rfl, hl, hhin⟩ := open_hash (hval 0 35 v0 rfl rfl) h0
  obtain ⟨n, rfl, _, _, hn⟩ := open_int Tryd.underlying3 (hval 1 3 v1 rfl rfl) h1
  obtain ⟨A, c, L, rfl, hin, hB, hmax⟩ := open_bytes (hval 2 26 v2 rfl rfl) h2
  have walk : Calls Tryd.prog 5 #[.agg (u8s h), .int .i64 n, .slice A L.length c] W fun e w' => e = .returned (.bool true) ∧ Below W.heap.size W w' := by
    by_cases h0 : L.length ≤ 3000
    · by_cases hr : n < 0 ∨ 72057594037927936 < n
      · exact walk_short h (List.replicate 32 0) 2 n A c L.length W hl (by simp) hlaid h0 (fun W' _ => resume_no h n _ W' hr) (fun W' _ => rresume_no h n _ W' hr)
      · obtain ⟨k, rfl⟩ := Int.eq_ofNat_of_zero_le (show 0 ≤ n by omega)
        exact walk_short h (fin (wordsW h) L (k + padLen k + L.length)) 0 k A c L.length W hl (by rw [fin, hashL_length]) hlaid h0 (fun W' hb => resume_any h L A c L.length k W' hl hhin rfl hin (hB.below hb (Nat.le_refl _)) (hlaid.below hb hlaid.sz) (by omega) (by omega)) (fun W' hb => rresume_any h L A c L.length k W' hl hhin rfl hin (hB.below hb (Nat.le_refl _)) (by omega) (by omega))
    · exact walk_long h n A c L.length W hlaid (by omega) (by unfold maxLen at hmax; exact hmax)
  refine walk.mono fun e W' ⟨he, hb⟩ => ?_
  subst he
  exact ⟨_, rfl, law_post hW' rfl rfl (by rw [Tryd.params5]; intro t ht; simp only [List.mem_cons, List.mem_nil_iff, or_false] at ht; rcases ht with rfl | rfl | rfl <;> exact ⟨by kernel_rfl, of_decide_eq_true (by kernel_rfl)⟩) ⟨rfl, rfl, rfl⟩ hb⟩
theorem laid_met (os : Os) : laidMet Tryd.prog Rows.shaGoesOnRow.laid ((laidWorld os).forCall (fun _ _ => 0) ⟨#[], #[.agg zero32, .int .i64 0, .slice none 0 0], []⟩).memory :=
  laidMet_of_run' 8 (by kernel_rfl) (by kernel_rfl)
theorem reads (os : Os) {H : Type} (enc : TypeId × Value → H) : ∃ places, DataW.whole enc Tryd.prog ((laidWorld os).forCall (fun _ _ => 0) ⟨#[], #[.agg zero32, .int .i64 0, .slice none 0 0], []⟩).memory Tryd.f5.params.toList Rows.shaGoesOnSpec.vars false (#[Value.agg zero32, Value.int .i64 0, Value.slice none 0 0] : Array Value).toList 8 = some ([.agg (List.replicate 32 (.lit (.int .u8 0))), .lit (.int .i64 0), .nil], [], places) :=
  ⟨[], by kernel_rfl⟩
set_option maxRecDepth 100000 in
theorem lifted (os : Os) (started : os.Started) (H : Type) (enc : TypeId × Value → H) (F : Stop.Interp) :
    ReturnsInHanded {} Tryd.checked os 5 .any ((OpenSpec.ofChange Rows.shaGoesOnSpec).preRow enc Tryd.prog Tryd.f5 Rows.shaGoesOnRow.domain false Rows.shaGoesOnRow.laid) (((OpenSpec.ofChange Rows.shaGoesOnSpec).at F).post enc Tryd.prog Tryd.f5 false true false false) := by
  obtain ⟨places, hx⟩ := reads os enc
  refine returnsInHanded_of_row (C := Tryd.checked) (s := OpenSpec.ofChange Rows.shaGoesOnSpec) own started (by kernel_rfl) Tryd.func5
    (witness_row_at (enc := enc) (C := Tryd.checked) false (laidWorld os) #[.agg zero32, .int .i64 0, .slice none 0 0] rfl (by kernel_rfl) (by kernel_rfl) (by kernel_rfl)
      (OpenSpec.preRow_of_cond 8 hx (by kernel_rfl) (fun k hk => by cases hk) (by kernel_rfl) (laid_met os))) ?_
  intro W base args ds gs before hval hW _ _ _ hL _ _
  exact contract H enc W base args ds gs before hval hW hL
theorem said : Rows.ShaGoesOnSaid :=
  OpenClaim.holds_of_cond 5 Tryd.f5 rfl rfl rfl rfl rfl rfl rfl ⟨rfl, rfl, rfl, rfl, rfl⟩ rfl rfl rfl rfl rfl (by kernel_rfl) Tryd.func5 (by kernel_rfl)
    (of_decide_eq_true (by kernel_rfl)) (by unfold Func.isWrapper; first | (rw [if_pos (by decide +kernel)]; kernel_rfl) | (rw [if_neg (by decide +kernel)]; exact ⟨rfl, rfl⟩))
    (fun os started H enc _ F => by rw [OpenClaim.pre_eq_preRow]; exact lifted os started H enc F)
theorem card : Rows.ShaGoesOnCardSaid :=
  Claim7.holds_tied_plain_at .later [] _ _ _ _ said (fun _ h => by cases h) (by kernel_rfl) (fun _ h => by cases h) shaGoesOn_row_tie rfl ⟨rfl, rfl⟩ (by kernel_rfl) rfl
    (plain_of (by kernel_rfl) Tryd.func5 (by rw [Tryd.params5]) (by kernel_rfl) (by kernel_rfl)) (by kernel_rfl)
end Go.Proofs.YtblgblhoolpmiaaDoor.lawGoesOn
