/- DERIVED. The contracts of disk's Cut, Restart (step.py writes this text out of mut.txt). -/
import Derived.Test.YtlofnpebknfmkaaDskClone
import Derived.Deep.CutBlock
import Derived.Great.BuildSlice
namespace Go.Proofs.Ytlofnpebknfmkaa.Dsk
open Go.RowKit
theorem info46 : (Try.prog.info? 51).map (·.size) = some 18 := by kernel_rfl
theorem info16 : (Try.prog.info? 45).map (·.size) = some 16 := by kernel_rfl
theorem built_cut (m : List Int) (k : Int) (hm : m.length = 16) : Try.prog.built 51 [(0, .bool true), (1, .int .i64 k), (2, .agg (u8s m))] = some (cutC true k m).toArray := by
  obtain ⟨f, hf⟩ : ∃ f : Nat → Int, m = (List.range 16).map f := ⟨fun j => m.getD j 0, by
    apply List.ext_getElem
    · simp [hm]
    · intro i h1 h2
      simp [h1]⟩
  subst hf
  kernel_rfl
theorem built_zero : Try.prog.built 51 [] = some (cutC false 0 z16).toArray := by kernel_rfl
theorem cutC_one (l : Bool) (k : Int) (m : List Int) : (cutC l k m).toArray.all (·.oneCell') = true := by
  apply all_oneCell_toArray
  intro v hv
  simp only [cutC, List.mem_cons] at hv
  rcases hv with rfl | rfl | hv
  · rfl
  · rfl
  · exact vals_one _ v hv
theorem cutC_len (l : Bool) (k : Int) (m : List Int) (hm : m.length = 16) : (cutC l k m).length = 18 := by simp [cutC, vals, hm]
theorem inb16 : InB z16 := by
  intro j
  simp only [z16, List.getD_eq_getElem?_getD, List.getElem?_replicate]
  split <;> simp
/-- Cut: an error, or the cut laid. -/
def cutD (D : DS) (k : Int) (m : List Int) : DS := if refE D (decide (0 ≤ k)) = 0 then { D with laid := true, whole := k, mask := m } else D
theorem cutD_no {D : DS} {k : Int} {m : List Int} (h : ¬ refE D (decide (0 ≤ k)) = 0) : cutD D k m = D := if_neg h
theorem cutD_yes {D : DS} {k : Int} {m : List Int} (h : refE D (decide (0 ≤ k)) = 0) : cutD D k m = { D with laid := true, whole := k, mask := m } := if_pos h
set_option maxRecDepth 100000 in
set_option maxHeartbeats 1000000 in
theorem cut_any {w : World} {K : DK} {D : DS} (h : Dsk w K D) (k : Int) (m : List Int) (hk : k ≤ 9223372036854775807) (hm : m.length = 16) (hb : InB m) : Calls Try.prog 18 #[K.ptr, .int .i64 k, .agg (u8s m)] w fun e w' => e = .returned (.int .i64 (refE D (decide (0 ≤ k)))) ∧ Dsk w' K (cutD D k m) ∧ Chg K.bl w w' := by
  have h' := h.later ((Below.refl w.heap.size w).alloc (Nat.le_refl _) (.cells (u8s m) 45))
  have Hr := Lib.hid (refuses_any h' (decide (0 ≤ k)))
  have Hm : Hid ((Try.prog.info? 45).map (·.size) = some (u8s m).size) := by show _ = _; rw [u8s_size, hm]; exact info16
  have H := Lib.hid h'
  have Hlen := Lib.hid hm
  have Hb := Lib.hid hb
  by_cases e0 : refE D (decide (0 ≤ k)) = 0
  · rw [e0] at Hr ⊢
    rw [cutD_yes e0]
    have hk0 : 0 ≤ k := by
      by_cases h0 : 0 ≤ k
      · exact h0
      · rw [decide_eq_false h0] at e0; simp [refE] at e0
    obtain ⟨b, hbb⟩ : ∃ b, b = decide (0 ≤ k) := ⟨_, rfl⟩
    have hbt : b = true := by rw [hbb]; exact decide_eq_true hk0
    rw [← hbb, hbt] at Hr
    unfold DK.ptr at *
    clear h h' e0 hm hb hbb hbt
    go_enter Try.func18, Try.ntmps18
    go_upto_region 4 with (go_at_call 22; refine Hr.out.mono ?_; rintro e w' ⟨rfl, rfl⟩)
    refine wp_region_lit ?_
    refine wpList_plain rfl (fun K hK => ?_)
    go_simp
    refine hK _ _ ?_
    clear hK
    clear K
    refine wpList_plain rfl (fun K hK => ?_)
    go_simp
    refine hK _ _ ?_
    clear hK
    clear K
    refine wpList_load_row rfl 45 (.tmp 5) rfl w.heap.size (by rfl) 45 (u8s m) (0, 0) _ (Go.heap_alloc_new w _) Try.underlying45 rfl Hm.out ?_
    refine wpList_buildTo rfl 51 #[(0, .const (.bool true)), (1, .tmp 16), (2, .tmp 17)] rfl (some 18) rfl (cutC true k m).toArray (by simp only [List.map_toArray, List.map_cons, List.map_nil]; exact built_cut m k Hlen.out) ?_
    refine wpList_plain rfl (fun K hK => ?_)
    go_simp
    refine hK _ _ ?_
    clear hK
    clear K
    refine wpList_plain rfl (fun K hK => ?_)
    go_simp
    refine hK _ _ ?_
    clear hK
    clear K
    refine wpList_store_mid rfl 51 (.tmp 20) (.tmp 18) rfl K.g 4 (cutC true k m).toArray rfl rfl (by rw [List.size_toArray, cutC_len _ _ _ Hlen.out]; exact H.out.there) (by rw [List.size_toArray, cutC_len _ _ _ Hlen.out]; exact info46) (cutC_one _ _ _) ?_
    refine wpList_nil ?_
    go_simp
    go_wp2
    go_ret
    refine ⟨rfl, H.out.setCut true k m Hlen.out Hb.out hk0 hk, ?_⟩
    exact ((Chg.refl _ _).alloc _).setCells (by simp [DK.bl]) _ _
  · rw [cutD_no e0]
    obtain ⟨E, hE⟩ : ∃ E, E = refE D (decide (0 ≤ k)) := ⟨_, rfl⟩
    rw [← hE] at Hr e0 ⊢
    obtain ⟨b, hbb⟩ : ∃ b, b = decide (0 ≤ k) := ⟨_, rfl⟩
    rw [← hbb] at Hr
    have hbb' : (0 ≤ k) = (b = true) := by rw [hbb]; simp
    unfold DK.ptr at *
    clear h h' hE hm hb
    cases b
    · have hk1 : ¬ 0 ≤ k := by rw [hbb']; decide
      clear hbb hbb'
      go_enter Try.func18, Try.ntmps18
      go_wp2_with (go_at_call 22; refine Hr.out.mono ?_; rintro e w' ⟨rfl, rfl⟩)
      go_ret
      exact ⟨rfl, H.out, (Chg.refl _ _).alloc _⟩
    · have hk1 : 0 ≤ k := by rw [hbb']
      clear hbb hbb'
      go_enter Try.func18, Try.ntmps18
      go_wp2_with (go_at_call 22; refine Hr.out.mono ?_; rintro e w' ⟨rfl, rfl⟩)
      go_ret
      exact ⟨rfl, H.out, (Chg.refl _ _).alloc _⟩
def restD (D : DS) : DS := { D with off := false, laid := false, whole := 0, mask := z16 }
set_option maxRecDepth 100000 in
set_option maxHeartbeats 1000000 in
theorem restart_any {w : World} {K : DK} {D : DS} (h : Dsk w K D) : Calls Try.prog 19 #[K.ptr] w fun e w' => e = .returned (.int .i64 0) ∧ Dsk w' K (restD D) ∧ Chg K.bl w w' := by
  have Hr := Lib.hid (made_any h)
  have H := Lib.hid h
  obtain ⟨_, _, _, c3, _⟩ := row0 h.row
  have f3 := free_row h.row 3
  unfold DK.ptr at *
  clear h
  go_enter Try.func19, Try.ntmps19
  go_upto_region 3 with (go_at_call 20; refine Hr.out.mono ?_; rintro e w' ⟨rfl, rfl⟩)
  refine wp_region_lit ?_
  refine wpList_plain rfl (fun K hK => ?_)
  go_simp
  refine hK _ _ ?_
  clear hK
  clear K
  refine wpList_plain rfl (fun K hK => ?_)
  go_simp
  refine hK _ _ ?_
  clear hK
  clear K
  refine wpList_buildTo rfl 51 #[] rfl (some 8) rfl (cutC false 0 z16).toArray (by simp only [List.map_toArray, List.map_nil]; exact built_zero) ?_
  refine wpList_plain rfl (fun K hK => ?_)
  go_simp
  refine hK _ _ ?_
  clear hK
  clear K
  refine wpList_plain rfl (fun K hK => ?_)
  go_simp
  refine hK _ _ ?_
  clear hK
  clear K
  refine wpList_plain rfl (fun K hK => ?_)
  go_simp
  refine hK _ _ ?_
  clear hK
  clear K
  refine wpList_plain rfl (fun K hK => ?_)
  go_simp
  refine hK _ _ ?_
  clear hK
  clear K
  refine wpList_plain rfl (fun K hK => ?_)
  go_simp
  refine hK _ _ ?_
  clear hK
  clear K
  have h2 := H.out.setOff false
  refine wpList_store_mid rfl 51 (.tmp 12) (.tmp 8) rfl K.g 4 (cutC false 0 z16).toArray rfl rfl (by rw [List.size_toArray, cutC_len _ _ _ rfl]; exact h2.there) (by rw [List.size_toArray, cutC_len _ _ _ rfl]; exact info46) (cutC_one _ _ _) ?_
  refine wpList_nil ?_
  go_simp
  go_wp2
  go_ret
  exact ⟨rfl, h2.setCut false 0 z16 rfl inb16 (by decide) (by decide), ((Chg.refl _ _).setCell (p := ⟨K.g, 3, none⟩) (by simp [DK.bl]) _).setCells (by simp [DK.bl]) _ _⟩
end Go.Proofs.Ytlofnpebknfmkaa.Dsk
