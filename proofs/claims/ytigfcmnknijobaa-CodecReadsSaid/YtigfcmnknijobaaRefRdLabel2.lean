/- DERIVED. The contracts of the reference's Label and Vertex. -/
import Derived.Test.YtigfcmnknijobaaRefRdLabel
namespace Go.Proofs.Ytigfcmnknijobaa.Cod
open Go.RowKit Str
theorem QE.any {B g : Nat} {L M : List Int} {e : Int} {w : World} (h : QE B g M e w) (he : e ≠ 0) : QE B g L e w := by
  obtain ⟨K, h1, _⟩ := h
  exact ⟨K, h1, fun h0 => absurd h0 he⟩
theorem rlabel_off {B g : Nat} {L : List Int} {er : Int} {w : World} (h : QR B g L er w) (he : er ≠ 0) (hB : B ≤ w.heap.size) :
    Calls Try.prog 22 #[.pointer (some ⟨g, 0, none⟩)] w fun e w' => e = .returned (.agg (labC (0, 0))) ∧ QE B g L er w' ∧ Chg [g] w w' := by
  have hl := h.later ((Below.refl w.heap.size w).alloc (Nat.le_refl _) (.cells #[.int .i64 0, .int .u64 0] 34))
  have k := rlabel_core (X := []) (M0 := L) (M := L) (e0 := er) (e' := er) (N := 0) (by decide) (.inl rfl) (fun j => by simp) h.lt hB
    ((form_off hl he 15).mono fun e w' ⟨h1, h2⟩ => by subst h2; exact ⟨h1, hl, Chg.refl _ _⟩)
    (fun w1 h1 => (take_off h1 he 8).mono fun e w' ⟨h2, h3⟩ => by subst h3; exact ⟨_, h2, slb_nil _, LowV.nil B, h1, Chg.refl _ _⟩)
  rw [if_neg he] at k
  exact k
set_option maxHeartbeats 1000000 in
theorem rlabel_on {B g : Nat} {L : List Int} {w : World} (h : QR B g L 0 w) (hb : InB L) (hle : L.length ≤ 100000) (hB : B ≤ w.heap.size) :
    Calls Try.prog 22 #[.pointer (some ⟨g, 0, none⟩)] w fun e w' => e = .returned (.agg (labC (labelR L).1)) ∧ QE B g (if (labelR L).2.2 = 0 then (labelR L).2.1 else L) (labelR L).2.2 w' ∧ Chg [g] w w' := by
  have hl := h.later ((Below.refl w.heap.size w).alloc (Nat.le_refl _) (.cells #[.int .i64 0, .int .u64 0] 34))
  have hF := form_on hl hb hle 15 (by decide)
  have hce := cutL_e L 15
  have hci := cutL_in hb 15
  unfold labelR
  obtain ⟨N, R, E, hNRE⟩ : ∃ N R E, cutL L 15 = (N, R, E) := ⟨_, _, _, rfl⟩
  rw [hNRE] at hF hce hci ⊢
  simp only at hF hce hci ⊢
  rcases hce with ⟨rfl, hN⟩ | ⟨hE, rfl⟩
  · rw [if_pos rfl, if_pos rfl] at hF
    rw [if_neg (by simp)]
    by_cases h8 : R.length < 8
    · rw [if_pos h8]
      have k := rlabel_core (X := []) (M0 := R) (M := R) (e0 := 0) (e' := 4) (N := N) (by omega) (.inl rfl) (fun j => by simp) h.lt hB hF
        (fun w1 h1 => (take_short h1 8 h8).mono fun e w' ⟨h2, h3, h4⟩ => ⟨_, h2, slb_nil _, LowV.nil B, h3, h4⟩)
      rw [if_neg (by decide)] at k
      exact k.mono fun e w' ⟨h1, h2, h3⟩ => ⟨h1, h2.any (by decide), h3⟩
    · rw [if_neg h8]
      have k := rlabel_core (X := R.take 8) (M0 := R) (M := R.drop 8) (e0 := 0) (e' := 0) (N := N) (by omega) (.inr (by rw [List.length_take]; omega)) (hci.take 8) h.lt hB hF
        (fun w1 h1 => take_ok h1 8 (by omega))
      rw [if_pos rfl] at k
      exact k
  · rw [if_neg hE, if_neg hE] at hF
    rw [if_pos hE]
    have k := rlabel_core (X := []) (M0 := L) (M := L) (e0 := 4) (e' := 4) (N := 0) (by decide) (.inl rfl) (fun j => by simp) h.lt hB hF
      (fun w1 h1 => (take_off h1 (by decide) 8).mono fun e w' ⟨h2, h3⟩ => by subst h3; exact ⟨_, h2, slb_nil _, LowV.nil B, h1, Chg.refl _ _⟩)
    rw [if_neg (by decide)] at k
    exact k
set_option maxRecDepth 100000 in
set_option maxHeartbeats 4000000 in
theorem rvertex_core {B g N : Nat} {H M0 M : List Int} {e0 e' : Int} {w : World} (hH : H.length = 32) (hN : N ≤ 4294967296) (hg : g < w.heap.size) (hB : B ≤ w.heap.size)
    (HH : Calls Try.prog 20 #[.pointer (some ⟨g, 0, none⟩)] (w.alloc (.cells (vtxC z32 0) 55)) fun e w' => e = .returned (.agg (u8s H)) ∧ QE B g M0 e0 w' ∧ Chg [g] (w.alloc (.cells (vtxC z32 0) 55)) w')
    (HF : ∀ w1, QE B g M0 e0 w1 → Calls Try.prog 44 #[.pointer (some ⟨g, 0, none⟩), .int .u64 4294967296] w1 fun e w' => e = .returned (.int .u64 (N : Nat)) ∧ QE B g M e' w' ∧ Chg [g] w1 w') :
    Calls Try.prog 24 #[.pointer (some ⟨g, 0, none⟩)] w fun e w' => e = .returned (.agg (if e' = 0 then vtxC H ((N : Int) - 2) else vtxC z32 0)) ∧ QE B g M e' w' ∧ Chg [g] w w' := by
  obtain ⟨w1, hw1⟩ : ∃ w1, w1 = w.alloc (.cells (vtxC z32 0) 55) := ⟨_, rfl⟩
  have r2 : w1.heap[w.heap.size]? = some (.cells (vtxC z32 0) 55 (0, 0)) := by rw [hw1]; exact Go.heap_alloc_new w _
  have low1 : Below w.heap.size w w1 := by rw [hw1]; exact (Below.refl _ _).alloc (Nat.le_refl _) _
  rw [← hw1] at HH
  have hw3 : IntKind.i64.wrap (N : Int) = (N : Nat) := by rw [IntKind.wrap_i64]; omega
  have hw4 : IntKind.i64.wrap ((N : Int) - 2) = (N : Int) - 2 := by rw [IntKind.wrap_i64]; omega
  have HHs := Lib.hid HH
  have HFm := Lib.hid HF
  have R2 := Lib.hid r2
  have Low := Lib.hid low1
  have Hw := Lib.hid hw1
  have Hg := Lib.hid hg
  have HB := Lib.hid hB
  have HHl := Lib.hid hH
  have H32 : Hid ((Try.prog.info? 32).map (·.size) = some (u8s H).size) := by show _ = _; rw [u8s_size, hH]; exact infoH32
  clear HH HF r2 low1 hw1 hg hB hH hN
  go_enter Try.func24, Try.ntmps24
  go_upto_region 1 with (fail)
  change Code.wp _ _ _ _ (w.alloc (.cells (vtxC z32 0) 55))
  rw [← Hw.out]
  clear Hw
  obtain ⟨b2, hb2⟩ : ∃ b2, b2 = w.heap.size := ⟨_, rfl⟩
  rw [← hb2] at R2 ⊢
  have Hb2 := Lib.hid hb2
  clear hb2
  go_upto_region 2 with (first
    | (refine wpList_store_row rfl 32 (.tmp 3) (.tmp 6) rfl _ (u8s H) rfl rfl 32 _ (Go.heap_alloc_new _ _) H32.out (by rw [u8s_size, HHl.out]; rfl) (u8s_one _) ?_; rw [World.setRow_alloc_new])
    | (go_at_call 20; refine HHs.out.mono ?_; rintro e w2 ⟨rfl, hq, hc⟩; have HQ2 := Lib.hid hq; have HC2 := Lib.hid hc; clear hq hc))
  rename World => w2
  obtain ⟨w3, hw⟩ : ∃ w3, w3 = w2.alloc (.cells (u8s H) 32) := ⟨_, rfl⟩
  have r3 : w3.heap[w2.heap.size]? = some (.cells (u8s H) 32 (0, 0)) := by rw [hw]; exact Go.heap_alloc_new w2 _
  have low3 : Below w2.heap.size w2 w3 := by rw [hw]; exact (Below.refl _ _).alloc (Nat.le_refl _) _
  rw [← hw]
  have HQ3 := Lib.hid (HQ2.out.keep (Chg.of_below (S := []) low3) (by simp) (by simp))
  have rR2 := (HC2.out.trans (Chg.of_below low3)).at R2.out (by have := Hg.out; have := Hb2.out; simp; omega)
  obtain ⟨b3, hb3⟩ : ∃ b3, b3 = w2.heap.size := ⟨_, rfl⟩
  rw [← hb3] at r3 ⊢
  have Hne : Hid (g ≠ b3 ∧ g ≠ b2) := by
    have h1 := Hg.out
    have h2 := Hb2.out
    have h3 := HC2.out.size
    have h4 := Low.out.size
    exact ⟨by omega, by omega⟩
  have R3 := Lib.hid r3
  have R22 := Lib.hid rR2
  have HC3 := Lib.hid ((Chg.of_below (S := [g]) Low.out).trans (HC2.out.trans (Chg.of_below low3)))
  clear hw r3 low3 rR2 hb3 HHs R2 HQ2 HC2 H32
  go_upto_region 3 with (go_at_call 44; refine (HFm.out _ HQ3.out).mono ?_; rintro e w4 ⟨rfl, hq, hc⟩; have HQ4 := Lib.hid hq; have HC4 := Lib.hid hc; clear hq hc)
  rename World => w4
  have R24 := Lib.hid (HC4.out.at R22.out (by have := Hne.out.2; simp; omega))
  have R34 := Lib.hid (HC4.out.at R3.out (by have := Hne.out.1; simp; omega))
  have HCh := Lib.hid (HC3.out.trans HC4.out)
  have c1g : w4.cell? ⟨g, 1, none⟩ = some (.int .i64 e') := by obtain ⟨K, h1, _⟩ := HQ4.out; exact h1.cell1
  have Hg2 : Hid (g ≠ b2 ∧ B ≤ b2 ∧ w.heap.size ≤ b2) := ⟨Hne.out.2, by have := Hb2.out; have := HB.out; omega, by have := Hb2.out; omega⟩
  have H32 : Hid ((Try.prog.info? 32).map (·.size) = some (u8s H).size) := by show _ = _; rw [u8s_size, HHl.out]; exact infoH32
  have HV : ∀ n : Int, (Try.prog.info? 55).map (·.size) = some (vtxC H n).size := fun n => by rw [vtxC_size _ _ HHl.out]; exact infoV33
  have HV' := Lib.hid HV
  clear HV HFm HQ3 R22 R3 HC3 HC4
  by_cases he : e' = 0
  · have He := Lib.hid he
    have he2 : (e' != 0) = false := by rw [he]; rfl
    clear he
    go_upto_region 5 with (fail)
    refine wp_region_lit ?_
    refine wpList_load_row rfl 32 (.tmp 3) rfl b3 rfl 32 (u8s H) (0, 0) _ R34.out Try.underlying32 rfl H32.out ?_
    refine wpList_plain rfl (fun K hK => ?_)
    go_simp
    refine hK _ _ ?_
    clear hK
    clear K
    refine wpList_plain rfl (fun K hK => ?_)
    go_simp
    refine hK _ _ ?_
    clear hK
    clear K
    refine wpList_plain rfl (fun K hK => ?_)
    go_simp
    refine hK _ _ ?_
    clear hK
    clear K
    refine wpList_buildTo rfl 55 #[(0, .tmp 15), (1, .tmp 18)] rfl (some 19) rfl (vtxC H ((N : Int) - 2)) (by simp only [List.map_toArray, List.map_cons, List.map_nil]; exact built_vtx H _ HHl.out) ?_
    refine wpList_store_row rfl 55 (.tmp 2) (.tmp 19) rfl b2 (vtxC H ((N : Int) - 2)) rfl rfl 55 _ R24.out (HV'.out _) (by rw [vtxC_size _ _ HHl.out]; rfl) (vtxC_one _ _) ?_
    refine wpList_nil ?_
    have HZ : (Try.prog.info? 55).map (·.size) = some (vtxC H ((N : Int) - 2)).size := HV'.out _
    have HZ' := Lib.hid HZ
    clear HZ
    go_wp2
    have hrow : (World.setRow _ b2 (vtxC H ((N : Int) - 2))).heap[b2]? = some (.cells (vtxC H ((N : Int) - 2)) 55 (0, 0)) := setRow_at R24.out
    refine bodyPost_ret (v := .agg (vtxC H ((N : Int) - 2))) (results_cell_row rfl _ _ b2 55 _ (0, 0) _ rfl hrow Try.underlying55 rfl HZ'.out) rfl ⟨by first | rfl | rw [if_pos He.out], ?_, ?_⟩
    · have hh := HQ4.out.keep (chg_setRow _ b2 (vtxC H ((N : Int) - 2))) (by have := Hg2.out.1; simp; omega) (by have := Hg2.out.2.1; simp; omega)
      rw [He.out] at hh
      exact hh
    · exact HCh.out.trans_new (chg_setRow _ b2 _) Hg2.out.2.2
  · have He := Lib.hid he
    have he2 : (e' != 0) = true := by simpa using he
    clear he
    go_upto_region 4 with (fail)
    refine wp_region_lit ?_
    refine wpList_buildTo rfl 55 #[] rfl (some 14) rfl (vtxC z32 0) (by kernel_rfl) ?_
    refine wpList_store_row rfl 55 (.tmp 2) (.tmp 14) rfl b2 (vtxC z32 0) rfl rfl 55 _ R24.out infoV33 rfl (vtxC_one _ _) ?_
    refine wpList_nil ?_
    go_wp2
    have hrow : (World.setRow _ b2 (vtxC z32 0)).heap[b2]? = some (.cells (vtxC z32 0) 55 (0, 0)) := setRow_at R24.out
    refine bodyPost_ret (v := .agg (vtxC z32 0)) (results_cell_row rfl _ _ b2 55 _ (0, 0) _ rfl hrow Try.underlying55 rfl infoV33) rfl ⟨by first | rfl | rw [if_neg He.out], ?_, ?_⟩
    · exact HQ4.out.keep (chg_setRow _ b2 _) (by have := Hg2.out.1; simp; omega) (by have := Hg2.out.2.1; simp; omega)
    · exact HCh.out.trans_new (chg_setRow _ b2 _) Hg2.out.2.2
theorem QE.two {B g : Nat} {L : List Int} {e : Int} {w : World} (h : QE B g L e w) (o : Obj) : QE B g L e (w.alloc o) := h.keep (Chg.of_below (S := []) ((Below.refl _ _).alloc (Nat.le_refl _) o)) (by simp) (by simp)
theorem rvertex_off {B g : Nat} {L : List Int} {er : Int} {w : World} (h : QR B g L er w) (he : er ≠ 0) (hB : B ≤ w.heap.size) :
    Calls Try.prog 24 #[.pointer (some ⟨g, 0, none⟩)] w fun e w' => e = .returned (.agg (vtxC z32 0)) ∧ QE B g L er w' ∧ Chg [g] w w' := by
  have hl := h.later ((Below.refl w.heap.size w).alloc (Nat.le_refl _) (.cells (vtxC z32 0) 55))
  have k := rvertex_core (H := z32) (M0 := L) (M := L) (e0 := er) (e' := er) (N := 0) (by decide) (by decide) h.lt hB
    (rhash_off hl he (Nat.le_trans hB (by simp)))
    (fun w1 ⟨K, h1, h2⟩ => (form_off h1 he 4294967296).mono fun e w' ⟨h3, h4⟩ => by subst h4; exact ⟨h3, ⟨K, h1, h2⟩, Chg.refl _ _⟩)
  rw [if_neg he] at k
  exact k
set_option maxHeartbeats 1000000 in
theorem rvertex_on {B g : Nat} {L : List Int} {w : World} (h : QR B g L 0 w) (hb : InB L) (hle : L.length ≤ 100000) (hB : B ≤ w.heap.size) :
    Calls Try.prog 24 #[.pointer (some ⟨g, 0, none⟩)] w fun e w' => e = .returned (.agg (vtxP (vertexR L).1)) ∧ QE B g (if (vertexR L).2.2 = 0 then (vertexR L).2.1 else L) (vertexR L).2.2 w' ∧ Chg [g] w w' := by
  have hl := h.later ((Below.refl w.heap.size w).alloc (Nat.le_refl _) (.cells (vtxC z32 0) 55))
  have hH := rhash_on hl (Nat.le_trans hB (by simp))
  have hce := cutL_e (L.drop 32) 4294967296
  unfold vertexR
  unfold hashR at hH
  by_cases h32 : L.length < 32
  · rw [if_pos h32] at hH ⊢
    have k := rvertex_core (H := z32) (M0 := L) (M := L) (e0 := 4) (e' := 4) (N := 0) (by decide) (by decide) h.lt hB hH
      (fun w1 ⟨K, h1, h2⟩ => (form_off h1 (by decide) 4294967296).mono fun e w' ⟨h3, h4⟩ => by subst h4; exact ⟨h3, ⟨K, h1, h2⟩, Chg.refl _ _⟩)
    rw [if_neg (by decide)] at k
    exact k
  · rw [if_neg h32] at hH ⊢
    have hl32 : (L.take 32).length = 32 := by rw [List.length_take]; omega
    have hF := fun w1 (h1 : QR B g (L.drop 32) 0 w1) => form_on h1 (hb.drop 32) (by rw [List.length_drop]; omega) 4294967296 (by decide)
    obtain ⟨N, R, E, hNRE⟩ : ∃ N R E, cutL (L.drop 32) 4294967296 = (N, R, E) := ⟨_, _, _, rfl⟩
    rw [hNRE] at hF hce ⊢
    simp only at hF hce ⊢
    rcases hce with ⟨rfl, hN⟩ | ⟨hE, rfl⟩
    · rw [if_pos rfl, if_pos rfl] at hF
      rw [if_neg (by simp)]
      have k := rvertex_core (H := L.take 32) (M0 := L.drop 32) (M := R) (e0 := 0) (e' := 0) (N := N) hl32 hN h.lt hB hH
        (fun w1 ⟨K, h1, h0⟩ => by
          obtain rfl := h0 rfl
          exact (hF w1 h1).mono fun e w' ⟨h2, h3, h4⟩ => ⟨h2, h3.e, h4⟩)
      rw [if_pos rfl] at k
      exact k
    · rw [if_neg hE, if_neg hE] at hF
      rw [if_pos hE]
      have k := rvertex_core (H := L.take 32) (M0 := L.drop 32) (M := L.drop 32) (e0 := 0) (e' := 4) (N := 0) hl32 (by decide) h.lt hB hH
        (fun w1 ⟨K, h1, h0⟩ => by
          obtain rfl := h0 rfl
          exact (hF w1 h1).mono fun e w' ⟨h2, h3, h4⟩ => ⟨h2, h3.e, h4⟩)
      rw [if_neg (by decide)] at k
      exact k.mono fun e w' ⟨h1, h2, h3⟩ => ⟨h1, h2.any (by decide), h3⟩
end Go.Proofs.Ytigfcmnknijobaa.Cod
