/- DERIVED. The contract of segment.Texts. -/
import Derived.Test.YtkjhoanlkkcfkaaGreatDoorMsgt1
import Derived.Test.YtkjhoanlkkcfkaaGreatDoorMseg18
namespace Go.Proofs.YtkjhoanlkkcfkaaGreatDoor.Sgm
open Go.RowKit Dsk Slt
set_option maxHeartbeats 1000000 in
theorem texts_any {w : World} {K : DK} {J : LK} {G : GK} {S : LS} {V : GV} (h : Sg w K J G S V) (hN : V.T.length ≤ 16384) : Calls Tryz.prog 20 #[G.ptr] w fun e w' => ∃ g, e = .returned (.slice (some ⟨g, 0, none⟩) V.T.length V.T.length) ∧ Slt.Rows w.heap.size V.T V.T.length V.T.length g w' ∧ Below w.heap.size w w' := by
  have Hm := Lib.hid (smade_any h)
  obtain ⟨_, _, _, _, _, c5, _⟩ := h.cells
  have hn := hN
  have H := Lib.hid h
  obtain ⟨A, c, hv⟩ := own_nilK h.tx.own
  have hown := h.tx.own
  rw [hv] at c5 hown
  unfold GK.ptr at *
  obtain ⟨n, hn'⟩ : ∃ n, n = V.T.length := ⟨_, rfl⟩
  rw [← hn'] at hn c5 hown ⊢
  have HN := Lib.hid hn'
  have Hown := Lib.hid hown
  obtain ⟨Cz, hCz, hmk⟩ := mk_slots n (by omega) w
  have hz : Slt.Rows w.heap.size V.T n 0 w.heap.size (w.alloc (.cells Cz 38)) := ⟨⟨Cz, Go.heap_alloc_new _ _, hCz, fun i hi => by omega⟩, Nat.le_refl _⟩
  have hb0 : Below w.heap.size w (w.alloc (.cells Cz 38)) := (Below.refl _ _).alloc (Nat.le_refl _) _
  have hgl := h.glt
  have c52 := (hb0.cell (p := ⟨G.g, 37, none⟩) hgl).trans c5
  have Hz := Lib.hid hz
  have Hb0 := Lib.hid hb0
  clear h hn' hv hown hCz hz hgl hb0
  obtain ⟨w1, hw1⟩ : ∃ w1, w1 = w.alloc (.cells Cz 38) := ⟨_, rfl⟩
  rw [← hw1] at hmk c52 Hz Hb0
  clear hw1
  go_enter Tryz.func20, Tryz.ntmps20
  go_wp2_with (first
    | (go_at_call 51; refine Hm.out.mono ?_; rintro e w' ⟨rfl, rfl⟩))
  go_loopw [20] (fun v wr => ∃ i : Nat, i ≤ n ∧ v = .int .i64 i ∧ Hid (Slt.Rows w.heap.size V.T n i w.heap.size wr ∧ Below w.heap.size w wr)) (fun v _ => n - (intOf v).toNat)
  case atStart => exact ⟨0, Nat.zero_le _, rfl, Hz.out, Hb0.out⟩
  case round =>
    obtain ⟨i, hi, rfl, hr⟩ := hrel
    by_cases hlt : i < n
    · have hltI : (i : Int) < (n : Int) := by omega
      obtain ⟨g, rfl, hcap, hg, hc⟩ := own_cellS Hown.out i hlt
      obtain ⟨A2, c2, e2, hB2⟩ := H.out.tx.txt i (by rw [← HN.out]; exact hlt)
      rw [e2] at hc
      have hcr := (hr.out.2.cell (p := ⟨g, i, none⟩) hg).trans hc
      have hcl := clone_sl (L := V.T.getD i []) ⟨A2, c2, rfl, hB2.below hr.out.2 (Nat.le_refl _)⟩ (by
        have hm : V.T.getD i [] ∈ V.T := by
          rw [List.getD_eq_getElem?_getD, List.getElem?_eq_getElem (by rw [← HN.out]; exact hlt), Option.getD_some]
          exact List.getElem_mem _
        have := (H.out.inb _ hm).2
        omega)
      have Hcl := Lib.hid hcl
      obtain ⟨m2, hm2⟩ : ∃ m2, m2 = (V.T.getD i []).length := ⟨_, rfl⟩
      rw [← hm2] at hcr Hcl
      have Hm2 := Lib.hid hm2
      clear hcl hc hB2 hm2 e2
      go_upto_region 7 with (fail)
      have Hr := Lib.hid (hr.out)
      clear hr
      go_wp2_with (go_at_call 38; refine Hcl.out.mono ?_; rintro e w2 ⟨v2, rfl, ho, hb⟩; obtain ⟨A3, c3, rfl⟩ := own_nilK ho; have Ho := Lib.hid ho; have Hb := Lib.hid hb; have hr2 := Hr.out.1.later hb; obtain ⟨⟨C2, hC2, _⟩, _⟩ := id hr2; have f2 := free_row hC2 i; have cc := cell_row hC2 i; have Hr2 := Lib.hid hr2; clear ho hb hr2 hC2)
      have hlt2 := Hr.out.1.lt
      have ho2 := Ho.out
      rw [Hm2.out] at ho2 ⊢
      refine ⟨⟨i + 1, by omega, by go_num, Hr2.out.next hlt (own_sl ho2 rfl) (fun q hq => by have := (ho2.lt q hq).1; have := Hr.out.2.size; omega), (Hr.out.2.trans (Hb.out.mono Hr.out.2.size)).setCell (Nat.le_refl _) _⟩, by simp [intOf]; omega⟩
    · have hltI : ¬ (i : Int) < (n : Int) := by omega
      obtain rfl : i = n := by omega
      go_wp2
      go_ret
      exact ⟨_, rfl, hr.out.1, hr.out.2⟩
end Go.Proofs.YtkjhoanlkkcfkaaGreatDoor.Sgm
