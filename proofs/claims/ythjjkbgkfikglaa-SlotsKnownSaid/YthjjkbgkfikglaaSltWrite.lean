/- DERIVED. The contract of slots.Log.write. -/
import Derived.Test.YthjjkbgkfikglaaSltAll
import Derived.Test.YthjjkbgkfikglaaSltMath
namespace Go.Proofs.Ythjjkbgkfikglaa.Slt
open Go.RowKit Dsk
theorem slotB_mark (t : List Int) (k : Nat) : (vals (slotB 0 t k)).toArray.setIfInBounds 0 (.int .u8 1) = (vals (slotB 1 t k)).toArray := by
  simp [slotB, vals]
theorem row_byt {w : World} {g : Nat} {L : List Int} (h : w.heap[g]? = some (.cells (vals L).toArray 5 (0, 0))) (c : Nat) (hc : L.length ≤ c) : Byt w (some ⟨g, 0, none⟩) c L :=
  ⟨hc, (fun h => by cases h), fun _ => ⟨g, 0, rfl, (Array.getElem?_eq_some_iff.1 h).1, fun j hj => by rw [Nat.zero_add, cell_row h]; simp [vals, hj]⟩⟩
theorem run_first {k n F : Nat} (hF : tk n ≤ F) (hk : k = firstK n F) : tk n ≤ k ∧ k ≤ F ∧ n + 5 ≤ k * 128 := by
  have h1 := tk_fit n
  subst hk
  unfold firstK
  omega
set_option maxRecDepth 100000 in
set_option maxHeartbeats 2000000 in
theorem lwrite_any {w : World} {K : DK} {D : DS} {J : LK} {S : LS} (hd : Dsk w K D) (h : Lg w K J S) (A : Option Addr) (n c : Nat) (t : List Int) (hl : t.length = n) (hn : n ≤ 262144) (hB : Byt w A c t) (ht : InB t) (hF : S.used + tk n ≤ S.secs) (hend : S.from_ + S.secs ≤ D.secs) (ho : D.off = false) (hw : D.writes ≤ 576460752303423488) :
    Calls Try.prog 33 #[J.ptr, .slice A n c] w fun e w' => e = .returned (.int .i64 (writD D (S.from_ + S.used) t (firstK n (S.secs - S.used))).2) ∧ Dsk w' K (writD D (S.from_ + S.used) t (firstK n (S.secs - S.used))).1 ∧ Chg K.bl w w' := by
  have hFs : tk n ≤ S.secs - S.used := by omega
  have h16 : S.secs - S.used ≤ 16384 := by have := h.end_; omega
  have hfree := fun (w1 : World) (hb : Below w.heap.size w w1) => free_any (w := w1) (h.later hb)
  obtain ⟨F, hFe⟩ : ∃ F, F = S.secs - S.used := ⟨_, rfl⟩
  rw [← hFe] at hFs h16 hfree ⊢
  obtain ⟨k, hk⟩ : ∃ k, k = firstK n F := ⟨_, rfl⟩
  have hslot := fun (w1 : World) (h1 : Byt w1 A c t) => slotOf_any (w := w1) A n c F t hl hn h1 hFs h16
  rw [← hk] at hslot ⊢
  obtain ⟨hk1, hk2, hk3⟩ := run_first hFs hk
  obtain ⟨_, c1, c2, _, c4, _, _⟩ := h.cells
  obtain ⟨p, hp⟩ : ∃ p, p = S.from_ + S.used := ⟨_, rfl⟩
  have hpI : ((p : Nat) : Int) = (S.from_ : Int) + (S.used : Int) := by omega
  have hpk : p + k ≤ D.secs := by omega
  have hdl := hd.ok.whole128
  have hpd : (p + k) * 128 ≤ D.data.length := by omega
  have hp16 : p ≤ 16384 := by have := h.end_; omega
  rw [← hp]
  have hlb : (slotB 0 t k).length = k * 128 := slotB_len _ _ _ (by omega)
  have hq := run_q p (slotB 0 t k) k 0 D ho (by omega) (by omega)
  have hgK : ∀ q ∈ K.bl, q < w.heap.size := by
    intro q hq; simp [DK.bl] at hq
    rcases hq with rfl | rfl
    · exact hd.glt
    · exact hd.hlt
  have hJK : J.g ∉ K.bl := h.kap _ (by simp [LK.bl])
  have hwr1 : ∀ (w1 : World) (g : Nat), Below w.heap.size w w1 → w.heap.size ≤ g → w1.heap[g]? = some (.cells (vals (slotB 0 t k)).toArray 5 (0, 0)) → Calls Try.prog 44 #[K.ptr, .int .i64 p, .slice (some ⟨g, 0, none⟩) (k * 128) (k * 128)] w1 fun e w' => e = .returned (.int .i64 (runD D p (slotB 0 t k) 0 k).2) ∧ Dsk w' K (runD D p (slotB 0 t k) 0 k).1 ∧ Chg K.bl w1 w' :=
    fun w1 g hb hg hr => write_ok (hd.chg (S := []) ⟨hb.os, hb.tape, hb.output, hb.size, fun q hq _ => hb.block q hq⟩ (by simp) (by simp)) p k (k * 128) hpk ho _ _ (slotB 0 t k) rfl hlb (slotB_in (by omega) ht) (row_byt hr _ (by rw [hlb]; omega)) (fun a ha hm => by cases ha; have : g < w.heap.size := hgK _ hm; omega) (by omega)
  obtain ⟨s0, hs0⟩ : ∃ s0, s0 = S.from_ := ⟨_, rfl⟩
  obtain ⟨u0, hu0⟩ : ∃ u0, u0 = S.used := ⟨_, rfl⟩
  rw [← hs0] at c2 hpI
  rw [← hu0] at c4 hpI
  have hs16 : s0 ≤ 16384 := by have := h.end_; omega
  have hu16 : u0 ≤ 16384 := by have := h.fit; have := h.end_; omega
  have hkk : k * 128 ≤ 2097152 := by omega
  have hk128 : 128 ≤ k * 128 := by have := tk_pos n; omega
  have hk128I : (128 : Int) ≤ (k : Int) * 128 := by omega
  have Hfree := Lib.hid hfree
  have Hslot := Lib.hid hslot
  have Hwr1 := Lib.hid hwr1
  have HpI := Lib.hid hpI
  have HB := Lib.hid hB
  have Hlb := Lib.hid hlb
  have Hq := Lib.hid hq
  have Hgl := Lib.hid h.glt
  have HgK := Lib.hid hgK
  have HJK := Lib.hid hJK
  have Hht := Lib.hid ht
  have Hpk := Lib.hid hpk
  have Hk3 := Lib.hid hk3
  have Hl := Lib.hid hl
  have C1 := Lib.hid c1
  have Hww := Lib.hid hw
  have Hdd := Lib.hid hdl
  unfold LK.ptr DK.ptr at *
  by_cases e0 : (runD D p (slotB 0 t k) 0 k).2 = 0
  · have hz := hq.on e0
    have hwr2 : ∀ (w1 : World) (g cc : Nat), Dsk w1 K (runD D p (slotB 0 t k) 0 k).1 → w.heap.size ≤ g → w1.heap[g]? = some (.cells (vals (slotB 1 t k)).toArray 5 (0, 0)) → 128 ≤ cc → Calls Try.prog 44 #[.pointer (some ⟨K.g, 0, none⟩), .int .i64 p, .slice (some ⟨g, 0, none⟩) 128 cc] w1 fun e w' => e = .returned (.int .i64 (writD D p t k).2) ∧ Dsk w' K (writD D p t k).1 ∧ Chg K.bl w1 w' := by
      intro w1 g cc hd1 hg hr hcc
      rw [writD_yes e0]
      have hb1 : Byt w1 (some ⟨g, 0, none⟩) cc ((slotB 1 t k).take 128) := by
        refine ⟨by rw [take128_len _ _ _ (by omega)]; exact hcc, (fun h => by cases h), fun _ => ⟨g, 0, rfl, (Array.getElem?_eq_some_iff.1 hr).1, fun j hj => ?_⟩⟩
        rw [take128_len _ _ _ (by omega)] at hj
        have hlb1 := slotB_len 1 t k (by omega)
        rw [Nat.zero_add, cell_row hr, getD_take' hj]
        simp [vals, show j < (slotB 1 t k).length by omega]
      exact write_ok hd1 p 1 128 (by rw [hq.secs]; omega) hz _ _ _ rfl (take128_len _ _ _ (by omega)) ((slotB_in (by omega) ht).take _) hb1 (fun a ha hm => by cases ha; have : g < w.heap.size := hgK _ hm; omega) (by have := hq.wr; omega)
    have Hwr2 := Lib.hid hwr2
    have E0 := Lib.hid e0
    clear hfree hslot hwr1 hpI hB hlb hq hgK hJK ht hpk hk3 hl c1 hw hdl hd h hF hend ho hwr2 hz e0 hFs h16 hFe hk hk1 hk2 hpd hp hs0 hu0
    have hwr1' := Hwr1.out
    rw [E0.out] at hwr1'
    have Hwr1 := Lib.hid hwr1'
    clear hwr1'
    go_enter Try.func33, Try.ntmps33
    go_upto_region 1 with (fail)
    go_quiet (fail)
    go_upto_region 6 with (first
      | (go_at_call 32; refine (Hfree.out _ (Below.drewN (Below.refl _ _) nq)).mono ?_; rintro e w1 ⟨rfl, hb1⟩; have Hb1 := Lib.hid ((Below.drewN (Below.refl w.heap.size w) nq).trans hb1); clear hb1)
      | (go_at_call 43; refine (Hslot.out w1 (HB.out.below Hb1.out (Nat.le_refl _))).mono ?_; rintro e w2 ⟨g, rfl, hr2, hg2, hb2⟩; have c12 := ((Hb1.out.trans (hb2.mono Hb1.out.size)).cell (p := ⟨J.g, 1, none⟩) Hgl.out).trans C1.out; have Hb2 := Lib.hid (Hb1.out.trans (hb2.mono Hb1.out.size)); have Hr2 := Lib.hid hr2; have Hg2 := Lib.hid (Nat.le_trans Hb1.out.size hg2); clear hr2 hg2 hb2)
      | (go_at_call 44; rw [← HpI.out]; refine (Hwr1.out w2 g Hb2.out Hg2.out Hr2.out).mono ?_; rintro e w3 ⟨rfl, hd3, hc3⟩; have Hd3 := Lib.hid hd3; have Hc3 := Lib.hid hc3; clear hd3 hc3))
    have hgn : g ∉ K.bl := fun hm => by have : g < w.heap.size := HgK.out _ hm; have := Hg2.out; omega
    have hr3 := Hc3.out.at Hr2.out hgn
    have c0 : w3.cell? ⟨g, 0, none⟩ = some (.int .u8 0) := (cell_row hr3 0).trans (by simp [slotB, vals])
    have f0 := free_row hr3 0
    have Hr3 := Lib.hid hr3
    have hlow3 := Hc3.out
    clear hr3
    go_upto_region 7 with (fail)
    have hr4 : (w3.setCell ⟨g, 0, none⟩ (.int .u8 1)).heap[g]? = some (.cells (vals (slotB 1 t k)).toArray 5 (0, 0)) := by
      rw [heap_setCell_same _ _ _ _ _ _ Hr3.out, slotB_mark]
    have hc34 : Chg [g] w3 (w3.setCell ⟨g, 0, none⟩ (.int .u8 1)) := (Chg.refl _ _).setCell (by simp) _
    have hd4 := (Hd3.out.chg hc34 (fun hm => by simp at hm; exact hgn (by simp [DK.bl, hm])) (fun hm => by simp at hm; exact hgn (by simp [DK.bl, hm]))).later (Below.refl _ _).drew
    have hjg : J.g < w2.heap.size := Nat.lt_of_lt_of_le Hgl.out Hb2.out.size
    have c14 : (w3.setCell ⟨g, 0, none⟩ (.int .u8 1)).drew.cell? ⟨J.g, 1, none⟩ = some (.pointer (some ⟨K.g, 0, none⟩)) := by
      have e1 := World.cell?_of_block (a := ⟨J.g, 1, none⟩) (Hc3.out.block J.g hjg HJK.out)
      have e2 := World.cell?_of_block (a := ⟨J.g, 1, none⟩) (hc34.block J.g (Nat.lt_of_lt_of_le hjg Hc3.out.size) (fun hm => by simp at hm; have := Hgl.out; have := Hg2.out; omega))
      exact (e2.trans e1).trans c12
    have hr4' : (w3.setCell ⟨g, 0, none⟩ (.int .u8 1)).drew.heap[g]? = some (.cells (vals (slotB 1 t k)).toArray 5 (0, 0)) := hr4
    have hch : Chg (g :: K.bl) w2 (w3.setCell ⟨g, 0, none⟩ (.int .u8 1)).drew := ((Hc3.out.mono (fun q hq => .inl (by simp [hq]))).trans (hc34.mono (fun q hq => .inl (by simp at hq; simp [hq])))).trans (Chg.of_below (Below.refl _ _).drew)
    have hcw := Hc3.out
    refine wp_region_still_tail 7 (by kernel_rfl) (by kernel_rfl) ?_
    simp only [List.take_succ_cons, List.take_zero, List.drop_succ_cons, List.drop_zero]
    change wpStill _ _ (w3.setCell ⟨g, 0, none⟩ (.int .u8 1)).drew _ _ _
    have Hd5 := Lib.hid hd4
    have Hr5 := Lib.hid hr4'
    have Hch := Lib.hid hch
    clear hr4 hc34 hd4 hr4' hch c12
    repeat (refine wpStill_step (fun K hK => ?_); go_simp; refine hK _ ?_; clear hK K)
    refine wpStill_nil ?_
    change wpList _ _ _ _ _ (w3.setCell ⟨g, 0, none⟩ (.int .u8 1)).drew
    generalize (w3.setCell ⟨g, 0, none⟩ (.int .u8 1)).drew = w5 at Hd5 Hr5 Hch c14 ⊢
    go_wp2_with (go_at_call 44; refine (Hwr2.out w5 g (k * 128) Hd5.out Hg2.out Hr5.out hk128).mono ?_; rintro e w6 ⟨rfl, hd6, hc6⟩; have Hd6 := Lib.hid hd6; have Hc6 := Lib.hid hc6; clear hd6 hc6)
    go_ret
    refine ⟨rfl, Hd6.out, ?_⟩
    exact (((Chg.of_below Hb2.out).trans Hch.out).mono (fun q hq => by
      rcases List.mem_cons.1 hq with rfl | hq
      · exact .inr Hg2.out
      · exact .inl hq)).trans Hc6.out
  · have E0 := Lib.hid e0
    have hwd : writD D p t k = runD D p (slotB 0 t k) 0 k := writD_no e0
    rw [hwd]
    obtain ⟨R, hR⟩ : ∃ R, R = runD D p (slotB 0 t k) 0 k := ⟨_, rfl⟩
    rw [← hR] at Hwr1 E0 ⊢
    obtain ⟨er, her⟩ : ∃ er, er = R.2 := ⟨_, rfl⟩
    rw [← her] at Hwr1 E0 ⊢
    have e12 : ¬ er = 0 := E0.out
    clear her
    clear hfree hslot hwr1 hpI hB hlb hq hgK hJK ht hpk hk3 hl c1 hw hdl hd h hF hend ho e0 hFs h16 hFe hk hk1 hk2 hpd hp hs0 hu0 hwd hR Hq E0
    go_enter Try.func33, Try.ntmps33
    go_upto_region 1 with (fail)
    go_quiet (fail)
    go_wp2_with (first
      | (go_at_call 32; refine (Hfree.out _ (Below.drewN (Below.refl _ _) nq)).mono ?_; rintro e w1 ⟨rfl, hb1⟩; have Hb1 := Lib.hid ((Below.drewN (Below.refl w.heap.size w) nq).trans hb1); clear hb1)
      | (go_at_call 43; refine (Hslot.out w1 (HB.out.below Hb1.out (Nat.le_refl _))).mono ?_; rintro e w2 ⟨g, rfl, hr2, hg2, hb2⟩; have c12 := ((Hb1.out.trans (hb2.mono Hb1.out.size)).cell (p := ⟨J.g, 1, none⟩) Hgl.out).trans C1.out; have Hb2 := Lib.hid (Hb1.out.trans (hb2.mono Hb1.out.size)); have Hr2 := Lib.hid hr2; have Hg2 := Lib.hid (Nat.le_trans Hb1.out.size hg2); clear hr2 hg2 hb2)
      | (go_at_call 44; rw [← HpI.out]; refine (Hwr1.out w2 g Hb2.out Hg2.out Hr2.out).mono ?_; rintro e w3 ⟨rfl, hd3, hc3⟩; have Hd3 := Lib.hid hd3; have Hc3 := Lib.hid hc3; clear hd3 hc3))
    go_ret
    exact ⟨rfl, Hd3.out, (Chg.of_below Hb2.out).trans Hc3.out⟩
end Go.Proofs.Ythjjkbgkfikglaa.Slt
