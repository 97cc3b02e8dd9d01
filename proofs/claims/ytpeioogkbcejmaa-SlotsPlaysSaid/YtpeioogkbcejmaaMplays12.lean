/- DERIVED. Texts of ours, merged: XRef9Cut. -/
import Derived.Test.YtpeioogkbcejmaaMplays11
import Derived.StillTailTactics
/- DERIVED. Layer 9's reference: Append, where the power goes at its first write (mkref9cut.py writes this text). -/
namespace Go.Proofs.Ytpeioogkbcejmaa.Slt
open Go.RowKit Dsk
theorem slotB_more (m : Int) (t : List Int) (k : Nat) (h : t.length + 5 ≤ k * 128) : slotB m t k ++ List.replicate 128 0 = slotB m t (k + 1) := by
  unfold slotB
  rw [show (k + 1) * 128 - 5 - t.length = (k * 128 - 5 - t.length) + 128 by omega, ← List.replicate_append_replicate]
  simp
theorem slotB_take (m : Int) (t : List Int) (k : Nat) (hk : 1 ≤ k) (h : t.length + 5 ≤ k * 128) : (slotB m t (k + 1)).take 128 = (slotB m t k).take 128 := by
  rw [← slotB_more m t k h, List.take_append_of_le_length (by rw [slotB_len _ _ _ h]; omega)]
theorem own_byt9 {w : World} {base n c : Nat} {A : Option Addr} {L : List Int} (h : w.ownsRow base 5 1 (.slice A n c) n (vals L)) (hl : L.length = n) : Byt w A c L := by
  obtain ⟨A', c', e, hB⟩ := own_sl h hl
  cases e
  exact hB
section
variable {w : World} {M : MK} {D : DS} {J : LK} {S : LS}
set_option maxRecDepth 100000 in
set_option maxHeartbeats 4000000 in
theorem rappend_cut_tight (hd : RD w M D) (h : RL w M J S) (A : Option Addr) (n c : Nat) (t : List Int) (htl : t.length = n) (hB : Byt w A c t) (ht : InB t) (hl : S.lost = false) (ho : D.off = false) (hn : n ≤ 262144) (hf : S.used + tk n = S.secs) (hend : (S.from_ + S.secs) * 128 ≤ D.data.length) (hmost : D.data.length ≤ 2097152)
    (e0 : ¬ (runD D (S.from_ + S.used) (slotB 0 t (tk n)) 0 (tk n)).2 = 0) :
    Calls Try.prog 25 #[.pointer (some ⟨J.g, 0, none⟩), .slice A n c] w fun e w' => e = .returned (.int .i64 (runD D (S.from_ + S.used) (slotB 0 t (tk n)) 0 (tk n)).2) ∧ RAppQ w w' M J J (runD D (S.from_ + S.used) (slotB 0 t (tk n)) 0 (tk n)).1 { S with lost := true } := by
  have hfit := tk_fit n
  have htk : tk n ≤ 2100 := by unfold tk; omega
  have htp := tk_pos n
  have hse := h.end_
  have hMw : ∀ q ∈ M.bl, q < w.heap.size := by
    intro q hq; simp [MK.bl] at hq
    rcases hq with rfl | rfl
    · exact hd.glt
    · exact hd.blt
  obtain ⟨p, hp⟩ : ∃ p, p = S.from_ + S.used := ⟨_, rfl⟩
  rw [← hp] at e0 ⊢
  have hlb : (slotB 0 t (tk n)).length = (tk n) * 128 := slotB_len _ _ _ (by omega)
  have Hw1 := Lib.hid (fun (w1 : World) (A1 : Option Addr) (c1 : Nat) (hb : Below w.heap.size w w1) (ho1 : w1.ownsRow w.heap.size 5 1 (.slice A1 ((tk n) * 128) c1) ((tk n) * 128) (vals (slotB 0 t (tk n)))) => rwrite_any (w := w1) (hd.later hb) ho p (tk n) ((tk n) * 128) A1 c1 (slotB 0 t (tk n)) rfl hlb (slotB_in (by omega) ht) (by omega) (own_byt9 ho1 hlb) (fun _ a ha hm => by have := (ho1.lt a.block (by rw [ha]; rfl)).1; have := hMw _ hm; omega) hmost)
  obtain ⟨R, hR⟩ : ∃ R, R = runD D p (slotB 0 t (tk n)) 0 (tk n) := ⟨_, rfl⟩
  rw [← hR] at Hw1 e0 ⊢
  obtain ⟨er, her⟩ : ∃ er, er = R.2 := ⟨_, rfl⟩
  rw [← her] at Hw1 e0 ⊢
  have Ht := Lib.hid (fun w' : World => taken_any n hn w')
  have Hslot := Lib.hid (fun (w1 : World) (hb : Below w.heap.size w w1) => rslot_any (w := w1) A n c t 0 htl hn (hB.below hb (Nat.le_refl _)))
  have Hmore := Lib.hid (slotB_more 0 t (tk n) (by omega))
  obtain ⟨z, hz⟩ : ∃ z : Nat, z = 128 := ⟨_, rfl⟩
  rw [← hz] at Hmore
  have hzI : Value.int .i64 128 = Value.int .i64 (z : Int) := by rw [hz]; rfl
  have Hz := Lib.hid hz
  have HzI := Lib.hid hzI
  clear hz hzI
  obtain ⟨wh, m, hrow, _⟩ := hd.row
  have d1 := (rowR_cells hrow).2.1
  rw [ho] at d1
  obtain ⟨c0, cF, cS, _, cU, cL⟩ := h.cells
  rw [hl] at cL
  have H := Lib.hid h
  have HjM := Lib.hid (h.kap J.g (by simp [LK.bl]))
  obtain ⟨f0, hf0⟩ : ∃ f0, f0 = S.from_ := ⟨_, rfl⟩
  obtain ⟨s0, hs0⟩ : ∃ s0, s0 = S.secs := ⟨_, rfl⟩
  obtain ⟨u0, hu0⟩ : ∃ u0, u0 = S.used := ⟨_, rfl⟩
  obtain ⟨k, hk⟩ : ∃ k, k = tk n := ⟨_, rfl⟩
  rw [← hf0] at cF hse hp
  rw [← hs0] at cS hse hf
  rw [← hu0] at cU hf hp
  rw [← hk] at Ht Hslot Hw1 Hmore hf htk htp
  have Hf0 := Lib.hid hf0
  have Hs0 := Lib.hid hs0
  have Hu0 := Lib.hid hu0
  have hnI : (n : Int) ≤ 262144 := by omega
  have hw1 : IntKind.i64.wrap ((u0 : Int) + (k : Int)) = (u0 : Int) + (k : Int) := by rw [IntKind.wrap_i64]; omega
  have hw2 : IntKind.i64.wrap ((f0 : Int) + (u0 : Int)) = (p : Int) := by rw [IntKind.wrap_i64]; omega
  have hfI : ¬ (s0 : Int) < (u0 : Int) + (k : Int) := by omega
  have hgI : ¬ (u0 : Int) + (k : Int) < (s0 : Int) := by omega
  clear hd h hB ht htl ho hl hend hmost hMw hlb hrow hR her hf0 hs0 hu0 hk hp hse hfit
  go_enter Try.func25, Try.ntmps25
  go_upto_region 6 with (go_at_call 40; refine (Ht.out _).mono ?_; rintro e w' ⟨rfl, rfl⟩)
  go_quiet (fail)
  go_upto_region 9 with (go_at_call 41; refine (Hslot.out _ (Below.drewN (Below.refl _ _) nq)).mono ?_; rintro e w1 ⟨v1, rfl, hown1, hb1⟩; obtain ⟨A1, c1, hv1⟩ := own_nilK hown1; subst hv1; have Hb1 := Lib.hid ((Below.drewN (Below.refl w.heap.size w) nq).trans (hb1.mono (Below.drewN (Below.refl w.heap.size w) nq).size)); have Own1 := Lib.hid (own_lower hown1 (Below.drewN (Below.refl w.heap.size w) nq).size); clear hown1 hb1)
  clear c0 cF cS cU cL d1
  obtain ⟨c0, cF, cS, _, cU, cL⟩ := (H.out.later Hb1.out).cells
  rw [← Hf0.out] at cF
  rw [← Hs0.out] at cS
  rw [← Hu0.out] at cU
  clear cL
  go_quiet (fail)
  go_upto_region 11 with (fail)
  have Low2 := Lib.hid (Below.drewN Hb1.out nq)
  have Own2 := Lib.hid (own_stays Own1.out (Below.drewN (Below.refl _ _) nq))
  clear Own1 Hb1 c0 cF cS cU
  generalize w1.drewN nq = w2 at Low2 Own2 ⊢
  have hlow3 := Low2.out.drew
  have own3 := own_stays Own2.out (Below.refl _ _).drew
  refine wp_region_still_tail 14 (by kernel_rfl) (by kernel_rfl) ?_
  simp only [List.take_succ_cons, List.take_zero, List.drop_succ_cons, List.drop_zero]
  change wpStill _ _ w2.drew _ _ _
  have Hlow3 := Lib.hid hlow3
  have Own3 := Lib.hid own3
  clear hlow3 own3 Own2
  have rl2 := H.out.later Low2.out
  have c0 : w2.drew.cell? ⟨J.g, 0, none⟩ = some (.pointer (some ⟨M.g, 0, none⟩)) := rl2.cells.1
  have cF : w2.drew.cell? ⟨J.g, 1, none⟩ = some (.int .i64 f0) := by rw [Hf0.out]; exact rl2.cells.2.1
  have cU : w2.drew.cell? ⟨J.g, 4, none⟩ = some (.int .i64 u0) := by rw [Hu0.out]; exact rl2.cells.2.2.2.2.1
  clear rl2 Low2
  repeat (refine wpStill_step (fun K hK => ?_); go_simp; refine hK _ ?_; clear hK K)
  refine wpStill_nil ?_
  change wpList _ _ _ _ _ w2.drew
  go_upto_region 15 with (go_at_call 42; refine (Hw1.out _ _ _ Hlow3.out Own3.out).mono ?_; rintro e w4 ⟨rfl, hd4, hc4⟩; have Hd4 := Lib.hid hd4; have Hc4 := Lib.hid ((Chg.of_below Hlow3.out).trans hc4); clear hd4 hc4)
  have hl4 := H.out.disk Hc4.out
  have c5 := hl4.cells.2.2.2.2.2
  have f5 := free_row hl4.row 5
  have Hl4 := Lib.hid hl4
  clear hl4 c0 cF cU
  go_wp2
  go_ret
  have hc5 : Chg [J.g] w4 (w4.setCell ⟨J.g, 5, none⟩ (.bool true)) := (Chg.refl _ _).setCell (by simp) _
  exact ⟨rfl, Hd4.out.chg hc5 (fun q hq hm => HjM.out (by simp at hm; rw [← hm]; exact hq)), Hl4.out.lose hc5 (by rw [heap_setCell_same _ _ _ _ _ _ Hl4.out.row, rowRL_lost]), rfl, (Hc4.out.mono (fun x hx => .inl (List.mem_append_left _ hx))).trans (hc5.mono (fun x hx => .inl (List.mem_append_right _ (by simp at hx; subst hx; simp [LK.bl])))), fun x hx => .inl hx, fun x hx => .inl hx⟩
set_option maxRecDepth 100000 in
set_option maxHeartbeats 4000000 in
theorem rappend_cut_room (hd : RD w M D) (h : RL w M J S) (A : Option Addr) (n c : Nat) (t : List Int) (htl : t.length = n) (hB : Byt w A c t) (ht : InB t) (hl : S.lost = false) (ho : D.off = false) (hn : n ≤ 262144) (hf : S.used + tk n < S.secs) (hend : (S.from_ + S.secs) * 128 ≤ D.data.length) (hmost : D.data.length ≤ 2097152)
    (e0 : ¬ (runD D (S.from_ + S.used) (slotB 0 t (tk n + 1)) 0 (tk n + 1)).2 = 0) :
    Calls Try.prog 25 #[.pointer (some ⟨J.g, 0, none⟩), .slice A n c] w fun e w' => e = .returned (.int .i64 (runD D (S.from_ + S.used) (slotB 0 t (tk n + 1)) 0 (tk n + 1)).2) ∧ RAppQ w w' M J J (runD D (S.from_ + S.used) (slotB 0 t (tk n + 1)) 0 (tk n + 1)).1 { S with lost := true } := by
  have hfit := tk_fit n
  have htk : tk n ≤ 2100 := by unfold tk; omega
  have htp := tk_pos n
  have hse := h.end_
  have hMw : ∀ q ∈ M.bl, q < w.heap.size := by
    intro q hq; simp [MK.bl] at hq
    rcases hq with rfl | rfl
    · exact hd.glt
    · exact hd.blt
  obtain ⟨p, hp⟩ : ∃ p, p = S.from_ + S.used := ⟨_, rfl⟩
  rw [← hp] at e0 ⊢
  have hlb : (slotB 0 t (tk n + 1)).length = (tk n + 1) * 128 := slotB_len _ _ _ (by omega)
  have Hw1 := Lib.hid (fun (w1 : World) (A1 : Option Addr) (c1 : Nat) (hb : Below w.heap.size w w1) (ho1 : w1.ownsRow w.heap.size 5 1 (.slice A1 ((tk n + 1) * 128) c1) ((tk n + 1) * 128) (vals (slotB 0 t (tk n + 1)))) => rwrite_any (w := w1) (hd.later hb) ho p (tk n + 1) ((tk n + 1) * 128) A1 c1 (slotB 0 t (tk n + 1)) rfl hlb (slotB_in (by omega) ht) (by omega) (own_byt9 ho1 hlb) (fun _ a ha hm => by have := (ho1.lt a.block (by rw [ha]; rfl)).1; have := hMw _ hm; omega) hmost)
  obtain ⟨R, hR⟩ : ∃ R, R = runD D p (slotB 0 t (tk n + 1)) 0 (tk n + 1) := ⟨_, rfl⟩
  rw [← hR] at Hw1 e0 ⊢
  obtain ⟨er, her⟩ : ∃ er, er = R.2 := ⟨_, rfl⟩
  rw [← her] at Hw1 e0 ⊢
  have Ht := Lib.hid (fun w' : World => taken_any n hn w')
  have Hslot := Lib.hid (fun (w1 : World) (hb : Below w.heap.size w w1) => rslot_any (w := w1) A n c t 0 htl hn (hB.below hb (Nat.le_refl _)))
  have Hmore := Lib.hid (slotB_more 0 t (tk n) (by omega))
  obtain ⟨z, hz⟩ : ∃ z : Nat, z = 128 := ⟨_, rfl⟩
  rw [← hz] at Hmore
  have hzI : Value.int .i64 128 = Value.int .i64 (z : Int) := by rw [hz]; rfl
  have Hz := Lib.hid hz
  have HzI := Lib.hid hzI
  clear hz hzI
  obtain ⟨wh, m, hrow, _⟩ := hd.row
  have d1 := (rowR_cells hrow).2.1
  rw [ho] at d1
  obtain ⟨c0, cF, cS, _, cU, cL⟩ := h.cells
  rw [hl] at cL
  have H := Lib.hid h
  have HjM := Lib.hid (h.kap J.g (by simp [LK.bl]))
  obtain ⟨f0, hf0⟩ : ∃ f0, f0 = S.from_ := ⟨_, rfl⟩
  obtain ⟨s0, hs0⟩ : ∃ s0, s0 = S.secs := ⟨_, rfl⟩
  obtain ⟨u0, hu0⟩ : ∃ u0, u0 = S.used := ⟨_, rfl⟩
  obtain ⟨k, hk⟩ : ∃ k, k = tk n := ⟨_, rfl⟩
  rw [← hf0] at cF hse hp
  rw [← hs0] at cS hse hf
  rw [← hu0] at cU hf hp
  rw [← hk] at Ht Hslot Hw1 Hmore hf htk htp
  have Hf0 := Lib.hid hf0
  have Hs0 := Lib.hid hs0
  have Hu0 := Lib.hid hu0
  have hnI : (n : Int) ≤ 262144 := by omega
  have hw1 : IntKind.i64.wrap ((u0 : Int) + (k : Int)) = (u0 : Int) + (k : Int) := by rw [IntKind.wrap_i64]; omega
  have hw2 : IntKind.i64.wrap ((f0 : Int) + (u0 : Int)) = (p : Int) := by rw [IntKind.wrap_i64]; omega
  have hfI : ¬ (s0 : Int) < (u0 : Int) + (k : Int) := by omega
  have hgI : (u0 : Int) + (k : Int) < (s0 : Int) := by omega
  clear hd h hB ht htl ho hl hend hmost hMw hlb hrow hR her hf0 hs0 hu0 hk hp hse hfit
  go_enter Try.func25, Try.ntmps25
  go_upto_region 6 with (go_at_call 40; refine (Ht.out _).mono ?_; rintro e w' ⟨rfl, rfl⟩)
  go_quiet (fail)
  go_upto_region 9 with (go_at_call 41; refine (Hslot.out _ (Below.drewN (Below.refl _ _) nq)).mono ?_; rintro e w1 ⟨v1, rfl, hown1, hb1⟩; obtain ⟨A1, c1, hv1⟩ := own_nilK hown1; subst hv1; have Hb1 := Lib.hid ((Below.drewN (Below.refl w.heap.size w) nq).trans (hb1.mono (Below.drewN (Below.refl w.heap.size w) nq).size)); have Own1 := Lib.hid (own_lower hown1 (Below.drewN (Below.refl w.heap.size w) nq).size); clear hown1 hb1)
  clear c0 cF cS cU cL d1
  obtain ⟨c0, cF, cS, _, cU, cL⟩ := (H.out.later Hb1.out).cells
  rw [← Hf0.out] at cF
  rw [← Hs0.out] at cS
  rw [← Hu0.out] at cU
  clear cL
  go_quiet (fail)
  have Low1 := Lib.hid (Below.drewN Hb1.out nq)
  have Own1b := Lib.hid (own_stays Own1.out (Below.drewN (Below.refl _ _) nq))
  clear Own1 Hb1 c0 cF cS cU
  generalize w1.drewN nq = wa at Low1 Own1b ⊢
  have hbs := Low1.out.size
  have hzp : 0 < z := by have := Hz.out; omega
  have hkp : 0 < k * 128 := by omega
  have hsm : k * 128 + z ≤ 4294967296 := by have := Hz.out; omega
  have hkz : k * 128 + z = (k + 1) * 128 := by have := Hz.out; omega
  go_upto_region 11 with (at_builtin; refine wpList_append_zeros rfl (.tmp 52) (.const (.int .i64 128)) rfl w.heap.size _ (k * 128) (slotB 0 t k) rfl Own1b.out hkp z HzI.out hzp hsm hbs ?_; intro v2 w2 hown2 hlow2; rw [hkz, Hmore.out] at hown2; obtain ⟨A2, c2, hv2⟩ := own_nilK hown2; subst hv2; have Low2 := Lib.hid (hlow2 _ _ Low1.out (Nat.le_refl _)); have Own2 := Lib.hid hown2; clear hown2 hlow2)
  clear Own1b Low1
  have hlow3 := Low2.out.drew
  have own3 := own_stays Own2.out (Below.refl _ _).drew
  refine wp_region_still_tail 14 (by kernel_rfl) (by kernel_rfl) ?_
  simp only [List.take_succ_cons, List.take_zero, List.drop_succ_cons, List.drop_zero]
  change wpStill _ _ w2.drew _ _ _
  have Hlow3 := Lib.hid hlow3
  have Own3 := Lib.hid own3
  clear hlow3 own3 Own2
  have rl2 := H.out.later Low2.out
  have c0 : w2.drew.cell? ⟨J.g, 0, none⟩ = some (.pointer (some ⟨M.g, 0, none⟩)) := rl2.cells.1
  have cF : w2.drew.cell? ⟨J.g, 1, none⟩ = some (.int .i64 f0) := by rw [Hf0.out]; exact rl2.cells.2.1
  have cU : w2.drew.cell? ⟨J.g, 4, none⟩ = some (.int .i64 u0) := by rw [Hu0.out]; exact rl2.cells.2.2.2.2.1
  clear rl2 Low2
  repeat (refine wpStill_step (fun K hK => ?_); go_simp; refine hK _ ?_; clear hK K)
  refine wpStill_nil ?_
  change wpList _ _ _ _ _ w2.drew
  go_upto_region 15 with (go_at_call 42; refine (Hw1.out _ _ _ Hlow3.out Own3.out).mono ?_; rintro e w4 ⟨rfl, hd4, hc4⟩; have Hd4 := Lib.hid hd4; have Hc4 := Lib.hid ((Chg.of_below Hlow3.out).trans hc4); clear hd4 hc4)
  have hl4 := H.out.disk Hc4.out
  have c5 := hl4.cells.2.2.2.2.2
  have f5 := free_row hl4.row 5
  have Hl4 := Lib.hid hl4
  clear hl4 c0 cF cU
  go_wp2
  go_ret
  have hc5 : Chg [J.g] w4 (w4.setCell ⟨J.g, 5, none⟩ (.bool true)) := (Chg.refl _ _).setCell (by simp) _
  exact ⟨rfl, Hd4.out.chg hc5 (fun q hq hm => HjM.out (by simp at hm; rw [← hm]; exact hq)), Hl4.out.lose hc5 (by rw [heap_setCell_same _ _ _ _ _ _ Hl4.out.row, rowRL_lost]), rfl, (Hc4.out.mono (fun x hx => .inl (List.mem_append_left _ hx))).trans (hc5.mono (fun x hx => .inl (List.mem_append_right _ (by simp at hx; subst hx; simp [LK.bl])))), fun x hx => .inl hx, fun x hx => .inl hx⟩
end
end Go.Proofs.Ytpeioogkbcejmaa.Slt
