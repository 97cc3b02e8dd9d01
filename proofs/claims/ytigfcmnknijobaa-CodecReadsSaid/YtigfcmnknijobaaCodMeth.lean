/- DERIVED. The contracts of Reader.Text, Hash, Label, Vertex. Written by mkmeth.py. -/
import Derived.Test.YtigfcmnknijobaaCodReadLabel
namespace Go.Proofs.Ytigfcmnknijobaa.Cod
open Go.RowKit Str
theorem hashR_len (L : List Int) : (hashR L).1.length = 32 := by unfold hashR; split; rfl; rw [List.length_take]; omega
theorem vertexR_len (L : List Int) : (vertexR L).1.1.length = 32 := by
  unfold vertexR
  split
  · rfl
  · split
    · rfl
    · rw [List.length_take]; omega
theorem vtxC_size (h : List Int) (n : Int) (hl : h.length = 32) : (vtxC h n).size = 33 := by simp [vtxC, hl]
theorem vtxC_one (h : List Int) (n : Int) : (vtxC h n).all (·.oneCell') = true := by
  rw [Array.all_eq_true_iff_forall_mem]
  intro v hv
  simp only [vtxC, List.mem_toArray, List.mem_append, List.mem_map, List.mem_singleton] at hv
  rcases hv with ⟨x, _, rfl⟩ | rfl <;> rfl
theorem infoH32 : (Try.prog.info? 32).map (·.size) = some 32 := by kernel_rfl
theorem infoL2 : (Try.prog.info? 34).map (·.size) = some 2 := by kernel_rfl
theorem infoV33 : (Try.prog.info? 55).map (·.size) = some 33 := by kernel_rfl
theorem Chg.trans_new {S : List Nat} {g : Nat} {a b c : World} (h : Chg S a b) (k : Chg [g] b c) (hg : a.heap.size ≤ g) : Chg S a c :=
  ⟨k.os.trans h.os, k.tape.trans h.tape, k.output.trans h.output, Nat.le_trans h.size k.size, fun i hi hS => (k.block i (Nat.lt_of_lt_of_le hi h.size) (fun hm => by have := List.mem_singleton.1 hm; omega)).trans (h.block i hi hS)⟩
theorem chg_row (w : World) (g : Nat) (cs : Array Value) : Chg [g] w (w.setRow g cs) :=
  ⟨rfl, rfl, rfl, by simp [World.setRow], fun k _ hS => setRow_other _ _ _ _ (fun e => hS (List.mem_singleton.2 e))⟩
/-- a reader whose bytes lay in an earlier world. -/
def RdrAt (rb : Nat) (L : List Int) (e : Int) (w0 w : World) : Prop := ∃ v, w.heap[rb]? = some (.cells #[.pointer (some ⟨rb, 0, none⟩), v, .int .i64 e] 49 (0, 0)) ∧ SlB L v w0
theorem RdrAt.of {rb : Nat} {L : List Int} {e : Int} {w w' : World} (h : Rdr rb L e w) (hb : Below w.heap.size w w') : RdrAt rb L e w w' := by
  obtain ⟨v, h1, h2⟩ := h
  exact ⟨v, (hb.block _ (Array.getElem?_eq_some_iff.1 h1).1).trans h1, h2⟩
theorem RdrAt.row {rb g : Nat} {L : List Int} {e : Int} {w w1 w2 : World} (h : RdrAt rb L e w w1) (hc : Chg [g] w1 w2) (hne : rb ≠ g) : RdrAt rb L e w w2 := by
  obtain ⟨v, h1, h2⟩ := h
  exact ⟨v, hc.at h1 (by simpa using hne), h2⟩
theorem RdrAt.rdr {rb : Nat} {L L0 : List Int} {e e0 : Int} {w w2 : World} (h : RdrAt rb L e w w2) (h0 : Rdr rb L0 e0 w) (hc : Chg [rb] w w2) : Rdr rb L e w2 := by
  obtain ⟨v, h1, h2⟩ := h
  obtain ⟨v0, r0, s0⟩ := h0
  exact ⟨v, h1, slb_chg h2 hc (by intro k hk; obtain rfl := List.mem_singleton.1 hk; exact rdr_no8 r0 s0)⟩
theorem after_at {rb : Nat} {L R : List Int} {v' : Value} {e1 : Int} {w0 w1 w' : World} (h : Rdr rb L 0 w0) (hc : Below w0.heap.size w0 w1) (hv : SlB R v' w0)
    (hw : (e1 = 0 ∧ w' = w1.setCell ⟨rb, 1, none⟩ v') ∨ (e1 ≠ 0 ∧ w' = w1.setCell ⟨rb, 2, none⟩ (.int .i64 e1))) : RdrAt rb (if e1 = 0 then R else L) e1 w0 w' ∧ Chg [rb] w1 w' := by
  obtain ⟨v, hr, hL⟩ := h
  have hr1 := (hc.block _ (Array.getElem?_eq_some_iff.1 hr).1).trans hr
  rcases hw with ⟨he, rfl⟩ | ⟨he, rfl⟩
  · rw [if_pos he, he]
    exact ⟨⟨v', by rw [heap_setCell_same _ _ _ _ _ _ hr1]; rfl, hv⟩, chg_one _ _ _ _⟩
  · rw [if_neg he]
    exact ⟨⟨v, by rw [heap_setCell_same _ _ _ _ _ _ hr1]; rfl, hL⟩, chg_one _ _ _ _⟩
theorem labC_one (p : Nat × Nat) : (labC p).all (·.oneCell') = true := by
  rw [Array.all_eq_true_iff_forall_mem]
  intro v hv
  simp only [labC, List.mem_toArray, List.mem_cons, List.not_mem_nil, or_false] at hv
  rcases hv with rfl | rfl <;> rfl
def vtxP (p : List Int × Int) : Array Value := vtxC p.1 p.2
theorem rdOf_ok {α : Type} (z : α) (L : List Int) (r : α × List Int × Int) : rdOf z L 0 r = (r.1, (if r.2.2 = 0 then r.2.1 else L), r.2.2) := by unfold rdOf; rw [if_pos rfl]
theorem rdOf_no {α : Type} {z : α} {L : List Int} {e : Int} {r : α × List Int × Int} (h : e ≠ 0) : rdOf z L e r = (z, L, e) := by unfold rdOf; rw [if_neg h]
set_option maxRecDepth 100000 in
set_option maxHeartbeats 2000000 in
theorem text_read {rb : Nat} {L : List Int} {er : Int} {w : World} (most : Int) (b0 : most ≤ 9223372036854775807) (h : Rdr rb L er w) (hle : L.length ≤ 100000) (hb : InB L) :
    Calls Try.prog 17 #[.pointer (some ⟨rb, 0, none⟩), .int .i64 most] w fun e w' => e = .returned (.string (strOfNums (rdOf [] L er (textR L most)).1)) ∧ Rdr rb (rdOf [] L er (textR L most)).2.1 (rdOf [] L er (textR L most)).2.2 w' ∧ Chg [rb] w w' := by
  have hlt := h.lt
  obtain ⟨w2, hw2⟩ : ∃ w2, w2 = (w.alloc (.cells #[.int .i64 most] 3)).alloc (.cells #[.string ⟨#[]⟩] 9) := ⟨_, rfl⟩
  have h2 := two_new w (.cells #[.int .i64 most] 3) (.cells #[.string ⟨#[]⟩] 9)
  have k2 : Below w.heap.size w ((w.alloc (.cells #[.int .i64 most] 3)).alloc (.cells #[.string ⟨#[]⟩] 9)) := ((Below.refl _ _).alloc (Nat.le_refl _) _).alloc (by simp) _
  rw [← hw2] at h2 k2
  have hr2 := h.later k2
  have HW2 := Lib.hid hw2
  clear hw2
  have Hk2 := Lib.hid k2
  have Hr2 := Lib.hid hr2
  by_cases he : er = 0
  · subst he
    rw [rdOf_ok]
    have hS : rb ∉ [w.heap.size + 1] := by simp; omega
    have Hrd := Lib.hid (read_two0 39 (enter_of Try.func39 (by kernel_rfl) rfl) (.pointer (some ⟨w.heap.size, 0, none⟩)) (.pointer (some ⟨w.heap.size + 1, 0, none⟩)) (QBox (textR L most).2.1 (textR L most).2.2 (w.heap.size + 1) 9 #[.string (strOfNums (textR L most).1)] w2) h k2
      (fun v hv => text1_any most b0 (hv.later k2) hle hb h2.1 h2.2) (fun v' e1 w' hq => hq.2.2.2.block rb hr2.lt hS) (fun v' e1 w' hq => by obtain ⟨A, c, e, _⟩ := hq.2.1; exact ⟨A, _, c, e⟩))
    have Haf : Hid (∀ v' e1 w1 w', QBox (textR L most).2.1 (textR L most).2.2 (w.heap.size + 1) 9 #[.string (strOfNums (textR L most).1)] w2 v' e1 w1 → ((e1 = 0 ∧ w' = w1.setCell ⟨rb, 1, none⟩ v') ∨ (e1 ≠ 0 ∧ w' = w1.setCell ⟨rb, 2, none⟩ (.int .i64 e1))) → w'.heap[w.heap.size + 1]? = some (.cells #[.string (strOfNums (textR L most).1)] 9 (0, 0)) ∧ Rdr rb (if (textR L most).2.2 = 0 then (textR L most).2.1 else L) (textR L most).2.2 w' ∧ Chg [rb] w w') := by
      intro v' e1 w1 w' hq hw
      obtain ⟨rfl, hs1, hn1, hc1⟩ := hq
      have low1 : Below w.heap.size w w1 := hc1.below k2 k2.size (by intro k hk; obtain rfl := List.mem_singleton.1 hk; omega)
      have ha := after_read0 h low1 hs1 hw
      have hne : w.heap.size + 1 ∉ [rb] := by simp; omega
      exact ⟨ha.2.at hn1 hne, ha.1, (Chg.of_below low1).trans ha.2⟩
    obtain ⟨S, hS2⟩ : ∃ S, S = strOfNums (textR L most).1 := ⟨_, rfl⟩
    obtain ⟨R2, hR2⟩ : ∃ R2, R2 = (if (textR L most).2.2 = 0 then (textR L most).2.1 else L) := ⟨_, rfl⟩
    simp only
    rw [← hS2, ← hR2] at Haf ⊢
    rw [← hS2] at Hrd
    clear h h2 k2 hr2 hS hS2 hR2
    go_enter Try.func17, Try.ntmps17
    go_wp2_with (go_at_call 35; rw [← HW2.out]; refine Hrd.out.mono ?_; rintro e w3 ⟨rfl, v', e1, w1, hq, hw⟩; have ha := Haf.out _ _ _ _ hq hw; have dn := cell_row ha.1 0; simp only [List.getElem?_toArray, List.getElem?_cons_zero] at dn; have Ha := Lib.hid ha; clear ha hq hw)
    go_ret
    exact ⟨rfl, Ha.out.2⟩
  · rw [rdOf_no he]
    have Hrd := Lib.hid (read_off hr2 he (.func (.func 39) #[] #[.pointer (some ⟨w.heap.size, 0, none⟩), .pointer (some ⟨w.heap.size + 1, 0, none⟩)]))
    have dn := cell_row h2.2 0
    simp only [List.getElem?_toArray, List.getElem?_cons_zero] at dn
    clear h h2 k2 hr2 he
    go_enter Try.func17, Try.ntmps17
    go_wp2_with (go_at_call 35; rw [← HW2.out]; refine Hrd.out.mono ?_; rintro e w3 ⟨rfl, rfl⟩)
    go_ret
    exact ⟨rfl, Hr2.out, Chg.of_below Hk2.out⟩
set_option maxRecDepth 100000 in
set_option maxHeartbeats 2000000 in
theorem hash_read {rb : Nat} {L : List Int} {er : Int} {w : World} (h : Rdr rb L er w) (hle : L.length ≤ 100000) (_hb : InB L) :
    Calls Try.prog 19 #[.pointer (some ⟨rb, 0, none⟩)] w fun e w' => e = .returned (.agg (u8s (rdOf z32 L er (hashR L)).1)) ∧ Rdr rb (rdOf z32 L er (hashR L)).2.1 (rdOf z32 L er (hashR L)).2.2 w' ∧ Chg [rb] w w' := by
  have hlt := h.lt
  obtain ⟨w2, hw2⟩ : ∃ w2, w2 = (w.alloc (.cells #[.int .u8 0, .int .u8 0, .int .u8 0, .int .u8 0, .int .u8 0, .int .u8 0, .int .u8 0, .int .u8 0, .int .u8 0, .int .u8 0, .int .u8 0, .int .u8 0, .int .u8 0, .int .u8 0, .int .u8 0, .int .u8 0, .int .u8 0, .int .u8 0, .int .u8 0, .int .u8 0, .int .u8 0, .int .u8 0, .int .u8 0, .int .u8 0, .int .u8 0, .int .u8 0, .int .u8 0, .int .u8 0, .int .u8 0, .int .u8 0, .int .u8 0, .int .u8 0] 32)).alloc (.cells #[.int .u8 0, .int .u8 0, .int .u8 0, .int .u8 0, .int .u8 0, .int .u8 0, .int .u8 0, .int .u8 0, .int .u8 0, .int .u8 0, .int .u8 0, .int .u8 0, .int .u8 0, .int .u8 0, .int .u8 0, .int .u8 0, .int .u8 0, .int .u8 0, .int .u8 0, .int .u8 0, .int .u8 0, .int .u8 0, .int .u8 0, .int .u8 0, .int .u8 0, .int .u8 0, .int .u8 0, .int .u8 0, .int .u8 0, .int .u8 0, .int .u8 0, .int .u8 0] 32) := ⟨_, rfl⟩
  have h2 := two_new w (.cells #[.int .u8 0, .int .u8 0, .int .u8 0, .int .u8 0, .int .u8 0, .int .u8 0, .int .u8 0, .int .u8 0, .int .u8 0, .int .u8 0, .int .u8 0, .int .u8 0, .int .u8 0, .int .u8 0, .int .u8 0, .int .u8 0, .int .u8 0, .int .u8 0, .int .u8 0, .int .u8 0, .int .u8 0, .int .u8 0, .int .u8 0, .int .u8 0, .int .u8 0, .int .u8 0, .int .u8 0, .int .u8 0, .int .u8 0, .int .u8 0, .int .u8 0, .int .u8 0] 32) (.cells #[.int .u8 0, .int .u8 0, .int .u8 0, .int .u8 0, .int .u8 0, .int .u8 0, .int .u8 0, .int .u8 0, .int .u8 0, .int .u8 0, .int .u8 0, .int .u8 0, .int .u8 0, .int .u8 0, .int .u8 0, .int .u8 0, .int .u8 0, .int .u8 0, .int .u8 0, .int .u8 0, .int .u8 0, .int .u8 0, .int .u8 0, .int .u8 0, .int .u8 0, .int .u8 0, .int .u8 0, .int .u8 0, .int .u8 0, .int .u8 0, .int .u8 0, .int .u8 0] 32)
  have k2 : Below w.heap.size w ((w.alloc (.cells #[.int .u8 0, .int .u8 0, .int .u8 0, .int .u8 0, .int .u8 0, .int .u8 0, .int .u8 0, .int .u8 0, .int .u8 0, .int .u8 0, .int .u8 0, .int .u8 0, .int .u8 0, .int .u8 0, .int .u8 0, .int .u8 0, .int .u8 0, .int .u8 0, .int .u8 0, .int .u8 0, .int .u8 0, .int .u8 0, .int .u8 0, .int .u8 0, .int .u8 0, .int .u8 0, .int .u8 0, .int .u8 0, .int .u8 0, .int .u8 0, .int .u8 0, .int .u8 0] 32)).alloc (.cells #[.int .u8 0, .int .u8 0, .int .u8 0, .int .u8 0, .int .u8 0, .int .u8 0, .int .u8 0, .int .u8 0, .int .u8 0, .int .u8 0, .int .u8 0, .int .u8 0, .int .u8 0, .int .u8 0, .int .u8 0, .int .u8 0, .int .u8 0, .int .u8 0, .int .u8 0, .int .u8 0, .int .u8 0, .int .u8 0, .int .u8 0, .int .u8 0, .int .u8 0, .int .u8 0, .int .u8 0, .int .u8 0, .int .u8 0, .int .u8 0, .int .u8 0, .int .u8 0] 32)) := ((Below.refl _ _).alloc (Nat.le_refl _) _).alloc (by simp) _
  rw [← hw2] at h2 k2
  have hs2 : w.heap.size + 1 + 1 = w2.heap.size := by rw [hw2]; simp
  have hr2 := h.later k2
  have HW2 := Lib.hid hw2
  clear hw2
  have Hk2 := Lib.hid k2
  have HR := Lib.hid h
  by_cases he : er = 0
  · subst he
    rw [rdOf_ok]
    have hS : rb ∉ [w.heap.size + 1] := by simp; omega
    have Hrd := Lib.hid (read_one 41 (enter_of Try.func41 (by kernel_rfl) rfl) (.pointer (some ⟨w.heap.size + 1, 0, none⟩)) (QBo (hashR L).2.1 (hashR L).2.2 (w.heap.size + 1) 32 (u8s (hashR L).1) w w2) h k2
      (fun v hv => hash1_any hv k2 hs2 hle h2.2) (fun v' e1 w' hq => hq.2.2.2.block rb hr2.lt hS) (fun v' e1 w' hq => by obtain ⟨A, c, e, _⟩ := hq.2.1; exact ⟨A, _, c, e⟩))
    have Haf : Hid (∀ v' e1 w1 w', QBo (hashR L).2.1 (hashR L).2.2 (w.heap.size + 1) 32 (u8s (hashR L).1) w w2 v' e1 w1 → ((e1 = 0 ∧ w' = w1.setCell ⟨rb, 1, none⟩ v') ∨ (e1 ≠ 0 ∧ w' = w1.setCell ⟨rb, 2, none⟩ (.int .i64 e1))) → w'.heap[w.heap.size + 1]? = some (.cells (u8s (hashR L).1) 32 (0, 0)) ∧ w'.heap[w.heap.size]? = some (.cells #[.int .u8 0, .int .u8 0, .int .u8 0, .int .u8 0, .int .u8 0, .int .u8 0, .int .u8 0, .int .u8 0, .int .u8 0, .int .u8 0, .int .u8 0, .int .u8 0, .int .u8 0, .int .u8 0, .int .u8 0, .int .u8 0, .int .u8 0, .int .u8 0, .int .u8 0, .int .u8 0, .int .u8 0, .int .u8 0, .int .u8 0, .int .u8 0, .int .u8 0, .int .u8 0, .int .u8 0, .int .u8 0, .int .u8 0, .int .u8 0, .int .u8 0, .int .u8 0] 32 (0, 0)) ∧ RdrAt rb (if (hashR L).2.2 = 0 then (hashR L).2.1 else L) (hashR L).2.2 w w' ∧ Chg [rb] w w') := by
      intro v' e1 w1 w' hq hw
      obtain ⟨rfl, hs1, hn1, hc1⟩ := hq
      have low1 : Below w.heap.size w w1 := hc1.below k2 k2.size (by intro k hk; obtain rfl := List.mem_singleton.1 hk; omega)
      have ha := after_at h low1 hs1 hw
      have hne : w.heap.size + 1 ∉ [rb] := by simp; omega
      have hne2 : w.heap.size ∉ [rb] := by simp; omega
      have hne3 : w.heap.size ∉ [w.heap.size + 1] := by simp
      exact ⟨ha.2.at hn1 hne, ha.2.at (hc1.at h2.1 hne3) hne2, ha.1, (Chg.of_below low1).trans ha.2⟩
    have Hsz : Hid ((Try.prog.info? 32).map (·.size) = some (u8s (hashR L).1).size) := by show _ = _; rw [u8s_size, hashR_len]; exact infoH32
    have Hone : Hid ((u8s (hashR L).1).all (·.oneCell') = true) := u8s_one _
    obtain ⟨S, hS2⟩ : ∃ S, S = u8s (hashR L).1 := ⟨_, rfl⟩
    obtain ⟨R2, hR2⟩ : ∃ R2, R2 = (if (hashR L).2.2 = 0 then (hashR L).2.1 else L) := ⟨_, rfl⟩
    simp only
    rw [← hS2, ← hR2] at Haf ⊢
    rw [← hS2] at Hsz Hone Hrd
    have Hsz2 : Hid ((Try.prog.info? 32).map (·.size) = some 32) := infoH32
    have Hss : Hid ((#[.int .u8 0, .int .u8 0, .int .u8 0, .int .u8 0, .int .u8 0, .int .u8 0, .int .u8 0, .int .u8 0, .int .u8 0, .int .u8 0, .int .u8 0, .int .u8 0, .int .u8 0, .int .u8 0, .int .u8 0, .int .u8 0, .int .u8 0, .int .u8 0, .int .u8 0, .int .u8 0, .int .u8 0, .int .u8 0, .int .u8 0, .int .u8 0, .int .u8 0, .int .u8 0, .int .u8 0, .int .u8 0, .int .u8 0, .int .u8 0, .int .u8 0, .int .u8 0] : Array Value).size = S.size) := by have h1 := Hsz.out; rw [Hsz2.out] at h1; exact Option.some.inj h1
    clear h h2 k2 hr2 hS hS2 hR2 hs2
    go_enter Try.func19, Try.ntmps19
    go_wp2_with (first
      | (go_at_call 35; rw [← HW2.out]; refine Hrd.out.mono ?_; rintro e w3 ⟨rfl, v', e1, w1, hq, hw⟩; have ha := Haf.out _ _ _ _ hq hw; have Ha := Lib.hid ha; clear ha hq hw)
      | (with_reducible refine wpList_load_row rfl 32 (.tmp 3) rfl (w.heap.size + 1) rfl 32 S (0, 0) _ Ha.out.1 Try.underlying32 rfl Hsz.out ?_)
      | (with_reducible refine wpList_store_row rfl 32 (.tmp 2) (.tmp 7) rfl w.heap.size S rfl rfl 32 _ Ha.out.2.1 Hsz.out Hss.out Hone.out ?_))
    have hrow := setRow_heap w3 _ _ S _ _ Ha.out.2.1
    have hch : Chg [w.heap.size] w3 (w3.setRow w.heap.size S) := chg_row _ _ _
    refine bodyPost_ret (v := .agg S) (results_cell_row rfl _ _ w.heap.size 32 _ (0, 0) _ rfl hrow Try.underlying32 rfl Hsz.out) rfl ⟨rfl, (Ha.out.2.2.1.row hch (by simp; omega)).rdr HR.out (Ha.out.2.2.2.trans_new hch (Nat.le_refl _)), Ha.out.2.2.2.trans_new hch (Nat.le_refl _)⟩
  · rw [rdOf_no he]
    have Hrd := Lib.hid (read_off hr2 he (.func (.func 41) #[] #[.pointer (some ⟨w.heap.size + 1, 0, none⟩)]))
    have Hh2 := Lib.hid h2
    have Hsz : Hid ((Try.prog.info? 32).map (·.size) = some (#[.int .u8 0, .int .u8 0, .int .u8 0, .int .u8 0, .int .u8 0, .int .u8 0, .int .u8 0, .int .u8 0, .int .u8 0, .int .u8 0, .int .u8 0, .int .u8 0, .int .u8 0, .int .u8 0, .int .u8 0, .int .u8 0, .int .u8 0, .int .u8 0, .int .u8 0, .int .u8 0, .int .u8 0, .int .u8 0, .int .u8 0, .int .u8 0, .int .u8 0, .int .u8 0, .int .u8 0, .int .u8 0, .int .u8 0, .int .u8 0, .int .u8 0, .int .u8 0] : Array Value).size) := infoH32
    have Hone : Hid ((#[.int .u8 0, .int .u8 0, .int .u8 0, .int .u8 0, .int .u8 0, .int .u8 0, .int .u8 0, .int .u8 0, .int .u8 0, .int .u8 0, .int .u8 0, .int .u8 0, .int .u8 0, .int .u8 0, .int .u8 0, .int .u8 0, .int .u8 0, .int .u8 0, .int .u8 0, .int .u8 0, .int .u8 0, .int .u8 0, .int .u8 0, .int .u8 0, .int .u8 0, .int .u8 0, .int .u8 0, .int .u8 0, .int .u8 0, .int .u8 0, .int .u8 0, .int .u8 0] : Array Value).all (·.oneCell') = true) := u8s_one z32
    clear h h2 k2 hr2 he hs2
    go_enter Try.func19, Try.ntmps19
    go_wp2_with (first
      | (go_at_call 35; rw [← HW2.out]; refine Hrd.out.mono ?_; rintro e w3 ⟨rfl, hw3⟩; subst hw3)
      | (with_reducible refine wpList_load_row rfl 32 (.tmp 3) rfl (w.heap.size + 1) rfl 32 #[.int .u8 0, .int .u8 0, .int .u8 0, .int .u8 0, .int .u8 0, .int .u8 0, .int .u8 0, .int .u8 0, .int .u8 0, .int .u8 0, .int .u8 0, .int .u8 0, .int .u8 0, .int .u8 0, .int .u8 0, .int .u8 0, .int .u8 0, .int .u8 0, .int .u8 0, .int .u8 0, .int .u8 0, .int .u8 0, .int .u8 0, .int .u8 0, .int .u8 0, .int .u8 0, .int .u8 0, .int .u8 0, .int .u8 0, .int .u8 0, .int .u8 0, .int .u8 0] (0, 0) _ Hh2.out.2 Try.underlying32 rfl Hsz.out ?_)
      | (with_reducible refine wpList_store_row rfl 32 (.tmp 2) (.tmp 7) rfl w.heap.size #[.int .u8 0, .int .u8 0, .int .u8 0, .int .u8 0, .int .u8 0, .int .u8 0, .int .u8 0, .int .u8 0, .int .u8 0, .int .u8 0, .int .u8 0, .int .u8 0, .int .u8 0, .int .u8 0, .int .u8 0, .int .u8 0, .int .u8 0, .int .u8 0, .int .u8 0, .int .u8 0, .int .u8 0, .int .u8 0, .int .u8 0, .int .u8 0, .int .u8 0, .int .u8 0, .int .u8 0, .int .u8 0, .int .u8 0, .int .u8 0, .int .u8 0, .int .u8 0] rfl rfl 32 _ Hh2.out.1 Hsz.out rfl Hone.out ?_))
    have hrow := setRow_heap w2 _ _ #[.int .u8 0, .int .u8 0, .int .u8 0, .int .u8 0, .int .u8 0, .int .u8 0, .int .u8 0, .int .u8 0, .int .u8 0, .int .u8 0, .int .u8 0, .int .u8 0, .int .u8 0, .int .u8 0, .int .u8 0, .int .u8 0, .int .u8 0, .int .u8 0, .int .u8 0, .int .u8 0, .int .u8 0, .int .u8 0, .int .u8 0, .int .u8 0, .int .u8 0, .int .u8 0, .int .u8 0, .int .u8 0, .int .u8 0, .int .u8 0, .int .u8 0, .int .u8 0] _ _ Hh2.out.1
    have hch : Chg [w.heap.size] w2 (w2.setRow w.heap.size #[.int .u8 0, .int .u8 0, .int .u8 0, .int .u8 0, .int .u8 0, .int .u8 0, .int .u8 0, .int .u8 0, .int .u8 0, .int .u8 0, .int .u8 0, .int .u8 0, .int .u8 0, .int .u8 0, .int .u8 0, .int .u8 0, .int .u8 0, .int .u8 0, .int .u8 0, .int .u8 0, .int .u8 0, .int .u8 0, .int .u8 0, .int .u8 0, .int .u8 0, .int .u8 0, .int .u8 0, .int .u8 0, .int .u8 0, .int .u8 0, .int .u8 0, .int .u8 0]) := chg_row _ _ _
    refine bodyPost_ret (v := .agg #[.int .u8 0, .int .u8 0, .int .u8 0, .int .u8 0, .int .u8 0, .int .u8 0, .int .u8 0, .int .u8 0, .int .u8 0, .int .u8 0, .int .u8 0, .int .u8 0, .int .u8 0, .int .u8 0, .int .u8 0, .int .u8 0, .int .u8 0, .int .u8 0, .int .u8 0, .int .u8 0, .int .u8 0, .int .u8 0, .int .u8 0, .int .u8 0, .int .u8 0, .int .u8 0, .int .u8 0, .int .u8 0, .int .u8 0, .int .u8 0, .int .u8 0, .int .u8 0]) (results_cell_row rfl _ _ w.heap.size 32 _ (0, 0) _ rfl hrow Try.underlying32 rfl Hsz.out) rfl ⟨rfl, (RdrAt.row (RdrAt.of HR.out Hk2.out) hch (by simp; omega)).rdr HR.out ((Chg.of_below Hk2.out).trans_new hch (Nat.le_refl _)), (Chg.of_below Hk2.out).trans_new hch (Nat.le_refl _)⟩
set_option maxRecDepth 100000 in
set_option maxHeartbeats 2000000 in
theorem label_read {rb : Nat} {L : List Int} {er : Int} {w : World} (h : Rdr rb L er w) (hle : L.length ≤ 100000) (hb : InB L) :
    Calls Try.prog 21 #[.pointer (some ⟨rb, 0, none⟩)] w fun e w' => e = .returned (.agg (labC (rdOf (0, 0) L er (labelR L)).1)) ∧ Rdr rb (rdOf (0, 0) L er (labelR L)).2.1 (rdOf (0, 0) L er (labelR L)).2.2 w' ∧ Chg [rb] w w' := by
  have hlt := h.lt
  obtain ⟨w2, hw2⟩ : ∃ w2, w2 = (w.alloc (.cells #[.int .i64 0, .int .u64 0] 34)).alloc (.cells #[.int .i64 0, .int .u64 0] 34) := ⟨_, rfl⟩
  have h2 := two_new w (.cells #[.int .i64 0, .int .u64 0] 34) (.cells #[.int .i64 0, .int .u64 0] 34)
  have k2 : Below w.heap.size w ((w.alloc (.cells #[.int .i64 0, .int .u64 0] 34)).alloc (.cells #[.int .i64 0, .int .u64 0] 34)) := ((Below.refl _ _).alloc (Nat.le_refl _) _).alloc (by simp) _
  rw [← hw2] at h2 k2
  have hs2 : w.heap.size + 1 + 1 = w2.heap.size := by rw [hw2]; simp
  have hr2 := h.later k2
  have HW2 := Lib.hid hw2
  clear hw2
  have Hk2 := Lib.hid k2
  have HR := Lib.hid h
  by_cases he : er = 0
  · subst he
    rw [rdOf_ok]
    have hS : rb ∉ [w.heap.size + 1] := by simp; omega
    have Hrd := Lib.hid (read_one 42 (enter_of Try.func42 (by kernel_rfl) rfl) (.pointer (some ⟨w.heap.size + 1, 0, none⟩)) (QBo (labelR L).2.1 (labelR L).2.2 (w.heap.size + 1) 34 (labC (labelR L).1) w w2) h k2
      (fun v hv => label1_any hv k2 hle hb h2.2) (fun v' e1 w' hq => hq.2.2.2.block rb hr2.lt hS) (fun v' e1 w' hq => by obtain ⟨A, c, e, _⟩ := hq.2.1; exact ⟨A, _, c, e⟩))
    have Haf : Hid (∀ v' e1 w1 w', QBo (labelR L).2.1 (labelR L).2.2 (w.heap.size + 1) 34 (labC (labelR L).1) w w2 v' e1 w1 → ((e1 = 0 ∧ w' = w1.setCell ⟨rb, 1, none⟩ v') ∨ (e1 ≠ 0 ∧ w' = w1.setCell ⟨rb, 2, none⟩ (.int .i64 e1))) → w'.heap[w.heap.size + 1]? = some (.cells (labC (labelR L).1) 34 (0, 0)) ∧ w'.heap[w.heap.size]? = some (.cells #[.int .i64 0, .int .u64 0] 34 (0, 0)) ∧ RdrAt rb (if (labelR L).2.2 = 0 then (labelR L).2.1 else L) (labelR L).2.2 w w' ∧ Chg [rb] w w') := by
      intro v' e1 w1 w' hq hw
      obtain ⟨rfl, hs1, hn1, hc1⟩ := hq
      have low1 : Below w.heap.size w w1 := hc1.below k2 k2.size (by intro k hk; obtain rfl := List.mem_singleton.1 hk; omega)
      have ha := after_at h low1 hs1 hw
      have hne : w.heap.size + 1 ∉ [rb] := by simp; omega
      have hne2 : w.heap.size ∉ [rb] := by simp; omega
      have hne3 : w.heap.size ∉ [w.heap.size + 1] := by simp
      exact ⟨ha.2.at hn1 hne, ha.2.at (hc1.at h2.1 hne3) hne2, ha.1, (Chg.of_below low1).trans ha.2⟩
    have Hsz : Hid ((Try.prog.info? 34).map (·.size) = some (labC (labelR L).1).size) := by show _ = _; rw [show (labC (labelR L).1).size = 2 from rfl]; exact infoL2
    have Hone : Hid ((labC (labelR L).1).all (·.oneCell') = true) := labC_one _
    obtain ⟨S, hS2⟩ : ∃ S, S = labC (labelR L).1 := ⟨_, rfl⟩
    obtain ⟨R2, hR2⟩ : ∃ R2, R2 = (if (labelR L).2.2 = 0 then (labelR L).2.1 else L) := ⟨_, rfl⟩
    simp only
    rw [← hS2, ← hR2] at Haf ⊢
    rw [← hS2] at Hsz Hone Hrd
    have Hsz2 : Hid ((Try.prog.info? 34).map (·.size) = some 2) := infoL2
    have Hss : Hid ((#[.int .i64 0, .int .u64 0] : Array Value).size = S.size) := by have h1 := Hsz.out; rw [Hsz2.out] at h1; exact Option.some.inj h1
    clear h h2 k2 hr2 hS hS2 hR2 hs2
    go_enter Try.func21, Try.ntmps21
    go_wp2_with (first
      | (go_at_call 35; rw [← HW2.out]; refine Hrd.out.mono ?_; rintro e w3 ⟨rfl, v', e1, w1, hq, hw⟩; have ha := Haf.out _ _ _ _ hq hw; have Ha := Lib.hid ha; clear ha hq hw)
      | (with_reducible refine wpList_load_row rfl 34 (.tmp 3) rfl (w.heap.size + 1) rfl 34 S (0, 0) _ Ha.out.1 Try.underlying34 rfl Hsz.out ?_)
      | (with_reducible refine wpList_store_row rfl 34 (.tmp 2) (.tmp 7) rfl w.heap.size S rfl rfl 34 _ Ha.out.2.1 Hsz.out Hss.out Hone.out ?_))
    have hrow := setRow_heap w3 _ _ S _ _ Ha.out.2.1
    have hch : Chg [w.heap.size] w3 (w3.setRow w.heap.size S) := chg_row _ _ _
    refine bodyPost_ret (v := .agg S) (results_cell_row rfl _ _ w.heap.size 34 _ (0, 0) _ rfl hrow Try.underlying34 rfl Hsz.out) rfl ⟨rfl, (Ha.out.2.2.1.row hch (by simp; omega)).rdr HR.out (Ha.out.2.2.2.trans_new hch (Nat.le_refl _)), Ha.out.2.2.2.trans_new hch (Nat.le_refl _)⟩
  · rw [rdOf_no he]
    have Hrd := Lib.hid (read_off hr2 he (.func (.func 42) #[] #[.pointer (some ⟨w.heap.size + 1, 0, none⟩)]))
    have Hh2 := Lib.hid h2
    have Hsz : Hid ((Try.prog.info? 34).map (·.size) = some (#[.int .i64 0, .int .u64 0] : Array Value).size) := infoL2
    have Hone : Hid ((#[.int .i64 0, .int .u64 0] : Array Value).all (·.oneCell') = true) := labC_one (0, 0)
    clear h h2 k2 hr2 he hs2
    go_enter Try.func21, Try.ntmps21
    go_wp2_with (first
      | (go_at_call 35; rw [← HW2.out]; refine Hrd.out.mono ?_; rintro e w3 ⟨rfl, hw3⟩; subst hw3)
      | (with_reducible refine wpList_load_row rfl 34 (.tmp 3) rfl (w.heap.size + 1) rfl 34 #[.int .i64 0, .int .u64 0] (0, 0) _ Hh2.out.2 Try.underlying34 rfl Hsz.out ?_)
      | (with_reducible refine wpList_store_row rfl 34 (.tmp 2) (.tmp 7) rfl w.heap.size #[.int .i64 0, .int .u64 0] rfl rfl 34 _ Hh2.out.1 Hsz.out rfl Hone.out ?_))
    have hrow := setRow_heap w2 _ _ #[.int .i64 0, .int .u64 0] _ _ Hh2.out.1
    have hch : Chg [w.heap.size] w2 (w2.setRow w.heap.size #[.int .i64 0, .int .u64 0]) := chg_row _ _ _
    refine bodyPost_ret (v := .agg #[.int .i64 0, .int .u64 0]) (results_cell_row rfl _ _ w.heap.size 34 _ (0, 0) _ rfl hrow Try.underlying34 rfl Hsz.out) rfl ⟨rfl, (RdrAt.row (RdrAt.of HR.out Hk2.out) hch (by simp; omega)).rdr HR.out ((Chg.of_below Hk2.out).trans_new hch (Nat.le_refl _)), (Chg.of_below Hk2.out).trans_new hch (Nat.le_refl _)⟩
set_option maxRecDepth 100000 in
set_option maxHeartbeats 2000000 in
theorem vertex_read {rb : Nat} {L : List Int} {er : Int} {w : World} (h : Rdr rb L er w) (hle : L.length ≤ 100000) (hb : InB L) :
    Calls Try.prog 23 #[.pointer (some ⟨rb, 0, none⟩)] w fun e w' => e = .returned (.agg (vtxP (rdOf (z32, 0) L er (vertexR L)).1)) ∧ Rdr rb (rdOf (z32, 0) L er (vertexR L)).2.1 (rdOf (z32, 0) L er (vertexR L)).2.2 w' ∧ Chg [rb] w w' := by
  have hlt := h.lt
  obtain ⟨w2, hw2⟩ : ∃ w2, w2 = (w.alloc (.cells #[.int .u8 0, .int .u8 0, .int .u8 0, .int .u8 0, .int .u8 0, .int .u8 0, .int .u8 0, .int .u8 0, .int .u8 0, .int .u8 0, .int .u8 0, .int .u8 0, .int .u8 0, .int .u8 0, .int .u8 0, .int .u8 0, .int .u8 0, .int .u8 0, .int .u8 0, .int .u8 0, .int .u8 0, .int .u8 0, .int .u8 0, .int .u8 0, .int .u8 0, .int .u8 0, .int .u8 0, .int .u8 0, .int .u8 0, .int .u8 0, .int .u8 0, .int .u8 0, .int .i64 0] 55)).alloc (.cells #[.int .u8 0, .int .u8 0, .int .u8 0, .int .u8 0, .int .u8 0, .int .u8 0, .int .u8 0, .int .u8 0, .int .u8 0, .int .u8 0, .int .u8 0, .int .u8 0, .int .u8 0, .int .u8 0, .int .u8 0, .int .u8 0, .int .u8 0, .int .u8 0, .int .u8 0, .int .u8 0, .int .u8 0, .int .u8 0, .int .u8 0, .int .u8 0, .int .u8 0, .int .u8 0, .int .u8 0, .int .u8 0, .int .u8 0, .int .u8 0, .int .u8 0, .int .u8 0, .int .i64 0] 55) := ⟨_, rfl⟩
  have h2 := two_new w (.cells #[.int .u8 0, .int .u8 0, .int .u8 0, .int .u8 0, .int .u8 0, .int .u8 0, .int .u8 0, .int .u8 0, .int .u8 0, .int .u8 0, .int .u8 0, .int .u8 0, .int .u8 0, .int .u8 0, .int .u8 0, .int .u8 0, .int .u8 0, .int .u8 0, .int .u8 0, .int .u8 0, .int .u8 0, .int .u8 0, .int .u8 0, .int .u8 0, .int .u8 0, .int .u8 0, .int .u8 0, .int .u8 0, .int .u8 0, .int .u8 0, .int .u8 0, .int .u8 0, .int .i64 0] 55) (.cells #[.int .u8 0, .int .u8 0, .int .u8 0, .int .u8 0, .int .u8 0, .int .u8 0, .int .u8 0, .int .u8 0, .int .u8 0, .int .u8 0, .int .u8 0, .int .u8 0, .int .u8 0, .int .u8 0, .int .u8 0, .int .u8 0, .int .u8 0, .int .u8 0, .int .u8 0, .int .u8 0, .int .u8 0, .int .u8 0, .int .u8 0, .int .u8 0, .int .u8 0, .int .u8 0, .int .u8 0, .int .u8 0, .int .u8 0, .int .u8 0, .int .u8 0, .int .u8 0, .int .i64 0] 55)
  have k2 : Below w.heap.size w ((w.alloc (.cells #[.int .u8 0, .int .u8 0, .int .u8 0, .int .u8 0, .int .u8 0, .int .u8 0, .int .u8 0, .int .u8 0, .int .u8 0, .int .u8 0, .int .u8 0, .int .u8 0, .int .u8 0, .int .u8 0, .int .u8 0, .int .u8 0, .int .u8 0, .int .u8 0, .int .u8 0, .int .u8 0, .int .u8 0, .int .u8 0, .int .u8 0, .int .u8 0, .int .u8 0, .int .u8 0, .int .u8 0, .int .u8 0, .int .u8 0, .int .u8 0, .int .u8 0, .int .u8 0, .int .i64 0] 55)).alloc (.cells #[.int .u8 0, .int .u8 0, .int .u8 0, .int .u8 0, .int .u8 0, .int .u8 0, .int .u8 0, .int .u8 0, .int .u8 0, .int .u8 0, .int .u8 0, .int .u8 0, .int .u8 0, .int .u8 0, .int .u8 0, .int .u8 0, .int .u8 0, .int .u8 0, .int .u8 0, .int .u8 0, .int .u8 0, .int .u8 0, .int .u8 0, .int .u8 0, .int .u8 0, .int .u8 0, .int .u8 0, .int .u8 0, .int .u8 0, .int .u8 0, .int .u8 0, .int .u8 0, .int .i64 0] 55)) := ((Below.refl _ _).alloc (Nat.le_refl _) _).alloc (by simp) _
  rw [← hw2] at h2 k2
  have hs2 : w.heap.size + 1 + 1 = w2.heap.size := by rw [hw2]; simp
  have hr2 := h.later k2
  have HW2 := Lib.hid hw2
  clear hw2
  have Hk2 := Lib.hid k2
  have HR := Lib.hid h
  by_cases he : er = 0
  · subst he
    rw [rdOf_ok]
    have hS : rb ∉ [w.heap.size + 1] := by simp; omega
    have Hrd := Lib.hid (read_one 45 (enter_of Try.func45 (by kernel_rfl) rfl) (.pointer (some ⟨w.heap.size + 1, 0, none⟩)) (QBo (vertexR L).2.1 (vertexR L).2.2 (w.heap.size + 1) 55 (vtxP (vertexR L).1) w w2) h k2
      (fun v hv => vertex1_any hv k2 hs2 hle hb h2.2) (fun v' e1 w' hq => hq.2.2.2.block rb hr2.lt hS) (fun v' e1 w' hq => by obtain ⟨A, c, e, _⟩ := hq.2.1; exact ⟨A, _, c, e⟩))
    have Haf : Hid (∀ v' e1 w1 w', QBo (vertexR L).2.1 (vertexR L).2.2 (w.heap.size + 1) 55 (vtxP (vertexR L).1) w w2 v' e1 w1 → ((e1 = 0 ∧ w' = w1.setCell ⟨rb, 1, none⟩ v') ∨ (e1 ≠ 0 ∧ w' = w1.setCell ⟨rb, 2, none⟩ (.int .i64 e1))) → w'.heap[w.heap.size + 1]? = some (.cells (vtxP (vertexR L).1) 55 (0, 0)) ∧ w'.heap[w.heap.size]? = some (.cells #[.int .u8 0, .int .u8 0, .int .u8 0, .int .u8 0, .int .u8 0, .int .u8 0, .int .u8 0, .int .u8 0, .int .u8 0, .int .u8 0, .int .u8 0, .int .u8 0, .int .u8 0, .int .u8 0, .int .u8 0, .int .u8 0, .int .u8 0, .int .u8 0, .int .u8 0, .int .u8 0, .int .u8 0, .int .u8 0, .int .u8 0, .int .u8 0, .int .u8 0, .int .u8 0, .int .u8 0, .int .u8 0, .int .u8 0, .int .u8 0, .int .u8 0, .int .u8 0, .int .i64 0] 55 (0, 0)) ∧ RdrAt rb (if (vertexR L).2.2 = 0 then (vertexR L).2.1 else L) (vertexR L).2.2 w w' ∧ Chg [rb] w w') := by
      intro v' e1 w1 w' hq hw
      obtain ⟨rfl, hs1, hn1, hc1⟩ := hq
      have low1 : Below w.heap.size w w1 := hc1.below k2 k2.size (by intro k hk; obtain rfl := List.mem_singleton.1 hk; omega)
      have ha := after_at h low1 hs1 hw
      have hne : w.heap.size + 1 ∉ [rb] := by simp; omega
      have hne2 : w.heap.size ∉ [rb] := by simp; omega
      have hne3 : w.heap.size ∉ [w.heap.size + 1] := by simp
      exact ⟨ha.2.at hn1 hne, ha.2.at (hc1.at h2.1 hne3) hne2, ha.1, (Chg.of_below low1).trans ha.2⟩
    have Hsz : Hid ((Try.prog.info? 55).map (·.size) = some (vtxP (vertexR L).1).size) := by show _ = _; rw [show (vtxP (vertexR L).1).size = 33 from vtxC_size _ _ (vertexR_len L)]; exact infoV33
    have Hone : Hid ((vtxP (vertexR L).1).all (·.oneCell') = true) := vtxC_one _ _
    obtain ⟨S, hS2⟩ : ∃ S, S = vtxP (vertexR L).1 := ⟨_, rfl⟩
    obtain ⟨R2, hR2⟩ : ∃ R2, R2 = (if (vertexR L).2.2 = 0 then (vertexR L).2.1 else L) := ⟨_, rfl⟩
    simp only
    rw [← hS2, ← hR2] at Haf ⊢
    rw [← hS2] at Hsz Hone Hrd
    have Hsz2 : Hid ((Try.prog.info? 55).map (·.size) = some 33) := infoV33
    have Hss : Hid ((#[.int .u8 0, .int .u8 0, .int .u8 0, .int .u8 0, .int .u8 0, .int .u8 0, .int .u8 0, .int .u8 0, .int .u8 0, .int .u8 0, .int .u8 0, .int .u8 0, .int .u8 0, .int .u8 0, .int .u8 0, .int .u8 0, .int .u8 0, .int .u8 0, .int .u8 0, .int .u8 0, .int .u8 0, .int .u8 0, .int .u8 0, .int .u8 0, .int .u8 0, .int .u8 0, .int .u8 0, .int .u8 0, .int .u8 0, .int .u8 0, .int .u8 0, .int .u8 0, .int .i64 0] : Array Value).size = S.size) := by have h1 := Hsz.out; rw [Hsz2.out] at h1; exact Option.some.inj h1
    clear h h2 k2 hr2 hS hS2 hR2 hs2
    go_enter Try.func23, Try.ntmps23
    go_wp2_with (first
      | (go_at_call 35; rw [← HW2.out]; refine Hrd.out.mono ?_; rintro e w3 ⟨rfl, v', e1, w1, hq, hw⟩; have ha := Haf.out _ _ _ _ hq hw; have Ha := Lib.hid ha; clear ha hq hw)
      | (with_reducible refine wpList_load_row rfl 55 (.tmp 3) rfl (w.heap.size + 1) rfl 55 S (0, 0) _ Ha.out.1 Try.underlying55 rfl Hsz.out ?_)
      | (with_reducible refine wpList_store_row rfl 55 (.tmp 2) (.tmp 7) rfl w.heap.size S rfl rfl 55 _ Ha.out.2.1 Hsz.out Hss.out Hone.out ?_))
    have hrow := setRow_heap w3 _ _ S _ _ Ha.out.2.1
    have hch : Chg [w.heap.size] w3 (w3.setRow w.heap.size S) := chg_row _ _ _
    refine bodyPost_ret (v := .agg S) (results_cell_row rfl _ _ w.heap.size 55 _ (0, 0) _ rfl hrow Try.underlying55 rfl Hsz.out) rfl ⟨rfl, (Ha.out.2.2.1.row hch (by simp; omega)).rdr HR.out (Ha.out.2.2.2.trans_new hch (Nat.le_refl _)), Ha.out.2.2.2.trans_new hch (Nat.le_refl _)⟩
  · rw [rdOf_no he]
    have Hrd := Lib.hid (read_off hr2 he (.func (.func 45) #[] #[.pointer (some ⟨w.heap.size + 1, 0, none⟩)]))
    have Hh2 := Lib.hid h2
    have Hsz : Hid ((Try.prog.info? 55).map (·.size) = some (#[.int .u8 0, .int .u8 0, .int .u8 0, .int .u8 0, .int .u8 0, .int .u8 0, .int .u8 0, .int .u8 0, .int .u8 0, .int .u8 0, .int .u8 0, .int .u8 0, .int .u8 0, .int .u8 0, .int .u8 0, .int .u8 0, .int .u8 0, .int .u8 0, .int .u8 0, .int .u8 0, .int .u8 0, .int .u8 0, .int .u8 0, .int .u8 0, .int .u8 0, .int .u8 0, .int .u8 0, .int .u8 0, .int .u8 0, .int .u8 0, .int .u8 0, .int .u8 0, .int .i64 0] : Array Value).size) := infoV33
    have Hone : Hid ((#[.int .u8 0, .int .u8 0, .int .u8 0, .int .u8 0, .int .u8 0, .int .u8 0, .int .u8 0, .int .u8 0, .int .u8 0, .int .u8 0, .int .u8 0, .int .u8 0, .int .u8 0, .int .u8 0, .int .u8 0, .int .u8 0, .int .u8 0, .int .u8 0, .int .u8 0, .int .u8 0, .int .u8 0, .int .u8 0, .int .u8 0, .int .u8 0, .int .u8 0, .int .u8 0, .int .u8 0, .int .u8 0, .int .u8 0, .int .u8 0, .int .u8 0, .int .u8 0, .int .i64 0] : Array Value).all (·.oneCell') = true) := vtxC_one z32 0
    clear h h2 k2 hr2 he hs2
    go_enter Try.func23, Try.ntmps23
    go_wp2_with (first
      | (go_at_call 35; rw [← HW2.out]; refine Hrd.out.mono ?_; rintro e w3 ⟨rfl, hw3⟩; subst hw3)
      | (with_reducible refine wpList_load_row rfl 55 (.tmp 3) rfl (w.heap.size + 1) rfl 55 #[.int .u8 0, .int .u8 0, .int .u8 0, .int .u8 0, .int .u8 0, .int .u8 0, .int .u8 0, .int .u8 0, .int .u8 0, .int .u8 0, .int .u8 0, .int .u8 0, .int .u8 0, .int .u8 0, .int .u8 0, .int .u8 0, .int .u8 0, .int .u8 0, .int .u8 0, .int .u8 0, .int .u8 0, .int .u8 0, .int .u8 0, .int .u8 0, .int .u8 0, .int .u8 0, .int .u8 0, .int .u8 0, .int .u8 0, .int .u8 0, .int .u8 0, .int .u8 0, .int .i64 0] (0, 0) _ Hh2.out.2 Try.underlying55 rfl Hsz.out ?_)
      | (with_reducible refine wpList_store_row rfl 55 (.tmp 2) (.tmp 7) rfl w.heap.size #[.int .u8 0, .int .u8 0, .int .u8 0, .int .u8 0, .int .u8 0, .int .u8 0, .int .u8 0, .int .u8 0, .int .u8 0, .int .u8 0, .int .u8 0, .int .u8 0, .int .u8 0, .int .u8 0, .int .u8 0, .int .u8 0, .int .u8 0, .int .u8 0, .int .u8 0, .int .u8 0, .int .u8 0, .int .u8 0, .int .u8 0, .int .u8 0, .int .u8 0, .int .u8 0, .int .u8 0, .int .u8 0, .int .u8 0, .int .u8 0, .int .u8 0, .int .u8 0, .int .i64 0] rfl rfl 55 _ Hh2.out.1 Hsz.out rfl Hone.out ?_))
    have hrow := setRow_heap w2 _ _ #[.int .u8 0, .int .u8 0, .int .u8 0, .int .u8 0, .int .u8 0, .int .u8 0, .int .u8 0, .int .u8 0, .int .u8 0, .int .u8 0, .int .u8 0, .int .u8 0, .int .u8 0, .int .u8 0, .int .u8 0, .int .u8 0, .int .u8 0, .int .u8 0, .int .u8 0, .int .u8 0, .int .u8 0, .int .u8 0, .int .u8 0, .int .u8 0, .int .u8 0, .int .u8 0, .int .u8 0, .int .u8 0, .int .u8 0, .int .u8 0, .int .u8 0, .int .u8 0, .int .i64 0] _ _ Hh2.out.1
    have hch : Chg [w.heap.size] w2 (w2.setRow w.heap.size #[.int .u8 0, .int .u8 0, .int .u8 0, .int .u8 0, .int .u8 0, .int .u8 0, .int .u8 0, .int .u8 0, .int .u8 0, .int .u8 0, .int .u8 0, .int .u8 0, .int .u8 0, .int .u8 0, .int .u8 0, .int .u8 0, .int .u8 0, .int .u8 0, .int .u8 0, .int .u8 0, .int .u8 0, .int .u8 0, .int .u8 0, .int .u8 0, .int .u8 0, .int .u8 0, .int .u8 0, .int .u8 0, .int .u8 0, .int .u8 0, .int .u8 0, .int .u8 0, .int .i64 0]) := chg_row _ _ _
    refine bodyPost_ret (v := .agg #[.int .u8 0, .int .u8 0, .int .u8 0, .int .u8 0, .int .u8 0, .int .u8 0, .int .u8 0, .int .u8 0, .int .u8 0, .int .u8 0, .int .u8 0, .int .u8 0, .int .u8 0, .int .u8 0, .int .u8 0, .int .u8 0, .int .u8 0, .int .u8 0, .int .u8 0, .int .u8 0, .int .u8 0, .int .u8 0, .int .u8 0, .int .u8 0, .int .u8 0, .int .u8 0, .int .u8 0, .int .u8 0, .int .u8 0, .int .u8 0, .int .u8 0, .int .u8 0, .int .i64 0]) (results_cell_row rfl _ _ w.heap.size 55 _ (0, 0) _ rfl hrow Try.underlying55 rfl Hsz.out) rfl ⟨rfl, (RdrAt.row (RdrAt.of HR.out Hk2.out) hch (by simp; omega)).rdr HR.out ((Chg.of_below Hk2.out).trans_new hch (Nat.le_refl _)), (Chg.of_below Hk2.out).trans_new hch (Nat.le_refl _)⟩
end Go.Proofs.Ytigfcmnknijobaa.Cod
