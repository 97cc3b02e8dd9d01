/- DERIVED. Texts of ours, merged: XGrfCand. -/
import Derived.Test.YtnjeppmpnaemlaaDoorMrk10
import Derived.Test.YtnjeppmpnaemlaaDoorMrk4
import Derived.WalkSmall
/- DERIVED. The candidates: Len, Less, Swap, Pop, Push; their methods through the interface. Written by mkcand.py. -/
set_option maxRecDepth 100000
namespace Go.Proofs.YtnjeppmpnaemlaaDoor.Grf
open Go.RowKit Str Go.Maps
attribute [local go_sem ↓ high] loadAtVx loadAtHs
theorem ns_less : ((Tryd.prog.info? 135).bind fun i => i.methods.find? (·.name == "Less")).map (fun m => (m.path, m.func)) = some (#[], some (140, false)) := by kernel_rfl
theorem ns_len : ((Tryd.prog.info? 135).bind fun i => i.methods.find? (·.name == "Len")).map (fun m => (m.path, m.func)) = some (#[], some (139, false)) := by kernel_rfl
theorem ns_swap : ((Tryd.prog.info? 135).bind fun i => i.methods.find? (·.name == "Swap")).map (fun m => (m.path, m.func)) = some (#[], some (141, false)) := by kernel_rfl
theorem method_val {nm : String} {f : FuncId} (hn : ((Tryd.prog.info? 135).bind fun i => i.methods.find? (·.name == nm)).map (fun m => (m.path, m.func)) = some (#[], some (f, false))) (k rd : Nat) (v : Value) (w : World) (h : w.cell? ⟨rd, 0, none⟩ = some v) :
    (method (k + 1) 135 (.pointer (some ⟨rd, 0, none⟩)) nm).run Tryd.prog w = .ok (f, v) w := by
  obtain ⟨m, hm, hpf⟩ := Option.map_eq_some_iff.1 hn
  obtain ⟨i, hi, hf⟩ := Option.bind_eq_some_iff.1 hm
  have hp : m.path = #[] := congrArg Prod.fst hpf
  have hfn : m.func = some (f, false) := congrArg Prod.snd hpf
  have hl : (loadVar 133 ⟨rd, 0, none⟩).run Tryd.prog w = .ok v w := by
    simp [loadVar, h]
  have hs : ∀ x y, Builtin.ssaWrapNilChk_ #[135] 135 #[.pointer (some ⟨rd, 0, none⟩), .string x, .string y] = pure (.pointer (some ⟨rd, 0, none⟩)) := fun _ _ => rfl
  unfold method
  simp [typeInfo, hi, hf, hp, hfn, follow, receiverAt, run_underlying Tryd.underlying135, Place.get, strVal, hs, asAddr, hl]
/-- candidates in memory. -/
structure CQ (w : World) (rd g cap base : Nat) (bl : Vx → Nat) (R : List Vx) : Prop where
  box : w.heap[rd]? = some (.cells #[.slice (some ⟨g, 0, none⟩) R.length cap] 133 (0, 0))
  own : w.ownsRow base 87 1 (.slice (some ⟨g, 0, none⟩) R.length cap) R.length (R.map fun v => ptr (bl v))
  vx : ∀ v ∈ R, w.rangeAt (bl v) 0 v.c.toList ∧ bl v < base
theorem CQ.row {w : World} {rd g cap base : Nat} {bl : Vx → Nat} {R : List Vx} (h : CQ w rd g cap base bl R) : ∃ C : Array Value, w.heap[g]? = some (.cells C 87 (0, 0)) ∧ base ≤ g ∧ R.length ≤ cap ∧ C.toList.take R.length = R.map (fun v => ptr (bl v)) := by
  rcases h.own.2 with ⟨e, _⟩ | ⟨g', cap', cur, hv, hb, hh, hc, hm, hs, ht⟩
  · cases e
  · cases hv
    exact ⟨cur, hh, hb, hc, by rw [Nat.mul_one] at ht; exact ht⟩
theorem CQ.cell {w : World} {rd g cap base : Nat} {bl : Vx → Nat} {R : List Vx} (h : CQ w rd g cap base bl R) {k : Nat} (hk : k < R.length) : w.cell? ⟨g, k, none⟩ = some (ptr (bl (at0 R k))) := by
  obtain ⟨C, hh, _, _, ht⟩ := h.row
  have e : (C.toList.take R.length)[k]? = some (ptr (bl (at0 R k))) := by rw [ht, List.getElem?_map, at0_lt hk]; rfl
  rw [List.getElem?_take, if_pos hk] at e
  rw [cell_row hh]
  simpa using e
theorem CQ.rge {w : World} {rd g cap base : Nat} {bl : Vx → Nat} {R : List Vx} (h : CQ w rd g cap base bl R) {k : Nat} (hk : k < R.length) : w.rangeAt (bl (at0 R k)) 0 (at0 R k).c.toList := (h.vx _ (List.mem_of_getElem? (at0_lt hk))).1
theorem CQ.below {w w' : World} {rd g cap base : Nat} {bl : Vx → Nat} {R : List Vx} (h : CQ w rd g cap base bl R) (hb : Below w.heap.size w w') : CQ w' rd g cap base bl R :=
  ⟨at_below h.box hb, own_stays h.own hb, fun v hv => ⟨range_at (h.vx v hv).1 (hb.block _ (range_lt (h.vx v hv).1)), (h.vx v hv).2⟩⟩
theorem own_setCell {w : World} {base g cap n T : Nat} {L : List Value} (h : w.ownsRow base T 1 (.slice (some ⟨g, 0, none⟩) n cap) n L) {i : Nat} (_hi : i < n) {x : Value} : (w.setCell ⟨g, i, none⟩ x).ownsRow base T 1 (.slice (some ⟨g, 0, none⟩) n cap) n (L.set i x) := by
  obtain ⟨h1, h2⟩ := h
  refine ⟨by rw [List.length_set]; exact h1, ?_⟩
  rcases h2 with ⟨e, _⟩ | ⟨g', cap', cur, hv, hb, hh, hc, hm, hs, ht⟩
  · cases e
  · cases hv
    refine .inr ⟨g, cap, cur.setIfInBounds i x, rfl, hb, heap_setCell_same _ _ _ _ _ _ hh, hc, hm, by rw [Array.size_setIfInBounds]; exact hs, ?_⟩
    rw [Array.toList_setIfInBounds, List.take_set, ht]
/-- two change places. -/
theorem CQ.swap {w w' : World} {rd g cap base : Nat} {bl : Vx → Nat} {R : List Vx} (h : CQ w rd g cap base bl R) {i j : Nat} (hi : i < R.length) (hj : j < R.length) (e : w' = ((w.setCell ⟨g, i, none⟩ (ptr (bl (at0 R j)))).setCell ⟨g, j, none⟩ (ptr (bl (at0 R i))))) : CQ w' rd g cap base bl (swp R i j) ∧ Chg [g] w w' := by
  obtain ⟨C, hh, hb, _⟩ := h.row
  have hne : rd ≠ g := ne_ty h.box hh (by decide)
  have hC : Chg [g] w w' := by
    rw [e]
    exact ((Chg.refl [g] w).setCell (p := ⟨g, i, none⟩) (by simp) _).setCell (p := ⟨g, j, none⟩) (by simp) _
  refine ⟨⟨?_, ?_, fun v hv => ?_⟩, hC⟩
  · rw [swp_len]; exact hC.at h.box (by simpa using hne)
  · have h2 := own_setCell (own_setCell h.own hi (x := ptr (bl (at0 R j)))) hj (x := ptr (bl (at0 R i)))
    rw [← e] at h2
    rw [swp_len]
    have el : ((R.map fun v => ptr (bl v)).set i (ptr (bl (at0 R j)))).set j (ptr (bl (at0 R i))) = (swp R i j).map fun v => ptr (bl v) := by
      apply List.ext_getElem?
      intro k
      by_cases hk : k < R.length
      · rw [List.getElem?_map, swp_get hk, List.getElem?_set, List.getElem?_set, List.length_set, List.length_map, List.getElem?_map]
        unfold sw
        by_cases h1 : j = k
        · rw [if_pos h1, if_pos (by omega)]
          by_cases h2 : k = i
          · rw [if_pos h2]; subst h1; rw [h2]; rfl
          · rw [if_neg h2, if_pos h1.symm]; rfl
        · rw [if_neg h1]
          by_cases h2 : i = k
          · rw [if_pos h2, if_pos (by omega), if_pos h2.symm]; rfl
          · rw [if_neg h2, if_neg (Ne.symm h2), if_neg (Ne.symm h1), at0_lt hk]
      · rw [List.getElem?_eq_none (by simp; omega), List.getElem?_eq_none (by simp [swp]; omega)]
    rw [← el]
    exact h2
  · have hm := (swp_sm hi hj).mem v |>.1 hv
    obtain ⟨h1, h2⟩ := h.vx v hm
    exact ⟨range_at h1 (hC.block _ (range_lt h1) (by simp only [List.mem_singleton]; omega)), h2⟩
theorem CQ.pop {w w' : World} {rd g cap base n : Nat} {bl : Vx → Nat} {R : List Vx} (h : CQ w rd g cap base bl R) (hn : R.length = n + 1) (e : w' = w.setCell ⟨rd, 0, none⟩ (.slice (some ⟨g, 0, none⟩) n cap)) : CQ w' rd g cap base bl (R.take n) ∧ Chg [rd] w w' := by
  obtain ⟨C, hh, hb, _⟩ := h.row
  have hne : g ≠ rd := ne_ty hh h.box (by decide)
  have hC : Chg [rd] w w' := by
    rw [e]
    exact (Chg.refl [rd] w).setCell (p := ⟨rd, 0, none⟩) (by simp) _
  have hl : (R.take n).length = n := by rw [List.length_take]; omega
  refine ⟨⟨?_, ?_, fun v hv => ?_⟩, hC⟩
  · rw [hl, e]; exact heap_setCell_same _ _ _ _ _ _ h.box
  · rw [hl]
    have h1 := h.own
    rw [hn] at h1
    have e2 : (R.map fun v => ptr (bl v)) = ((R.take n).map fun v => ptr (bl v)) ++ ((R.drop n).map fun v => ptr (bl v)) := by rw [← List.map_append, List.take_append_drop]
    rw [e2] at h1
    have h2 := ownsRow_pop (by rw [List.length_map, hl, Nat.mul_one]) h1
    exact World.ownsRow.kept h2 (by rw [e]; exact grown_setCell w ⟨rd, 0, none⟩ _) (.inr (by simp [Value.ownBlock]; omega))
  · obtain ⟨h1, h2⟩ := h.vx v (List.mem_of_mem_take hv)
    have hne2 : bl v ≠ rd := fun e3 => by
      have h3 := h1 33 
      have hc := h1 0 (.int .u8 (v.h.getD 0 0)) (by
        rw [Vx.c_list]
        have := v.len
        cases hv : v.h with
        | nil => rw [hv] at this; cases this
        | cons x t => rfl)
      rw [e3] at hc
      rw [Nat.zero_add, cell_row h.box] at hc
      simp at hc
    exact ⟨range_at h1 (hC.block _ (range_lt h1) (by simpa using hne2)), h2⟩
theorem len_any (n cap : Nat) (A : Option Addr) (w : World) : Calls Tryd.prog 139 #[.slice A n cap] w fun e w' => e = .returned (.int .i64 n) ∧ w' = w := by
  go_enter Tryd.func139, Tryd.ntmps139
  go_wp2
  go_ret
  exact ⟨rfl, rfl⟩
set_option maxHeartbeats 4000000 in
theorem less_any {w : World} {rd g cap base : Nat} {bl : Vx → Nat} {R : List Vx} (h : CQ w rd g cap base bl R) (i j : Nat) (hi : i < R.length) (hj : j < R.length) :
    Calls Tryd.prog 140 #[.slice (some ⟨g, 0, none⟩) R.length cap, .int .i64 i, .int .i64 j] w fun e w' => e = .returned (.bool (decide (ordV (at0 R i) (at0 R j) < 0))) ∧ Below w.heap.size w w' := by
  have HI := Lib.hid (h.cell hi)
  have HJ := Lib.hid (h.cell hj)
  have RI := Lib.hid (h.rge hi)
  have RJ := Lib.hid (h.rge hj)
  have hi0 : (0 : Int) ≤ i := by omega
  have hj0 : (0 : Int) ≤ j := by omega
  have hiL : (i : Int) < R.length := by omega
  have hjL : (j : Int) < R.length := by omega
  obtain ⟨C, _, _, hcap, _⟩ := h.row
  have hcI : (R.length : Int) ≤ cap := by omega
  have HD : Hid (decide (ordV (at0 R i) (at0 R j) < 0) = decide (ordV (at0 R i) (at0 R j) < 0)) := rfl
  clear h hi hj
  generalize at0 R i = x at *
  generalize at0 R j = y at *
  generalize bl x = p at *
  generalize bl y = q at *
  generalize R.length = n at *
  go_enter Tryd.func140, Tryd.ntmps140
  go_upto_region 1 with (fail)
  have apx : apartB [7, 8, 9, 10, 11, 12, 13, 14, 15, 16, 17, 18, 19, 20, 21, 22, 6] = true := by decide
  refine wp_region_any (by kernel_rfl) ?_
  change wpAny _ _ _ _ _ _ _ (World.drew _)
  refine wpAny_inv (fun ll aa wx => Hid (ll.size = 17 ∧ Below w.heap.size w wx) ∧ ∃ (z : Nat → Value), Hid (aa = ⟨#[.slice (some ⟨g, 0, none⟩) n cap, .int .i64 i, .int .i64 j, undef, undef, undef, z 6, z 7, z 8, z 9, z 10, z 11, z 12, z 13, z 14, z 15, z 16, z 17, z 18, z 19, z 20, z 21, z 22], []⟩) ∧ Holding [7, 8, 9, 10, 11, 12, 13, 14, 15, 16, 17, 18, 19, 20, 21, 22, 6] [some (.slice (some ⟨g, 0, none⟩) n cap), some (.int .i64 i), some (.pointer (some ⟨g, i, none⟩)), some (ptr p), some (.pointer (some ⟨p, 0, none⟩)), some (.pointer (some ⟨p, 0, none⟩)), some (.agg x.c), some (.slice (some ⟨g, 0, none⟩) n cap), some (.int .i64 j), some (.pointer (some ⟨g, j, none⟩)), some (ptr q), some (.pointer (some ⟨q, 0, none⟩)), some (.pointer (some ⟨q, 0, none⟩)), some (.agg y.c), some (.int .i64 (ordV x y)), some (.bool (decide (ordV x y < 0))), some (.bool (decide (ordV x y < 0)))] ll z) ?_ (by kernel_rfl) ?_ ?_ _ _ _ _ (unlisted_none _) ?_
  · rintro ll aa wx ⟨hI, _⟩
    exact hI.out.1
  · rintro ll aa wx ⟨hI, z, ha, hz⟩ hall
    have hx := Lib.hid hI.out.2
    have e0 : z 7 = .slice (some ⟨g, 0, none⟩) n cap := hz 0 _ (hall 0 (by decide)) rfl
    have e1 : z 8 = .int .i64 i := hz 1 _ (hall 1 (by decide)) rfl
    have e2 : z 9 = .pointer (some ⟨g, i, none⟩) := hz 2 _ (hall 2 (by decide)) rfl
    have e3 : z 10 = ptr p := hz 3 _ (hall 3 (by decide)) rfl
    have e4 : z 11 = .pointer (some ⟨p, 0, none⟩) := hz 4 _ (hall 4 (by decide)) rfl
    have e5 : z 12 = .pointer (some ⟨p, 0, none⟩) := hz 5 _ (hall 5 (by decide)) rfl
    have e6 : z 13 = .agg x.c := hz 6 _ (hall 6 (by decide)) rfl
    have e7 : z 14 = .slice (some ⟨g, 0, none⟩) n cap := hz 7 _ (hall 7 (by decide)) rfl
    have e8 : z 15 = .int .i64 j := hz 8 _ (hall 8 (by decide)) rfl
    have e9 : z 16 = .pointer (some ⟨g, j, none⟩) := hz 9 _ (hall 9 (by decide)) rfl
    have e10 : z 17 = ptr q := hz 10 _ (hall 10 (by decide)) rfl
    have e11 : z 18 = .pointer (some ⟨q, 0, none⟩) := hz 11 _ (hall 11 (by decide)) rfl
    have e12 : z 19 = .pointer (some ⟨q, 0, none⟩) := hz 12 _ (hall 12 (by decide)) rfl
    have e13 : z 20 = .agg y.c := hz 13 _ (hall 13 (by decide)) rfl
    have e14 : z 21 = .int .i64 (ordV x y) := hz 14 _ (hall 14 (by decide)) rfl
    have e15 : z 22 = .bool (decide (ordV x y < 0)) := hz 15 _ (hall 15 (by decide)) rfl
    have e16 : z 6 = .bool (decide (ordV x y < 0)) := hz 16 _ (hall 16 (by decide)) rfl
    clear hall hz hI 
    obtain rfl := ha.out
    clear ha
    clear apx
    have HX := Lib.hid hx.out
    clear hx
    rw [e16]
    go_wp2
    go_ret
    exact ⟨rfl, HX.out⟩
  · rintro ll aa wx i ⟨hI, z, ha, hz⟩ hi hu hw
    obtain rfl := ha.out
    have hsz := Lib.hid hI.out.1
    have hx := Lib.hid hI.out.2
    clear ha hI
    have hin : i < 17 := hi
    obtain rfl | rfl | rfl | rfl | rfl | rfl | rfl | rfl | rfl | rfl | rfl | rfl | rfl | rfl | rfl | rfl | rfl : i = 0 ∨ i = 1 ∨ i = 2 ∨ i = 3 ∨ i = 4 ∨ i = 5 ∨ i = 6 ∨ i = 7 ∨ i = 8 ∨ i = 9 ∨ i = 10 ∨ i = 11 ∨ i = 12 ∨ i = 13 ∨ i = 14 ∨ i = 15 ∨ i = 16 := by omega
    · refine wpOp_plain rfl rfl ?_
      go_simp
      exact ⟨⟨by simp [hsz.out], hx.out⟩, upd z 7 (.slice (some ⟨g, 0, none⟩) n cap), (by unfold Hid; simp [upd]), hz.next apx hsz.out 0 (by decide) _ (fun _ h => Option.some.inj h)⟩
    · refine wpOp_plain rfl rfl ?_
      go_simp
      exact ⟨⟨by simp [hsz.out], hx.out⟩, upd z 8 (.int .i64 i), (by unfold Hid; simp [upd]), hz.next apx hsz.out 1 (by decide) _ (fun _ h => Option.some.inj h)⟩
    · have e0 : z 7 = .slice (some ⟨g, 0, none⟩) n cap := hz 0 _ (hw 0 (by kernel_rfl)) rfl
      have e1 : z 8 = .int .i64 i := hz 1 _ (hw 1 (by kernel_rfl)) rfl
      refine wpOp_plain rfl rfl ?_
      go_simp
      exact ⟨⟨by simp [hsz.out], hx.out⟩, upd z 9 (.pointer (some ⟨g, i, none⟩)), (by unfold Hid; simp [upd, e0, e1]), hz.next apx hsz.out 2 (by decide) _ (fun _ h => Option.some.inj h)⟩
    · have e2 : z 9 = .pointer (some ⟨g, i, none⟩) := hz 2 _ (hw 2 (by kernel_rfl)) rfl
      have cl : wx.cell? ⟨g, i, none⟩ = some (ptr p) := (hx.out.cell (p := ⟨g, i, none⟩) (World.block_lt_of_cell? _ _ HI.out)).trans HI.out
      refine wpOp_plain rfl rfl ?_
      go_simp
      exact ⟨⟨by simp [hsz.out], hx.out⟩, upd z 10 (ptr p), (by unfold Hid; simp [upd, e2]), hz.next apx hsz.out 3 (by decide) _ (fun _ h => Option.some.inj h)⟩
    · have e3 : z 10 = ptr p := hz 3 _ (hw 3 (by kernel_rfl)) rfl
      refine wpOp_plain rfl rfl ?_
      go_simp
      exact ⟨⟨by simp [hsz.out], hx.out⟩, upd z 11 (.pointer (some ⟨p, 0, none⟩)), (by unfold Hid; simp [upd, e3]), hz.next apx hsz.out 4 (by decide) _ (fun _ h => Option.some.inj h)⟩
    · have e4 : z 11 = .pointer (some ⟨p, 0, none⟩) := hz 4 _ (hw 4 (by kernel_rfl)) rfl
      refine wpOp_plain rfl rfl ?_
      go_simp
      exact ⟨⟨by simp [hsz.out], hx.out⟩, upd z 12 (.pointer (some ⟨p, 0, none⟩)), (by unfold Hid; simp [upd, e4]), hz.next apx hsz.out 5 (by decide) _ (fun _ h => Option.some.inj h)⟩
    · have e5 : z 12 = .pointer (some ⟨p, 0, none⟩) := hz 5 _ (hw 5 (by kernel_rfl)) rfl
      have cl := loadVx_eq (range_at RI.out (hx.out.block _ (range_lt RI.out)))
      refine wpOp_plain rfl rfl ?_
      go_simp
      exact ⟨⟨by simp [hsz.out], hx.out⟩, upd z 13 (.agg x.c), (by unfold Hid; simp [upd, e5]), hz.next apx hsz.out 6 (by decide) _ (fun _ h => Option.some.inj h)⟩
    · refine wpOp_plain rfl rfl ?_
      go_simp
      exact ⟨⟨by simp [hsz.out], hx.out⟩, upd z 14 (.slice (some ⟨g, 0, none⟩) n cap), (by unfold Hid; simp [upd]), hz.next apx hsz.out 7 (by decide) _ (fun _ h => Option.some.inj h)⟩
    · refine wpOp_plain rfl rfl ?_
      go_simp
      exact ⟨⟨by simp [hsz.out], hx.out⟩, upd z 15 (.int .i64 j), (by unfold Hid; simp [upd]), hz.next apx hsz.out 8 (by decide) _ (fun _ h => Option.some.inj h)⟩
    · have e7 : z 14 = .slice (some ⟨g, 0, none⟩) n cap := hz 7 _ (hw 7 (by kernel_rfl)) rfl
      have e8 : z 15 = .int .i64 j := hz 8 _ (hw 8 (by kernel_rfl)) rfl
      refine wpOp_plain rfl rfl ?_
      go_simp
      exact ⟨⟨by simp [hsz.out], hx.out⟩, upd z 16 (.pointer (some ⟨g, j, none⟩)), (by unfold Hid; simp [upd, e7, e8]), hz.next apx hsz.out 9 (by decide) _ (fun _ h => Option.some.inj h)⟩
    · have e9 : z 16 = .pointer (some ⟨g, j, none⟩) := hz 9 _ (hw 9 (by kernel_rfl)) rfl
      have cl : wx.cell? ⟨g, j, none⟩ = some (ptr q) := (hx.out.cell (p := ⟨g, j, none⟩) (World.block_lt_of_cell? _ _ HJ.out)).trans HJ.out
      refine wpOp_plain rfl rfl ?_
      go_simp
      exact ⟨⟨by simp [hsz.out], hx.out⟩, upd z 17 (ptr q), (by unfold Hid; simp [upd, e9]), hz.next apx hsz.out 10 (by decide) _ (fun _ h => Option.some.inj h)⟩
    · have e10 : z 17 = ptr q := hz 10 _ (hw 10 (by kernel_rfl)) rfl
      refine wpOp_plain rfl rfl ?_
      go_simp
      exact ⟨⟨by simp [hsz.out], hx.out⟩, upd z 18 (.pointer (some ⟨q, 0, none⟩)), (by unfold Hid; simp [upd, e10]), hz.next apx hsz.out 11 (by decide) _ (fun _ h => Option.some.inj h)⟩
    · have e11 : z 18 = .pointer (some ⟨q, 0, none⟩) := hz 11 _ (hw 11 (by kernel_rfl)) rfl
      refine wpOp_plain rfl rfl ?_
      go_simp
      exact ⟨⟨by simp [hsz.out], hx.out⟩, upd z 19 (.pointer (some ⟨q, 0, none⟩)), (by unfold Hid; simp [upd, e11]), hz.next apx hsz.out 12 (by decide) _ (fun _ h => Option.some.inj h)⟩
    · have e12 : z 19 = .pointer (some ⟨q, 0, none⟩) := hz 12 _ (hw 12 (by kernel_rfl)) rfl
      have cl := loadVx_eq (range_at RJ.out (hx.out.block _ (range_lt RJ.out)))
      refine wpOp_plain rfl rfl ?_
      go_simp
      exact ⟨⟨by simp [hsz.out], hx.out⟩, upd z 20 (.agg y.c), (by unfold Hid; simp [upd, e12]), hz.next apx hsz.out 13 (by decide) _ (fun _ h => Option.some.inj h)⟩
    · have e6 : z 13 = .agg x.c := hz 6 _ (hw 6 (by kernel_rfl)) rfl
      have e13 : z 20 = .agg y.c := hz 13 _ (hw 13 (by kernel_rfl)) rfl
      refine wpOp_plain rfl rfl ?_
      go_simp
      go_at_call 142
      refine (order_any x y wx).mono ?_
      rintro e w8 ⟨rfl, low⟩
      exact ⟨⟨by simp [hsz.out], hx.out.trans (low.mono hx.out.size)⟩, upd z 21 (.int .i64 (ordV x y)), (by unfold Hid; simp [upd, e6, e13]), hz.next apx hsz.out 14 (by decide) _ (fun _ h => Option.some.inj h)⟩
    · have e14 : z 21 = .int .i64 (ordV x y) := hz 14 _ (hw 14 (by kernel_rfl)) rfl
      refine wpOp_plain rfl rfl ?_
      go_simp
      exact ⟨⟨by simp [hsz.out], hx.out⟩, upd z 22 (.bool (decide (ordV x y < 0))), (by unfold Hid; simp [upd, e14]), hz.next apx hsz.out 15 (by decide) _ (fun _ h => Option.some.inj h)⟩
    · have e15 : z 22 = .bool (decide (ordV x y < 0)) := hz 15 _ (hw 15 (by kernel_rfl)) rfl
      refine wpOp_plain rfl rfl ?_
      go_simp
      exact ⟨⟨by simp [hsz.out], hx.out⟩, upd z 6 (.bool (decide (ordV x y < 0))), (by unfold Hid; simp [upd, e15]), hz.next apx hsz.out 16 (by decide) _ (fun _ h => Option.some.inj h)⟩
  · exact ⟨⟨rfl, (Below.refl _ _).drew⟩, fun xx => (#[.slice (some ⟨g, 0, none⟩) n cap, .int .i64 i, .int .i64 j, undef, undef, undef, .bool false, undef, undef, undef, undef, undef, undef, undef, undef, undef, undef, undef, undef, undef, undef, undef, undef] : Array Value).getD xx undef, (by rfl), Holding.start⟩
/-- the world behind none, one, both of the stores. -/
def RelS (W : World) (p q : Addr) (x y : Value) (ll : Array Bool) (wx : World) : Prop :=
  wx = if ll.getD 15 false = true then (W.drew.setCell p x).setCell q y else if ll.getD 13 false = true then W.drew.setCell p x else W.drew
theorem set_get {ll : Array Bool} {i k : Nat} (h : k ≠ i) : (ll.setIfInBounds i true).getD k false = ll.getD k false := by
  simp [Array.getD_eq_getD_getElem?, Ne.symm h]
theorem RelS.same {W : World} {p q : Addr} {x y : Value} {ll : Array Bool} {wx : World} {i : Nat} (h : RelS W p q x y ll wx) (h1 : 13 ≠ i) (h2 : 15 ≠ i) : RelS W p q x y (ll.setIfInBounds i true) wx := by
  unfold RelS at h ⊢
  rw [set_get h1, set_get h2]
  exact h
theorem no_of {ll : Array Bool} {q i : Nat} (h : ll.getD q false = true → ll.getD i false = true) (hu : ll.getD i false = false) : ll.getD q false = false := by
  cases e : ll.getD q false with
  | false => rfl
  | true => rw [h e] at hu; cases hu
theorem RelS.none {W : World} {p q : Addr} {x y : Value} {ll : Array Bool} {wx : World} (h : RelS W p q x y ll wx) (h1 : ll.getD 13 false = false) (h2 : ll.getD 15 false = false) : wx = W.drew := by
  unfold RelS at h
  rw [h1, h2] at h
  simpa using h
theorem RelS.one {W : World} {p q : Addr} {x y : Value} {ll : Array Bool} {wx : World} (h : RelS W p q x y ll wx) (h1 : ll.getD 13 false = true) (h2 : ll.getD 15 false = false) : wx = W.drew.setCell p x := by
  unfold RelS at h
  rw [h1, h2] at h
  simpa using h
theorem RelS.first {W : World} {p q : Addr} {x y : Value} {ll : Array Bool} (hs : ll.size = 16) (h2 : ll.getD 15 false = false) : RelS W p q x y (ll.setIfInBounds 13 true) (W.drew.setCell p x) := by
  unfold RelS
  rw [set_get (by decide), h2]
  simp [hs]
theorem RelS.second {W : World} {p q : Addr} {x y : Value} {ll : Array Bool} (hs : ll.size = 16) : RelS W p q x y (ll.setIfInBounds 15 true) ((W.drew.setCell p x).setCell q y) := by
  unfold RelS
  simp [hs]
set_option maxHeartbeats 4000000 in
theorem swap_any {w : World} {rd g cap base : Nat} {bl : Vx → Nat} {R : List Vx} (h : CQ w rd g cap base bl R) (i j : Nat) (hi : i < R.length) (hj : j < R.length) :
    Calls Tryd.prog 141 #[.slice (some ⟨g, 0, none⟩) R.length cap, .int .i64 i, .int .i64 j] w fun e w' => e = .returned (.tuple #[]) ∧ CQ w' rd g cap base bl (swp R i j) ∧ Chg [g] w w' := by
  have hd : CQ w.drew rd g cap base bl R := h.below (Below.refl _ _).drew
  have HS : Hid (∀ w', w' = ((w.drew.setCell ⟨g, i, none⟩ (ptr (bl (at0 R j)))).setCell ⟨g, j, none⟩ (ptr (bl (at0 R i)))) → CQ w' rd g cap base bl (swp R i j) ∧ Chg [g] w w') := fun w' e => by
    obtain ⟨h1, h2⟩ := hd.swap hi hj e
    exact ⟨h1, (Chg.of_below (Below.refl _ _).drew).trans h2⟩
  have HI := Lib.hid (hd.cell hi)
  have HJ := Lib.hid (hd.cell hj)
  obtain ⟨C, hh, _, hcap, _⟩ := hd.row
  have HI2 : Hid (w.drew.frozen? ⟨g, i, none⟩ = false) := free_row hh i
  have HI3 : Hid (∀ u, ∃ y, (w.drew.setCell ⟨g, i, none⟩ u).cell? ⟨g, j, none⟩ = some y) := fun u => by
    obtain ⟨y, hy⟩ : ∃ y, w.drew.cell? ⟨g, j, none⟩ = some y := ⟨_, hd.cell hj⟩
    by_cases e : i = j
    · subst e
      exact ⟨u, by rw [World.cell?_setCell_same (h := hy)]⟩
    · exact ⟨y, by rw [World.cell?_setCell_other (h := fun e2 => e (congrArg Addr.off e2))]; exact hy⟩
  have HI4 : Hid (∀ u, (w.drew.setCell ⟨g, i, none⟩ u).frozen? ⟨g, j, none⟩ = false) := fun u => free_row (heap_setCell_same _ _ _ _ _ _ hh) j
  have hi0 : (0 : Int) ≤ i := by omega
  have hj0 : (0 : Int) ≤ j := by omega
  have hiL : (i : Int) < R.length := by omega
  have hjL : (j : Int) < R.length := by omega
  have hcI : (R.length : Int) ≤ cap := by omega
  clear h hd hh
  generalize bl (at0 R i) = p at *
  generalize bl (at0 R j) = q at *
  generalize hn : R.length = n at *
  clear hn
  go_enter Tryd.func141, Tryd.ntmps141
  go_upto_region 0 with (fail)
  have apx : apartB [6, 7, 8, 9, 10, 11, 12, 13, 14, 15, 16, 17, 18, 1013, 19, 1015] = true := by decide
  refine wp_region_any (by kernel_rfl) ?_
  change wpAny _ _ _ _ _ _ _ (World.drew _)
  refine wpAny_inv2 (fun ll aa wx => Hid (ll.size = 16 ∧ RelS w ⟨g, i, none⟩ ⟨g, j, none⟩ (ptr q) (ptr p) ll wx) ∧ ∃ (z : Nat → Value), Hid (aa = ⟨#[.slice (some ⟨g, 0, none⟩) n cap, .int .i64 i, .int .i64 j, undef, undef, undef, z 6, z 7, z 8, z 9, z 10, z 11, z 12, z 13, z 14, z 15, z 16, z 17, z 18, z 19], []⟩) ∧ Holding [6, 7, 8, 9, 10, 11, 12, 13, 14, 15, 16, 17, 18, 1013, 19, 1015] [some (.slice (some ⟨g, 0, none⟩) n cap), some (.int .i64 i), some (.slice (some ⟨g, 0, none⟩) n cap), some (.int .i64 j), some (.slice (some ⟨g, 0, none⟩) n cap), some (.int .i64 j), some (.pointer (some ⟨g, j, none⟩)), some (ptr q), some (.slice (some ⟨g, 0, none⟩) n cap), some (.int .i64 i), some (.pointer (some ⟨g, i, none⟩)), some (ptr p), some (.pointer (some ⟨g, i, none⟩)), none, some (.pointer (some ⟨g, j, none⟩)), none] ll z ∧ Whn ll 15 (fun _ ww => ww = (w.drew.setCell ⟨g, i, none⟩ (ptr q)).setCell ⟨g, j, none⟩ (ptr p)) (z 1015) wx) ?_ (by kernel_rfl) ?_ ?_ _ rfl _ _ ?_
  · rintro ll aa wx ⟨hI, _⟩
    exact hI.out.1
  · rintro ll aa wx ⟨hI, z, ha, hz, hp15⟩ hall
    have hx := Lib.hid hI.out.2
    have e0 : z 6 = .slice (some ⟨g, 0, none⟩) n cap := hz 0 _ (hall 0 (by decide)) rfl
    have e1 : z 7 = .int .i64 i := hz 1 _ (hall 1 (by decide)) rfl
    have e2 : z 8 = .slice (some ⟨g, 0, none⟩) n cap := hz 2 _ (hall 2 (by decide)) rfl
    have e3 : z 9 = .int .i64 j := hz 3 _ (hall 3 (by decide)) rfl
    have e4 : z 10 = .slice (some ⟨g, 0, none⟩) n cap := hz 4 _ (hall 4 (by decide)) rfl
    have e5 : z 11 = .int .i64 j := hz 5 _ (hall 5 (by decide)) rfl
    have e6 : z 12 = .pointer (some ⟨g, j, none⟩) := hz 6 _ (hall 6 (by decide)) rfl
    have e7 : z 13 = ptr q := hz 7 _ (hall 7 (by decide)) rfl
    have e8 : z 14 = .slice (some ⟨g, 0, none⟩) n cap := hz 8 _ (hall 8 (by decide)) rfl
    have e9 : z 15 = .int .i64 i := hz 9 _ (hall 9 (by decide)) rfl
    have e10 : z 16 = .pointer (some ⟨g, i, none⟩) := hz 10 _ (hall 10 (by decide)) rfl
    have e11 : z 17 = ptr p := hz 11 _ (hall 11 (by decide)) rfl
    have e12 : z 18 = .pointer (some ⟨g, i, none⟩) := hz 12 _ (hall 12 (by decide)) rfl
    have e14 : z 19 = .pointer (some ⟨g, j, none⟩) := hz 14 _ (hall 14 (by decide)) rfl
    have p15 := hp15.get (hall 15 (by decide))
    clear hall hz hI hp15
    obtain rfl := ha.out
    clear ha
    clear apx
    have HX := Lib.hid p15
    clear hx p15
    go_wp2
    exact bodyPost_end (results_none rfl _ _ _) rfl ⟨rfl, HS.out _ HX.out⟩
  · rintro ll aa wx i ⟨hI, z, ha, hz, hp15⟩ hcl hi hu hw
    obtain rfl := ha.out
    have hsz := Lib.hid hI.out.1
    have hx := Lib.hid hI.out.2
    clear ha hI
    have hin : i < 16 := hi
    obtain rfl | rfl | rfl | rfl | rfl | rfl | rfl | rfl | rfl | rfl | rfl | rfl | rfl | rfl | rfl | rfl : i = 0 ∨ i = 1 ∨ i = 2 ∨ i = 3 ∨ i = 4 ∨ i = 5 ∨ i = 6 ∨ i = 7 ∨ i = 8 ∨ i = 9 ∨ i = 10 ∨ i = 11 ∨ i = 12 ∨ i = 13 ∨ i = 14 ∨ i = 15 := by omega
    · refine wpOp_plain rfl rfl ?_
      go_simp
      exact ⟨⟨by simp [hsz.out], hx.out.same (by decide) (by decide)⟩, upd z 6 (.slice (some ⟨g, 0, none⟩) n cap), (by unfold Hid; simp [upd]), hz.next apx hsz.out 0 (by decide) _ (fun _ h => Option.some.inj h), hp15.keep (by decide)⟩
    · refine wpOp_plain rfl rfl ?_
      go_simp
      exact ⟨⟨by simp [hsz.out], hx.out.same (by decide) (by decide)⟩, upd z 7 (.int .i64 i), (by unfold Hid; simp [upd]), hz.next apx hsz.out 1 (by decide) _ (fun _ h => Option.some.inj h), hp15.keep (by decide)⟩
    · refine wpOp_plain rfl rfl ?_
      go_simp
      exact ⟨⟨by simp [hsz.out], hx.out.same (by decide) (by decide)⟩, upd z 8 (.slice (some ⟨g, 0, none⟩) n cap), (by unfold Hid; simp [upd]), hz.next apx hsz.out 2 (by decide) _ (fun _ h => Option.some.inj h), hp15.keep (by decide)⟩
    · refine wpOp_plain rfl rfl ?_
      go_simp
      exact ⟨⟨by simp [hsz.out], hx.out.same (by decide) (by decide)⟩, upd z 9 (.int .i64 j), (by unfold Hid; simp [upd]), hz.next apx hsz.out 3 (by decide) _ (fun _ h => Option.some.inj h), hp15.keep (by decide)⟩
    · refine wpOp_plain rfl rfl ?_
      go_simp
      exact ⟨⟨by simp [hsz.out], hx.out.same (by decide) (by decide)⟩, upd z 10 (.slice (some ⟨g, 0, none⟩) n cap), (by unfold Hid; simp [upd]), hz.next apx hsz.out 4 (by decide) _ (fun _ h => Option.some.inj h), hp15.keep (by decide)⟩
    · refine wpOp_plain rfl rfl ?_
      go_simp
      exact ⟨⟨by simp [hsz.out], hx.out.same (by decide) (by decide)⟩, upd z 11 (.int .i64 j), (by unfold Hid; simp [upd]), hz.next apx hsz.out 5 (by decide) _ (fun _ h => Option.some.inj h), hp15.keep (by decide)⟩
    · have e4 : z 10 = .slice (some ⟨g, 0, none⟩) n cap := hz 4 _ (hw 4 (by kernel_rfl)) rfl
      have e5 : z 11 = .int .i64 j := hz 5 _ (hw 5 (by kernel_rfl)) rfl
      refine wpOp_plain rfl rfl ?_
      go_simp
      exact ⟨⟨by simp [hsz.out], hx.out.same (by decide) (by decide)⟩, upd z 12 (.pointer (some ⟨g, j, none⟩)), (by unfold Hid; simp [upd, e4, e5]), hz.next apx hsz.out 6 (by decide) _ (fun _ h => Option.some.inj h), hp15.keep (by decide)⟩
    · have e6 : z 12 = .pointer (some ⟨g, j, none⟩) := hz 6 _ (hw 6 (by kernel_rfl)) rfl
      have hw0 := hx.out.none (no_of (fun hl => hcl 13 7 hl (by kernel_rfl)) hu) (no_of (fun hl => hcl 15 7 hl (by kernel_rfl)) hu)
      have cl := HJ.out
      rw [← hw0] at cl
      clear hw0
      refine wpOp_plain rfl rfl ?_
      go_simp
      exact ⟨⟨by simp [hsz.out], hx.out.same (by decide) (by decide)⟩, upd z 13 (ptr q), (by unfold Hid; simp [upd, e6]), hz.next apx hsz.out 7 (by decide) _ (fun _ h => Option.some.inj h), hp15.keep (by decide)⟩
    · refine wpOp_plain rfl rfl ?_
      go_simp
      exact ⟨⟨by simp [hsz.out], hx.out.same (by decide) (by decide)⟩, upd z 14 (.slice (some ⟨g, 0, none⟩) n cap), (by unfold Hid; simp [upd]), hz.next apx hsz.out 8 (by decide) _ (fun _ h => Option.some.inj h), hp15.keep (by decide)⟩
    · refine wpOp_plain rfl rfl ?_
      go_simp
      exact ⟨⟨by simp [hsz.out], hx.out.same (by decide) (by decide)⟩, upd z 15 (.int .i64 i), (by unfold Hid; simp [upd]), hz.next apx hsz.out 9 (by decide) _ (fun _ h => Option.some.inj h), hp15.keep (by decide)⟩
    · have e8 : z 14 = .slice (some ⟨g, 0, none⟩) n cap := hz 8 _ (hw 8 (by kernel_rfl)) rfl
      have e9 : z 15 = .int .i64 i := hz 9 _ (hw 9 (by kernel_rfl)) rfl
      refine wpOp_plain rfl rfl ?_
      go_simp
      exact ⟨⟨by simp [hsz.out], hx.out.same (by decide) (by decide)⟩, upd z 16 (.pointer (some ⟨g, i, none⟩)), (by unfold Hid; simp [upd, e8, e9]), hz.next apx hsz.out 10 (by decide) _ (fun _ h => Option.some.inj h), hp15.keep (by decide)⟩
    · have e10 : z 16 = .pointer (some ⟨g, i, none⟩) := hz 10 _ (hw 10 (by kernel_rfl)) rfl
      have hw0 := hx.out.none (no_of (fun hl => hcl 13 11 hl (by kernel_rfl)) hu) (no_of (fun hl => hcl 15 11 hl (by kernel_rfl)) hu)
      have cl := HI.out
      rw [← hw0] at cl
      clear hw0
      refine wpOp_plain rfl rfl ?_
      go_simp
      exact ⟨⟨by simp [hsz.out], hx.out.same (by decide) (by decide)⟩, upd z 17 (ptr p), (by unfold Hid; simp [upd, e10]), hz.next apx hsz.out 11 (by decide) _ (fun _ h => Option.some.inj h), hp15.keep (by decide)⟩
    · have e0 : z 6 = .slice (some ⟨g, 0, none⟩) n cap := hz 0 _ (hw 0 (by kernel_rfl)) rfl
      have e1 : z 7 = .int .i64 i := hz 1 _ (hw 1 (by kernel_rfl)) rfl
      refine wpOp_plain rfl rfl ?_
      go_simp
      exact ⟨⟨by simp [hsz.out], hx.out.same (by decide) (by decide)⟩, upd z 18 (.pointer (some ⟨g, i, none⟩)), (by unfold Hid; simp [upd, e0, e1]), hz.next apx hsz.out 12 (by decide) _ (fun _ h => Option.some.inj h), hp15.keep (by decide)⟩
    · have e7 : z 13 = ptr q := hz 7 _ (hw 7 (by kernel_rfl)) rfl
      have e12 : z 18 = .pointer (some ⟨g, i, none⟩) := hz 12 _ (hw 12 (by kernel_rfl)) rfl
      have h15 := no_of (fun hl => hcl 15 13 hl (by kernel_rfl)) hu
      have hw0 := hx.out.none hu h15
      have cl := HI.out
      have fr := HI2.out
      rw [← hw0] at cl fr
      have Hw0 := Lib.hid hw0
      clear hw0
      refine wpOp_plain rfl rfl ?_
      go_simp
      exact ⟨⟨by simp [hsz.out], (by rw [Hw0.out]; exact RelS.first hsz.out h15)⟩, upd z 1013 (undef), (by unfold Hid; simp [upd, e7, e12]), hz.next apx hsz.out 13 (by decide) _ (fun _ h => by cases h), Whn.never (by decide) (fun hl => hcl 15 13 hl (by kernel_rfl)) hu⟩
    · have e2 : z 8 = .slice (some ⟨g, 0, none⟩) n cap := hz 2 _ (hw 2 (by kernel_rfl)) rfl
      have e3 : z 9 = .int .i64 j := hz 3 _ (hw 3 (by kernel_rfl)) rfl
      refine wpOp_plain rfl rfl ?_
      go_simp
      exact ⟨⟨by simp [hsz.out], hx.out.same (by decide) (by decide)⟩, upd z 19 (.pointer (some ⟨g, j, none⟩)), (by unfold Hid; simp [upd, e2, e3]), hz.next apx hsz.out 14 (by decide) _ (fun _ h => Option.some.inj h), hp15.keep (by decide)⟩
    · have e11 : z 17 = ptr p := hz 11 _ (hw 11 (by kernel_rfl)) rfl
      have e14 : z 19 = .pointer (some ⟨g, j, none⟩) := hz 14 _ (hw 14 (by kernel_rfl)) rfl
      have hw0 := hx.out.one (hw 13 (by kernel_rfl)) hu
      obtain ⟨y, cl⟩ := HI3.out (ptr q)
      have fr := HI4.out (ptr q)
      rw [← hw0] at cl fr
      have Hw0 := Lib.hid hw0
      clear hw0
      refine wpOp_plain rfl rfl ?_
      go_simp
      exact ⟨⟨by simp [hsz.out], (by rw [Hw0.out]; exact RelS.second hsz.out)⟩, upd z 1015 (undef), (by unfold Hid; simp [upd, e11, e14]), hz.next apx hsz.out 15 (by decide) _ (fun _ h => by cases h), Whn.done ((by rw [Hw0.out]; rfl))⟩
  · exact ⟨⟨rfl, rfl⟩, fun xx => (#[.slice (some ⟨g, 0, none⟩) n cap, .int .i64 i, .int .i64 j, undef, undef, undef, undef, undef, undef, undef, undef, undef, undef, undef, undef, undef, undef, undef, undef, undef] : Array Value).getD xx undef, (by rfl), Holding.start, Whn.none (by decide)⟩
end Go.Proofs.YtnjeppmpnaemlaaDoor.Grf
