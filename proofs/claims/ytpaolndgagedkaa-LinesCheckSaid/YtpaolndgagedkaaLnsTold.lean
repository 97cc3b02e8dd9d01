/- DERIVED. The contract of lines.Told. -/
import Derived.Test.YtpaolndgagedkaaLnsSplit
namespace Go.Proofs.Ytpaolndgagedkaa.Lns
open Go.RowKit
attribute [local go_sem] Oper.semAt_some
/-- between two rounds: the results' boxes, and the texts that have come. -/
structure TI (Q : List ByteArray → Prop) (r2 r3 : Value) (w : World) (pre : List ByteArray) (W : World) : Prop where
  b2 : Boxed W w.heap.size 23 r2
  b3 : Boxed W (w.heap.size + 1) 24 r3
  box : ∃ v, Boxed W (w.heap.size + 2) 23 v ∧ OwnT w.heap.size pre v W
  low : Below w.heap.size w W
  q : Q pre
theorem TI.own (Q : List ByteArray → Prop) (r2 r3 : Value) (w : World) (B : Nat) (hB : w.heap.size ≤ B) : OwnFrom B (fun pre W => TI Q r2 r3 w pre W) := by
  intro s X Y row hs hg hr
  have hr' : ∀ r, row = some r → ∃ o : Obj, X.heap[r]? = some o ∧ o.isCells = false := fun r e => (hr r e).2
  obtain ⟨v, h1, h2, _⟩ := holdsRow_own w.heap.size (w.heap.size + 2) 23 9 1 (fun s : List ByteArray => s.length) (fun s => s.map Value.string) (fun _ _ => True) s X Y row (by obtain ⟨v, a, b⟩ := hs.box; exact ⟨v, a, b, trivial⟩) hg hr'
  have key : ∀ {B : Nat} {t : TypeId} {u : Value}, Boxed X B t u → Boxed Y B t u := fun {B t u} h => h.kept hg (fun e => by
    obtain ⟨o, ho, hc⟩ := hr' B e.symm
    rw [show X.heap[B]? = _ from h] at ho
    cases ho
    cases hc)
  exact ⟨key hs.b2, key hs.b3, ⟨v, h1, h2⟩, (ownFrom_below (β := Unit) (w₀ := w) (Nat.le_refl _) hB) () X Y row hs.low hg hr, hs.q⟩
/-- a round has returned. -/
structure RI (Q : List ByteArray → Prop) (r2 r3 : Value) (w : World) (pre : List ByteArray) (W : World) : Prop where
  b2 : Boxed W w.heap.size 23 r2
  b3 : Boxed W (w.heap.size + 1) 24 r3
  low : Below w.heap.size w W
  q : Q pre
theorem RI.own (Q : List ByteArray → Prop) (r2 r3 : Value) (w : World) (B : Nat) (hB : w.heap.size ≤ B) : OwnFrom B (fun pre W => RI Q r2 r3 w pre W) := by
  intro s X Y row hs hg hr
  have hr' : ∀ r, row = some r → ∃ o : Obj, X.heap[r]? = some o ∧ o.isCells = false := fun r e => (hr r e).2
  have key : ∀ {B : Nat} {t : TypeId} {u : Value}, Boxed X B t u → Boxed Y B t u := fun {B t u} h => h.kept hg (fun e => by
    obtain ⟨o, ho, hc⟩ := hr' B e.symm
    rw [show X.heap[B]? = _ from h] at ho
    cases ho
    cases hc)
  exact ⟨key hs.b2, key hs.b3, (ownFrom_below (β := Unit) (w₀ := w) (Nat.le_refl _) hB) () X Y row hs.low hg hr, hs.q⟩
theorem TI.later {Q : List ByteArray → Prop} {r2 r3 : Value} {w : World} {pre : List ByteArray} {W W' : World} (h : TI Q r2 r3 w pre W) (hb : Below W.heap.size W W') : TI Q r2 r3 w pre W' :=
  TI.own Q r2 r3 w w.heap.size (Nat.le_refl _) pre W W' none h ⟨hb.os, hb.tape, hb.output, hb.size, fun k hk _ => hb.block k hk⟩ (fun r e => by cases e)
theorem oth_below {W W' : World} (hb : Below W.heap.size W W') : KeepsOthers W W' := ⟨hb.size, fun k _ hk _ => (hb.block k (Array.getElem?_eq_some_iff.1 hk).1).trans hk⟩
/-- what Told returns lies in two cells. -/
theorem told_results {fn : Func} (h : fn.results = #[.cell 2 23, .cell 3 24]) {tmps : Array Value} {w : World} {a b : Nat} {x : Option Addr} {n c : Nat} {y : Int} (ha : tmps.getD 2 undef = .pointer (some ⟨a, 0, none⟩)) (hb : tmps.getD 3 undef = .pointer (some ⟨b, 0, none⟩)) (hx : w.cell? ⟨a, 0, none⟩ = some (.slice x n c)) (hy : w.cell? ⟨b, 0, none⟩ = some (.int .i64 y)) :
    (results fn tmps).run Try.prog w = .ok (.tuple #[.slice x n c, .int .i64 y]) w := by
  have ha' : tmps[2]?.getD undef = .pointer (some ⟨a, 0, none⟩) := by simpa using ha
  have hb' : tmps[3]?.getD undef = .pointer (some ⟨b, 0, none⟩) := by simpa using hb
  simp [results, h, ha', hb', go_sem, hx, hy]
theorem other_box {W : World} {a b : Nat} {t : TypeId} {v : Value} (h : Boxed W b t v) (hne : b ≠ a) (u : Value) : Boxed (W.setCell ⟨a, 0, none⟩ u) b t v := (heap_setCell_other _ _ _ _ hne).trans h
theorem own_other {w : World} {base n s : Nat} {t : TypeId} {v : Value} {L : List Value} {b j : Nat} {u : Value} (h : w.ownsRow base t s v n L) (hne : some b ≠ v.ownBlock) : (w.setCell ⟨b, j, none⟩ u).ownsRow base t s v n L := by
  obtain ⟨h1, h⟩ := h
  refine ⟨h1, ?_⟩
  rcases h with h | ⟨g, cap, cur, h1, h2, h3, h4, h5, h6, h7⟩
  · exact .inl h
  · refine .inr ⟨g, cap, cur, h1, h2, ?_, h4, h5, h6, h7⟩
    rw [heap_setCell_other _ _ _ _ (fun e => hne (by simp [h1, Value.ownBlock, e]))]
    exact h3
set_option maxRecDepth 100000 in
set_option maxHeartbeats 4000000 in
theorem told_any (s : ByteArray) (w : World) (hL : Laid w) (hs : s.size ≤ 50000) : Calls Try.prog 10 #[.string s] w fun e w' => ∃ v, e = .returned (.tuple #[v, .int .i64 (tld s).2]) ∧ OwnT w.heap.size (tld s).1 v w' ∧ Below w.heap.size w w' := by
  cases he : endB s
  · have HR := Lib.hid (show tld s = ([], 4) by unfold tld; rw [if_neg (by rw [he]; decide)])
    have HE := Lib.hid he
    clear he
    go_enter Try.func10, Try.ntmps10
    go_wp2_with (go_at_call 24; refine (ended_any _ _ (by omega)).mono ?_; rw [HE.out]; rintro e w' ⟨rfl, rfl⟩)
    have h2 := Boxed.alloc (Boxed.new w 23 (.slice none 0 0)) (.cells #[.int .i64 4] 24)
    have h3 := Boxed.new (w.alloc (.cells #[.slice none 0 0] 23)) 24 (.int .i64 4)
    rw [World.size_alloc] at h3
    refine bodyPost_ret (told_results rfl rfl rfl h2.cell h3.cell) rfl ?_
    exact ⟨_, by rw [HR.out], by rw [HR.out]; exact OwnT.nil _ _, ((Below.refl w.heap.size w).alloc (Nat.le_refl _) _).alloc (by rw [World.size_alloc]; omega) _⟩
  · have HS := Lib.hid (show tld s = if (prtB s).all plainB = true then (prtB s, 0) else ([], 4) by unfold tld; rw [if_pos he])
    have HE := Lib.hid he
    have HL := Lib.hid hL
    clear he hL
    refine (callsIn_wide (n := 8)).1 ?_
    refine callsIn_of_wp_marks Try.func10 rfl trivial ?_ rfl
    simp only [Try.ntmps10, List.size_toArray, List.length_cons, List.length_nil, Nat.reduceAdd, Nat.reduceSub, Array.replicate_succ, Array.replicate_zero, List.push_toArray, List.append_toArray, List.nil_append, List.cons_append]
    gi_wp2_with (first
      | (refine ⟨trivial, ?_⟩; gi_at_call 24; refine (callsIn_wide.2 (ended_any _ _ (by omega))).mono ?_; rw [HE.out]; rintro e w' ⟨rfl, rfl⟩)
      | (refine ⟨trivial, ?_⟩; gi_at_call 25; refine (callsIn_wide.2 (parts_any _ _)).mono ?_; rintro e w2 ⟨rfl, rfl⟩))
    have h4 := four_new w (.cells #[.slice none 0 0] 23) (.cells #[.int .i64 0] 24) (.cells #[.slice none 0 0] 23) (.cells #[.string s] 9)
    have hlow := below4 w (.cells #[.slice none 0 0] 23) (.cells #[.int .i64 0] 24) (.cells #[.slice none 0 0] 23) (.cells #[.string s] 9)
    obtain ⟨W0, hW0⟩ : ∃ W0, W0 = (((w.alloc (.cells #[.slice none 0 0] 23)).alloc (.cells #[.int .i64 0] 24)).alloc (.cells #[.slice none 0 0] 23)).alloc (.cells #[.string s] 9) := ⟨_, rfl⟩
    have hsz : W0.heap.size = w.heap.size + 4 := by rw [hW0, World.size_alloc, World.size_alloc, World.size_alloc, World.size_alloc]
    rw [← hW0] at h4 hlow ⊢
    clear hW0
    obtain ⟨b2, b3, bl, bx⟩ := h4
    have HL0 := HL.out.below hlow (Nat.le_refl _)
    have hg0 : 0 < w.heap.size := by
      obtain ⟨m, hm⟩ := HL.out
      exact World.block_lt_of_cell? _ _ hm
    have hbx : Boxed W0 (w.heap.size + 1 + 1 + 1) 9 (.string s) := bx
    have hSI : TI (fun l => l.all plainB = true) (.slice none 0 0) (.int .i64 0) w [] W0 := ⟨b2, b3, ⟨_, bl, OwnT.nil _ _⟩, hlow, rfl⟩
    have hle := prtB_le s
    clear b2 b3 bl bx
    refine wpIn_rangeFunc_ownF rfl (by omega) (gf := 33) (lb := #[.pointer (some ⟨w.heap.size + 1 + 1 + 1, 0, none⟩)]) rfl trivial (Go.Proofs.enters_of Try.func33 (by kernel_rfl) rfl)
      (parts_stops 7 (w.heap.size + 1 + 1 + 1) (by omega) s (by omega) W0 hbx HL0) (fun h k => KpL.trans h k)
      (fun W l' o o' hl' ho hc hw => World.putObj_heap_other (by omega)) (Below.refl _ _) (fun _ => rfl)
      (fun pre W => TI (fun l => l.all plainB = true) (.slice none 0 0) (.int .i64 0) w pre W)
      (fun c pre W => c = Code.ret ∧ RI (fun l => l.all plainB = false) (.slice none 0 0) (.int .i64 4) w pre W)
      (TI.own _ _ _ w _ (by omega))
      (fun c s X Y row hs hg hr => ⟨hs.1, RI.own _ _ _ w _ (by omega) s X Y row hs.2 hg hr⟩)
      hSI
      (fun x => { tmps := #[.string s, undef, .pointer (some ⟨w.heap.size, 0, none⟩), .pointer (some ⟨w.heap.size + 1, 0, none⟩), .pointer (some ⟨w.heap.size + 1 + 1, 0, none⟩), .string x, .string s, .bool true, .bool false, .string s, .func (.func 33) #[] #[.pointer (some ⟨w.heap.size + 1 + 1 + 1, 0, none⟩)], .string x, undef, undef, undef, undef, undef, undef, undef, undef, undef, undef, undef, undef, undef, undef], defers := [] }) ?assign ?body ?done ?stop
    case assign =>
      intro l x W K' hK
      gi_wp2
      exact hK
    case body =>
      rintro l pre x W hI hlen
      have hS : TI (fun l => l.all plainB = true) (.slice none 0 0) (.int .i64 0) w pre W := hI
      have hor := isB_or x
      have hsW := hS.low.size
      obtain ⟨i0, hi0, hz0, hz1, hz2⟩ := info_parts infoTz
      obtain ⟨k, hk⟩ : ∃ k, k = pre.length := ⟨_, rfl⟩
      have Hk := Lib.hid hk
      have hk9 : k ≤ 50000 := by omega
      clear hk
      cases hi : isB x
      · cases hm : mkrB x
        · rw [hi, hm] at hor
          have Hor := Lib.hid hor
          have HS1 := Lib.hid hS
          have Hi := Lib.hid hi
          have Hm := Lib.hid hm
          clear hI hS hi hm hor
          gi_wp2_with (first
            | (refine ⟨trivial, ?_⟩; gi_at_call 14; refine (CallsIn.inRound l (callsIn_wide.2 (is_any _ _))).mono ?_; rw [Hi.out]; rintro e w1 ⟨rfl, hb1⟩; have hT1 := HS1.out.later hb1; have c2 := hT1.b2.cell; have c3 := hT1.b3.cell; have f2 := hT1.b2.frozen; have f3 := hT1.b3.frozen; have Hb1 := Lib.hid hb1; have HT1 := Lib.hid hT1; clear hb1 hT1)
            | (refine ⟨trivial, ?_⟩; gi_at_call 16; refine (CallsIn.inRound l (callsIn_wide.2 (mark_any _ _))).mono ?_; rw [Hm.out]; rintro e w1 ⟨rfl, rfl⟩))
          have hT := HT1.out
          refine ⟨((oth_below Hb1.out).trans (KeepsOthers.setCell _ _ _)).trans (KeepsOthers.setCell _ _ _), rfl, ?_, ?_, ?_, ?_⟩
          · exact other_box (hT.b2.set _) (by omega) _
          · exact (other_box hT.b3 (by omega) _).set _
          · exact (hT.low.setCell (p := ⟨w.heap.size, 0, none⟩) (Nat.le_refl _) _).setCell (p := ⟨w.heap.size + 1, 0, none⟩) (by simp) _
          · show (pre ++ [x]).all plainB = false
            rw [List.all_append]; simp [← Hor.out]
        · rw [hi, hm] at hor
          have Hor := Lib.hid hor
          have HS1 := Lib.hid hS
          have Hi := Lib.hid hi
          have Hm := Lib.hid hm
          clear hI hS hi hm hor
          gi_wp2_with (first
            | (refine ⟨trivial, ?_⟩; gi_at_call 14; refine (CallsIn.inRound l (callsIn_wide.2 (is_any _ _))).mono ?_; rw [Hi.out]; rintro e w1 ⟨rfl, hb1⟩; have hT1 := HS1.out.later hb1; obtain ⟨v, hv, hrow⟩ := hT1.box; unfold OwnT at hrow; rw [← Hk.out] at hrow; have hvc := hv.cell; have Hv1 := Lib.hid hv; have Hrow1 := Lib.hid hrow; have Hb1 := Lib.hid hb1; have HT1 := Lib.hid hT1; clear hb1 hT1 hv hrow)
            | (refine ⟨trivial, ?_⟩; gi_at_call 16; refine (CallsIn.inRound l (callsIn_wide.2 (mark_any _ _))).mono ?_; rw [Hm.out]; rintro e w1 ⟨rfl, rfl⟩)
            | (gi_at_builtin; refine wpListIn_append_own _ rfl _ _ 23 rfl w.heap.size 9 i0 (.string ByteArray.empty) 1 16 Try.underlying23 hi0 hz0 hz1 hz2 rfl (by decide) _ _ _ rfl (Hrow1.out.alloc _) ⟨w1.heap.size, 0, none⟩ 1 1 [.string x] rfl rfl (cell_one_new _ _ _) (by simp [Value.oneCell']) (by unfold maxLen; omega) (by omega) (by rw [World.size_alloc]; have := Hb1.out.size; omega) ?_; intro v' w2 hown' hgrow _; obtain ⟨g', cap', rfl⟩ := ownsRow_succ hown'; obtain ⟨hv1, hv2, hr2, hk2, hb2⟩ := Hv1.out.appended (by decide) Hrow1.out (Nat.le_trans hsW Hb1.out.size) (by omega) hown' hgrow; have hc1 := hv1.cell; have hf1 := hv1.frozen; have Q2 := Lib.hid hv2; have R2 := Lib.hid hr2; have K2 := Lib.hid hk2; have B2 := Lib.hid hb2; have G2 := Lib.hid hgrow; clear hv1 hv2 hr2 hk2 hb2 hgrow hown'))
          have hT := HT1.out
          have hsz1 := Hb1.out.size
          refine ⟨(oth_below Hb1.out).trans K2.out, (B2.out.block _ hg0).trans (Hb1.out.block _ (Nat.lt_of_lt_of_le hg0 hsW)), ?_, ?_, ⟨_, Q2.out, ?_⟩, hT.low.trans B2.out, ?_⟩
          · exact other_box ((hT.b2.alloc _).kept G2.out (hT.b2.not_row (by decide) Hrow1.out)) (by omega) _
          · exact other_box ((hT.b3.alloc _).kept G2.out (hT.b3.not_row (by decide) Hrow1.out)) (by omega) _
          · unfold OwnT
            rw [List.length_append, List.map_append, ← Hk.out]
            exact R2.out
          · show (pre ++ [x]).all plainB = true
            rw [List.all_append, show pre.all plainB = true from hT.q]
            simp [← Hor.out]
      · rw [hi] at hor
        have Hor := Lib.hid hor
        have HS1 := Lib.hid hS
        have Hi := Lib.hid hi
        clear hI hS hi hor
        gi_wp2_with (refine ⟨trivial, ?_⟩; gi_at_call 14; refine (CallsIn.inRound l (callsIn_wide.2 (is_any _ _))).mono ?_; rw [Hi.out]; rintro e w1 ⟨rfl, hb1⟩; have hT1 := HS1.out.later hb1; obtain ⟨v, hv, hrow⟩ := hT1.box; unfold OwnT at hrow; rw [← Hk.out] at hrow; have hvc := hv.cell; have Hv1 := Lib.hid hv; have Hrow1 := Lib.hid hrow; have Hb1 := Lib.hid hb1; have HT1 := Lib.hid hT1; clear hb1 hT1 hv hrow)
        refine ⟨trivial, ?_⟩
        gi_wp2_with (gi_at_builtin; refine wpListIn_append_own _ rfl _ _ 23 rfl w.heap.size 9 i0 (.string ByteArray.empty) 1 16 Try.underlying23 hi0 hz0 hz1 hz2 rfl (by decide) _ _ _ rfl (Hrow1.out.alloc _) ⟨w1.heap.size, 0, none⟩ 1 1 [.string x] rfl rfl (cell_one_new _ _ _) (by simp [Value.oneCell']) (by unfold maxLen; omega) (by omega) (by rw [World.size_alloc]; have := Hb1.out.size; omega) ?_; intro v' w2 hown' hgrow _; obtain ⟨g', cap', rfl⟩ := ownsRow_succ hown'; obtain ⟨hv1, hv2, hr2, hk2, hb2⟩ := Hv1.out.appended (by decide) Hrow1.out (Nat.le_trans hsW Hb1.out.size) (by omega) hown' hgrow; have hc1 := hv1.cell; have hf1 := hv1.frozen; have Q2 := Lib.hid hv2; have R2 := Lib.hid hr2; have K2 := Lib.hid hk2; have B2 := Lib.hid hb2; have G2 := Lib.hid hgrow; clear hv1 hv2 hr2 hk2 hb2 hgrow hown')
        have hT := HT1.out
        have hsz1 := Hb1.out.size
        refine ⟨(oth_below Hb1.out).trans K2.out, (B2.out.block _ hg0).trans (Hb1.out.block _ (Nat.lt_of_lt_of_le hg0 hsW)), ?_, ?_, ⟨_, Q2.out, ?_⟩, hT.low.trans B2.out, ?_⟩
        · exact other_box ((hT.b2.alloc _).kept G2.out (hT.b2.not_row (by decide) Hrow1.out)) (by omega) _
        · exact other_box ((hT.b3.alloc _).kept G2.out (hT.b3.not_row (by decide) Hrow1.out)) (by omega) _
        · unfold OwnT
          rw [List.length_append, List.map_append, ← Hk.out]
          exact R2.out
        · show (pre ++ [x]).all plainB = true
          rw [List.all_append, show pre.all plainB = true from hT.q]
          simp [← Hor.out]
    case done =>
      rintro D ys W hD hys hI hK
      have hS : TI (fun l => l.all plainB = true) (.slice none 0 0) (.int .i64 0) w ys W := hI
      have hys' : ys = prtB s := hys
      subst hys'
      obtain ⟨v, hv, hrow⟩ := hS.box
      obtain ⟨A, c, rfl, _⟩ := hrow.rd
      have hvc := hv.cell
      have HO := Lib.hid hrow
      have HS2 := Lib.hid hS
      have HK := Lib.hid hK
      have HDl : D < W.heap.size := (Array.getElem?_eq_some_iff.1 hK).1
      have hsp := Lib.hid (show tld s = (prtB s, 0) by rw [HS.out, if_pos hS.q])
      clear hS hI hys hK hrow hv
      gi_wp2_with (refine ⟨trivial, ?_⟩; gi_at_call 26; refine (callsIn_wide.2 (copied_any w.heap.size _ _ _ HO.out (fun x hx => by have := prtB_size hx; omega) (by omega))).mono ?_; rintro e w2 ⟨rfl, hb2⟩; have hT2 := HS2.out.later hb2; have c2 := hT2.b2.cell; have c3 := hT2.b3.cell; have f2 := hT2.b2.frozen; have f3 := hT2.b3.frozen; have Hb2 := Lib.hid hb2; have HT2 := Lib.hid hT2; clear hb2 hT2)
      have hK2 : w2.heap[D]? = some (.deferred (some [])) := (Hb2.out.block _ HDl).trans HK.out
      have hKa := (KeepsOthers.setCell w2 ⟨w.heap.size, 0, none⟩ (.slice A (prtB s).length c)).same D _ hK2 rfl
      have hKb := (KeepsOthers.setCell (w2.setCell ⟨w.heap.size, 0, none⟩ (.slice A (prtB s).length c)) ⟨w.heap.size + 1, 0, none⟩ (.int .i64 0)).same D _ hKa rfl
      refine ⟨by simp, .inl ⟨_, _, rfl, run_takeDeferred hKb, ?_⟩⟩
      have hT := HT2.out
      have hrow2 : w2.ownsRow w.heap.size 9 1 (.slice A (prtB s).length c) (prtB s).length ((prtB s).map Value.string) := HO.out.below Hb2.out
      have g2 : Boxed ((w2.setCell ⟨w.heap.size, 0, none⟩ (.slice A (prtB s).length c)).setCell ⟨w.heap.size + 1, 0, none⟩ (.int .i64 0)) w.heap.size 23 (.slice A (prtB s).length c) := other_box (hT.b2.set _) (by omega) _
      have g3 : Boxed ((w2.setCell ⟨w.heap.size, 0, none⟩ (.slice A (prtB s).length c)).setCell ⟨w.heap.size + 1, 0, none⟩ (.int .i64 0)) (w.heap.size + 1) 24 (.int .i64 0) := (other_box hT.b3 (by omega) _).set _
      have gr := own_other (j := 0) (u := .int .i64 0) (own_other (j := 0) (u := .slice A (prtB s).length c) hrow2 (hT.b2.not_row (by decide) hrow2)) (hT.b3.not_row (by decide) hrow2)
      have glow : Below w.heap.size w ((w2.setCell ⟨w.heap.size, 0, none⟩ (.slice A (prtB s).length c)).setCell ⟨w.heap.size + 1, 0, none⟩ (.int .i64 0)) := (hT.low.setCell (p := ⟨w.heap.size, 0, none⟩) (Nat.le_refl _) _).setCell (p := ⟨w.heap.size + 1, 0, none⟩) (by simp) _
      obtain ⟨W5, hW5⟩ : ∃ W5, W5 = (w2.setCell ⟨w.heap.size, 0, none⟩ (.slice A (prtB s).length c)).setCell ⟨w.heap.size + 1, 0, none⟩ (.int .i64 0) := ⟨_, rfl⟩
      rw [← hW5] at g2 g3 gr glow hKb ⊢
      have hgr := grownBy_putObj' W5 D (.deferred none)
      have hrw : ∀ r, some D = some r → ∃ o : Obj, W5.heap[r]? = some o ∧ o.isCells = false := fun r e => by cases e; exact ⟨_, hKb, rfl⟩
      refine ⟨_, told_results rfl rfl rfl (cell_kept g2.cell hgr hrw) (cell_kept g3.cell hgr hrw), _, by rw [hsp.out], ?_, glow.trans (belowK_b (w := w) (Nat.le_refl _) W5 D _ _ (by omega) hKb rfl rfl)⟩
      rw [hsp.out]
      exact ownsRow_putObj gr (.deferred none) hKb rfl
    case stop =>
      rintro D c pre W hD hpre hI hK
      have hS : c = Code.ret ∧ RI (fun l => l.all plainB = false) (.slice none 0 0) (.int .i64 4) w pre W := hI
      obtain ⟨rfl, hS⟩ := hS
      obtain ⟨t, ht⟩ : ∃ t, prtB s = pre ++ t := hpre
      have hq : pre.all plainB = false := hS.q
      have hsp := Lib.hid (show tld s = ([], 4) by rw [HS.out, if_neg (by rw [ht, List.all_append, hq]; simp)])
      have HS2 := Lib.hid hS
      have HK := Lib.hid hK
      clear hS hI hK ht hq
      gi_wp2
      refine ⟨by simp, .inl ⟨_, _, rfl, run_takeDeferred HK.out, ?_⟩⟩
      have hT := HS2.out
      have hgr := grownBy_putObj' W D (.deferred none)
      have hrw : ∀ r, some D = some r → ∃ o : Obj, W.heap[r]? = some o ∧ o.isCells = false := fun r e => by cases e; exact ⟨_, HK.out, rfl⟩
      refine ⟨_, told_results rfl rfl rfl (cell_kept hT.b2.cell hgr hrw) (cell_kept hT.b3.cell hgr hrw), _, by rw [hsp.out], ?_, hT.low.trans (belowK_b (w := w) (Nat.le_refl _) W D _ _ (by omega) HK.out rfl rfl)⟩
      rw [hsp.out]
      exact OwnT.nil _ _
end Go.Proofs.Ytpaolndgagedkaa.Lns
