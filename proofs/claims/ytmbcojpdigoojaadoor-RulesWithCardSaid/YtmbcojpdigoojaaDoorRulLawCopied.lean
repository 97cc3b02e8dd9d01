/- DERIVED. The law's copied: a table whose rules lie in a row of their own. -/
import Derived.Test.YtmbcojpdigoojaaDoorRulRefWith
import Derived.Laws.AppendOwnNone
namespace Go.Proofs.YtmbcojpdigoojaaDoor.Rul
open Go.RowKit Lab Pth
theorem ruls_cells {w : World} {A : Option Addr} {c : Nat} {rs : List Rl} (h : Ruls w A c rs) (ad : Addr) (hA : A = some ad) : ∀ j u, (flatR rs)[j]? = some u → w.cell? (ad.add j) = some u := by
  intro j u hu
  have hj : j < rs.length * 3 := by
    have := (List.getElem?_eq_some_iff.1 hu).1
    have e : (flatR rs).length = rs.length * 3 := by
      unfold flatR
      rw [List.length_flatten, List.map_map]
      have : ∀ (l : List Rl), (l.map (List.length ∘ fun x => (rlc x).toList)).sum = l.length * 3 := by
        intro l
        induction l with
        | nil => rfl
        | cons x t ih => rw [List.map_cons, List.sum_cons, ih, List.length_cons]; simp; omega
      exact this rs
    omega
  obtain ⟨b, off, e, _, hr⟩ := h.2.2 (by omega)
  rw [hA] at e
  obtain rfl := Option.some.inj e
  have h1 : j / 3 < rs.length := by omega
  have hx : rs[j / 3]? = some rs[j / 3] := List.getElem?_eq_getElem h1
  obtain ⟨v, hv⟩ : ∃ v, (rlc rs[j / 3]).toList[j % 3]? = some v := by
    have : j % 3 = 0 ∨ j % 3 = 1 ∨ j % 3 = 2 := by omega
    rcases this with e | e | e <;> rw [e] <;> exact ⟨_, rfl⟩
  have h3 := flatR_get (j / 3) _ hx (j % 3) v hv
  rw [show j / 3 * 3 + j % 3 = j by omega, hu] at h3
  obtain rfl := Option.some.inj h3
  have h4 := hr (j / 3) _ hx (j % 3) u hv
  rw [show off + j / 3 * 3 + j % 3 = off + j by omega] at h4
  rw [Addr.add_mid]
  exact h4
theorem wp_copy_rul {w : World} {o : Oper} {a : Act} {K : Act → World → Prop} {Q : Exit → Act → World → Prop} (s y : Operand)
    (ho : o.op = .call { callee := .builtin .append, args := #[s, y], argTypes := #[22, 22] }) (base : Nat) (v : Value) (hs : a.eval s = v) (hown : OwnR base [] v w)
    (A : Option Addr) (n c : Nat) (rs : List Rl) (hx : a.eval y = .slice A n c) (hn : rs.length = n) (hR : Ruls w A c rs) (h63 : n ≤ 1000) (hbase : base ≤ w.heap.size)
    (h : ∀ v' w', OwnR base rs v' w' → w.grownBy w' v.ownBlock → K (a.put o.dst v') w') : o.wp Tryd.prog a w K Q := by
  obtain ⟨i0, hi0, hz00, hz10, hz20⟩ := info_parts infoRz
  cases A with
  | none =>
    have hc := hR.2.1 rfl
    have hn0 : n = 0 := by have := hR.1; omega
    subst hc hn0
    obtain rfl : rs = [] := List.eq_nil_of_length_eq_zero hn
    have hrun := run_append_owned_none (P := Tryd.prog) (w := w) base 22 o.type 40 i0 3 Tryd.underlying22 hi0 v 0 [] hown
    unfold Oper.wp
    simp [execOp, ho, resolve, invoke, builtin, hs, hx, hrun, Result.andThen]
    exact h v w hown ⟨rfl, rfl, rfl, Nat.le_refl _, fun _ _ _ => rfl⟩
  | some ad =>
    refine wp_append_own _ s y 22 ho base 40 i0 rulZero 3 32 Tryd.underlying22 hi0 hz00 hz10 hz20 rfl (by decide) v 0 [] hs hown ad n c (flatR rs) hx ?_ (ruls_cells hR ad rfl) ?_ (by unfold maxLen; omega) (by omega) hbase ?_
    · rw [← hn]
      unfold flatR
      rw [List.length_flatten, List.map_map]
      have : ∀ (l : List Rl), (l.map (List.length ∘ fun x => (rlc x).toList)).sum = l.length * 3 := by
        intro l
        induction l with
        | nil => rfl
        | cons x t ih => rw [List.map_cons, List.sum_cons, ih, List.length_cons]; simp; omega
      exact this rs
    · intro u hu
      unfold flatR at hu
      obtain ⟨l, hl, hu⟩ := List.mem_flatten.1 hu
      obtain ⟨x, _, rfl⟩ := List.mem_map.1 hl
      exact rlc_ones x u hu
    · intro v' w' hown' hgrow _
      refine h v' w' ?_ hgrow
      unfold OwnR
      rw [List.nil_append, Nat.zero_add] at hown'
      rw [hn]
      exact hown'
theorem Whu.never {l : Array Bool} {i q k : Nat} {p : Value → World → Prop} {v : Value} {w : World} (hne : i ≠ k) (h : l.getD i false = true → l.getD k false = true) (hu : l.getD k false = false) : Whu (l.setIfInBounds k true) i q p v w := fun hl _ => by
  have := h ((getD_listed hl).resolve_left hne)
  rw [this] at hu
  cases hu
structure RC (g0 : Nat) (v : Int) (n : Nat) (rs : List Rl) (W : World) (ll : Array Bool) (wx : World) : Prop where
  low : Below (g0 + 1) W wx
  row : ll.getD 7 false = false → wx.heap[g0 + 1]? = some (.cells (tabV 0 none 0 0) 24 (0, 0))
  aft : ll.getD 7 false = true → ∃ A5 c5, wx.heap[g0 + 1]? = some (.cells (tabV v A5 n c5) 24 (0, 0)) ∧ OwnR (g0 + 2) rs (.slice A5 n c5) wx
theorem RC.start {g0 : Nat} {v : Int} {n : Nat} {rs : List Rl} {W : World} {m : Nat} (hr : W.heap[g0 + 1]? = some (.cells (tabV 0 none 0 0) 24 (0, 0))) : RC g0 v n rs W (Array.replicate m false) W.drew :=
  ⟨(Below.refl _ _).drew, fun _ => hr, fun hl => by
    have : (Array.replicate m false).getD 7 false = false := by
      by_cases hn : 7 < m <;> simp [Array.getD_eq_getD_getElem?, hn]
    rw [this] at hl; cases hl⟩
theorem RC.same {g0 : Nat} {v : Int} {n : Nat} {rs : List Rl} {W wx : World} {ll : Array Bool} {i : Nat} (h : RC g0 v n rs W ll wx) (hi : i ≠ 7) : RC g0 v n rs W (ll.setIfInBounds i true) wx :=
  ⟨h.low, by rw [getD_set_ne false hi]; exact h.row, by rw [getD_set_ne false hi]; exact h.aft⟩
theorem RC.call {g0 : Nat} {v : Int} {n : Nat} {rs : List Rl} {W wx w' : World} {ll : Array Bool} {i : Nat} (h : RC g0 v n rs W ll wx) (h8 : g0 + 1 ≤ W.heap.size) (hi : i ≠ 7) (hb : Below wx.heap.size wx w') : RC g0 v n rs W (ll.setIfInBounds i true) w' := by
  refine ⟨h.low.trans (hb.mono (Nat.le_trans h8 h.low.size)), ?_, ?_⟩
  · rw [getD_set_ne false hi]
    exact fun hl => (hb.block _ (Array.getElem?_eq_some_iff.1 (h.row hl)).1).trans (h.row hl)
  · rw [getD_set_ne false hi]
    intro hl
    obtain ⟨A5, c5, h1, h2⟩ := h.aft hl
    exact ⟨A5, c5, (hb.block _ (Array.getElem?_eq_some_iff.1 h1).1).trans h1, own_stays h2 hb⟩
theorem RC.app {g0 : Nat} {v : Int} {n : Nat} {rs : List Rl} {u : Value} {W wx w' : World} {ll : Array Bool} (h : RC g0 v n rs W ll wx) (h7 : ll.getD 7 false = false) (ho : OwnR (g0 + 2) [] u wx) (hg : wx.grownBy w' u.ownBlock) : RC g0 v n rs W (ll.setIfInBounds 5 true) w' := by
  have hr := h.row h7
  have hlt := (Array.getElem?_eq_some_iff.1 hr).1
  refine ⟨h.low.grown hg (by omega) (fun q hq => by have := (World.ownsRow.lt ho q hq).1; omega), ?_, ?_⟩
  · rw [getD_set_ne false (by decide)]
    exact fun _ => (hg.block _ hlt (fun e => by have := (World.ownsRow.lt ho _ e.symm).1; omega)).trans hr
  · rw [getD_set_ne false (by decide), h7]
    exact fun hl => by cases hl
theorem RC.store {g0 : Nat} {v : Int} {n : Nat} {rs : List Rl} {A5 : Option Addr} {c5 : Nat} {W wx : World} {ll : Array Bool} (h : RC g0 v n rs W ll wx) (hs : 7 < ll.size) (h7 : ll.getD 7 false = false) (ho : OwnR (g0 + 2) rs (.slice A5 n c5) wx) : RC g0 v n rs W (ll.setIfInBounds 7 true) (wx.setRow (g0 + 1) (tabV v A5 n c5)) :=
  ⟨Lab.below_setRow h.low (Nat.le_refl _) _, fun hl => by simp [hs] at hl, fun _ => ⟨A5, c5, setRow_at (h.row h7), own_setRow ho (by omega)⟩⟩
def OE (g0 : Nat) (rs : List Rl) (z : Value) (w : World) : Prop := OwnR (g0 + 2) rs z w
theorem OE.later {g0 : Nat} {rs : List Rl} {z : Value} {w w' : World} (h : OE g0 rs z w) (hb : Below w.heap.size w w') : OE g0 rs z w' := own_stays h hb
def OB (g0 : Nat) (v : Int) (n : Nat) (rs : List Rl) (z : Value) (w : World) : Prop := ∃ A5 c5, z = .agg #[.int .i64 v, .slice A5 n c5] ∧ OwnR (g0 + 2) rs (.slice A5 n c5) w
theorem OB.later {g0 : Nat} {v : Int} {n : Nat} {rs : List Rl} {z : Value} {w w' : World} (h : OB g0 v n rs z w) (hb : Below w.heap.size w w') : OB g0 v n rs z w' := by
  obtain ⟨A5, c5, h1, h2⟩ := h
  exact ⟨A5, c5, h1, own_stays h2 hb⟩
set_option maxRecDepth 100000 in
set_option maxHeartbeats 4000000 in
theorem lcopied_any (v : Int) (A : Option Addr) (n c : Nat) (rs : List Rl) (w : World) (hn : rs.length = n) (hR : Ruls w A c rs) (hn9 : n ≤ 1000) :
    Calls Tryd.prog 6 #[.agg (tabV v A n c)] w fun e w' => (∃ B d, e = .returned (.agg (tabV v B n d)) ∧ OwnR (w.heap.size + 2) rs (.slice B n d) w') ∧ Below w.heap.size w w' := by
  have Hn := Lib.hid hn
  have h2 := two_new w (.cells (tabV v A n c) 24) (.cells (tabV 0 none 0 0) 24)
  have k2 : Below w.heap.size w ((w.alloc (.cells (tabV v A n c) 24)).alloc (.cells (tabV 0 none 0 0) 24)) := ((Below.refl _ _).alloc (Nat.le_refl _) _).alloc (by rw [World.size_alloc]; omega) _
  obtain ⟨W2, hW2⟩ : ∃ W2, W2 = (w.alloc (.cells (tabV v A n c) 24)).alloc (.cells (tabV 0 none 0 0) 24) := ⟨_, rfl⟩
  rw [← hW2] at h2 k2
  have HW2 : Hid ((w.alloc (.cells (tabV v A n c) 24)).alloc (.cells #[.int .i64 0, .slice none 0 0] 24) = W2) := by show _ = _; rw [hW2]
  have c0 := cell_row h2.1 0
  have c1 := cell_row h2.1 1
  simp only [List.getElem?_toArray, List.getElem?_cons_zero, List.getElem?_cons_succ] at c0 c1
  have F0 := Lib.hid c0
  have F1 := Lib.hid c1
  have HB := Lib.hid h2.2
  have K2 := Lib.hid k2
  have HR2 := Lib.hid (hR.below k2 (Nat.le_refl _))
  have H8 : Hid (w.heap.size + 1 < W2.heap.size) := (Array.getElem?_eq_some_iff.1 h2.2).1
  have HBD : Hid (∀ q, A = some q → q.block < w.heap.size ∨ n = 0) := fun q hq => by
    by_cases h0 : 0 < rs.length
    · obtain ⟨b, off, e, hb, _⟩ := hR.2.2 h0
      rw [hq] at e
      obtain rfl := Option.some.inj e
      exact .inl hb
    · exact .inr (by omega)
  have HRW := Lib.hid hR
  clear h2 k2 hW2 hn hR c0 c1
  go_enter Tryd.func6, Tryd.ntmps6
  go_upto_region 1 with fail
  rw [HW2.out]
  clear HW2
  generalize hg0 : w.heap.size = g0 at *
  have HG := Lib.hid hg0
  clear hg0
  have apx : apartB [3, 4, 5, 6, 7, 8, 9, 1007] = true := by decide
  refine wp_region_any (by kernel_rfl) ?_
  change wpAny _ _ _ _ _ _ _ (World.drew _)
  refine wpAny_inv2 (fun ll aa wx => Hid (ll.size = 8 ∧ RC g0 v n rs W2 ll wx) ∧ ∃ (z : Nat → Value), Hid (aa = ⟨#[.agg (tabV v A n c), .pointer (some ⟨g0, 0, none⟩), .pointer (some ⟨g0 + 1, 0, none⟩), z 3, z 4, z 5, z 6, z 7, z 8, z 9], []⟩) ∧ Holding [3, 4, 5, 6, 7, 8, 9, 1007] [some (.pointer (some ⟨g0, 0, none⟩)), some (.int .i64 v), none, some (.pointer (some ⟨g0, 1, none⟩)), some (.slice A n c), none, none, none] ll z ∧ Whu ll 2 5 (OE g0 []) (z 5) wx ∧ Whu ll 5 6 (OE g0 rs) (z 8) wx ∧ Whu ll 6 7 (OB g0 v n rs) (z 9) wx) ?_ (by kernel_rfl) ?_ ?_ _ rfl _ _ ?_
  · rintro ll aa wx ⟨hI, _⟩
    exact hI.out.1
  · rintro ll aa wx ⟨hI, z, ha, hz, hp2, hp5, hp6⟩ hall
    have hx := Lib.hid hI.out.2
    have e0 : z 3 = .pointer (some ⟨g0, 0, none⟩) := hz 0 _ (hall 0 (by decide)) rfl
    have e1 : z 4 = .int .i64 v := hz 1 _ (hall 1 (by decide)) rfl
    have e3 : z 6 = .pointer (some ⟨g0, 1, none⟩) := hz 3 _ (hall 3 (by decide)) rfl
    have e4 : z 7 = .slice A n c := hz 4 _ (hall 4 (by decide)) rfl
    have hall7 := hall 7 (by decide)
    clear hall hz hI hp2 hp5 hp6
    obtain rfl := ha.out
    clear ha
    clear apx
    have HX := Lib.hid hx.out.low
    have HA := Lib.hid (hx.out.aft hall7)
    clear e0 e1 e3 e4 hx
    go_wp2
    obtain ⟨B, d, r5, o5⟩ := HA.out
    exact bodyPost_ret (v := .agg (tabV v B n d)) (results_cell_row rfl _ _ (g0 + 1) 24 _ (0, 0) _ rfl r5 Tryd.underlying24 rfl infoT) rfl ⟨⟨B, d, rfl, by rw [HG.out]; exact o5⟩, by rw [HG.out]; exact K2.out.trans (HX.out.mono (Nat.le_succ _))⟩
  · rintro ll aa wx i ⟨hI, z, ha, hz, hp2, hp5, hp6⟩ hcl hi hu hw
    obtain rfl := ha.out
    have hsz := Lib.hid hI.out.1
    have hx := Lib.hid hI.out.2
    clear ha hI
    have hin : i < 8 := hi
    obtain rfl | rfl | rfl | rfl | rfl | rfl | rfl | rfl : i = 0 ∨ i = 1 ∨ i = 2 ∨ i = 3 ∨ i = 4 ∨ i = 5 ∨ i = 6 ∨ i = 7 := by omega
    · refine wpOp_plain rfl rfl ?_
      go_simp
      exact ⟨⟨by simp [hsz.out], hx.out.same (by decide)⟩, upd z 3 (.pointer (some ⟨g0, 0, none⟩)), (by unfold Hid; simp [upd]), hz.next apx hsz.out 0 (by decide) _ (fun _ h => Option.some.inj h), hp2.keep (by decide), hp5.keep (by decide), hp6.keep (by decide)⟩
    · have e0 : z 3 = .pointer (some ⟨g0, 0, none⟩) := hz 0 _ (hw 0 (by kernel_rfl)) rfl
      have c9 := (hx.out.low.cell (p := ⟨g0, 0, none⟩) (by show g0 < g0 + 1; omega)).trans F0.out
      refine wpOp_plain rfl rfl ?_
      go_simp
      exact ⟨⟨by simp [hsz.out], hx.out.same (by decide)⟩, upd z 4 (.int .i64 v), (by unfold Hid; simp [upd, e0]), hz.next apx hsz.out 1 (by decide) _ (fun _ h => Option.some.inj h), hp2.keep (by decide), hp5.keep (by decide), hp6.keep (by decide)⟩
    · refine wpOp_plain rfl rfl ?_
      go_simp
      have lown : Below wx.heap.size wx (wx.alloc (.cells #[] 40)) := (Below.refl _ _).alloc (Nat.le_refl _) _
      exact ⟨⟨by simp [hsz.out], hx.out.call (Nat.le_of_lt H8.out) (by decide) lown⟩, upd z 5 (.slice (some ⟨wx.heap.size, 0, none⟩) 0 0), (by unfold Hid; simp [upd]), hz.next apx hsz.out 2 (by decide) _ (fun _ h => by cases h), Whu.done (⟨rfl, .inr ⟨wx.heap.size, 0, #[], rfl, by have := hx.out.low.size; have := H8.out; omega, Go.heap_alloc_new wx _, Nat.le_refl _, by unfold maxLen; omega, rfl, rfl⟩⟩), (hp5.keep (by decide)).map (fun h => h.later lown), (hp6.keep (by decide)).map (fun h => h.later lown)⟩
    · refine wpOp_plain rfl rfl ?_
      go_simp
      exact ⟨⟨by simp [hsz.out], hx.out.same (by decide)⟩, upd z 6 (.pointer (some ⟨g0, 1, none⟩)), (by unfold Hid; simp [upd]), hz.next apx hsz.out 3 (by decide) _ (fun _ h => Option.some.inj h), hp2.keep (by decide), hp5.keep (by decide), hp6.keep (by decide)⟩
    · have e3 : z 6 = .pointer (some ⟨g0, 1, none⟩) := hz 3 _ (hw 3 (by kernel_rfl)) rfl
      have c9 := (hx.out.low.cell (p := ⟨g0, 1, none⟩) (by show g0 < g0 + 1; omega)).trans F1.out
      refine wpOp_plain rfl rfl ?_
      go_simp
      exact ⟨⟨by simp [hsz.out], hx.out.same (by decide)⟩, upd z 7 (.slice A n c), (by unfold Hid; simp [upd, e3]), hz.next apx hsz.out 4 (by decide) _ (fun _ h => Option.some.inj h), hp2.keep (by decide), hp5.keep (by decide), hp6.keep (by decide)⟩
    · have e4 : z 7 = .slice A n c := hz 4 _ (hw 4 (by kernel_rfl)) rfl
      have p2 := hp2.get (hw 2 (by kernel_rfl)) hu
      have hn7 : ll.getD 7 false = false := by
        cases hl : ll.getD 7 false
        · rfl
        · exact absurd (hcl 6 5 (hcl 7 6 hl (by kernel_rfl)) (by kernel_rfl)) (by rw [hu]; decide)
      have hRx : Ruls wx A c rs := HRW.out.below (K2.out.trans (hx.out.low.mono (Nat.le_succ _))) (by rw [HG.out]; exact Nat.le_refl _)
      refine wpOp_plain rfl rfl (wp_copy_rul (.tmp 5) (.tmp 7) rfl (g0 + 2) (z 5) rfl p2 A n c rs e4 Hn.out hRx hn9 (by have := hx.out.low.size; have := H8.out; omega) ?_)
      intro vr w9 hown9 hgrow9
      go_simp
      exact ⟨⟨by simp [hsz.out], hx.out.app hn7 p2 hgrow9⟩, upd z 8 (vr), (by unfold Hid; simp [upd, e4]), hz.next apx hsz.out 5 (by decide) _ (fun _ h => by cases h), Whu.past (by rw [hsz.out]; decide), Whu.done (hown9), Whu.never (by decide) (fun hl => hcl 6 5 hl (by kernel_rfl)) hu⟩
    · have e1 : z 4 = .int .i64 v := hz 1 _ (hw 1 (by kernel_rfl)) rfl
      have p5 := hp5.get (hw 5 (by kernel_rfl)) hu
      obtain ⟨A5, c5, hv5, _⟩ := OwnR.ruls p5
      rw [Hn.out] at hv5
      refine wpOp_plain rfl rfl ?_
      go_simp
      exact ⟨⟨by simp [hsz.out], hx.out.same (by decide)⟩, upd z 9 (.agg #[.int .i64 v, .slice A5 n c5]), (by unfold Hid; simp [upd, e1, hv5]), hz.next apx hsz.out 6 (by decide) _ (fun _ h => by cases h), hp2.keep (by decide), Whu.past (by rw [hsz.out]; decide), Whu.done (⟨A5, c5, rfl, by rw [← hv5]; exact p5⟩)⟩
    · have p6 := hp6.get (hw 6 (by kernel_rfl)) hu
      obtain ⟨A5, c5, hv5, p5b⟩ := p6
      refine wpOp_plain rfl rfl (wp_store_row 24 (.tmp 2) (.tmp 9) rfl (g0 + 1) (tabV v A5 n c5) rfl (by show z 9 = _; rw [hv5]) 24 _ (hx.out.row hu) infoT rfl (tab_one ..) ?_)
      go_simp
      exact ⟨⟨by simp [hsz.out], hx.out.store (by rw [hsz.out]; decide) hu p5b⟩, upd z 1007 (undef), (by unfold Hid; simp [upd, hv5]), hz.next apx hsz.out 7 (by decide) _ (fun _ h => by cases h), Whu.gone (hcl 6 5 (hw 6 (by kernel_rfl)) (by kernel_rfl)), Whu.gone (hw 6 (by kernel_rfl)), Whu.past (by rw [hsz.out]; decide)⟩
  · exact ⟨⟨rfl, RC.start HB.out⟩, fun xx => (#[.agg (tabV v A n c), .pointer (some ⟨g0, 0, none⟩), .pointer (some ⟨g0 + 1, 0, none⟩), undef, undef, undef, undef, undef, undef, undef] : Array Value).getD xx undef, (by rfl), Holding.start, Whu.none (by decide), Whu.none (by decide), Whu.none (by decide)⟩
end Go.Proofs.YtmbcojpdigoojaaDoor.Rul
