/- DERIVED. Texts of ours, merged: XGrfPush XGrfHp XGrfHu XGrfHpush XGrfHpop. -/
import Derived.Test.YtnjeppmpnaemlaaDoorMrk11
import Derived.Lib.AppendStr
/- DERIVED. The candidates' Pop and Push. Written by mkpush.py. -/
set_option maxRecDepth 100000
namespace Go.Proofs.YtnjeppmpnaemlaaDoor
theorem Whu.never {l : Array Bool} {i q k : Nat} {p : Value → World → Prop} {v : Value} {w : World} (hne : i ≠ k) (h : l.getD i false = true → l.getD k false = true) (hu : l.getD k false = false) : Whu (l.setIfInBounds k true) i q p v w := fun hl => by
  have := h ((getD_listed hl).resolve_left hne)
  rw [this] at hu
  cases hu
end Go.Proofs.YtnjeppmpnaemlaaDoor
namespace Go.Proofs.YtnjeppmpnaemlaaDoor.Grf
open Go.RowKit Str Go.Maps
/-- append(v, x) as an operation, x laid in a block of its own somewhere. -/
theorem wp_app_ptr {o : Oper} {a : Act} {K : Act → World → Prop} {Q : Exit → Act → World → Prop} {w : World} (T : TypeId) (hT : Tryd.prog.underlying T = some (.slice 87)) (s y : Operand)
    (ho : o.op = .call { callee := .builtin .append, args := #[s, y], argTypes := #[T, T] }) (base : Nat) (v : Value) (n : Nat) (L : List Value) (x : Nat) (hs : a.eval s = v) (hown : w.ownsRow base 87 1 v n L)
    (g : Nat) (hy : a.eval y = .slice (some ⟨g, 0, none⟩) 1 1) (hg : w.heap[g]? = some (.cells #[ptr x] 87 (0, 0))) (h63 : n ≤ 1000000) (hbase : base ≤ w.heap.size)
    (h : ∀ v' w', w'.ownsRow base 87 1 v' (n + 1) (L ++ [ptr x]) → w.grownBy w' v.ownBlock → (v'.ownBlock = v.ownBlock ∨ v'.ownBlock = some w.heap.size) → K (a.put o.dst v') w') : o.wp Tryd.prog a w K Q := by
  obtain ⟨i0, hi0, hz00, hz10, hz20⟩ := info_parts infoPz
  obtain ⟨v', w', hr, h2, h3, _, h5⟩ := run_append_own_at (P := Tryd.prog) w base T o.type 87 i0 (.pointer none) 1 8 hT hi0 hz00 hz10 hz20 rfl (by decide) v n L hown ⟨g, 0, none⟩ 1 1 [ptr x] rfl
    (fun j u hu => by rw [Addr.add_mid, Nat.zero_add, cell_row hg]; simpa using hu) (fun u hu => by simp only [List.mem_cons, List.mem_nil_iff, or_false] at hu; subst hu; rfl) (by unfold maxLen; omega) (by omega) hbase
  unfold Oper.wp execOp
  simp only [ho, resolve, invoke, builtin, Sem.run_bind, Sem.run_pure, Result.andThen_ok, List.map_toArray, List.map_cons, List.map_nil, hs, hy, hr]
  exact h v' w' h2 h3 h5
theorem m_pop (k rd : Nat) (w : World) : (method (k + 1) 135 (.pointer (some ⟨rd, 0, none⟩)) "Pop").run Tryd.prog w = .ok (146, .pointer (some ⟨rd, 0, none⟩)) w := by kernel_rfl
theorem m_push (k rd : Nat) (w : World) : (method (k + 1) 135 (.pointer (some ⟨rd, 0, none⟩)) "Push").run Tryd.prog w = .ok (147, .pointer (some ⟨rd, 0, none⟩)) w := by kernel_rfl
set_option maxHeartbeats 2000000 in
theorem popc_any {w : World} {rd g cap base : Nat} {bl : Vx → Nat} {R : List Vx} (h : CQ w rd g cap base bl R) (n : Nat) (hn : R.length = n + 1) (hn2 : n ≤ 1000000) :
    Calls Tryd.prog 146 #[ptr rd] w fun e w' => e = .returned (.iface 87 (ptr (bl (at0 R n)))) ∧ CQ w' rd g cap base bl (R.take n) ∧ Chg [rd] w w' := by
  have HS : Hid (∀ w', w' = w.setCell ⟨rd, 0, none⟩ (.slice (some ⟨g, 0, none⟩) n cap) → CQ w' rd g cap base bl (R.take n) ∧ Chg [rd] w w') := fun w' e => h.pop hn e
  have c0 : w.cell? ⟨rd, 0, none⟩ = some (.slice (some ⟨g, 0, none⟩) R.length cap) := cell_row h.box 0
  have fr := free_row h.box 0
  have cn := h.cell (show n < R.length by omega)
  obtain ⟨C, _, _, hcap, _⟩ := h.row
  rw [hn] at c0 hcap
  have hq : ((n + 1 : Nat) : Int) - 1 = (n : Int) := by omega
  have hw : IntKind.i64.wrap (n : Int) = (n : Int) := IntWalk.i64_in _ (by omega)
  have hlt : (n : Int) < ((n + 1 : Nat) : Int) := by omega
  have h0 : (0 : Int) ≤ (n : Int) := by omega
  have hcI : ((n + 1 : Nat) : Int) ≤ cap := by omega
  have hcI2 : (n : Int) ≤ cap := by omega
  have ht : ((n : Nat) : Int).toNat = n := rfl
  clear h
  generalize bl (at0 R n) = b at *
  generalize hm : n + 1 = m at *
  clear hn
  go_enter Tryd.func146, Tryd.ntmps146
  go_wp2
  go_ret
  exact ⟨rfl, HS.out _ rfl⟩
/-- what was appended, before it is stored. -/
structure PQ (W : World) (rd g base : Nat) (bl : Vx → Nat) (R : List Vx) (x : Vx) (z : Value) (w : World) : Prop where
  ex : ∃ g' cap', z = .slice (some ⟨g', 0, none⟩) (R.length + 1) cap' ∧ w.ownsRow base 87 1 z (R.length + 1) ((R ++ [x]).map fun v => ptr (bl v)) ∧ (g' = g ∨ W.heap.size ≤ g')
  box : w.heap[rd]? = W.heap[rd]?
theorem PQ.of {W wx w' : World} {rd g cap base : Nat} {bl : Vx → Nat} {R : List Vx} {x : Vx} {v' : Value} (h : CQ W rd g cap base bl R) (hlow : Below W.heap.size W wx)
    (ho : w'.ownsRow base 87 1 v' (R.length + 1) ((R.map fun v => ptr (bl v)) ++ [ptr (bl x)])) (hg : wx.grownBy w' (some g)) (hl : v'.ownBlock = some g ∨ v'.ownBlock = some wx.heap.size) : PQ W rd g base bl R x v' w' := by
  obtain ⟨C, hh, hb, _⟩ := h.row
  have hrd : rd < W.heap.size := (Array.getElem?_eq_some_iff.1 h.box).1
  have hne : rd ≠ g := ne_ty h.box hh (by decide)
  refine ⟨?_, (hg.block rd (Nat.lt_of_lt_of_le hrd hlow.size) (by simpa using hne)).trans (hlow.block _ hrd)⟩
  rcases ho.2 with ⟨e, h0⟩ | ⟨g', cap', cur, hv, hb, hh, hc, hm, hs, ht⟩
  · omega
  · refine ⟨g', cap', hv, ?_, ?_⟩
    · rw [List.map_append]; exact ho
    · rw [hv] at hl
      simp only [Value.ownBlock, Option.some.injEq] at hl
      rcases hl with rfl | rfl
      · exact .inl rfl
      · exact .inr hlow.size
theorem PQ.store {W wx : World} {rd g cap base : Nat} {bl : Vx → Nat} {R : List Vx} {x : Vx} {z : Value} (h : CQ W rd g cap base bl R) (hp : PQ W rd g base bl R x z wx) (hc : Chg [rd, g] W wx) (hx : W.rangeAt (bl x) 0 x.c.toList) (hxb : bl x < base) :
    ∃ g' cap', CQ (wx.setCell ⟨rd, 0, none⟩ z) rd g' cap' base bl (R ++ [x]) ∧ Chg [rd, g] W (wx.setCell ⟨rd, 0, none⟩ z) ∧ (g' = g ∨ W.heap.size ≤ g') := by
  obtain ⟨g', cap', hz, ho, hl⟩ := hp.ex
  have hb := hp.box.trans h.box
  have hne : g' ≠ rd := by
    rcases ho.2 with ⟨e, h0⟩ | ⟨g2, cap2, cur, hv, _, hh, _⟩
    · omega
    · rw [hz] at hv; cases hv
      exact ne_ty hh hb (by decide)
  have hC : Chg [rd, g] W (wx.setCell ⟨rd, 0, none⟩ z) := hc.setCell (p := ⟨rd, 0, none⟩) (by simp) _
  obtain ⟨C, hh, hgb, _⟩ := h.row
  refine ⟨g', cap', ⟨?_, ?_, fun v hv => ?_⟩, hC, hl⟩
  · rw [List.length_append, List.length_singleton, ← hz]; exact heap_setCell_same _ _ _ _ _ _ hb
  · rw [List.length_append, List.length_singleton, ← hz]
    exact World.ownsRow.kept ho (grown_setCell wx ⟨rd, 0, none⟩ _) (.inr (by rw [hz]; simpa [Value.ownBlock] using hne))
  · have hv2 : W.rangeAt (bl v) 0 v.c.toList ∧ bl v < base := by
      rcases List.mem_append.1 hv with hv | hv
      · exact h.vx v hv
      · rw [List.mem_singleton.1 hv]; exact ⟨hx, hxb⟩
    have hne2 : bl v ≠ rd := fun e3 => by
      have hc := hv2.1 0 (.int .u8 (v.h.getD 0 0)) (by
        rw [Vx.c_list]
        have := v.len
        cases hv : v.h with
        | nil => rw [hv] at this; cases this
        | cons x t => rfl)
      rw [e3, Nat.zero_add, cell_row h.box] at hc
      simp at hc
    exact ⟨range_at hv2.1 (hC.block _ (range_lt hv2.1) (by simp only [List.mem_cons, List.mem_nil_iff, or_false, not_or]; exact ⟨hne2, by omega⟩)), hv2.2⟩
def PushQ (W : World) (rd g base : Nat) (bl : Vx → Nat) (R : List Vx) (x : Vx) (_ : Value) (w : World) : Prop := ∃ g' cap', CQ w rd g' cap' base bl (R ++ [x]) ∧ Chg [rd, g] W w ∧ (g' = g ∨ W.heap.size ≤ g')
theorem assert_line (b : Nat) (w : World) : (Instr.typeAssert (.iface 87 (ptr b)) 20 87 false).run Tryd.prog w = .ok (ptr b) w := by kernel_rfl
/-- a pointer laid in a block of its own. -/
def OneP (b : Nat) (z : Value) (w : World) : Prop := ∃ q, z = .slice (some ⟨q, 0, none⟩) 1 1 ∧ w.heap[q]? = some (.cells #[ptr b] 87 (0, 0))
theorem OneP.later {b : Nat} {z : Value} {w w' : World} (h : OneP b z w) (hb : Below w.heap.size w w') : OneP b z w' := by
  obtain ⟨q, h1, h2⟩ := h
  exact ⟨q, h1, at_below h2 hb⟩
set_option maxHeartbeats 4000000 in
theorem pushc_any {w : World} {rd g cap base : Nat} {bl : Vx → Nat} {R : List Vx} (h : CQ w rd g cap base bl R) (x : Vx) (hx : w.rangeAt (bl x) 0 x.c.toList) (hxb : bl x < base) (hn : R.length ≤ 1000000) :
    Calls Tryd.prog 147 #[ptr rd, .iface 87 (ptr (bl x))] w fun e w' => e = .returned (.tuple #[]) ∧ ∃ g' cap', CQ w' rd g' cap' base bl (R ++ [x]) ∧ Chg [rd, g] w w' ∧ (g' = g ∨ w.heap.size ≤ g') := by
  have c0 : Hid (w.cell? ⟨rd, 0, none⟩ = some (.slice (some ⟨g, 0, none⟩) R.length cap)) := cell_row h.box 0
  have HB := Lib.hid h
  obtain ⟨b, hb⟩ : ∃ b, b = bl x := ⟨_, rfl⟩
  obtain ⟨n, hN⟩ : ∃ n, n = R.length := ⟨_, rfl⟩
  rw [← hb]
  rw [← hN] at c0 hn
  have Hb := Lib.hid hb
  have HN := Lib.hid hN
  have HX := Lib.hid hx
  have HXb := Lib.hid hxb
  have HK : Hid (base ≤ w.heap.size) := by
    obtain ⟨C, hh, hb, _⟩ := h.row
    have := (Array.getElem?_eq_some_iff.1 hh).1
    exact Nat.le_of_lt (Nat.lt_of_le_of_lt hb this)
  clear h hb hN hx hxb
  go_enter Tryd.func147, Tryd.ntmps147
  go_upto_region 0 with (fail)
  have apx : apartB [4, 5, 6, 7, 8, 9, 10, 11, 12, 1009] = true := by decide
  refine wp_region_any (by kernel_rfl) ?_
  change wpAny _ _ _ _ _ _ _ (World.drew _)
  refine wpAny_inv2 (fun ll aa wx => Hid (ll.size = 10 ∧ RelC 7 [rd, g] w ll wx) ∧ ∃ (z : Nat → Value), Hid (aa = ⟨#[ptr rd, .iface 87 (ptr b), undef, undef, z 4, z 5, z 6, z 7, z 8, z 9, z 10, z 11, z 12], []⟩) ∧ Holding [4, 5, 6, 7, 8, 9, 10, 11, 12, 1009] [some (ptr rd), some (ptr rd), some (.pointer (some ⟨rd, 0, none⟩)), some (.slice (some ⟨g, 0, none⟩) n cap), some (.iface 87 (ptr b)), some (ptr b), none, none, some (.pointer (some ⟨rd, 0, none⟩)), none] ll z ∧ Whu ll 6 7 (OneP b) (z 10) wx ∧ Whu ll 7 9 (PQ w rd g base bl R x) (z 11) wx ∧ Whn ll 9 (PushQ w rd g base bl R x) (z 1009) wx) ?_ (by kernel_rfl) ?_ ?_ _ rfl _ _ ?_
  · rintro ll aa wx ⟨hI, _⟩
    exact hI.out.1
  · rintro ll aa wx ⟨hI, z, ha, hz, hp6, hp7, hp9⟩ hall
    have hx := Lib.hid hI.out.2
    have e0 : z 4 = ptr rd := hz 0 _ (hall 0 (by decide)) rfl
    have e1 : z 5 = ptr rd := hz 1 _ (hall 1 (by decide)) rfl
    have e2 : z 6 = .pointer (some ⟨rd, 0, none⟩) := hz 2 _ (hall 2 (by decide)) rfl
    have e3 : z 7 = .slice (some ⟨g, 0, none⟩) n cap := hz 3 _ (hall 3 (by decide)) rfl
    have e4 : z 8 = .iface 87 (ptr b) := hz 4 _ (hall 4 (by decide)) rfl
    have e5 : z 9 = ptr b := hz 5 _ (hall 5 (by decide)) rfl
    have e8 : z 12 = .pointer (some ⟨rd, 0, none⟩) := hz 8 _ (hall 8 (by decide)) rfl
    have p9 := hp9.get (hall 9 (by decide))
    clear hall hz hI hp6 hp7 hp9
    obtain rfl := ha.out
    clear ha
    clear apx
    have HQ := Lib.hid p9
    clear p9 hx
    go_wp2
    exact bodyPost_end (results_none rfl _ _ _) rfl ⟨rfl, HQ.out⟩
  · rintro ll aa wx i ⟨hI, z, ha, hz, hp6, hp7, hp9⟩ hcl hi hu hw
    obtain rfl := ha.out
    have hsz := Lib.hid hI.out.1
    have hx := Lib.hid hI.out.2
    clear ha hI
    have hin : i < 10 := hi
    obtain rfl | rfl | rfl | rfl | rfl | rfl | rfl | rfl | rfl | rfl : i = 0 ∨ i = 1 ∨ i = 2 ∨ i = 3 ∨ i = 4 ∨ i = 5 ∨ i = 6 ∨ i = 7 ∨ i = 8 ∨ i = 9 := by omega
    · refine wpOp_plain rfl rfl ?_
      go_simp
      exact ⟨⟨by simp [hsz.out], hx.out.same⟩, upd z 4 (ptr rd), (by unfold Hid; simp [upd]), hz.next apx hsz.out 0 (by decide) _ (fun _ h => Option.some.inj h), hp6.keep (by decide), hp7.keep (by decide), hp9.keep (by decide)⟩
    · refine wpOp_plain rfl rfl ?_
      go_simp
      exact ⟨⟨by simp [hsz.out], hx.out.same⟩, upd z 5 (ptr rd), (by unfold Hid; simp [upd]), hz.next apx hsz.out 1 (by decide) _ (fun _ h => Option.some.inj h), hp6.keep (by decide), hp7.keep (by decide), hp9.keep (by decide)⟩
    · have e1 : z 5 = ptr rd := hz 1 _ (hw 1 (by kernel_rfl)) rfl
      refine wpOp_plain rfl rfl ?_
      go_simp
      exact ⟨⟨by simp [hsz.out], hx.out.same⟩, upd z 6 (.pointer (some ⟨rd, 0, none⟩)), (by unfold Hid; simp [upd, e1]), hz.next apx hsz.out 2 (by decide) _ (fun _ h => Option.some.inj h), hp6.keep (by decide), hp7.keep (by decide), hp9.keep (by decide)⟩
    · have e2 : z 6 = .pointer (some ⟨rd, 0, none⟩) := hz 2 _ (hw 2 (by kernel_rfl)) rfl
      have hlow := hx.out.2 (no_of (fun hl => hcl 7 3 hl (by kernel_rfl)) hu)
      have cl := (hlow.cell (World.block_lt_of_cell? _ _ c0.out)).trans c0.out
      refine wpOp_plain rfl rfl ?_
      go_simp
      exact ⟨⟨by simp [hsz.out], hx.out.same⟩, upd z 7 (.slice (some ⟨g, 0, none⟩) n cap), (by unfold Hid; simp [upd, e2]), hz.next apx hsz.out 3 (by decide) _ (fun _ h => Option.some.inj h), hp6.keep (by decide), hp7.keep (by decide), hp9.keep (by decide)⟩
    · refine wpOp_plain rfl rfl ?_
      go_simp
      exact ⟨⟨by simp [hsz.out], hx.out.same⟩, upd z 8 (.iface 87 (ptr b)), (by unfold Hid; simp [upd]), hz.next apx hsz.out 4 (by decide) _ (fun _ h => Option.some.inj h), hp6.keep (by decide), hp7.keep (by decide), hp9.keep (by decide)⟩
    · have e4 : z 8 = .iface 87 (ptr b) := hz 4 _ (hw 4 (by kernel_rfl)) rfl
      have ta := assert_line b wx
      refine wpOp_plain rfl rfl ?_
      go_simp
      exact ⟨⟨by simp [hsz.out], hx.out.same⟩, upd z 9 (ptr b), (by unfold Hid; simp [upd, e4]), hz.next apx hsz.out 5 (by decide) _ (fun _ h => Option.some.inj h), hp6.keep (by decide), hp7.keep (by decide), hp9.keep (by decide)⟩
    · have e5 : z 9 = ptr b := hz 5 _ (hw 5 (by kernel_rfl)) rfl
      refine wpOp_plain rfl rfl ?_
      go_simp
      have lown : Below wx.heap.size wx (wx.alloc (.cells #[ptr b] 87)) := (Below.refl _ _).alloc (Nat.le_refl _) _
      exact ⟨⟨by simp [hsz.out], hx.out.call lown⟩, upd z 10 (.slice (some ⟨wx.heap.size, 0, none⟩) 1 1), (by unfold Hid; simp [upd, e5]), hz.next apx hsz.out 6 (by decide) _ (fun _ h => by cases h), Whu.done (⟨wx.heap.size, rfl, Go.heap_alloc_new wx _⟩), Whu.never (by decide) (fun hl => hcl 7 6 hl (by kernel_rfl)) hu, Whn.never (by decide) (fun hl => hcl 9 6 hl (by kernel_rfl)) hu⟩
    · have e3 : z 7 = .slice (some ⟨g, 0, none⟩) n cap := hz 3 _ (hw 3 (by kernel_rfl)) rfl
      have p6 := hp6.get (hw 6 (by kernel_rfl)) hu
      obtain ⟨q, hq, hqb⟩ := p6
      have hlow := hx.out.2 hu
      refine wpOp_plain rfl rfl (wp_app_ptr 133 Tryd.underlying133 (.tmp 7) (.tmp 10) rfl base (.slice (some ⟨g, 0, none⟩) n cap) n (R.map fun v => ptr (bl v)) b e3 (by rw [HN.out]; exact own_stays HB.out.own hlow) q (by show z 10 = _; exact hq) hqb hn (Nat.le_trans HK.out hlow.size) ?_)
      intro vr w4 own gr loc
      rw [HN.out, Hb.out] at own
      have hPQ := PQ.of HB.out hlow own gr loc
      go_simp
      exact ⟨⟨by simp [hsz.out], hx.out.wr ⟨gr.os, gr.tape, gr.output, gr.size, fun k hk hn => gr.block k hk (fun e => hn (by simp only [Value.ownBlock, Option.some.injEq] at e; simp [e]))⟩ (by rw [hsz.out]; decide)⟩, upd z 11 (vr), (by unfold Hid; simp [upd, e3, hq]), hz.next apx hsz.out 7 (by decide) _ (fun _ h => by cases h), Whu.past (by rw [hsz.out]; decide), Whu.done (hPQ), Whn.never (by decide) (fun hl => hcl 9 7 hl (by kernel_rfl)) hu⟩
    · have e0 : z 4 = ptr rd := hz 0 _ (hw 0 (by kernel_rfl)) rfl
      refine wpOp_plain rfl rfl ?_
      go_simp
      exact ⟨⟨by simp [hsz.out], hx.out.same⟩, upd z 12 (.pointer (some ⟨rd, 0, none⟩)), (by unfold Hid; simp [upd, e0]), hz.next apx hsz.out 8 (by decide) _ (fun _ h => Option.some.inj h), hp6.keep (by decide), hp7.keep (by decide), hp9.keep (by decide)⟩
    · have e8 : z 12 = .pointer (some ⟨rd, 0, none⟩) := hz 8 _ (hw 8 (by kernel_rfl)) rfl
      have p7 := hp7.get (hw 7 (by kernel_rfl)) hu
      have hst := PQ.store HB.out p7 hx.out.1 HX.out HXb.out
      have cl := cell_row (p7.box.trans HB.out.box) 0
      have fr := free_row (p7.box.trans HB.out.box) 0
      obtain ⟨g2, cap2, hz2, _, _⟩ := p7.ex
      rw [hz2] at hst
      have Hst := Lib.hid hst
      clear hst
      refine wpOp_plain rfl rfl ?_
      go_simp
      exact ⟨⟨by simp [hsz.out], hx.out.more ((Chg.refl _ _).setCell (p := ⟨rd, 0, none⟩) (by simp) _) (hw 7 (by kernel_rfl))⟩, upd z 1009 (undef), (by unfold Hid; simp [upd, e8, hz2]), hz.next apx hsz.out 9 (by decide) _ (fun _ h => by cases h), Whu.gone (hw 7 (by kernel_rfl)), Whu.past (by rw [hsz.out]; decide), Whn.done (Hst.out)⟩
  · exact ⟨⟨rfl, RelC.start⟩, fun xx => (#[ptr rd, .iface 87 (ptr b), undef, undef, undef, undef, undef, undef, undef, undef, undef, undef, undef] : Array Value).getD xx undef, (by rfl), Holding.start, Whu.none (by decide), Whu.none (by decide), Whn.none (by decide)⟩
end Go.Proofs.YtnjeppmpnaemlaaDoor.Grf
/- DERIVED. container/heap at the candidates: down. Written by mkhp.py. -/
set_option maxRecDepth 100000
namespace Go.Proofs.YtnjeppmpnaemlaaDoor.Grf
open Go.RowKit Str Go.Maps
abbrev cand (rd : Nat) : Value := .iface 135 (ptr rd)
structure DI (w : World) (rd g cap base : Nat) (bl : Vx → Nat) (R : List Vx) (n k : Nat) (R2 : List Vx) (wr : World) : Prop where
  cq : CQ wr rd g cap base bl R2
  sm : Sm R R2
  hi : ∀ m, n ≤ m → at0 R2 m = at0 R m
  hd : HD (at0 R2) n k
  chg : Chg [g] w wr
def DQ (w : World) (rd g cap base : Nat) (bl : Vx → Nat) (R : List Vx) (n : Nat) (e : Ending) (w' : World) : Prop := ∃ b R', e = .returned (.bool b) ∧ CQ w' rd g cap base bl R' ∧ Sm R R' ∧ (∀ m, n ≤ m → at0 R' m = at0 R m) ∧ HP (at0 R') n ∧ Chg [g] w w'
theorem CQ.less {w : World} {rd g cap base : Nat} {bl : Vx → Nat} {R : List Vx} (h : CQ w rd g cap base bl R) (f : Nat) : (method (f + 1) 135 (ptr rd) "Less").run Tryd.prog w = .ok (140, .slice (some ⟨g, 0, none⟩) R.length cap) w := method_val ns_less f rd _ w (cell_row h.box 0)
theorem CQ.len {w : World} {rd g cap base : Nat} {bl : Vx → Nat} {R : List Vx} (h : CQ w rd g cap base bl R) (f : Nat) : (method (f + 1) 135 (ptr rd) "Len").run Tryd.prog w = .ok (139, .slice (some ⟨g, 0, none⟩) R.length cap) w := method_val ns_len f rd _ w (cell_row h.box 0)
theorem CQ.swp {w : World} {rd g cap base : Nat} {bl : Vx → Nat} {R : List Vx} (h : CQ w rd g cap base bl R) (f : Nat) : (method (f + 1) 135 (ptr rd) "Swap").run Tryd.prog w = .ok (141, .slice (some ⟨g, 0, none⟩) R.length cap) w := method_val ns_swap f rd _ w (cell_row h.box 0)
theorem ord_nlt {a b : Vx} (h : ¬ ordV a b < 0) : ordV b a ≤ 0 := by have := ordV_neg a b; omega
theorem DI.step {w wr w8 w9 : World} {rd g cap base n k jj : Nat} {bl : Vx → Nat} {R R2 : List Vx} (h : DI w rd g cap base bl R n k R2 wr) (hn : n ≤ R.length) (l8 : Below wr.heap.size wr w8) (hk : k < n) (hj : jj = 2 * k + 1 ∨ jj = 2 * k + 2) (hjn : jj < n) (hmin : ∀ m, 0 < m → m < n → (m - 1) / 2 = k → ordV (at0 R2 jj) (at0 R2 m) ≤ 0) (hlt : ordV (at0 R2 jj) (at0 R2 k) < 0)
    (hc : CQ w9 rd g cap base bl (Grf.swp R2 k jj)) (hg : Chg [g] w8 w9) : DI w rd g cap base bl R n jj (Grf.swp R2 k jj) w9 := by
  have hl := h.sm.len
  refine ⟨hc, h.sm.trans (swp_sm (by omega) (by omega)), fun m hm => ?_, ?_, h.chg.trans ((Chg.of_below l8).trans hg)⟩
  · rw [at0_swp (by omega) (by omega), swf_o _ (by omega) (by omega)]; exact h.hi m hm
  · rw [at0_swp (by omega) (by omega)]; exact h.hd.step hj hjn hmin hlt
set_option maxHeartbeats 4000000 in
theorem hdown_any {w : World} {rd g cap base : Nat} {bl : Vx → Nat} {R : List Vx} (h : CQ w rd g cap base bl R) (n : Nat) (hn : n ≤ R.length) (hR : R.length ≤ 1000000) (hd : HD (at0 R) n 0) :
    Calls Tryd.prog 98 #[cand rd, .int .i64 0, .int .i64 n] w (DQ w rd g cap base bl R n) := by
  have HI : Hid (DI w rd g cap base bl R n 0 R w) := ⟨h, Sm.refl R, fun _ _ => rfl, hd, Chg.refl _ _⟩
  have HN := Lib.hid hn
  have HR := Lib.hid hR
  clear h hd hn hR
  go_enter Tryd.func98, Tryd.ntmps98
  go_upto_region 2 with (fail)
  go_loopw [7] (fun i wr => ∃ (k : Nat) (R2 : List Vx), i = .int .i64 k ∧ Hid (k ≤ n) ∧ Hid (DI w rd g cap base bl R n k R2 wr)) (fun i _ => n - (intOf i).toNat)
  case atStart => exact ⟨0, R, rfl, Nat.zero_le _, HI.out⟩
  case round =>
    obtain ⟨k, R2, rfl, hk, hI⟩ := hrel
    clear HI
    have hkn := hk.out
    have hn6 : n ≤ 1000000 := Nat.le_trans HN.out HR.out
    have hw1 : wrap64 (2 * (k : Int)) = 2 * (k : Int) := by unfold wrap64; omega
    by_cases hlt : 2 * k + 1 < n
    · have hw2 : wrap64 (2 * (k : Int) + 1) = ((2 * k + 1 : Nat) : Int) := by unfold wrap64; omega
      have hltI : ¬ (n : Int) ≤ ((2 * k + 1 : Nat) : Int) := by omega
      have hge0 : ¬ ((2 * k + 1 : Nat) : Int) < 0 := by omega
      have hw3 : wrap64 (((2 * k + 1 : Nat) : Int) + 1) = ((2 * k + 2 : Nat) : Int) := by unfold wrap64; omega
      have HKn : Hid (k < n) := show k < n by omega
      have HL2 : Hid (n ≤ R2.length) := by rw [hI.out.sm.len]; exact HN.out
      clear hk hkn hn6
      obtain ⟨j1, hj1⟩ : ∃ j1, j1 = 2 * k + 1 := ⟨_, rfl⟩
      obtain ⟨j2, hj2⟩ : ∃ j2, j2 = 2 * k + 2 := ⟨_, rfl⟩
      rw [← hj1] at hw2 hltI hge0 hw3 hlt
      rw [← hj2] at hw3
      have HJ1 := Lib.hid hj1
      have HJ2 := Lib.hid hj2
      clear hj1 hj2
      go_upto_region 6 with (fail)
      by_cases h2 : j2 < n
      · have h2I : (j2 : Int) < n := by omega
        have hm := hI.out.cq.less
        have L1 := less_any hI.out.cq j2 j1 (by have := HL2.out; omega) (by have := HL2.out; omega)
        cases hb : decide (ordV (at0 R2 j2) (at0 R2 j1) < 0) with
        | true =>
          have HM : Hid (∀ m, 0 < m → m < n → (m - 1) / 2 = k → ordV (at0 R2 j2) (at0 R2 m) ≤ 0) := fun m h0 hmn hmk => by
            have hlt := of_decide_eq_true hb
            rcases (show m = j1 ∨ m = j2 by have := HJ1.out; have := HJ2.out; omega) with rfl | rfl
            · omega
            · rw [ordV_self]; omega
          have HJ : Hid (j2 = 2 * k + 1 ∨ j2 = 2 * k + 2) := .inr HJ2.out
          rw [hb] at L1
          clear hb
          go_upto_region 8 with (go_at_call 140; refine L1.mono ?_; rintro e w8 ⟨rfl, low8⟩)
          clear L1 hm
          have Hlow8 := Lib.hid low8
          have c8 := hI.out.cq.below low8
          have hm := c8.less
          have L2 := less_any c8 j2 k (by have := HL2.out; omega) (by have := HL2.out; have := HKn.out; omega)
          have HJn : Hid (j2 < n) := by show j2 < n; omega
          cases hb : decide (ordV (at0 R2 j2) (at0 R2 k) < 0) with
          | true =>
            have HLt := Lib.hid (of_decide_eq_true hb)
            rw [hb] at L2
            have HS : Hid (∀ u, Below w8.heap.size w8 u → (∀ f, (method (f + 1) 135 (ptr rd) "Swap").run Tryd.prog u = .ok (141, .slice (some ⟨g, 0, none⟩) R2.length cap) u) ∧ Calls Tryd.prog 141 #[.slice (some ⟨g, 0, none⟩) R2.length cap, .int .i64 k, .int .i64 j2] u fun e w' => e = .returned (.tuple #[]) ∧ CQ w' rd g cap base bl (Grf.swp R2 k j2) ∧ Chg [g] u w') :=
              fun u hu => ⟨(c8.below hu).swp, swap_any (c8.below hu) k j2 (by have := HL2.out; have := HKn.out; omega) (by have := HL2.out; have := HJn.out; omega)⟩
            clear hb c8 low8
            go_wp2_with (first | (go_at_call 140; refine L2.mono ?_; rintro e w9 ⟨rfl, low9⟩; obtain ⟨hs9, S9⟩ := HS.out w9 low9) | (go_at_call 141; refine S9.mono ?_; rintro e w10 ⟨rfl, hc10, hg10⟩))
            refine ⟨⟨j2, Grf.swp R2 k j2, rfl, Nat.le_of_lt HJn.out, hI.out.step HN.out Hlow8.out HKn.out HJ.out HJn.out HM.out HLt.out hc10 ((Chg.of_below low9).trans hg10)⟩, ?_⟩
            have e1 := HJ.out
            have e2 := HJn.out
            have e3 := HKn.out
            simp only [intOf]
            omega
          | false =>
            have HLt := Lib.hid (ord_nlt (of_decide_eq_false hb))
            rw [hb] at L2
            clear hb
            go_wp2_with (go_at_call 140; refine L2.mono ?_; rintro e w9 ⟨rfl, low9⟩)
            go_ret
            exact ⟨_, R2, rfl, c8.below low9, hI.out.sm, hI.out.hi, hI.out.hd.stop HM.out HLt.out, (hI.out.chg.trans (Chg.of_below Hlow8.out)).trans (Chg.of_below low9)⟩
        | false =>
          have HM : Hid (∀ m, 0 < m → m < n → (m - 1) / 2 = k → ordV (at0 R2 j1) (at0 R2 m) ≤ 0) := fun m h0 hmn hmk => by
            have hlt := of_decide_eq_false hb
            rcases (show m = j1 ∨ m = j2 by have := HJ1.out; have := HJ2.out; omega) with rfl | rfl
            · rw [ordV_self]; omega
            · exact ord_nlt hlt
          have HJ : Hid (j1 = 2 * k + 1 ∨ j1 = 2 * k + 2) := .inl HJ1.out
          rw [hb] at L1
          clear hb
          go_upto_region 8 with (go_at_call 140; refine L1.mono ?_; rintro e w8 ⟨rfl, low8⟩)
          clear L1 hm
          have Hlow8 := Lib.hid low8
          have c8 := hI.out.cq.below low8
          have hm := c8.less
          have L2 := less_any c8 j1 k (by have := HL2.out; omega) (by have := HL2.out; have := HKn.out; omega)
          have HJn : Hid (j1 < n) := by show j1 < n; omega
          cases hb : decide (ordV (at0 R2 j1) (at0 R2 k) < 0) with
          | true =>
            have HLt := Lib.hid (of_decide_eq_true hb)
            rw [hb] at L2
            have HS : Hid (∀ u, Below w8.heap.size w8 u → (∀ f, (method (f + 1) 135 (ptr rd) "Swap").run Tryd.prog u = .ok (141, .slice (some ⟨g, 0, none⟩) R2.length cap) u) ∧ Calls Tryd.prog 141 #[.slice (some ⟨g, 0, none⟩) R2.length cap, .int .i64 k, .int .i64 j1] u fun e w' => e = .returned (.tuple #[]) ∧ CQ w' rd g cap base bl (Grf.swp R2 k j1) ∧ Chg [g] u w') :=
              fun u hu => ⟨(c8.below hu).swp, swap_any (c8.below hu) k j1 (by have := HL2.out; have := HKn.out; omega) (by have := HL2.out; have := HJn.out; omega)⟩
            clear hb c8 low8
            go_wp2_with (first | (go_at_call 140; refine L2.mono ?_; rintro e w9 ⟨rfl, low9⟩; obtain ⟨hs9, S9⟩ := HS.out w9 low9) | (go_at_call 141; refine S9.mono ?_; rintro e w10 ⟨rfl, hc10, hg10⟩))
            refine ⟨⟨j1, Grf.swp R2 k j1, rfl, Nat.le_of_lt HJn.out, hI.out.step HN.out Hlow8.out HKn.out HJ.out HJn.out HM.out HLt.out hc10 ((Chg.of_below low9).trans hg10)⟩, ?_⟩
            have e1 := HJ.out
            have e2 := HJn.out
            have e3 := HKn.out
            simp only [intOf]
            omega
          | false =>
            have HLt := Lib.hid (ord_nlt (of_decide_eq_false hb))
            rw [hb] at L2
            clear hb
            go_wp2_with (go_at_call 140; refine L2.mono ?_; rintro e w9 ⟨rfl, low9⟩)
            go_ret
            exact ⟨_, R2, rfl, c8.below low9, hI.out.sm, hI.out.hi, hI.out.hd.stop HM.out HLt.out, (hI.out.chg.trans (Chg.of_below Hlow8.out)).trans (Chg.of_below low9)⟩
      · have h2I : ¬ (j2 : Int) < n := by omega
        · have HM : Hid (∀ m, 0 < m → m < n → (m - 1) / 2 = k → ordV (at0 R2 j1) (at0 R2 m) ≤ 0) := fun m h0 hmn hmk => by
            obtain rfl : m = j1 := by have := HJ1.out; have := HJ2.out; omega
            rw [ordV_self]; omega
          have HJ : Hid (j1 = 2 * k + 1 ∨ j1 = 2 * k + 2) := .inl HJ1.out
          have low8 : Below wr.heap.size wr wr := Below.refl _ _
          go_upto_region 8 with (fail)
          obtain ⟨w8, hw8⟩ : ∃ w8, w8 = wr := ⟨_, rfl⟩
          rw [← hw8]
          rw [show Below wr.heap.size wr wr = Below wr.heap.size wr w8 by rw [hw8]] at low8
          clear hw8
          have Hlow8 := Lib.hid low8
          have c8 := hI.out.cq.below low8
          have hm := c8.less
          have L2 := less_any c8 j1 k (by have := HL2.out; omega) (by have := HL2.out; have := HKn.out; omega)
          have HJn : Hid (j1 < n) := by show j1 < n; omega
          cases hb : decide (ordV (at0 R2 j1) (at0 R2 k) < 0) with
          | true =>
            have HLt := Lib.hid (of_decide_eq_true hb)
            rw [hb] at L2
            have HS : Hid (∀ u, Below w8.heap.size w8 u → (∀ f, (method (f + 1) 135 (ptr rd) "Swap").run Tryd.prog u = .ok (141, .slice (some ⟨g, 0, none⟩) R2.length cap) u) ∧ Calls Tryd.prog 141 #[.slice (some ⟨g, 0, none⟩) R2.length cap, .int .i64 k, .int .i64 j1] u fun e w' => e = .returned (.tuple #[]) ∧ CQ w' rd g cap base bl (Grf.swp R2 k j1) ∧ Chg [g] u w') :=
              fun u hu => ⟨(c8.below hu).swp, swap_any (c8.below hu) k j1 (by have := HL2.out; have := HKn.out; omega) (by have := HL2.out; have := HJn.out; omega)⟩
            clear hb c8 low8
            go_wp2_with (first | (go_at_call 140; refine L2.mono ?_; rintro e w9 ⟨rfl, low9⟩; obtain ⟨hs9, S9⟩ := HS.out w9 low9) | (go_at_call 141; refine S9.mono ?_; rintro e w10 ⟨rfl, hc10, hg10⟩))
            refine ⟨⟨j1, Grf.swp R2 k j1, rfl, Nat.le_of_lt HJn.out, hI.out.step HN.out Hlow8.out HKn.out HJ.out HJn.out HM.out HLt.out hc10 ((Chg.of_below low9).trans hg10)⟩, ?_⟩
            have e1 := HJ.out
            have e2 := HJn.out
            have e3 := HKn.out
            simp only [intOf]
            omega
          | false =>
            have HLt := Lib.hid (ord_nlt (of_decide_eq_false hb))
            rw [hb] at L2
            clear hb
            go_wp2_with (go_at_call 140; refine L2.mono ?_; rintro e w9 ⟨rfl, low9⟩)
            go_ret
            exact ⟨_, R2, rfl, c8.below low9, hI.out.sm, hI.out.hi, hI.out.hd.stop HM.out HLt.out, (hI.out.chg.trans (Chg.of_below Hlow8.out)).trans (Chg.of_below low9)⟩
    · have hltI : (n : Int) ≤ 2 * (k : Int) + 1 := by omega
      have hw2 : wrap64 (2 * (k : Int) + 1) = 2 * (k : Int) + 1 := by unfold wrap64; omega
      have hkk : n ≤ 2 * k + 1 := by omega
      go_wp2
      go_ret
      exact ⟨_, R2, rfl, hI.out.cq, hI.out.sm, hI.out.hi, hI.out.hd.leaf hkk, hI.out.chg⟩
end Go.Proofs.YtnjeppmpnaemlaaDoor.Grf
/- DERIVED. container/heap at the candidates: up, Push, Pop. -/
set_option maxRecDepth 100000
namespace Go.Proofs.YtnjeppmpnaemlaaDoor.Grf
open Go.RowKit Str Go.Maps
structure UI (w : World) (rd g cap base : Nat) (bl : Vx → Nat) (R : List Vx) (k : Nat) (R2 : List Vx) (wr : World) : Prop where
  cq : CQ wr rd g cap base bl R2
  sm : Sm R R2
  hu : HU (at0 R2) R.length k
  chg : Chg [g] w wr
def UQ (w : World) (rd g cap base : Nat) (bl : Vx → Nat) (R : List Vx) (e : Ending) (w' : World) : Prop := ∃ R', e = .returned (.tuple #[]) ∧ CQ w' rd g cap base bl R' ∧ Sm R R' ∧ HP (at0 R') R.length ∧ Chg [g] w w'
theorem UI.step {w wr w9 w10 : World} {rd g cap base k p : Nat} {bl : Vx → Nat} {R R2 : List Vx} (h : UI w rd g cap base bl R k R2 wr) (l9 : Below wr.heap.size wr w9) (hp : p = (k - 1) / 2) (hk0 : 0 < k) (hk : k < R.length) (hlt : ordV (at0 R2 k) (at0 R2 p) < 0)
    (hc : CQ w10 rd g cap base bl (Grf.swp R2 p k)) (hg : Chg [g] w9 w10) : UI w rd g cap base bl R p (Grf.swp R2 p k) w10 := by
  have hl := h.sm.len
  subst hp
  refine ⟨hc, h.sm.trans (swp_sm (by omega) (by omega)), ?_, (h.chg.trans (Chg.of_below l9)).trans hg⟩
  rw [at0_swp (by omega) (by omega)]
  exact h.hu.step hk0 hk hlt
set_option maxHeartbeats 4000000 in
theorem hup_any {w : World} {rd g cap base : Nat} {bl : Vx → Nat} {R : List Vx} (h : CQ w rd g cap base bl R) (j : Nat) (hj : j < R.length) (hR : R.length ≤ 1000001) (hu : HU (at0 R) R.length j) :
    Calls Tryd.prog 99 #[cand rd, .int .i64 j] w (UQ w rd g cap base bl R) := by
  have HI : Hid (UI w rd g cap base bl R j R w) := ⟨h, Sm.refl R, hu, Chg.refl _ _⟩
  have HJ := Lib.hid hj
  have HR := Lib.hid hR
  clear h hu hj hR
  go_enter Tryd.func99, Tryd.ntmps99
  go_upto_region 0 with (fail)
  go_loopw [1] (fun i wr => ∃ (k : Nat) (R2 : List Vx), i = .int .i64 k ∧ Hid (k < R.length) ∧ Hid (UI w rd g cap base bl R k R2 wr)) (fun i _ => (intOf i).toNat)
  case atStart => exact ⟨j, R, rfl, HJ.out, HI.out⟩
  case round =>
    obtain ⟨k, R2, rfl, hk, hI⟩ := hrel
    clear HI
    by_cases h0 : k = 0
    · subst h0
      rw [show ((0 : Nat) : Int) = 0 from rfl]
      go_wp2
      refine bodyPost_end (results_none rfl _ _ _) rfl ?_
      exact ⟨R2, rfl, hI.out.cq, hI.out.sm, hI.out.hu.top, hI.out.chg⟩
    · obtain ⟨p, hp⟩ : ∃ p, p = (k - 1) / 2 := ⟨_, rfl⟩
      have hL2 := hI.out.sm.len
      have hkn := hk.out
      have hRn := HR.out
      have hw1 : wrap64 ((k : Int) - 1) = (k : Int) - 1 := by unfold wrap64; omega
      have hq : ((k : Int) - 1).tdiv 2 = (p : Int) := by
        rw [Int.tdiv_eq_ediv_of_nonneg (by omega)]; omega
      have hw2 : wrap64 (p : Int) = (p : Int) := by unfold wrap64; omega
      have hne : ¬ (p : Int) = (k : Int) := by omega
      have hv1 : IntKind.i64.wrap ((k : Int) - 1) = (k : Int) - 1 := IntWalk.i64_in _ (by omega)
      have hv2 : IntKind.i64.wrap (p : Int) = (p : Int) := IntWalk.i64_in _ (by omega)
      have hpk : p < k := by omega
      have hm := hI.out.cq.less
      have L1 := less_any hI.out.cq k p (by omega) (by omega)
      cases hb : decide (ordV (at0 R2 k) (at0 R2 p) < 0) with
      | true =>
        have HLt := Lib.hid (of_decide_eq_true hb)
        rw [hb] at L1
        have hc := hI.out.cq
        have HS : Hid (∀ u, Below wr.heap.size wr u → (∀ f, (method (f + 1) 135 (ptr rd) "Swap").run Tryd.prog u = .ok (141, .slice (some ⟨g, 0, none⟩) R2.length cap) u) ∧ Calls Tryd.prog 141 #[.slice (some ⟨g, 0, none⟩) R2.length cap, .int .i64 p, .int .i64 k] u fun e w' => e = .returned (.tuple #[]) ∧ CQ w' rd g cap base bl (Grf.swp R2 p k) ∧ Chg [g] u w') :=
          fun u hu => ⟨(hc.below hu).swp, swap_any (hc.below hu) p k (by omega) (by omega)⟩
        have HP := Lib.hid hp
        have Hpk := Lib.hid hpk
        have HL2 := Lib.hid hL2
        clear hb hc hL2 hkn hRn hp hpk
        go_wp2_with (first | (go_at_call 140; refine L1.mono ?_; rintro e w9 ⟨rfl, low9⟩; obtain ⟨hs9, S9⟩ := HS.out w9 low9) | (go_at_call 141; refine S9.mono ?_; rintro e w10 ⟨rfl, hc10, hg10⟩))
        have e1 := Hpk.out
        have e2 := hk.out
        have hU := hI.out.step low9 HP.out (Nat.lt_of_le_of_lt (Nat.zero_le p) e1) e2 HLt.out hc10 hg10
        refine ⟨⟨p, Grf.swp R2 p k, rfl, Nat.lt_trans e1 e2, hU⟩, ?_⟩
        simp only [intOf]
        omega
      | false =>
        have HLt : Hid (ordV (at0 R2 ((k - 1) / 2)) (at0 R2 k) ≤ 0) := by
          have := ord_nlt (of_decide_eq_false hb)
          rw [hp] at this
          exact this
        rw [hb] at L1
        clear hb hp hpk hL2 hkn hRn
        go_wp2_with (go_at_call 140; refine L1.mono ?_; rintro e w9 ⟨rfl, low9⟩)
        refine bodyPost_end (results_none rfl _ _ _) rfl ?_
        exact ⟨R2, rfl, hI.out.cq.below low9, hI.out.sm, hI.out.hu.stop HLt.out, hI.out.chg.trans (Chg.of_below low9)⟩
end Go.Proofs.YtnjeppmpnaemlaaDoor.Grf
/- DERIVED. container/heap at the candidates: Push. -/
set_option maxRecDepth 100000
namespace Go.Proofs.YtnjeppmpnaemlaaDoor.Grf
open Go.RowKit Str Go.Maps
/-- Push. -/
def PushH (w : World) (rd g base : Nat) (bl : Vx → Nat) (R : List Vx) (x : Vx) (e : Ending) (w' : World) : Prop := ∃ g' cap' R', e = .returned (.tuple #[]) ∧ CQ w' rd g' cap' base bl R' ∧ (∀ v, v ∈ R' ↔ v ∈ R ∨ v = x) ∧ R'.Nodup ∧ HP (at0 R') R'.length ∧ R'.length = R.length + 1 ∧ Chg [rd, g] w w' ∧ (g' = g ∨ w.heap.size ≤ g')
set_option maxHeartbeats 4000000 in
theorem hpush_any {w : World} {rd g cap base : Nat} {bl : Vx → Nat} {R : List Vx} (h : CQ w rd g cap base bl R) (hp : HP (at0 R) R.length) (hnd : R.Nodup) (hR : R.length ≤ 1000000) (x : Vx) (hxR : x ∉ R) (hx : w.rangeAt (bl x) 0 x.c.toList) (hxb : bl x < base) :
    Calls Tryd.prog 77 #[cand rd, .iface 87 (ptr (bl x))] w (PushH w rd g base bl R x) := by
  have hm : ∀ f, (method (f + 1) 135 (ptr rd) "Push").run Tryd.prog w = .ok (147, ptr rd) w := fun f => m_push f rd w
  have P1 := pushc_any h x hx hxb hR
  have hl : (R ++ [x]).length = R.length + 1 := by simp
  have hu : HU (at0 (R ++ [x])) (R.length + 1) R.length := hp.push (fun k hk => by unfold at0; rw [List.getElem?_append_left hk])
  have HL : Hid (∀ u g' cap', CQ u rd g' cap' base bl (R ++ [x]) → (∀ f, (method (f + 1) 135 (ptr rd) "Len").run Tryd.prog u = .ok (139, .slice (some ⟨g', 0, none⟩) (R.length + 1) cap') u) ∧ Calls Tryd.prog 139 #[.slice (some ⟨g', 0, none⟩) (R.length + 1) cap'] u (fun e w' => e = .returned (.int .i64 ((R.length + 1 : Nat) : Int)) ∧ w' = u) ∧ Calls Tryd.prog 99 #[cand rd, .int .i64 R.length] u (UQ u rd g' cap' base bl (R ++ [x]))) := fun u g' cap' hc => by
    have q1 := hc.len
    rw [hl] at q1
    refine ⟨q1, len_any _ _ _ _, ?_⟩
    exact hup_any hc R.length (by omega) (by omega) (by rw [hl]; exact hu)
  have hw1 : wrap64 (((R.length + 1 : Nat) : Int) - 1) = (R.length : Int) := by unfold wrap64; omega
  have Hl := Lib.hid hl
  have HF : Hid (∀ w1 w' g' cap' R', Chg [rd, g] w w1 → (g' = g ∨ w.heap.size ≤ g') → CQ w' rd g' cap' base bl R' → Sm (R ++ [x]) R' → HP (at0 R') (R ++ [x]).length → Chg [g'] w1 w' → PushH w rd g base bl R x (.returned (.tuple #[])) w') := fun w1 w' g' cap' R' hg1 hgg hc sm hp2 hg2 => by
    refine ⟨g', cap', R', rfl, hc, fun v => ?_, ?_, ?_, by rw [sm.len, hl], ?_, hgg⟩
    · rw [sm.mem]; simp
    · exact sm.nd (List.nodup_append.2 ⟨hnd, by simp, fun a ha b hb e => by rw [List.mem_singleton.1 hb] at e; exact hxR (e ▸ ha)⟩)
    · rw [sm.len]; exact hp2
    · refine ⟨hg2.os.trans hg1.os, hg2.tape.trans hg1.tape, hg2.output.trans hg1.output, Nat.le_trans hg1.size hg2.size, fun k hk hn => ?_⟩
      refine (hg2.block k (Nat.lt_of_lt_of_le hk hg1.size) ?_).trans (hg1.block k hk hn)
      simp only [List.mem_cons, List.mem_nil_iff, or_false, not_or] at hn ⊢
      rcases hgg with rfl | hgg
      · exact hn.2
      · omega
  clear h hp hnd hR hxR hx hxb hu hl
  generalize hb : bl x = b at *
  generalize R.length = n at *
  generalize n + 1 = m at *
  clear hb
  go_enter Tryd.func77, Tryd.ntmps77
  go_upto_region 1 with (go_at_call 147; refine P1.mono ?_; rintro e w1 ⟨rfl, g1, cap1, hc1, hg1, hgg1⟩)
  obtain ⟨hl1, L1, U1⟩ := HL.out w1 g1 cap1 hc1
  clear P1 hm hc1
  go_wp2_with (first | (go_at_call 139; refine L1.mono ?_; rintro e w2 ⟨rfl, hw2⟩; obtain rfl := hw2.symm) | (go_at_call 99; refine U1.mono ?_; rintro e w3 ⟨R3, rfl, hc3, sm3, hp3, hg3⟩))
  refine bodyPost_end (results_none rfl _ _ _) rfl ?_
  exact HF.out _ _ _ _ _ hg1 hgg1 hc3 sm3 hp3 hg3
end Go.Proofs.YtnjeppmpnaemlaaDoor.Grf
/- DERIVED. container/heap at the candidates: Pop. -/
set_option maxRecDepth 100000
namespace Go.Proofs.YtnjeppmpnaemlaaDoor.Grf
open Go.RowKit Str Go.Maps
/-- Pop: the least. -/
def PopQ (w : World) (rd g cap base : Nat) (bl : Vx → Nat) (R : List Vx) (e : Ending) (w' : World) : Prop := ∃ R', e = .returned (.iface 87 (ptr (bl (at0 R 0)))) ∧ CQ w' rd g cap base bl R' ∧ (∀ v, v ∈ R' ↔ v ∈ R ∧ v ≠ at0 R 0) ∧ R'.Nodup ∧ HP (at0 R') R'.length ∧ R'.length + 1 = R.length ∧ Chg [rd, g] w w'
theorem pop_list {R R1 R2 : List Vx} {n : Nat} (hn : R.length = n + 1) (hnd : R.Nodup) (h1 : R1 = Grf.swp R 0 n) (sm : Sm R1 R2) (hi : ∀ m, n ≤ m → at0 R2 m = at0 R1 m) : at0 R2 n = at0 R 0 ∧ (∀ v, v ∈ R2.take n ↔ v ∈ R ∧ v ≠ at0 R 0) ∧ (R2.take n).Nodup ∧ (R2.take n).length = n := by
  have s1 := swp_sm (R := R) (i := 0) (j := n) (by omega) (by omega)
  rw [← h1] at s1
  have s2 := s1.trans sm
  have e0 : at0 R2 n = at0 R 0 := by
    rw [hi n (Nat.le_refl _), h1, at0_swp (by omega) (by omega), swf_j]
  have hl2 : R2.length = n + 1 := s2.len.trans hn
  have nd2 := s2.nd hnd
  have et : R2 = R2.take n ++ [at0 R 0] := by
    have h9 := List.take_append_drop n R2
    have : R2.drop n = [at0 R 0] := by
      rw [List.drop_eq_getElem_cons (by omega), List.drop_eq_nil_of_le (by omega)]
      rw [← e0]
      have := at0_lt (R := R2) (k := n) (by omega)
      rw [List.getElem?_eq_getElem (by omega)] at this
      rw [Option.some.inj this]
    rw [this] at h9
    exact h9.symm
  refine ⟨e0, fun v => ?_, nd2.sublist (List.take_sublist _ _), by rw [List.length_take]; omega⟩
  rw [← s2.mem v]
  rw [et] at nd2
  have ha := (List.nodup_append.1 nd2).2.2
  constructor
  · intro hv
    exact ⟨List.mem_of_mem_take hv, fun e => ha v hv (at0 R 0) (by simp) e⟩
  · rintro ⟨hv, hne⟩
    rw [et] at hv
    rcases List.mem_append.1 hv with hv | hv
    · exact hv
    · exact absurd (List.mem_singleton.1 hv) hne
set_option maxHeartbeats 4000000 in
theorem hpop_any {w : World} {rd g cap base : Nat} {bl : Vx → Nat} {R : List Vx} (h : CQ w rd g cap base bl R) (hp : HP (at0 R) R.length) (hnd : R.Nodup) (h0 : 0 < R.length) (hR : R.length ≤ 1000000) :
    Calls Tryd.prog 76 #[cand rd] w (PopQ w rd g cap base bl R) := by
  obtain ⟨n, hn⟩ : ∃ n, R.length = n + 1 := ⟨R.length - 1, by omega⟩
  have hm := h.len
  have L1 := len_any R.length cap (some ⟨g, 0, none⟩) w
  have hs := h.swp
  have S1 := swap_any h 0 n (by omega) (by omega)
  have hw1 : wrap64 ((R.length : Int) - 1) = (n : Int) := by unfold wrap64; omega
  have HD2 : Hid (∀ u, CQ u rd g cap base bl (Grf.swp R 0 n) → Calls Tryd.prog 98 #[cand rd, .int .i64 0, .int .i64 n] u (DQ u rd g cap base bl (Grf.swp R 0 n) n)) := fun u hu => by
    refine hdown_any hu n (by rw [swp_len]; omega) (by rw [swp_len]; exact hR) ?_
    rw [at0_swp (by omega) (by omega)]
    rw [hn] at hp
    exact hp.pop
  have HPc : Hid (∀ u R2, CQ u rd g cap base bl R2 → R2.length = n + 1 → (∀ f, (method (f + 1) 135 (ptr rd) "Pop").run Tryd.prog u = .ok (146, ptr rd) u) ∧ Calls Tryd.prog 146 #[ptr rd] u fun e w' => e = .returned (.iface 87 (ptr (bl (at0 R2 n)))) ∧ CQ w' rd g cap base bl (R2.take n) ∧ Chg [rd] u w') := fun u R2 hu hl => ⟨fun f => m_pop f rd u, popc_any hu n hl (by omega)⟩
  have HNd := Lib.hid hnd
  have Hn := Lib.hid hn
  clear h hp hnd h0 hR hn
  go_enter Tryd.func76, Tryd.ntmps76
  go_upto_region 3 with (first | (go_at_call 139; refine L1.mono ?_; rintro e w1 ⟨rfl, hw1⟩; obtain rfl := hw1.symm) | (go_at_call 141; refine S1.mono ?_; rintro e w2 ⟨rfl, hc2, hg2⟩))
  have D2 := HD2.out w2 hc2
  clear L1 S1 hm hs hw1
  go_upto_region 4 with (go_at_call 98; refine D2.mono ?_; rintro e w3 ⟨b, R2, rfl, hc3, sm3, hi3, hp3, hg3⟩)
  have e1 := sm3.len
  rw [swp_len, Hn.out] at e1
  obtain ⟨hm4, P4⟩ := HPc.out w3 R2 hc3 e1
  have HF : Hid (∀ w', CQ w' rd g cap base bl (R2.take n) → Chg [rd] w3 w' → PopQ w rd g cap base bl R (.returned (.iface 87 (ptr (bl (at0 R2 n))))) w') := fun w' hc hg => by
    obtain ⟨q1, q2, q3, q4⟩ := pop_list Hn.out HNd.out rfl sm3 hi3
    refine ⟨R2.take n, by rw [q1], hc, q2, q3, ?_, by rw [q4, Hn.out], ?_⟩
    · rw [q4]
      refine hp3.of (Nat.le_refl _) (fun k hk => ?_)
      unfold at0
      rw [List.getElem?_take, if_pos hk]
    · exact ((hg2.trans hg3).mono (T := [rd, g]) (fun k hk => .inl (by simp only [List.mem_singleton] at hk; simp [hk]))).trans (hg.mono (T := [rd, g]) (fun k hk => .inl (by simp only [List.mem_singleton] at hk; simp [hk])))
  clear D2 hc2 hg2 hc3 sm3 hi3 hp3 hg3 e1
  go_wp2_with (go_at_call 146; refine P4.mono ?_; rintro e w4 ⟨rfl, hc4, hg4⟩)
  go_ret
  exact HF.out _ hc4 hg4
end Go.Proofs.YtnjeppmpnaemlaaDoor.Grf
