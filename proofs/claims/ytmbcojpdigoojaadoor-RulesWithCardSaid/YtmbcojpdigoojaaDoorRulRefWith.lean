/- DERIVED. The reference's With. -/
import Derived.Test.YtmbcojpdigoojaaDoorRulRefMath
import Derived.Test.YtmbcojpdigoojaaDoorRegionFix
import Derived.Test.YtmbcojpdigoojaaDoorSlUntil
import Derived.Deep.MidRow
namespace Go.Proofs.YtmbcojpdigoojaaDoor.Rul
open Go.RowKit Lab Pth
/-- an append of one rule, in a drawn region. -/
theorem wp_app_rul {w : World} {o : Oper} {a : Act} {K : Act → World → Prop} {Q : Exit → Act → World → Prop} (s y : Operand)
    (ho : o.op = .call { callee := .builtin .append, args := #[s, y], argTypes := #[22, 22] }) (base : Nat) (v : Value) (xs : List Rl) (x : Rl) (hs : a.eval s = v) (hown : OwnR base xs v w)
    (g : Nat) (hy : a.eval y = .slice (some ⟨g, 0, none⟩) 1 1) (hg : w.heap[g]? = some (.cells (rlc x) 40 (0, 0))) (h63 : xs.length ≤ 100000) (hbase : base ≤ w.heap.size)
    (h : ∀ v' w', OwnR base (xs ++ [x]) v' w' → w.grownBy w' v.ownBlock → K (a.put o.dst v') w') : o.wp Tryd.prog a w K Q := by
  obtain ⟨i0, hi0, hz00, hz10, hz20⟩ := info_parts infoRz
  refine wp_append_own _ s y 22 ho base 40 i0 rulZero 3 32 Tryd.underlying22 hi0 hz00 hz10 hz20 rfl (by decide) v xs.length (flatR xs) hs hown ⟨g, 0, none⟩ 1 1 (rlc x).toList hy rfl
    (fun j u hu => by rw [Addr.add_mid, Nat.zero_add, cell_row hg]; simpa using hu) (rlc_ones _) (by unfold maxLen; omega) (by omega) hbase ?_
  intro v' w' hown' hgrow _
  refine h v' w' ?_ hgrow
  unfold OwnR
  rw [flatR_app, List.length_append]
  exact hown'
/-- the three blocks that With begins with: the table, the label, what it returns. -/
structure RI (g0 : Nat) (v : Int) (A : Option Addr) (n c : Nat) (r : Rl) (w W : World) : Prop where
  b1 : W.heap[g0]? = some (.cells (tabV v A n c) 34 (0, 0))
  b2 : W.heap[g0 + 1]? = some (.cells (lab r.a r.c) 27 (0, 0))
  b3 : W.heap[g0 + 1 + 1]? = some (.cells (tabV 0 none 0 0) 34 (0, 0))
  low : Below g0 w W
theorem RI.later {g0 B : Nat} {v : Int} {A : Option Addr} {n c : Nat} {r : Rl} {w W W' : World} (h : RI g0 v A n c r w W) (hb : Below B W W') (hB : g0 + 1 + 1 < B) : RI g0 v A n c r w W' :=
  ⟨(hb.block _ (by omega)).trans h.b1, (hb.block _ (by omega)).trans h.b2, (hb.block _ hB).trans h.b3, h.low.trans (hb.mono (by omega))⟩
theorem RI.lt {g0 : Nat} {v : Int} {A : Option Addr} {n c : Nat} {r : Rl} {w W : World} (h : RI g0 v A n c r w W) : g0 + 1 + 1 < W.heap.size := (Array.getElem?_eq_some_iff.1 h.b3).1
theorem RI.c0 {g0 : Nat} {v : Int} {A : Option Addr} {n c : Nat} {r : Rl} {w W : World} (h : RI g0 v A n c r w W) : W.cell? ⟨g0, 0, none⟩ = some (.int .i64 v) := cell_row h.b1 0
theorem RI.c1 {g0 : Nat} {v : Int} {A : Option Addr} {n c : Nat} {r : Rl} {w W : World} (h : RI g0 v A n c r w W) : W.cell? ⟨g0, 1, none⟩ = some (.slice A n c) := cell_row h.b1 1
/-- the loop's world: the table that grows, its rules in a row of their own. -/
structure RJ (g0 g8 : Nat) (v : Int) (A : Option Addr) (n c : Nat) (r : Rl) (out : List Rl) (u : Value) (w W : World) : Prop where
  i : RI g0 v A n c r w W
  row : W.heap[g8]? = some (.cells #[.int .i64 (v + 1), u] 34 (0, 0))
  own : OwnR (g8 + 1) out u W
theorem RJ.later {g0 g8 : Nat} {v : Int} {A : Option Addr} {n c : Nat} {r : Rl} {out : List Rl} {u : Value} {w W W' : World} (h : RJ g0 g8 v A n c r out u w W) (hb : Below W.heap.size W W') : RJ g0 g8 v A n c r out u w W' :=
  ⟨h.i.later hb h.i.lt, (hb.block _ (Array.getElem?_eq_some_iff.1 h.row).1).trans h.row, own_stays h.own hb⟩
/-- the table's rules become others. -/
theorem RJ.set {g0 g8 : Nat} {v : Int} {A : Option Addr} {n c : Nat} {r : Rl} {out out' : List Rl} {u u' : Value} {w W W' : World} (h : RJ g0 g8 v A n c r out u w W) (h8 : g0 + 1 + 1 < g8) (hb : Below g8 W W') (hr : W'.heap[g8]? = some (.cells #[.int .i64 (v + 1), u] 34 (0, 0))) (ho : OwnR (g8 + 1) out' u' W') :
    RJ g0 g8 v A n c r out' u' w (W'.setCell ⟨g8, 1, none⟩ u') := by
  have hb2 : Below g8 W (W'.setCell ⟨g8, 1, none⟩ u') := hb.setCell (Nat.le_refl _) _
  refine ⟨h.i.later hb2 h8, by rw [heap_setCell_same _ _ _ _ _ _ hr]; rfl, ?_⟩
  unfold OwnR at ho ⊢
  rcases ho.2 with ⟨e, h0⟩ | ⟨g, cap, cur, hv, hbg, hg, hn, hm, hs, ht⟩
  · exact ⟨ho.1, .inl ⟨e, h0⟩⟩
  · refine ⟨ho.1, .inr ⟨g, cap, cur, hv, hbg, ?_, hn, hm, hs, ht⟩⟩
    rw [Below.heap_setCell _ _ _ _ (by show g ≠ g8; omega)]
    exact hg
theorem fold_len (r : Rl) : ∀ (rs : List Rl) (st : List Rl × Bool), (rs.foldl (stepW r) st).1.length ≤ st.1.length + 2 * rs.length := by
  intro rs
  induction rs with
  | nil => intro st; simp
  | cons x t ih =>
    intro st
    have h1 := ih (stepW r st x)
    have h2 : (stepW r st x).1.length ≤ st.1.length + 2 := by
      have ha : (stepA r st x).1.length ≤ st.1.length + 1 := by
        unfold stepA
        split <;> simp
      have hb : (stepB r (stepA r st x) x).1.length ≤ (stepA r st x).1.length + 1 := by
        unfold stepB
        split <;> simp
      unfold stepW
      omega
    rw [List.foldl_cons, List.length_cons]
    omega
theorem own_setRow {base q : Nat} {xs : List Rl} {v : Value} {w : World} {C : Array Value} (h : OwnR base xs v w) (hq : q < base) : OwnR base xs v (w.setRow q C) := by
  unfold OwnR at h ⊢
  rcases h.2 with ⟨e, h0⟩ | ⟨g, cap, cur, hv, hbg, hg, hn, hm, hs, ht⟩
  · exact ⟨h.1, .inl ⟨e, h0⟩⟩
  · exact ⟨h.1, .inr ⟨g, cap, cur, hv, hbg, by rw [setRow_ne (by omega)]; exact hg, hn, hm, hs, ht⟩⟩
/-- the world of the region that appends the old rule: the append is its ninth operation, the store its last. -/
structure RX (g8 : Nat) (v : Int) (out : List Rl) (u : Value) (x : Rl) (W : World) (ll : Array Bool) (wx : World) : Prop where
  low : Below g8 W wx
  row : ll.getD 10 false = false → wx.heap[g8]? = some (.cells #[.int .i64 (v + 1), u] 34 (0, 0))
  own : ll.getD 8 false = false → OwnR (g8 + 1) out u wx
  aft : ll.getD 10 false = true → ∃ z, wx.heap[g8]? = some (.cells #[.int .i64 (v + 1), z] 34 (0, 0)) ∧ OwnR (g8 + 1) (out ++ [x]) z wx
theorem RX.start {g8 : Nat} {v : Int} {out : List Rl} {u : Value} {x : Rl} {W : World} {n : Nat} (hr : W.heap[g8]? = some (.cells #[.int .i64 (v + 1), u] 34 (0, 0))) (ho : OwnR (g8 + 1) out u W) : RX g8 v out u x W (Array.replicate n false) W.drew :=
  ⟨(Below.refl _ _).drew, fun _ => hr, fun _ => own_stays ho (Below.refl _ _).drew, fun hl => by
    have : (Array.replicate n false).getD 10 false = false := by
      by_cases hn : 10 < n <;> simp [Array.getD_eq_getD_getElem?, hn]
    rw [this] at hl; cases hl⟩
theorem RX.same {g8 : Nat} {v : Int} {out : List Rl} {u : Value} {x : Rl} {W wx : World} {ll : Array Bool} {i : Nat} (h : RX g8 v out u x W ll wx) (hi : i ≠ 10) (hj : i ≠ 8) : RX g8 v out u x W (ll.setIfInBounds i true) wx :=
  ⟨h.low, by rw [getD_set_ne false hi]; exact h.row, by rw [getD_set_ne false hj]; exact h.own, by rw [getD_set_ne false hi]; exact h.aft⟩
theorem RX.call {g8 : Nat} {v : Int} {out : List Rl} {u : Value} {x : Rl} {W wx w' : World} {ll : Array Bool} {i : Nat} (h : RX g8 v out u x W ll wx) (h8 : g8 ≤ W.heap.size) (hi : i ≠ 10) (hj : i ≠ 8) (hb : Below wx.heap.size wx w') : RX g8 v out u x W (ll.setIfInBounds i true) w' :=
  by
  refine ⟨h.low.trans (hb.mono (Nat.le_trans h8 h.low.size)), ?_, ?_, ?_⟩
  · rw [getD_set_ne false hi]
    exact fun hl => (hb.block _ (Array.getElem?_eq_some_iff.1 (h.row hl)).1).trans (h.row hl)
  · rw [getD_set_ne false hj]
    exact fun hl => own_stays (h.own hl) hb
  · rw [getD_set_ne false hi]
    intro hl
    obtain ⟨z, h1, h2⟩ := h.aft hl
    exact ⟨z, (hb.block _ (Array.getElem?_eq_some_iff.1 h1).1).trans h1, own_stays h2 hb⟩
theorem RX.app {g8 : Nat} {v : Int} {out : List Rl} {u : Value} {x : Rl} {W wx w' : World} {ll : Array Bool} (h : RX g8 v out u x W ll wx) (hs : 8 < ll.size) (h8 : ll.getD 8 false = false) (h10 : ll.getD 10 false = false) (hg : wx.grownBy w' u.ownBlock) : RX g8 v out u x W (ll.setIfInBounds 8 true) w' := by
  have hr := h.row h10
  have ho := h.own h8
  have hlt := (Array.getElem?_eq_some_iff.1 hr).1
  refine ⟨h.low.grown hg (by omega) (fun q hq => by have := (World.ownsRow.lt ho q hq).1; omega), ?_, fun hl => by simp [hs] at hl, ?_⟩
  · rw [getD_set_ne false (by decide)]
    exact fun _ => (hg.block g8 hlt (fun e => by have := (World.ownsRow.lt ho g8 e.symm).1; omega)).trans hr
  · rw [getD_set_ne false (by decide), h10]
    exact fun hl => by cases hl
theorem RX.store {g8 : Nat} {v : Int} {out : List Rl} {u z : Value} {x : Rl} {W wx : World} {ll : Array Bool} (h : RX g8 v out u x W ll wx) (hs : 10 < ll.size) (h8 : ll.getD 8 false = true) (h10 : ll.getD 10 false = false) (ho : OwnR (g8 + 1) (out ++ [x]) z wx) : RX g8 v out u x W (ll.setIfInBounds 10 true) (wx.setCell ⟨g8, 1, none⟩ z) := by
  refine ⟨h.low.setCell (Nat.le_refl _) _, fun hl => by simp [hs] at hl, ?_, fun _ => ⟨z, by rw [heap_setCell_same _ _ _ _ _ _ (h.row h10)]; rfl, ?_⟩⟩
  · rw [getD_set_ne false (by decide), h8]
    exact fun hl => by cases hl
  · unfold OwnR at ho ⊢
    rcases ho.2 with ⟨e, h0⟩ | ⟨g, cap, cur, hv, hbg, hg, hn, hm, hs, ht⟩
    · exact ⟨ho.1, .inl ⟨e, h0⟩⟩
    · refine ⟨ho.1, .inr ⟨g, cap, cur, hv, hbg, ?_, hn, hm, hs, ht⟩⟩
      rw [Below.heap_setCell _ _ _ _ (by show g ≠ g8; omega)]
      exact hg
/-- a rule in a block of its own, as a slice of one. -/
def NX (x : Rl) (z : Value) (w : World) : Prop := ∃ N, z = .slice (some ⟨N, 0, none⟩) 1 1 ∧ w.heap[N]? = some (.cells (rlc x) 40 (0, 0))
theorem NX.later {x : Rl} {z : Value} {w w' : World} (h : NX x z w) (hb : Below w.heap.size w w') : NX x z w' := by
  obtain ⟨N, h1, h2⟩ := h
  exact ⟨N, h1, (hb.block _ (Array.getElem?_eq_some_iff.1 h2).1).trans h2⟩
/-- the row that the append leaves. -/
def OX (g8 : Nat) (out : List Rl) (x : Rl) (z : Value) (w : World) : Prop := OwnR (g8 + 1) (out ++ [x]) z w
theorem OX.later {g8 : Nat} {out : List Rl} {x : Rl} {z : Value} {w w' : World} (h : OX g8 out x z w) (hb : Below w.heap.size w w') : OX g8 out x z w' := own_stays h hb
/-- has the new rule's place come? -/
def PutB (r x : Rl) (put b : Bool) : Prop := b = true ↔ put = false ∧ ¬ ordR x r < 0
def SameW (a b : World) : Prop := a = b
theorem le_no {r x : Rl} (h : ordR x r < 0) : Op.bytesLess r.p.toList x.p.toList = false ∧ (r.p.toList == x.p.toList) = false := by
  have h5 : ordR r x = - ordR x r := Pth.ord_neg (bl x.p) (bl r.p)
  refine ⟨?_, Pth.ne_lists (fun e => ord_ne h e.symm)⟩
  rw [less_ordR, decide_eq_false]
  omega
theorem le_yes {r x : Rl} (h : ¬ ordR x r < 0) : Op.bytesLess r.p.toList x.p.toList = true ∨ (Op.bytesLess r.p.toList x.p.toList = false ∧ (r.p.toList == x.p.toList) = true) := by
  have h5 : ordR r x = - ordR x r := Pth.ord_neg (bl x.p) (bl r.p)
  by_cases e : ordR x r = 0
  · refine .inr ⟨?_, Pth.eq_lists ((Pth.ord_eq _ _).1 e).symm⟩
    rw [less_ordR, decide_eq_false]
    omega
  · refine .inl ?_
    rw [less_ordR, decide_eq_true]
    omega
def WithE (v : Int) (rs : List Rl) (r : Rl) (e : Ending) (w' : World) : Prop :=
  (∃ z : Int, z ≠ 0 ∧ z = withZ v rs r ∧ e = .returned (.tuple #[.agg (tabV 0 none 0 0), .int .i64 z])) ∨
  (∃ (A : Option Addr) (cap : Nat), withZ v rs r = 0 ∧ e = .returned (.tuple #[.agg (tabV (v + 1) A (insW r rs).length cap), .int .i64 0]) ∧ Ruls w' A cap (insW r rs))
set_option maxRecDepth 100000 in
set_option maxHeartbeats 8000000 in
theorem rwith_any (v : Int) (A : Option Addr) (n c : Nat) (rs : List Rl) (r : Rl) (w : World) (hn : rs.length = n) (hR : Ruls w A c rs) (hz : ∀ x ∈ rs, x.p.size ≤ 1000) (hn9 : n ≤ 1000) (hp : r.p.size ≤ 1000) (hv : v ≤ 999999999) :
    Calls Tryd.prog 8 #[.agg (tabV v A n c), .string r.p, .agg (lab r.a r.c)] w fun e w' => WithE v rs r e w' ∧ Below w.heap.size w w' := by
  have Hn := Lib.hid hn
  have HR := Lib.hid hR
  have Hz := Lib.hid hz
  have h3 := three_new w (.cells (tabV v A n c) 34) (.cells (lab r.a r.c) 27) (.cells (tabV 0 none 0 0) 34)
  have k3 := below3 w (.cells (tabV v A n c) 34) (.cells (lab r.a r.c) 27) (.cells (tabV 0 none 0 0) 34)
  obtain ⟨W3, hW3⟩ : ∃ W3, W3 = ((w.alloc (.cells (tabV v A n c) 34)).alloc (.cells (lab r.a r.c) 27)).alloc (.cells (tabV 0 none 0 0) 34) := ⟨_, rfl⟩
  rw [← hW3] at h3 k3
  have HW3 : Hid (((w.alloc (.cells (tabV v A n c) 34)).alloc (.cells (lab r.a r.c) 27)).alloc (.cells #[.int .i64 0, .slice none 0 0] 34) = W3) := hW3.symm
  have HI3 : Hid (RI w.heap.size v A n c r w W3) := ⟨h3.1, h3.2.1, h3.2.2, k3⟩
  clear hn hR hz h3 k3 hW3
  go_enter Tryd.func8, Tryd.ntmps8
  go_upto_region 1 with fail
  rw [HW3.out]
  clear HW3
  generalize hg0 : w.heap.size = g0 at *
  have HG := Lib.hid hg0
  clear hg0
  have HP := Lib.hid (rprefix_any r.p W3 hp)
  have RET : ∀ (z : Int) (W : World) (T : Array Value), z ≠ 0 → z = withZ v rs r → RI g0 v A n c r w W → T.getD 6 undef = .pointer (some ⟨g0 + 1 + 1, 0, none⟩) → T.getD 7 undef = .int .i64 z → bodyPost Tryd.prog Tryd.f8 (fun e w' => WithE v rs r e w' ∧ Below w.heap.size w w') .ret ⟨T, []⟩ (W.setRow (g0 + 1 + 1) (tabV 0 none 0 0)) := fun z W T hz hz2 hI h6 h7 =>
    bodyPost_ret (v := .tuple #[.agg (tabV 0 none 0 0), .int .i64 z]) (results_row_tmp rfl _ _ (g0 + 1 + 1) 34 _ (0, 0) _ _ h6 h7 (setRow_at hI.b3) Tryd.underlying34 rfl infoT2) rfl ⟨.inl ⟨z, hz, hz2, rfl⟩, by rw [HG.out]; exact Lab.below_setRow hI.low (by omega) _⟩
  have HRET := Lib.hid RET
  clear RET
  by_cases hpre : Pth.pre r.p = 0
  · rw [show decide (Pth.pre r.p = 0) = true by rw [hpre]; rfl] at HP
    have HM := Lib.hid (fun W => may_any r.a r.c W)
    by_cases hchk : Lab.chk r.a = 0
    · have HM2 := HM.out
      rw [show decide (Lab.chk r.a = 0) = true by rw [hchk]; rfl] at HM2
      have HM := Lib.hid HM2
      have HPRE := Lib.hid hpre
      have HCHK := Lib.hid hchk
      clear hpre hchk HM2
      go_wp2_with (first
        | (go_at_call 22; refine HP.out.mono ?_; rintro e w4 ⟨rfl, low4⟩; have HI4 := Lib.hid (HI3.out.later low4 HI3.out.lt); clear low4)
        | (refine wpList_load_row rfl 27 (.tmp 5) rfl (g0 + 1) rfl 27 (lab r.a r.c) (0, 0) _ HI4.out.b2 Tryd.underlying27 rfl infoL ?_)
        | (go_at_call 23; refine (HM.out w4).mono ?_; rintro e w5 ⟨rfl, low5⟩; have HI5 := Lib.hid (HI4.out.later low5 HI4.out.lt); have c50 := HI5.out.c0; have c51 := HI5.out.c1; clear low5))
      have low5 : Below w.heap.size w w5 := by rw [HG.out]; exact HI5.out.low
      refine (rtcheck_any v A n c rs w5 Hn.out (HR.out.below low5 (Nat.le_refl _)) Hz.out hn9).mono ?_
      rintro e w6 ⟨z, rfl, hz02, hiff, low6⟩
      have HI6 := Lib.hid (HI5.out.later low6 HI5.out.lt)
      clear low6 low5 c50 c51
      rcases hz02 with rfl | rfl
      · have hokay := hiff.1 rfl
        have HOk := Lib.hid hokay
        have hn32 : n ≤ 32 := by have := hokay.1; have := Hn.out; omega
        have hv0 : 0 ≤ v := by have := hokay.2.1; omega
        clear hiff hokay
        have c60 := HI6.out.c0
        go_upto_region 6 with (refine wpList_store_row rfl 34 (.tmp 8) (.tmp 27) rfl w6.heap.size (tabV (v + 1) none 0 0) rfl rfl 34 _ (Go.heap_alloc_new w6 _) infoT2 rfl (tab_one ..) ?_; rw [World.setRow_alloc_new])
        obtain ⟨w7, hw7⟩ : ∃ w7, w7 = w6.alloc (.cells (tabV (v + 1) none 0 0) 34) := ⟨_, rfl⟩
        have h7 : w7.heap[w6.heap.size]? = some (.cells (tabV (v + 1) none 0 0) 34 (0, 0)) := by rw [hw7]; exact Go.heap_alloc_new w6 _
        have l7 : Below w6.heap.size w6 w7 := by rw [hw7]; exact (Below.refl _ _).alloc (Nat.le_refl _) _
        rw [← hw7]
        clear hw7 c60
        have h68 : g0 + 1 + 1 < w6.heap.size := HI6.out.lt
        obtain ⟨g8, hg8⟩ : ∃ g8, g8 = w6.heap.size := ⟨_, rfl⟩
        rw [← hg8] at h7 h68 l7 ⊢
        have HJ7 : Hid (RJ g0 g8 v A n c r [] (.slice none 0 0) w w7) := ⟨HI6.out.later l7 h68, h7, OwnR.nil _ _⟩
        have H68 := Lib.hid h68
        clear h7 l7 hg8 h68
        go_wp2
        go_loopw [9, 10] (fun s9 s10 wr => ∃ k : Nat, k ≤ n ∧ s10 = .int .i64 k ∧ s9 = .bool (foldW r (rs.take k)).2 ∧ Hid (∃ u, RJ g0 g8 v A n c r (foldW r (rs.take k)).1 u w wr)) (fun _ s10 _ => n - (intOf s10).toNat)
        case atStart => exact ⟨0, by omega, rfl, rfl, ⟨_, HJ7.out⟩⟩
        case round =>
          obtain ⟨k, hk, rfl, rfl, hJ⟩ := hrel
          obtain ⟨u, hJ⟩ := hJ.out
          have hu : ∃ A' c', u = .slice A' (foldW r (rs.take k)).1.length c' := by
            obtain ⟨A', c', e, _⟩ := hJ.own.ruls
            exact ⟨A', c', e⟩
          have c81 := cell_row hJ.row 1
          have c01 := hJ.i.c1
          simp only [List.getElem?_toArray, List.getElem?_cons_zero, List.getElem?_cons_succ] at c81
          have HJ := Lib.hid hJ
          clear hJ HJ7
          by_cases hlt : k < n
          · have hltI : (k : Int) < n := by omega
            obtain ⟨x, hx⟩ : ∃ x, rs[k]? = some x := ⟨_, List.getElem?_eq_getElem (by have := Hn.out; omega)⟩
            have Hst : Hid (foldW r (rs.take (k + 1)) = stepW r (foldW r (rs.take k)) x) := by show _ = _; rw [List.take_add_one, hx]; exact foldW_snoc r _ x
            have Hlen : Hid ((foldW r (rs.take k)).1.length ≤ 1000) := by
              have h1 := fold_len r (rs.take k) ([], false)
              rw [List.length_take] at h1
              simp only [List.length_nil] at h1
              show (foldW r (rs.take k)).1.length ≤ 1000
              unfold foldW
              omega
            obtain ⟨b, off, hA, hb, hrange⟩ := HR.out.at hx
            have hbg : b < g0 := by rw [← HG.out]; exact hb
            have FR : Hid (wr.rangeAt b (off + k * 3) (rlc x).toList) := fun j y hy => (HJ.out.i.low.cell (p := ⟨b, off + k * 3 + j, none⟩) hbg).trans (hrange j y hy)
            have cS : wr.cell? ⟨b, off + k * 3, none⟩ = some (.string x.p) := FR.out 0 _ rfl
            have BG := Lib.hid hbg
            have HRG : Hid (w.rangeAt b (off + k * 3) (rlc x).toList) := hrange
            have hcap1 : n ≤ c := by have := HR.out.1; have := Hn.out; omega
            obtain ⟨st, hst⟩ : ∃ st, st = foldW r (rs.take k) := ⟨_, rfl⟩
            rw [← hst] at HJ Hst Hlen hu ⊢
            obtain ⟨out, put⟩ := st
            dsimp only at HJ Hst Hlen hu ⊢
            obtain ⟨A', c', hu⟩ := hu
            subst hu
            subst hA
            clear hx hb hrange hbg hst
            have L8 : Hid (g8 < wr.heap.size) := (Array.getElem?_eq_some_iff.1 HJ.out.row).1
            go_upto_region 10 with fail
            go_cut [46] from 35 to 45 (fun s46 wx => ∃ b46, s46 = .bool b46 ∧ SameW wr wx ∧ PutB r x put b46)
            case first =>
              cases put with
              | true =>
                go_wp2
                go_meet
                exact ⟨false, rfl, rfl, ⟨fun h => (by cases h), fun h => (by cases h.1)⟩⟩
              | false =>
                by_cases ho : ordR x r < 0
                · have HB : Hid (PutB r x false false) := ⟨fun h => (by cases h), fun h => absurd ho h.2⟩
                  obtain ⟨h1, h2⟩ := le_no ho
                  clear ho
                  go_wp2
                  go_meet
                  exact ⟨false, rfl, rfl, HB.out⟩
                · have HB : Hid (PutB r x false true) := ⟨fun _ => ⟨rfl, ho⟩, fun _ => rfl⟩
                  rcases le_yes ho with h1 | ⟨h1, h2⟩
                  · clear ho
                    go_wp2
                    go_meet
                    exact ⟨true, rfl, rfl, HB.out⟩
                  · clear ho
                    go_wp2
                    go_meet
                    exact ⟨true, rfl, rfl, HB.out⟩
            case rest =>
              obtain ⟨b46, rfl, hw, hb46⟩ := hcut
              have hwe : wr = _ := hw
              subst hwe
              cases b46 with
              | true =>
                obtain ⟨hput, hno⟩ := hb46.1 rfl
                subst hput
                have hsA : Hid (stepA r (out, false) x = (out ++ [r], true)) := stepA_yes out hno
                clear hno hb46
                obtain ⟨out1, ho1⟩ : ∃ out1, out1 = out ++ [r] := ⟨_, rfl⟩
                rw [← ho1] at hsA
                have HO1 := Lib.hid ho1
                clear ho1
                go_upto_region 13 with (first
                  | (refine wpList_load_row rfl 27 (.tmp 5) rfl (g0 + 1) rfl 27 (lab r.a r.c) (0, 0) _ HJ.out.i.b2 Tryd.underlying27 rfl infoL ?_)
                  | (at_builtin; refine wpList_append_rul rfl (.tmp 48) (.tmp 52) rfl (g8 + 1) (.slice A' out.length c') out r rfl (own_stays HJ.out.own ((Below.refl _ _).alloc (Nat.le_refl _) _)) wr.heap.size rfl (Go.heap_alloc_new wr _) (by have := Hlen.out; omega) (by have := L8.out; rw [World.size_alloc]; omega) ?_; intro u9 w9 hown9 hgrow9; rw [← HO1.out] at hown9; obtain ⟨A9, c9, e9, _⟩ := hown9.ruls; subst e9; have hb9 : Below g8 wr w9 := ((Below.refl g8 wr).alloc (by have := L8.out; omega) _).grown hgrow9 (by have := L8.out; rw [World.size_alloc]; omega) (fun q hq => by have := (World.ownsRow.lt HJ.out.own q hq).1; omega); have row9 : w9.heap[g8]? = some (.cells #[.int .i64 (v + 1), .slice A' out.length c'] 34 (0, 0)) := (hgrow9.block g8 (by have := L8.out; rw [World.size_alloc]; omega) (fun e => by have := (World.ownsRow.lt HJ.out.own g8 e.symm).1; omega)).trans ((((Below.refl wr.heap.size wr).alloc (Nat.le_refl _) _).block g8 L8.out).trans HJ.out.row); have c91 := cell_row row9 1; simp only [List.getElem?_toArray, List.getElem?_cons_zero, List.getElem?_cons_succ] at c91; have f91 : w9.frozen? ⟨g8, 1, none⟩ = false := free_row row9 1; have HJ9 := Lib.hid (RJ.set HJ.out H68.out hb9 row9 hown9); clear hb9 row9 hown9 hgrow9))
                obtain ⟨wc, hwc⟩ : ∃ wc, wc = w9.setCell ⟨g8, 1, none⟩ (.slice A9 out1.length c9) := ⟨_, rfl⟩
                rw [← hwc] at HJ9 ⊢
                clear hwc c91 f91 c81 c01 cS FR HJ L8
                have HLO : Hid (out1.length ≤ 1001) := by have := Hlen.out; show out1.length ≤ 1001; rw [HO1.out]; simp; omega
                have c01 := HJ9.out.i.c1
                have F1 := Lib.hid c01
                have FR : Hid (wc.rangeAt b (off + k * 3) (rlc x).toList) := fun j y hy => (HJ9.out.i.low.cell (p := ⟨b, off + k * 3 + j, none⟩) BG.out).trans (HRG.out j y hy)
                have cS : wc.cell? ⟨b, off + k * 3, none⟩ = some (.string x.p) := FR.out 0 _ rfl
                have H8 : Hid (g8 < wc.heap.size) := (Array.getElem?_eq_some_iff.1 HJ9.out.row).1
                by_cases he : bl x.p = bl r.p
                · have Hs2 : Hid (foldW r (rs.take (k + 1)) = (out1, true)) := by show _ = _; rw [Hst.out, stepW, hsA.out, stepB_eq _ he]
                  have hpe : x.p = r.p := bl_inj he
                  rw [hpe] at cS
                  clear hpe he
                  go_wp2
                  go_roundw
                  case rel => exact ⟨k + 1, by omega, by go_num, by rw [Hs2.out], by rw [Hs2.out]; exact ⟨_, HJ9.out⟩⟩
                  case measure => simp [intOf]; omega
                · have hne := Pth.ne_lists (a := x.p) (b := r.p) he
                  have Hs2 : Hid (foldW r (rs.take (k + 1)) = (out1 ++ [x], true)) := by show _ = _; rw [Hst.out, stepW, hsA.out, stepB_ne _ he]
                  clear he
                  go_upto_region 14 with fail
                  clear c01 cS hne
                  have apx : apartB [63, 64, 65, 66, 67, 68, 69, 70, 71, 72, 1010] = true := by decide
                  refine wp_region_any (by kernel_rfl) ?_
                  change wpAny _ _ _ _ _ _ _ (World.drew _)
                  refine wpAny_inv2 (fun ll aa wx => Hid (ll.size = 11 ∧ RX g8 v out1 (.slice A9 out1.length c9) x wc ll wx) ∧ ∃ (z : Nat → Value), Hid (aa = ⟨#[.agg (tabV v (some ⟨b, off, none⟩) n c), .string r.p, .agg (lab r.a r.c), .pointer (some ⟨g0, 0, none⟩), undef, .pointer (some ⟨g0 + 1, 0, none⟩), .pointer (some ⟨g0 + 1 + 1, 0, none⟩), .int .i64 0, .pointer (some ⟨g8, 0, none⟩), .bool true, .int .i64 k, .string r.p, .bool true, .bool false, undef, .agg (lab r.a r.c), .bool true, .bool false, .bool false, .agg #[.int .i64 v, .slice (some ⟨b, off, none⟩) n c], .int .i64 0, .bool false, .bool false, undef, .pointer (some ⟨g0, 0, none⟩), .int .i64 v, .int .i64 (v + 1), .agg #[.int .i64 (v + 1), .slice none 0 0], .int .i64 k, .pointer (some ⟨g0, 1, none⟩), .slice (some ⟨b, off, none⟩) n c, .int .i64 n, .bool true, u33, u34, u35, u36, u37, u38, u39, u40, u41, u42, u43, u44, u45, .bool true, .pointer (some ⟨g8, 1, none⟩), .slice A' out.length c', .string r.p, .agg (lab r.a r.c), .agg #[.string r.p, .int .i64 r.a, .int .u64 (r.c : Nat)], .slice (some ⟨wr.heap.size, 0, none⟩) 1 1, .slice A9 out1.length c9, .pointer (some ⟨g8, 1, none⟩), .pointer (some ⟨g0, 1, none⟩), .slice (some ⟨b, off, none⟩) n c, .int .i64 k, .pointer (some ⟨b, off + k * 3, none⟩), .pointer (some ⟨b, off + k * 3, none⟩), .string x.p, .string r.p, .bool true, z 63, z 64, z 65, z 66, z 67, z 68, z 69, z 70, z 71, z 72, undef, undef, undef, undef, undef, undef, undef, undef, undef, undef, undef, undef, undef, undef, undef, undef], []⟩) ∧ Holding [63, 64, 65, 66, 67, 68, 69, 70, 71, 72, 1010] [some (.pointer (some ⟨g8, 1, none⟩)), some (.slice A9 out1.length c9), some (.pointer (some ⟨g0, 1, none⟩)), some (.slice (some ⟨b, off, none⟩) n c), some (.int .i64 k), some (.pointer (some ⟨b, off + k * 3, none⟩)), some (.agg (rlc x)), none, none, some (.pointer (some ⟨g8, 1, none⟩)), none] ll z ∧ Whu ll 7 8 (NX x) (z 70) wx ∧ Whu ll 8 10 (OX g8 out1 x) (z 71) wx) ?_ (by kernel_rfl) ?_ ?_ _ rfl _ _ ?_
                  · rintro ll aa wx ⟨hI, _⟩
                    exact hI.out.1
                  · rintro ll aa wx ⟨hI, z, ha, hz, hp7, hp8⟩ hall
                    have hx := Lib.hid hI.out.2
                    have e0 : z 63 = .pointer (some ⟨g8, 1, none⟩) := hz 0 _ (hall 0 (by decide)) rfl
                    have e1 : z 64 = .slice A9 out1.length c9 := hz 1 _ (hall 1 (by decide)) rfl
                    have e2 : z 65 = .pointer (some ⟨g0, 1, none⟩) := hz 2 _ (hall 2 (by decide)) rfl
                    have e3 : z 66 = .slice (some ⟨b, off, none⟩) n c := hz 3 _ (hall 3 (by decide)) rfl
                    have e4 : z 67 = .int .i64 k := hz 4 _ (hall 4 (by decide)) rfl
                    have e5 : z 68 = .pointer (some ⟨b, off + k * 3, none⟩) := hz 5 _ (hall 5 (by decide)) rfl
                    have e6 : z 69 = .agg (rlc x) := hz 6 _ (hall 6 (by decide)) rfl
                    have e9 : z 72 = .pointer (some ⟨g8, 1, none⟩) := hz 9 _ (hall 9 (by decide)) rfl
                    have hall10 := hall 10 (by decide)
                    clear hall hz hI hp7 hp8
                    obtain rfl := ha.out
                    clear ha
                    clear apx
                    have HX := Lib.hid hx.out.low
                    have HA := Lib.hid (hx.out.aft hall10)
                    clear e0 e1 e2 e3 e4 e5 e6 e9 hx
                    dsimp only
                    go_wp2
                    go_roundw
                    case rel => exact ⟨k + 1, by omega, by go_num, by rw [Hs2.out], by rw [Hs2.out]; obtain ⟨z9, r9, o9⟩ := HA.out; exact ⟨z9, HJ9.out.i.later HX.out H68.out, r9, o9⟩⟩
                    case measure => simp [intOf]; omega
                  · rintro ll aa wx i ⟨hI, z, ha, hz, hp7, hp8⟩ hcl hi hu hw
                    obtain rfl := ha.out
                    have hsz := Lib.hid hI.out.1
                    have hx := Lib.hid hI.out.2
                    clear ha hI
                    have hin : i < 11 := hi
                    obtain rfl | rfl | rfl | rfl | rfl | rfl | rfl | rfl | rfl | rfl | rfl : i = 0 ∨ i = 1 ∨ i = 2 ∨ i = 3 ∨ i = 4 ∨ i = 5 ∨ i = 6 ∨ i = 7 ∨ i = 8 ∨ i = 9 ∨ i = 10 := by omega
                    · refine wpOp_plain rfl rfl ?_
                      go_simp
                      exact ⟨⟨by simp [hsz.out], hx.out.same (by decide) (by decide)⟩, upd z 63 (.pointer (some ⟨g8, 1, none⟩)), (by unfold Hid; simp [upd]), hz.next apx hsz.out 0 (by decide) _ (fun _ h => Option.some.inj h), hp7.keep (by decide), hp8.keep (by decide)⟩
                    · have e0 : z 63 = .pointer (some ⟨g8, 1, none⟩) := hz 0 _ (hw 0 (by kernel_rfl)) rfl
                      have hn10 : ll.getD 10 false = false := by
                        cases hl : ll.getD 10 false
                        · rfl
                        · exact absurd (hcl 8 1 (hcl 10 8 hl (by kernel_rfl)) (by kernel_rfl)) (by rw [hu]; decide)
                      have c8 := cell_row (hx.out.row hn10) 1
                      simp only [List.getElem?_toArray, List.getElem?_cons_zero, List.getElem?_cons_succ] at c8
                      refine wpOp_plain rfl rfl ?_
                      go_simp
                      exact ⟨⟨by simp [hsz.out], hx.out.same (by decide) (by decide)⟩, upd z 64 (.slice A9 out1.length c9), (by unfold Hid; simp [upd, e0]), hz.next apx hsz.out 1 (by decide) _ (fun _ h => Option.some.inj h), hp7.keep (by decide), hp8.keep (by decide)⟩
                    · refine wpOp_plain rfl rfl ?_
                      go_simp
                      exact ⟨⟨by simp [hsz.out], hx.out.same (by decide) (by decide)⟩, upd z 65 (.pointer (some ⟨g0, 1, none⟩)), (by unfold Hid; simp [upd]), hz.next apx hsz.out 2 (by decide) _ (fun _ h => Option.some.inj h), hp7.keep (by decide), hp8.keep (by decide)⟩
                    · have e2 : z 65 = .pointer (some ⟨g0, 1, none⟩) := hz 2 _ (hw 2 (by kernel_rfl)) rfl
                      have c0 := (hx.out.low.cell (p := ⟨g0, 1, none⟩) (by have := H68.out; show g0 < g8; omega)).trans F1.out
                      refine wpOp_plain rfl rfl ?_
                      go_simp
                      exact ⟨⟨by simp [hsz.out], hx.out.same (by decide) (by decide)⟩, upd z 66 (.slice (some ⟨b, off, none⟩) n c), (by unfold Hid; simp [upd, e2]), hz.next apx hsz.out 3 (by decide) _ (fun _ h => Option.some.inj h), hp7.keep (by decide), hp8.keep (by decide)⟩
                    · refine wpOp_plain rfl rfl ?_
                      go_simp
                      exact ⟨⟨by simp [hsz.out], hx.out.same (by decide) (by decide)⟩, upd z 67 (.int .i64 k), (by unfold Hid; simp [upd]), hz.next apx hsz.out 4 (by decide) _ (fun _ h => Option.some.inj h), hp7.keep (by decide), hp8.keep (by decide)⟩
                    · have e3 : z 66 = .slice (some ⟨b, off, none⟩) n c := hz 3 _ (hw 3 (by kernel_rfl)) rfl
                      have e4 : z 67 = .int .i64 k := hz 4 _ (hw 4 (by kernel_rfl)) rfl
                      refine wpOp_plain rfl rfl ?_
                      go_simp
                      exact ⟨⟨by simp [hsz.out], hx.out.same (by decide) (by decide)⟩, upd z 68 (.pointer (some ⟨b, off + k * 3, none⟩)), (by unfold Hid; simp [upd, e3, e4]), hz.next apx hsz.out 5 (by decide) _ (fun _ h => Option.some.inj h), hp7.keep (by decide), hp8.keep (by decide)⟩
                    · have e5 : z 68 = .pointer (some ⟨b, off + k * 3, none⟩) := hz 5 _ (hw 5 (by kernel_rfl)) rfl
                      have rg : wx.rangeAt b (off + k * 3) (rlc x).toList := fun j y hy => (hx.out.low.cell (p := ⟨b, off + k * 3 + j, none⟩) (by have := H68.out; have := BG.out; show b < g8; omega)).trans (FR.out j y hy)
                      refine wpOp_plain rfl rfl (wp_load_mid 40 (.tmp 68) rfl b (off + k * 3) (e5) (rlc x).toList _ rg Tryd.underlying40 rfl infoR2 ?_)
                      go_simp
                      exact ⟨⟨by simp [hsz.out], hx.out.same (by decide) (by decide)⟩, upd z 69 (.agg (rlc x)), (by unfold Hid; simp [upd, e5]), hz.next apx hsz.out 6 (by decide) _ (fun _ h => Option.some.inj h), hp7.keep (by decide), hp8.keep (by decide)⟩
                    · have e6 : z 69 = .agg (rlc x) := hz 6 _ (hw 6 (by kernel_rfl)) rfl
                      refine wpOp_plain rfl rfl ?_
                      go_simp
                      have lown : Below wx.heap.size wx (wx.alloc (.cells (rlc x) 40)) := (Below.refl _ _).alloc (Nat.le_refl _) _
                      exact ⟨⟨by simp [hsz.out], hx.out.call (Nat.le_of_lt H8.out) (by decide) (by decide) lown⟩, upd z 70 (.slice (some ⟨wx.heap.size, 0, none⟩) 1 1), (by unfold Hid; simp [upd, e6]), hz.next apx hsz.out 7 (by decide) _ (fun _ h => by cases h), Whu.done (⟨wx.heap.size, rfl, Go.heap_alloc_new wx _⟩), (hp8.keep (by decide)).map (fun h => h.later lown)⟩
                    · have e1 : z 64 = .slice A9 out1.length c9 := hz 1 _ (hw 1 (by kernel_rfl)) rfl
                      have p7 := hp7.get (hw 7 (by kernel_rfl)) hu
                      obtain ⟨N, hv9, hN⟩ := p7
                      have hn10 : ll.getD 10 false = false := by
                        cases hl : ll.getD 10 false
                        · rfl
                        · exact absurd (hcl 10 8 hl (by kernel_rfl)) (by rw [hu]; decide)
                      refine wpOp_plain rfl rfl (wp_app_rul (.tmp 64) (.tmp 70) rfl (g8 + 1) (.slice A9 out1.length c9) out1 x e1 (hx.out.own hu) N hv9 hN (by have := HLO.out; omega) (by have := hx.out.low.size; have := H8.out; omega) ?_)
                      intro vr w9 hown9 hgrow9
                      go_simp
                      exact ⟨⟨by simp [hsz.out], hx.out.app (by rw [hsz.out]; decide) hu hn10 hgrow9⟩, upd z 71 (vr), (by unfold Hid; simp [upd, e1, hv9]), hz.next apx hsz.out 8 (by decide) _ (fun _ h => by cases h), Whu.past (by rw [hsz.out]; decide), Whu.done (hown9)⟩
                    · refine wpOp_plain rfl rfl ?_
                      go_simp
                      exact ⟨⟨by simp [hsz.out], hx.out.same (by decide) (by decide)⟩, upd z 72 (.pointer (some ⟨g8, 1, none⟩)), (by unfold Hid; simp [upd]), hz.next apx hsz.out 9 (by decide) _ (fun _ h => Option.some.inj h), hp7.keep (by decide), hp8.keep (by decide)⟩
                    · have e9 : z 72 = .pointer (some ⟨g8, 1, none⟩) := hz 9 _ (hw 9 (by kernel_rfl)) rfl
                      have p8 := hp8.get (hw 8 (by kernel_rfl)) hu
                      have crow := hx.out.row hu
                      have c8 := cell_row crow 1
                      simp only [List.getElem?_toArray, List.getElem?_cons_zero, List.getElem?_cons_succ] at c8
                      have f8 : wx.frozen? ⟨g8, 1, none⟩ = false := free_row crow 1
                      obtain ⟨A8, c8e, hv8, _⟩ := OwnR.ruls p8
                      obtain ⟨n8, hn8⟩ : ∃ n8, (out1 ++ [x]).length = n8 := ⟨_, rfl⟩
                      rw [hn8] at hv8
                      clear hn8
                      have hone : (z 71).oneCell' = true := by rw [hv8]; rfl
                      refine wpOp_plain rfl rfl ?_
                      rw [hv8] at p8
                      simp only [hv8]
                      go_simp
                      exact ⟨⟨by simp [hsz.out], hx.out.store (by rw [hsz.out]; decide) (hw 8 (by kernel_rfl)) hu p8⟩, upd z 1010 (undef), (by unfold Hid; simp [upd, e9, hv8]), hz.next apx hsz.out 10 (by decide) _ (fun _ h => by cases h), Whu.gone (hw 8 (by kernel_rfl)), Whu.past (by rw [hsz.out]; decide)⟩
                  · exact ⟨⟨rfl, RX.start HJ9.out.row HJ9.out.own⟩, fun xx => (#[.agg (tabV v (some ⟨b, off, none⟩) n c), .string r.p, .agg (lab r.a r.c), .pointer (some ⟨g0, 0, none⟩), undef, .pointer (some ⟨g0 + 1, 0, none⟩), .pointer (some ⟨g0 + 1 + 1, 0, none⟩), .int .i64 0, .pointer (some ⟨g8, 0, none⟩), .bool true, .int .i64 k, .string r.p, .bool true, .bool false, undef, .agg (lab r.a r.c), .bool true, .bool false, .bool false, .agg #[.int .i64 v, .slice (some ⟨b, off, none⟩) n c], .int .i64 0, .bool false, .bool false, undef, .pointer (some ⟨g0, 0, none⟩), .int .i64 v, .int .i64 (v + 1), .agg #[.int .i64 (v + 1), .slice none 0 0], .int .i64 k, .pointer (some ⟨g0, 1, none⟩), .slice (some ⟨b, off, none⟩) n c, .int .i64 n, .bool true, u33, u34, u35, u36, u37, u38, u39, u40, u41, u42, u43, u44, u45, .bool true, .pointer (some ⟨g8, 1, none⟩), .slice A' out.length c', .string r.p, .agg (lab r.a r.c), .agg #[.string r.p, .int .i64 r.a, .int .u64 (r.c : Nat)], .slice (some ⟨wr.heap.size, 0, none⟩) 1 1, .slice A9 out1.length c9, .pointer (some ⟨g8, 1, none⟩), .pointer (some ⟨g0, 1, none⟩), .slice (some ⟨b, off, none⟩) n c, .int .i64 k, .pointer (some ⟨b, off + k * 3, none⟩), .pointer (some ⟨b, off + k * 3, none⟩), .string x.p, .string r.p, .bool true, u63, u64, u65, u66, u67, u68, u69, u70, u71, u72, undef, undef, undef, undef, undef, undef, undef, undef, undef, undef, undef, undef, undef, undef, undef, undef] : Array Value).getD xx undef, (by rfl), Holding.start, Whu.none (by decide), Whu.none (by decide)⟩
              | false =>
                have hsA : Hid (stepA r (out, put) x = (out, put)) := by
                  show _ = _
                  unfold stepA
                  rw [if_neg (fun h => by have := hb46.2 h; cases this)]
                clear hb46 c81 c01 cS FR
                go_upto_region 13 with fail
                have HLO : Hid (out.length ≤ 1001) := by have := Hlen.out; show out.length ≤ 1001; omega
                have c01 := HJ.out.i.c1
                have F1 := Lib.hid c01
                have FR : Hid (wr.rangeAt b (off + k * 3) (rlc x).toList) := fun j y hy => (HJ.out.i.low.cell (p := ⟨b, off + k * 3 + j, none⟩) BG.out).trans (HRG.out j y hy)
                have cS : wr.cell? ⟨b, off + k * 3, none⟩ = some (.string x.p) := FR.out 0 _ rfl
                have H8 : Hid (g8 < wr.heap.size) := (Array.getElem?_eq_some_iff.1 HJ.out.row).1
                by_cases he : bl x.p = bl r.p
                · have Hs2 : Hid (foldW r (rs.take (k + 1)) = (out, put)) := by show _ = _; rw [Hst.out, stepW, hsA.out, stepB_eq _ he]
                  have hpe : x.p = r.p := bl_inj he
                  rw [hpe] at cS
                  clear hpe he
                  go_wp2
                  go_roundw
                  case rel => exact ⟨k + 1, by omega, by go_num, by rw [Hs2.out], by rw [Hs2.out]; exact ⟨_, HJ.out⟩⟩
                  case measure => simp [intOf]; omega
                · have hne := Pth.ne_lists (a := x.p) (b := r.p) he
                  have Hs2 : Hid (foldW r (rs.take (k + 1)) = (out ++ [x], put)) := by show _ = _; rw [Hst.out, stepW, hsA.out, stepB_ne _ he]
                  clear he
                  go_upto_region 14 with fail
                  clear c01 cS hne
                  have apx : apartB [63, 64, 65, 66, 67, 68, 69, 70, 71, 72, 1010] = true := by decide
                  refine wp_region_any (by kernel_rfl) ?_
                  change wpAny _ _ _ _ _ _ _ (World.drew _)
                  refine wpAny_inv2 (fun ll aa wx => Hid (ll.size = 11 ∧ RX g8 v out (.slice A' out.length c') x wr ll wx) ∧ ∃ (z : Nat → Value), Hid (aa = ⟨#[.agg (tabV v (some ⟨b, off, none⟩) n c), .string r.p, .agg (lab r.a r.c), .pointer (some ⟨g0, 0, none⟩), undef, .pointer (some ⟨g0 + 1, 0, none⟩), .pointer (some ⟨g0 + 1 + 1, 0, none⟩), .int .i64 0, .pointer (some ⟨g8, 0, none⟩), .bool put, .int .i64 k, .string r.p, .bool true, .bool false, undef, .agg (lab r.a r.c), .bool true, .bool false, .bool false, .agg #[.int .i64 v, .slice (some ⟨b, off, none⟩) n c], .int .i64 0, .bool false, .bool false, undef, .pointer (some ⟨g0, 0, none⟩), .int .i64 v, .int .i64 (v + 1), .agg #[.int .i64 (v + 1), .slice none 0 0], .int .i64 k, .pointer (some ⟨g0, 1, none⟩), .slice (some ⟨b, off, none⟩) n c, .int .i64 n, .bool true, u33, u34, u35, u36, u37, u38, u39, u40, u41, u42, u43, u44, u45, .bool false, u47, u48, u49, u50, u51, u52, u53, u54, .pointer (some ⟨g0, 1, none⟩), .slice (some ⟨b, off, none⟩) n c, .int .i64 k, .pointer (some ⟨b, off + k * 3, none⟩), .pointer (some ⟨b, off + k * 3, none⟩), .string x.p, .string r.p, .bool true, z 63, z 64, z 65, z 66, z 67, z 68, z 69, z 70, z 71, z 72, undef, undef, undef, undef, undef, undef, undef, undef, undef, undef, undef, undef, undef, undef, undef, undef], []⟩) ∧ Holding [63, 64, 65, 66, 67, 68, 69, 70, 71, 72, 1010] [some (.pointer (some ⟨g8, 1, none⟩)), some (.slice A' out.length c'), some (.pointer (some ⟨g0, 1, none⟩)), some (.slice (some ⟨b, off, none⟩) n c), some (.int .i64 k), some (.pointer (some ⟨b, off + k * 3, none⟩)), some (.agg (rlc x)), none, none, some (.pointer (some ⟨g8, 1, none⟩)), none] ll z ∧ Whu ll 7 8 (NX x) (z 70) wx ∧ Whu ll 8 10 (OX g8 out x) (z 71) wx) ?_ (by kernel_rfl) ?_ ?_ _ rfl _ _ ?_
                  · rintro ll aa wx ⟨hI, _⟩
                    exact hI.out.1
                  · rintro ll aa wx ⟨hI, z, ha, hz, hp7, hp8⟩ hall
                    have hx := Lib.hid hI.out.2
                    have e0 : z 63 = .pointer (some ⟨g8, 1, none⟩) := hz 0 _ (hall 0 (by decide)) rfl
                    have e1 : z 64 = .slice A' out.length c' := hz 1 _ (hall 1 (by decide)) rfl
                    have e2 : z 65 = .pointer (some ⟨g0, 1, none⟩) := hz 2 _ (hall 2 (by decide)) rfl
                    have e3 : z 66 = .slice (some ⟨b, off, none⟩) n c := hz 3 _ (hall 3 (by decide)) rfl
                    have e4 : z 67 = .int .i64 k := hz 4 _ (hall 4 (by decide)) rfl
                    have e5 : z 68 = .pointer (some ⟨b, off + k * 3, none⟩) := hz 5 _ (hall 5 (by decide)) rfl
                    have e6 : z 69 = .agg (rlc x) := hz 6 _ (hall 6 (by decide)) rfl
                    have e9 : z 72 = .pointer (some ⟨g8, 1, none⟩) := hz 9 _ (hall 9 (by decide)) rfl
                    have hall10 := hall 10 (by decide)
                    clear hall hz hI hp7 hp8
                    obtain rfl := ha.out
                    clear ha
                    clear apx
                    have HX := Lib.hid hx.out.low
                    have HA := Lib.hid (hx.out.aft hall10)
                    clear e0 e1 e2 e3 e4 e5 e6 e9 hx
                    dsimp only
                    go_wp2
                    go_roundw
                    case rel => exact ⟨k + 1, by omega, by go_num, by rw [Hs2.out], by rw [Hs2.out]; obtain ⟨z9, r9, o9⟩ := HA.out; exact ⟨z9, HJ.out.i.later HX.out H68.out, r9, o9⟩⟩
                    case measure => simp [intOf]; omega
                  · rintro ll aa wx i ⟨hI, z, ha, hz, hp7, hp8⟩ hcl hi hu hw
                    obtain rfl := ha.out
                    have hsz := Lib.hid hI.out.1
                    have hx := Lib.hid hI.out.2
                    clear ha hI
                    have hin : i < 11 := hi
                    obtain rfl | rfl | rfl | rfl | rfl | rfl | rfl | rfl | rfl | rfl | rfl : i = 0 ∨ i = 1 ∨ i = 2 ∨ i = 3 ∨ i = 4 ∨ i = 5 ∨ i = 6 ∨ i = 7 ∨ i = 8 ∨ i = 9 ∨ i = 10 := by omega
                    · refine wpOp_plain rfl rfl ?_
                      go_simp
                      exact ⟨⟨by simp [hsz.out], hx.out.same (by decide) (by decide)⟩, upd z 63 (.pointer (some ⟨g8, 1, none⟩)), (by unfold Hid; simp [upd]), hz.next apx hsz.out 0 (by decide) _ (fun _ h => Option.some.inj h), hp7.keep (by decide), hp8.keep (by decide)⟩
                    · have e0 : z 63 = .pointer (some ⟨g8, 1, none⟩) := hz 0 _ (hw 0 (by kernel_rfl)) rfl
                      have hn10 : ll.getD 10 false = false := by
                        cases hl : ll.getD 10 false
                        · rfl
                        · exact absurd (hcl 8 1 (hcl 10 8 hl (by kernel_rfl)) (by kernel_rfl)) (by rw [hu]; decide)
                      have c8 := cell_row (hx.out.row hn10) 1
                      simp only [List.getElem?_toArray, List.getElem?_cons_zero, List.getElem?_cons_succ] at c8
                      refine wpOp_plain rfl rfl ?_
                      go_simp
                      exact ⟨⟨by simp [hsz.out], hx.out.same (by decide) (by decide)⟩, upd z 64 (.slice A' out.length c'), (by unfold Hid; simp [upd, e0]), hz.next apx hsz.out 1 (by decide) _ (fun _ h => Option.some.inj h), hp7.keep (by decide), hp8.keep (by decide)⟩
                    · refine wpOp_plain rfl rfl ?_
                      go_simp
                      exact ⟨⟨by simp [hsz.out], hx.out.same (by decide) (by decide)⟩, upd z 65 (.pointer (some ⟨g0, 1, none⟩)), (by unfold Hid; simp [upd]), hz.next apx hsz.out 2 (by decide) _ (fun _ h => Option.some.inj h), hp7.keep (by decide), hp8.keep (by decide)⟩
                    · have e2 : z 65 = .pointer (some ⟨g0, 1, none⟩) := hz 2 _ (hw 2 (by kernel_rfl)) rfl
                      have c0 := (hx.out.low.cell (p := ⟨g0, 1, none⟩) (by have := H68.out; show g0 < g8; omega)).trans F1.out
                      refine wpOp_plain rfl rfl ?_
                      go_simp
                      exact ⟨⟨by simp [hsz.out], hx.out.same (by decide) (by decide)⟩, upd z 66 (.slice (some ⟨b, off, none⟩) n c), (by unfold Hid; simp [upd, e2]), hz.next apx hsz.out 3 (by decide) _ (fun _ h => Option.some.inj h), hp7.keep (by decide), hp8.keep (by decide)⟩
                    · refine wpOp_plain rfl rfl ?_
                      go_simp
                      exact ⟨⟨by simp [hsz.out], hx.out.same (by decide) (by decide)⟩, upd z 67 (.int .i64 k), (by unfold Hid; simp [upd]), hz.next apx hsz.out 4 (by decide) _ (fun _ h => Option.some.inj h), hp7.keep (by decide), hp8.keep (by decide)⟩
                    · have e3 : z 66 = .slice (some ⟨b, off, none⟩) n c := hz 3 _ (hw 3 (by kernel_rfl)) rfl
                      have e4 : z 67 = .int .i64 k := hz 4 _ (hw 4 (by kernel_rfl)) rfl
                      refine wpOp_plain rfl rfl ?_
                      go_simp
                      exact ⟨⟨by simp [hsz.out], hx.out.same (by decide) (by decide)⟩, upd z 68 (.pointer (some ⟨b, off + k * 3, none⟩)), (by unfold Hid; simp [upd, e3, e4]), hz.next apx hsz.out 5 (by decide) _ (fun _ h => Option.some.inj h), hp7.keep (by decide), hp8.keep (by decide)⟩
                    · have e5 : z 68 = .pointer (some ⟨b, off + k * 3, none⟩) := hz 5 _ (hw 5 (by kernel_rfl)) rfl
                      have rg : wx.rangeAt b (off + k * 3) (rlc x).toList := fun j y hy => (hx.out.low.cell (p := ⟨b, off + k * 3 + j, none⟩) (by have := H68.out; have := BG.out; show b < g8; omega)).trans (FR.out j y hy)
                      refine wpOp_plain rfl rfl (wp_load_mid 40 (.tmp 68) rfl b (off + k * 3) (e5) (rlc x).toList _ rg Tryd.underlying40 rfl infoR2 ?_)
                      go_simp
                      exact ⟨⟨by simp [hsz.out], hx.out.same (by decide) (by decide)⟩, upd z 69 (.agg (rlc x)), (by unfold Hid; simp [upd, e5]), hz.next apx hsz.out 6 (by decide) _ (fun _ h => Option.some.inj h), hp7.keep (by decide), hp8.keep (by decide)⟩
                    · have e6 : z 69 = .agg (rlc x) := hz 6 _ (hw 6 (by kernel_rfl)) rfl
                      refine wpOp_plain rfl rfl ?_
                      go_simp
                      have lown : Below wx.heap.size wx (wx.alloc (.cells (rlc x) 40)) := (Below.refl _ _).alloc (Nat.le_refl _) _
                      exact ⟨⟨by simp [hsz.out], hx.out.call (Nat.le_of_lt H8.out) (by decide) (by decide) lown⟩, upd z 70 (.slice (some ⟨wx.heap.size, 0, none⟩) 1 1), (by unfold Hid; simp [upd, e6]), hz.next apx hsz.out 7 (by decide) _ (fun _ h => by cases h), Whu.done (⟨wx.heap.size, rfl, Go.heap_alloc_new wx _⟩), (hp8.keep (by decide)).map (fun h => h.later lown)⟩
                    · have e1 : z 64 = .slice A' out.length c' := hz 1 _ (hw 1 (by kernel_rfl)) rfl
                      have p7 := hp7.get (hw 7 (by kernel_rfl)) hu
                      obtain ⟨N, hv9, hN⟩ := p7
                      have hn10 : ll.getD 10 false = false := by
                        cases hl : ll.getD 10 false
                        · rfl
                        · exact absurd (hcl 10 8 hl (by kernel_rfl)) (by rw [hu]; decide)
                      refine wpOp_plain rfl rfl (wp_app_rul (.tmp 64) (.tmp 70) rfl (g8 + 1) (.slice A' out.length c') out x e1 (hx.out.own hu) N hv9 hN (by have := HLO.out; omega) (by have := hx.out.low.size; have := H8.out; omega) ?_)
                      intro vr w9 hown9 hgrow9
                      go_simp
                      exact ⟨⟨by simp [hsz.out], hx.out.app (by rw [hsz.out]; decide) hu hn10 hgrow9⟩, upd z 71 (vr), (by unfold Hid; simp [upd, e1, hv9]), hz.next apx hsz.out 8 (by decide) _ (fun _ h => by cases h), Whu.past (by rw [hsz.out]; decide), Whu.done (hown9)⟩
                    · refine wpOp_plain rfl rfl ?_
                      go_simp
                      exact ⟨⟨by simp [hsz.out], hx.out.same (by decide) (by decide)⟩, upd z 72 (.pointer (some ⟨g8, 1, none⟩)), (by unfold Hid; simp [upd]), hz.next apx hsz.out 9 (by decide) _ (fun _ h => Option.some.inj h), hp7.keep (by decide), hp8.keep (by decide)⟩
                    · have e9 : z 72 = .pointer (some ⟨g8, 1, none⟩) := hz 9 _ (hw 9 (by kernel_rfl)) rfl
                      have p8 := hp8.get (hw 8 (by kernel_rfl)) hu
                      have crow := hx.out.row hu
                      have c8 := cell_row crow 1
                      simp only [List.getElem?_toArray, List.getElem?_cons_zero, List.getElem?_cons_succ] at c8
                      have f8 : wx.frozen? ⟨g8, 1, none⟩ = false := free_row crow 1
                      obtain ⟨A8, c8e, hv8, _⟩ := OwnR.ruls p8
                      obtain ⟨n8, hn8⟩ : ∃ n8, (out ++ [x]).length = n8 := ⟨_, rfl⟩
                      rw [hn8] at hv8
                      clear hn8
                      have hone : (z 71).oneCell' = true := by rw [hv8]; rfl
                      refine wpOp_plain rfl rfl ?_
                      rw [hv8] at p8
                      simp only [hv8]
                      go_simp
                      exact ⟨⟨by simp [hsz.out], hx.out.store (by rw [hsz.out]; decide) (hw 8 (by kernel_rfl)) hu p8⟩, upd z 1010 (undef), (by unfold Hid; simp [upd, e9, hv8]), hz.next apx hsz.out 10 (by decide) _ (fun _ h => by cases h), Whu.gone (hw 8 (by kernel_rfl)), Whu.past (by rw [hsz.out]; decide)⟩
                  · exact ⟨⟨rfl, RX.start HJ.out.row HJ.out.own⟩, fun xx => (#[.agg (tabV v (some ⟨b, off, none⟩) n c), .string r.p, .agg (lab r.a r.c), .pointer (some ⟨g0, 0, none⟩), undef, .pointer (some ⟨g0 + 1, 0, none⟩), .pointer (some ⟨g0 + 1 + 1, 0, none⟩), .int .i64 0, .pointer (some ⟨g8, 0, none⟩), .bool put, .int .i64 k, .string r.p, .bool true, .bool false, undef, .agg (lab r.a r.c), .bool true, .bool false, .bool false, .agg #[.int .i64 v, .slice (some ⟨b, off, none⟩) n c], .int .i64 0, .bool false, .bool false, undef, .pointer (some ⟨g0, 0, none⟩), .int .i64 v, .int .i64 (v + 1), .agg #[.int .i64 (v + 1), .slice none 0 0], .int .i64 k, .pointer (some ⟨g0, 1, none⟩), .slice (some ⟨b, off, none⟩) n c, .int .i64 n, .bool true, u33, u34, u35, u36, u37, u38, u39, u40, u41, u42, u43, u44, u45, .bool false, u47, u48, u49, u50, u51, u52, u53, u54, .pointer (some ⟨g0, 1, none⟩), .slice (some ⟨b, off, none⟩) n c, .int .i64 k, .pointer (some ⟨b, off + k * 3, none⟩), .pointer (some ⟨b, off + k * 3, none⟩), .string x.p, .string r.p, .bool true, u63, u64, u65, u66, u67, u68, u69, u70, u71, u72, undef, undef, undef, undef, undef, undef, undef, undef, undef, undef, undef, undef, undef, undef, undef, undef] : Array Value).getD xx undef, (by rfl), Holding.start, Whu.none (by decide), Whu.none (by decide)⟩
          · have hge : ¬ (k : Int) < n := by omega
            have hk2 : rs.take k = rs := List.take_of_length_le (by have := Hn.out; omega)
            have HE : Hid (endW r (foldW r rs) = insW r rs) := end_ins r rs
            have Hlen : Hid ((foldW r rs).1.length ≤ 1000) := by
              have h1 := fold_len r rs ([], false)
              simp only [List.length_nil] at h1
              show (foldW r rs).1.length ≤ 1000
              unfold foldW
              have := Hn.out
              omega
            rw [hk2] at HJ hu ⊢
            clear hk2
            obtain ⟨st, hst⟩ : ∃ st, st = foldW r rs := ⟨_, rfl⟩
            rw [← hst] at HJ HE hu Hlen ⊢
            obtain ⟨out, put⟩ := st
            dsimp only at HJ HE hu Hlen ⊢
            obtain ⟨A', c', hu⟩ := hu
            subst hu
            clear hst
            have L8 : Hid (g8 < wr.heap.size) := (Array.getElem?_eq_some_iff.1 HJ.out.row).1
            have HM1 : Hid ((insW r rs).length = (othersL r.p rs).length + 1) := by have := (ins_perm r rs).length_eq; show _ = _; simpa using this
            have HML := Lib.hid (othersL_len r.p rs)
            cases put with
            | true =>
              have HO1 : Hid (out = insW r rs) := by have h := HE.out; show _ = _; simpa [endW] using h
              clear HE

              go_upto_region 17 with fail
              clear c81
              obtain ⟨N, hN⟩ : ∃ N, out.length = N := ⟨_, rfl⟩
              rw [hN] at HJ
              try rw [hN]
              have HN : Hid (N = (othersL r.p rs).length + 1) := by show _ = _; rw [← HM1.out, ← HO1.out, hN]
              have HNL : Hid ((insW r rs).length = N) := by show _ = _; rw [← HO1.out, hN]
              have HOL := HO1
              clear hN
              have c88 := cell_row HJ.out.row 1
              simp only [List.getElem?_toArray, List.getElem?_cons_zero, List.getElem?_cons_succ] at c88
              by_cases h32 : 32 < N
              · have h32I : (32 : Int) < N := by omega
                go_wp2_with (refine wpList_store_row rfl 34 (.tmp 6) (.tmp 87) rfl (g0 + 1 + 1) (tabV 0 none 0 0) rfl rfl 34 _ HJ.out.i.b3 infoT2 rfl (tab_one ..) ?_)
                (refine HRET.out 7 _ _ (by decide) (withZ_full HPRE.out HCHK.out HOk.out (by have := HN.out; have := HML.out; have := Hn.out; omega)).symm HJ.out.i ?_ ?_ <;> rfl)
              · have h32I : ¬ (32 : Int) < N := by omega
                have HZ : Hid (withZ v rs r = 0) := withZ_ok HPRE.out HCHK.out HOk.out (by have := HN.out; omega)
                go_wp2_with (first
                  | (refine wpList_load_row rfl 34 (.tmp 8) rfl g8 rfl 34 (tabV (v + 1) A' N c') (0, 0) _ HJ.out.row Tryd.underlying34 rfl infoT2 ?_)
                  | (refine wpList_store_row rfl 34 (.tmp 6) (.tmp 88) rfl (g0 + 1 + 1) (tabV (v + 1) A' N c') rfl rfl 34 _ HJ.out.i.b3 infoT2 rfl (tab_one ..) ?_))
                have ho := own_setRow (q := g0 + 1 + 1) (C := tabV (v + 1) A' N c') HJ.out.own (by have := H68.out; omega)
                obtain ⟨A5, c5, e5, hr5⟩ := ho.ruls
                cases e5
                refine bodyPost_ret (v := .tuple #[.agg (tabV (v + 1) A' _ c'), .int .i64 0]) (results_row_tmp rfl _ _ (g0 + 1 + 1) 34 _ (0, 0) _ _ rfl rfl (setRow_at HJ.out.i.b3) Tryd.underlying34 rfl infoT2) rfl ⟨.inr ⟨A', c', HZ.out, by rw [HNL.out], by rw [← HOL.out]; exact hr5⟩, by rw [HG.out]; exact Lab.below_setRow HJ.out.i.low (by omega) _⟩
            | false =>
              obtain ⟨out1, ho1⟩ : ∃ out1, out1 = out ++ [r] := ⟨_, rfl⟩
              have HO2 : Hid (out1 = insW r rs) := by have h := HE.out; show _ = _; rw [ho1]; simpa [endW] using h
              have HO1 := Lib.hid ho1
              clear ho1 HE
              go_upto_region 17 with (first
                | (refine wpList_load_row rfl 27 (.tmp 5) rfl (g0 + 1) rfl 27 (lab r.a r.c) (0, 0) _ HJ.out.i.b2 Tryd.underlying27 rfl infoL ?_)
                | (at_builtin; refine wpList_append_rul rfl (.tmp 76) (.tmp 80) rfl (g8 + 1) (.slice A' out.length c') out r rfl (own_stays HJ.out.own ((Below.refl _ _).alloc (Nat.le_refl _) _)) wr.heap.size rfl (Go.heap_alloc_new wr _) (by have := Hlen.out; omega) (by have := L8.out; rw [World.size_alloc]; omega) ?_; intro u9 w9 hown9 hgrow9; rw [← HO1.out] at hown9; obtain ⟨A9, c9, e9, _⟩ := hown9.ruls; subst e9; have hb9 : Below g8 wr w9 := ((Below.refl g8 wr).alloc (by have := L8.out; omega) _).grown hgrow9 (by have := L8.out; rw [World.size_alloc]; omega) (fun q hq => by have := (World.ownsRow.lt HJ.out.own q hq).1; omega); have row9 : w9.heap[g8]? = some (.cells #[.int .i64 (v + 1), .slice A' out.length c'] 34 (0, 0)) := (hgrow9.block g8 (by have := L8.out; rw [World.size_alloc]; omega) (fun e => by have := (World.ownsRow.lt HJ.out.own g8 e.symm).1; omega)).trans ((((Below.refl wr.heap.size wr).alloc (Nat.le_refl _) _).block g8 L8.out).trans HJ.out.row); have c91 := cell_row row9 1; simp only [List.getElem?_toArray, List.getElem?_cons_zero, List.getElem?_cons_succ] at c91; have f91 : w9.frozen? ⟨g8, 1, none⟩ = false := free_row row9 1; have HJ9 := Lib.hid (RJ.set HJ.out H68.out hb9 row9 hown9); clear hb9 row9 hown9 hgrow9))
              obtain ⟨wc, hwc⟩ : ∃ wc, wc = w9.setCell ⟨g8, 1, none⟩ (.slice A9 out1.length c9) := ⟨_, rfl⟩
              rw [← hwc] at HJ9 ⊢
              clear hwc c91 f91 c81 c01 HJ L8
              obtain ⟨N, hN⟩ : ∃ N, out1.length = N := ⟨_, rfl⟩
              rw [hN] at HJ9
              try rw [hN]
              have HN : Hid (N = (othersL r.p rs).length + 1) := by show _ = _; rw [← HM1.out, ← HO2.out, hN]
              have HNL : Hid ((insW r rs).length = N) := by show _ = _; rw [← HO2.out, hN]
              have HOL := HO2
              clear hN
              have c88 := cell_row HJ9.out.row 1
              simp only [List.getElem?_toArray, List.getElem?_cons_zero, List.getElem?_cons_succ] at c88
              by_cases h32 : 32 < N
              · have h32I : (32 : Int) < N := by omega
                go_wp2_with (refine wpList_store_row rfl 34 (.tmp 6) (.tmp 87) rfl (g0 + 1 + 1) (tabV 0 none 0 0) rfl rfl 34 _ HJ9.out.i.b3 infoT2 rfl (tab_one ..) ?_)
                (refine HRET.out 7 _ _ (by decide) (withZ_full HPRE.out HCHK.out HOk.out (by have := HN.out; have := HML.out; have := Hn.out; omega)).symm HJ9.out.i ?_ ?_ <;> rfl)
              · have h32I : ¬ (32 : Int) < N := by omega
                have HZ : Hid (withZ v rs r = 0) := withZ_ok HPRE.out HCHK.out HOk.out (by have := HN.out; omega)
                go_wp2_with (first
                  | (refine wpList_load_row rfl 34 (.tmp 8) rfl g8 rfl 34 (tabV (v + 1) A9 N c9) (0, 0) _ HJ9.out.row Tryd.underlying34 rfl infoT2 ?_)
                  | (refine wpList_store_row rfl 34 (.tmp 6) (.tmp 88) rfl (g0 + 1 + 1) (tabV (v + 1) A9 N c9) rfl rfl 34 _ HJ9.out.i.b3 infoT2 rfl (tab_one ..) ?_))
                have ho := own_setRow (q := g0 + 1 + 1) (C := tabV (v + 1) A9 N c9) HJ9.out.own (by have := H68.out; omega)
                obtain ⟨A5, c5, e5, hr5⟩ := ho.ruls
                cases e5
                refine bodyPost_ret (v := .tuple #[.agg (tabV (v + 1) A9 _ c9), .int .i64 0]) (results_row_tmp rfl _ _ (g0 + 1 + 1) 34 _ (0, 0) _ _ rfl rfl (setRow_at HJ9.out.i.b3) Tryd.underlying34 rfl infoT2) rfl ⟨.inr ⟨A9, c9, HZ.out, by rw [HNL.out], by rw [← HOL.out]; exact hr5⟩, by rw [HG.out]; exact Lab.below_setRow HJ9.out.i.low (by omega) _⟩
      · have HNo : Hid (¬ Okay v rs) := fun h => absurd (hiff.2 h) (by decide)
        clear hiff
        go_wp2_with (refine wpList_store_row rfl 34 (.tmp 6) (.tmp 23) rfl (g0 + 1 + 1) (tabV 0 none 0 0) rfl rfl 34 _ HI6.out.b3 infoT2 rfl (tab_one ..) ?_)
        (refine HRET.out 2 _ _ (by decide) (withZ_arg HPRE.out (.inr HNo.out)).symm HI6.out ?_ ?_ <;> rfl)
    · have HM2 := HM.out
      rw [show decide (Lab.chk r.a = 0) = false by rw [decide_eq_false hchk]] at HM2
      have HM := Lib.hid HM2
      have HZ : Hid (withZ v rs r = 2) := withZ_arg hpre (.inl hchk)
      clear hpre hchk HM2
      go_wp2_with (first
        | (go_at_call 22; refine HP.out.mono ?_; rintro e w4 ⟨rfl, low4⟩; have HI4 := Lib.hid (HI3.out.later low4 HI3.out.lt); clear low4)
        | (refine wpList_load_row rfl 27 (.tmp 5) rfl (g0 + 1) rfl 27 (lab r.a r.c) (0, 0) _ HI4.out.b2 Tryd.underlying27 rfl infoL ?_)
        | (go_at_call 23; refine (HM.out w4).mono ?_; rintro e w5 ⟨rfl, low5⟩; have HI5 := Lib.hid (HI4.out.later low5 HI4.out.lt); clear low5)
        | (refine wpList_store_row rfl 34 (.tmp 6) (.tmp 23) rfl (g0 + 1 + 1) (tabV 0 none 0 0) rfl rfl 34 _ HI5.out.b3 infoT2 rfl (tab_one ..) ?_))
      (refine HRET.out 2 _ _ (by decide) HZ.out.symm HI5.out ?_ ?_ <;> rfl)
  · have HZ : Hid (withZ v rs r = 15) := withZ_pre hpre
    rw [decide_eq_false hpre] at HP
    clear hpre
    go_wp2_with (first
      | (go_at_call 22; refine HP.out.mono ?_; rintro e w4 ⟨rfl, low4⟩; have HI4 := Lib.hid (HI3.out.later low4 HI3.out.lt); clear low4)
      | (refine wpList_store_row rfl 34 (.tmp 6) (.tmp 14) rfl (g0 + 1 + 1) (tabV 0 none 0 0) rfl rfl 34 _ HI4.out.b3 infoT2 rfl (tab_one ..) ?_))
    (refine HRET.out 15 _ _ (by decide) HZ.out.symm HI4.out ?_ ?_ <;> rfl)
end Go.Proofs.YtmbcojpdigoojaaDoor.Rul
