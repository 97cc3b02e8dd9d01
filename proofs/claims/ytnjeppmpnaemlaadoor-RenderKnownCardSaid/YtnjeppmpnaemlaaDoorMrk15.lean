/- DERIVED. Texts of ours, merged: XGrfInord. -/
import Derived.Test.YtnjeppmpnaemlaaDoorMrk14
/- DERIVED. inOrder: the vertices one by one, the least of those that may come ahead. Written by mkinord.py. -/
set_option maxRecDepth 100000
namespace Go.Proofs.YtnjeppmpnaemlaaDoor.Grf
open Go.RowKit Str Go.Maps
attribute [local go_sem ↓ high] loadAtVx
def sliceLen : Value → Nat
  | .slice _ n _ => n
  | _ => 0
/-- all vertices in their order. -/
def InQ (w : World) (S : GS) (e : Ending) (w' : World) : Prop := ∃ lv L, e = .returned lv ∧ Steps (verts (ds S.ps)) (edges (ds S.ps)) L ∧ (∀ v ∈ verts (ds S.ps), v ∈ L) ∧ w'.ownsRow w.heap.size 87 1 lv L.length (L.map fun v => ptr (blS S v)) ∧ Below w.heap.size w w'
/-- the first candidates. -/
def BoxR (B : Nat) (z : Value) (w : World) : Prop := ∃ rd, z = .pointer (some ⟨rd, 0, none⟩) ∧ B ≤ rd ∧ w.heap[rd]? = some (.cells #[nils] 133 (0, 0))
theorem BoxR.later {B : Nat} {z : Value} {w w' : World} (h : BoxR B z w) (hb : Below w.heap.size w w') : BoxR B z w' := by
  obtain ⟨rd, h1, h2, h3⟩ := h
  exact ⟨rd, h1, h2, at_below h3 hb⟩
def RowR (B b : Nat) (z : Value) (w : World) : Prop := ∃ q, z = .slice (some ⟨q, 0, none⟩) 1 1 ∧ B ≤ q ∧ w.heap[q]? = some (.cells #[ptr b] 87 (0, 0))
theorem RowR.later {B b : Nat} {z : Value} {w w' : World} (h : RowR B b z w) (hb : Below w.heap.size w w') : RowR B b z w' := by
  obtain ⟨q, h1, h2, h3⟩ := h
  exact ⟨q, h1, h2, at_below h3 hb⟩
def RdyQ (W : World) (bl : Vx → Nat) (z : Value) (w : World) : Prop := ∃ rd g, z = ptr rd ∧ W.heap.size ≤ rd ∧ CQ w rd g 1 W.heap.size bl [root] ∧ Below W.heap.size W w
theorem rdy_store {W wx : World} {bl : Vx → Nat} {rd q : Nat} (hl : Below W.heap.size W wx) (h1 : W.heap.size ≤ rd) (h2 : wx.heap[rd]? = some (.cells #[nils] 133 (0, 0))) (h3 : W.heap.size ≤ q) (h4 : wx.heap[q]? = some (.cells #[ptr (bl root)] 87 (0, 0))) (hr : W.rangeAt (bl root) 0 root.c.toList) :
    RdyQ W bl (.pointer (some ⟨rd, 0, none⟩)) (wx.setCell ⟨rd, 0, none⟩ (.slice (some ⟨q, 0, none⟩) 1 1)) := by
  have hne : q ≠ rd := ne_ty h4 h2 (by decide)
  have hq : (wx.setCell ⟨rd, 0, none⟩ (.slice (some ⟨q, 0, none⟩) 1 1)).heap[q]? = some (.cells #[ptr (bl root)] 87 (0, 0)) := (Below.heap_setCell _ _ _ _ hne).trans h4
  have hlow : Below W.heap.size W (wx.setCell ⟨rd, 0, none⟩ (.slice (some ⟨q, 0, none⟩) 1 1)) := hl.trans ⟨rfl, rfl, rfl, by simp [World.setCell], fun k hk => Below.heap_setCell _ _ _ _ (by show k ≠ rd; omega)⟩
  refine ⟨rd, q, rfl, h1, ⟨?_, ?_, fun v hv => ?_⟩, hlow⟩
  · exact heap_setCell_same _ _ _ _ _ _ h2
  · exact ⟨rfl, .inr ⟨q, 1, #[ptr (bl root)], rfl, h3, hq, Nat.le_refl _, by unfold maxLen; omega, rfl, rfl⟩⟩
  · rw [List.mem_singleton.1 hv]
    exact ⟨range_at hr (hlow.block _ (range_lt hr)), range_lt hr⟩
theorem wpList_app_ptr {w : World} {ops : Array Oper} {rest : List Oper} {o : Oper} {a : Act} {Q : Exit → Act → World → Prop} (hgd : o.guard = none) (T : TypeId) (hT : Tryd.prog.underlying T = some (.slice 87)) (s y : Operand)
    (ho : o.op = .call { callee := .builtin .append, args := #[s, y], argTypes := #[T, T] }) (base : Nat) (v : Value) (n : Nat) (L : List Value) (x : Nat) (hs : a.eval s = v) (hown : w.ownsRow base 87 1 v n L)
    (g : Nat) (hy : a.eval y = .slice (some ⟨g, 0, none⟩) 1 1) (hg : w.heap[g]? = some (.cells #[ptr x] 87 (0, 0))) (h63 : n ≤ 1000000) (hbase : base ≤ w.heap.size)
    (h : ∀ v' w', w'.ownsRow base 87 1 v' (n + 1) (L ++ [ptr x]) → w.grownBy w' v.ownBlock → (v'.ownBlock = v.ownBlock ∨ v'.ownBlock = some w.heap.size) → wpList Tryd.prog ops Q rest (a.put o.dst v') w') : wpList Tryd.prog ops Q (o :: rest) a w :=
  wpList_plain hgd fun _ hK => wp_app_ptr T hT s y ho base v n L x hs hown g hy hg h63 hbase (fun v' w' a b c => hK _ _ (h v' w' a b c))
theorem wrap_pred {c cz : Nat} (h : c = cz + 1) (hb : c ≤ 700000) : wrap64 ((c : Int) - 1) = (cz : Int) ∧ IntKind.i64.wrap ((c : Int) - 1) = (cz : Int) := by
  have h0 : IntKind.i64.wrap ((c : Int) - 1) = (c : Int) - 1 := IntWalk.i64_in _ (by omega)
  refine ⟨by unfold wrap64; omega, ?_⟩
  rw [h0]
  omega
theorem own_len1 {w : World} {base n : Nat} {t : TypeId} {v : Value} {L : List Value} (h : w.ownsRow base t 1 v n L) : sliceLen v = n := by
  rcases h.2 with ⟨rfl, h0⟩ | ⟨g, cap, cur, rfl, _⟩
  · exact h0.symm
  · rfl
theorem own_base {w : World} {base base' n s : Nat} {t : TypeId} {v : Value} {L : List Value} (h : w.ownsRow base t s v n L) (hb : base' ≤ base) : w.ownsRow base' t s v n L := by
  obtain ⟨h1, h2⟩ := h
  refine ⟨h1, ?_⟩
  rcases h2 with h3 | ⟨g, cap, cur, h3, h4, h5⟩
  · exact .inl h3
  · exact .inr ⟨g, cap, cur, h3, Nat.le_trans hb h4, h5⟩
/-- the row of what a vertex leads to, as the map hands it over. -/
theorem beh_row {w0 w1 : World} {bb ab mb ma : Nat} {bl : Vx → Nat} {E : List (Vx × Vx)} (h : EM w0 bb ab mb ma bl none E E w1) (l : Vx) :
    ∃ (A : Option Addr) (c : Nat), (outs E l).length ≤ c ∧ (∀ u, Chg [ma] w1 u → (Instr.lookup 129 (.map (some mb)) (.agg l.c) false).run Tryd.prog u = .ok (.slice A (outs E l).length c) u) ∧
      ∀ (j : Nat) (x : Vx), (outs E l)[j]? = some x → ∃ gs, A = some ⟨gs, 0, none⟩ ∧ ∀ u, Chg [ma] w1 u → u.cell? ⟨gs, j, none⟩ = some (ptr (bl x)) := by
  obtain ⟨sv, nb, hnb, hB, hrow, _⟩ := h.out
  obtain ⟨na, hna, hA⟩ := h.ahd
  have look : ∀ u, Chg [ma] w1 u → (Instr.lookup 129 (.map (some mb)) (.agg l.c) false).run Tryd.prog u = .ok ((if outs E l = [] then none else some (sv l)).getD nils) u := fun u hu =>
    (hB.stay (hu.block _ hB.lt (by simpa using h.ne))).look kbV Tryd.underlying129 (zeroS u) (.inr (.inr (.inr (.inl ⟨0, 0, rfl⟩)))) l
  by_cases e : outs E l = []
  · rw [e] at look ⊢
    exact ⟨none, 0, Nat.le_refl _, fun u hu => look u hu, fun j x hx => by simp at hx⟩
  · rcases (hrow l e).2 with ⟨_, h0⟩ | ⟨g, cap, cur, hv, hb, hh, hc, _, _, ht⟩
    · exact absurd (List.length_eq_zero_iff.1 h0) e
    · refine ⟨some ⟨g, 0, none⟩, cap, hc, fun u hu => ?_, fun j x hx => ⟨g, rfl, fun u hu => ?_⟩⟩
      · rw [look u hu, if_neg e, Option.getD_some, hv]
      · have hj := (List.getElem?_eq_some_iff.1 hx).1
        have k : ((outs E l).map fun x => ptr (bl x))[j]? = some (ptr (bl x)) := by rw [List.getElem?_map, hx]; rfl
        rw [← ht, List.getElem?_take, if_pos (by omega)] at k
        rw [cell_row (hu.at hh (by simpa using hA.ne hh))]
        simpa using k
set_option maxHeartbeats 8000000 in
theorem inOrder_any (S : GS) (us : Nat → Int) (gn : Vx → Int) (hok : GOk S) (hps : S.ps.length ≤ 100) (hls : ∀ p ∈ S.ps, p.d.lines.length ≤ 1000) (w : World) (h : GM w S us gn) (hL : Laid w) :
    Calls Tryd.prog 48 #[ptr S.g] w (InQ w S) := by
  have hE := edges_any S us gn hok hps hls w h
  have HH := Lib.hid h
  have HOk := Lib.hid hok
  have HLd := Lib.hid hL
  have HV : Hid ((verts (ds S.ps)).length ≤ 200000) := by
    have aux : ∀ ps : List PA, (∀ p ∈ ps, p.d.lines.length ≤ 1000) → (verts (ds ps)).length ≤ 2 + ps.length * 1000 := by
      intro ps
      induction ps with
      | nil => intro _; simp [verts]
      | cons q t ih =>
        intro hq
        show (own q.d ++ verts (ds t)).length ≤ _
        rw [List.length_append, own_len, List.length_cons]
        have h1 := hq q (by simp)
        have h2 := ih (fun p hp => hq p (by simp [hp]))
        omega
    have := aux S.ps hls
    show _ ≤ _
    omega
  clear h hok hL hps hls
  go_enter Tryd.func48, Tryd.ntmps48
  go_upto_region 2 with (go_at_call 75; refine hE.mono ?_; rintro e w1 ⟨bb, ab, mb, ma, E, rfl, hem, hEm, hEl⟩)
  have HEm := Lib.hid hem
  have HMem := Lib.hid hEm
  have HEl := Lib.hid hEl
  have hg1 := HH.out.below hem.low
  have HG3 := Lib.hid hg1.g3
  have HLk : Hid (∀ u, Below w1.heap.size w1 u → (Instr.lookup 36 (.map (some S.mv)) (.agg root.c) false).run Tryd.prog u = .ok (ptr S.rb) u) := fun u hu => by
    have := (hg1.below hu).look root
    rw [lineB_root HOk.out] at this
    exact this
  have HRt : Hid (∀ u, Below w1.heap.size w1 u → (loadVx (.pointer (some ⟨0, 0, none⟩))).run Tryd.prog u = .ok (.agg root.c) u) := fun u hu => loadVx_eq ((HLd.out.below hem.low (Nat.le_refl _)).below hu (Nat.le_refl _)).r
  have HRb : Hid (S.rb = blS S root) := by simp [Hid, blS, lineB_root HOk.out]
  have HRg : Hid (w1.rangeAt (blS S root) 0 root.c.toList) := by
    have := hg1.lr.vx
    rw [HRb.out] at this
    exact this
  clear hE hem hEm hEl hg1
  have apx : apartB [15, 16, 17, 18, 19, 20, 21, 5, 1008] = true := by decide
  refine wp_region_any (by kernel_rfl) ?_
  change wpAny _ _ _ _ _ _ _ (World.drew _)
  refine wpAny_inv2 (fun ll aa wx => Hid (ll.size = 9 ∧ Below w1.heap.size w1 wx) ∧ ∃ (z : Nat → Value), Hid (aa = ⟨#[ptr S.g, undef, .slice none 0 0, .map (some mb), .map (some ma), z 5, undef, undef, undef, undef, .tuple #[.map (some mb), .map (some ma)], ptr S.g, .tuple #[.map (some mb), .map (some ma)], .map (some mb), .map (some ma), z 15, z 16, z 17, z 18, z 19, z 20, z 21, undef, undef, undef, undef, undef, undef, undef, undef, undef, undef, undef, undef, undef, undef, undef, undef, undef, undef, undef, undef, undef, undef, undef, undef, undef, undef, undef, undef, undef, undef, undef, undef, undef, undef, undef, undef, undef, undef, undef, undef, undef, undef, undef], []⟩) ∧ Holding [15, 16, 17, 18, 19, 20, 21, 5, 1008] [some (ptr S.g), some (.pointer (some ⟨S.g, 0, none⟩)), some (.pointer (some ⟨S.g, 3, none⟩)), some (.map (some S.mv)), some (.agg root.c), some (ptr S.rb), none, none, none] ll z ∧ Whu ll 6 8 (RowR w1.heap.size S.rb) (z 21) wx ∧ Whu ll 7 8 (BoxR w1.heap.size) (z 5) wx ∧ Whn ll 8 (fun _ ww => RdyQ w1 (blS S) (z 5) ww) (z 1008) wx) ?_ (by kernel_rfl) ?_ ?_ _ rfl _ _ ?_
  · rintro ll aa wx ⟨hI, _⟩
    exact hI.out.1
  · rintro ll aa wx ⟨hI, z, ha, hz, hp6, hp7, hp8⟩ hall
    have hx := Lib.hid hI.out.2
    have e0 : z 15 = ptr S.g := hz 0 _ (hall 0 (by decide)) rfl
    have e1 : z 16 = .pointer (some ⟨S.g, 0, none⟩) := hz 1 _ (hall 1 (by decide)) rfl
    have e2 : z 17 = .pointer (some ⟨S.g, 3, none⟩) := hz 2 _ (hall 2 (by decide)) rfl
    have e3 : z 18 = .map (some S.mv) := hz 3 _ (hall 3 (by decide)) rfl
    have e4 : z 19 = .agg root.c := hz 4 _ (hall 4 (by decide)) rfl
    have e5 : z 20 = ptr S.rb := hz 5 _ (hall 5 (by decide)) rfl
    have p8 := hp8.get (hall 8 (by decide))
    clear hall hz hI hp6 hp7 hp8
    obtain rfl := ha.out
    clear ha
    clear apx
    obtain ⟨rd, g0, hz5, hrd, hcq, hlow⟩ := p8
    rw [hz5]
    rename World => w2
    clear hx hz5 e0 e1 e2 e3 e4 e5
    generalize z 15 = y15
    generalize z 16 = y16
    generalize z 17 = y17
    generalize z 18 = y18
    generalize z 19 = y19
    generalize z 20 = y20
    generalize z 21 = y21
    have HIO : Hid (IO w1 ma (blS S) E (cntE E []) [] [root] rd g0 1 nils w2) := by
      obtain ⟨na, hna, hA⟩ := HEm.out.ahd
      refine ⟨Chg.of_below hlow, hcq, fun k h0 hk => ?_, by simp, World.ownsRow_nil _ _ _ _, fun k hk => ?_, hrd, ⟨na, Nat.le_trans hna HEl.out, hA.stay (hlow.block _ hA.lt)⟩, hA.lt⟩
      · simp at hk; omega
      · simp [Value.ownBlock] at hk
    have hRS : RS (verts (ds S.ps)) [] (cntE E []) [root] := fun v => by
      rw [List.mem_singleton, ← ready_root HOk.out.adm v, cntE_zero]
      unfold Ready
      constructor
      · rintro ⟨a1, a2, a3⟩; exact ⟨a1, a2, fun u hu => a3 u ((HMem.out _).1 hu)⟩
      · rintro ⟨a1, a2, a3⟩; exact ⟨a1, a2, fun u hu => a3 u ((HMem.out _).2 hu)⟩
    have HRS : Hid (RS (verts (ds S.ps)) [] (cntE E []) [root] ∧ Steps (verts (ds S.ps)) (edges (ds S.ps)) []) := ⟨hRS, .nil⟩
    have hbr := fun l => beh_row HEm.out l
    have HBr := Lib.hid hbr
    have HVx : Hid (∀ v ∈ verts (ds S.ps), w1.rangeAt (blS S v) 0 v.c.toList ∧ blS S v ≠ ma) := fun v hv => by
      have hg1 := HH.out.below HEm.out.low
      obtain ⟨b, hb⟩ := (lineB_in hg1.lsl).2 hv
      obtain ⟨s, pb, at_, hr, _⟩ := hg1.line hb
      obtain ⟨na, hna, hA⟩ := HEm.out.ahd
      have e : blS S v = b := by unfold blS; rw [hb]; rfl
      rw [e]
      exact ⟨hr.vx, hA.ne hr⟩
    clear hrd hcq hlow hRS hbr HG3 HLk HRt HRb HRg
    go_upto_region 4 with (fail)
    go_loopw [6] (fun v wr => ∃ (L R : List Vx) (g cap : Nat), Hid (IO w1 ma (blS S) E (cntE E L) L R rd g cap v wr) ∧ Hid (RS (verts (ds S.ps)) L (cntE E L) R ∧ Steps (verts (ds S.ps)) (edges (ds S.ps)) L)) (fun v _ => 200001 - sliceLen v)
    case atStart => exact ⟨[], [root], g0, 1, HIO.out, HRS.out⟩
    case round =>
      obtain ⟨L, R, g, cap, hI, hR⟩ := hrel
      clear HIO HRS
      have hLn := nodup_len hR.out.2.nodup.1 hR.out.2.nodup.2
      have hRn := nodup_len hI.out.nd (fun v hv => ((hR.out.1 v).1 hv).1)
      have hV9 := HV.out
      have c5 : wr.cell? ⟨rd, 0, none⟩ = some (.slice (some ⟨g, 0, none⟩) R.length cap) := cell_row hI.out.cq.box 0
      by_cases h0 : 0 < R.length
      · have h0I : (0 : Int) < R.length := by omega
        have hP := hpop_any hI.out.cq hI.out.hp hI.out.nd h0 (by omega)
        obtain ⟨l, hl⟩ : ∃ l, l = at0 R 0 := ⟨_, rfl⟩
        have hta := assert_line (blS S l)
        have hlR : l ∈ R := by rw [hl]; exact List.mem_of_getElem? (at0_lt h0)
        have hlL : l ∉ L := ((hR.out.1 l).1 hlR).2.1
        have hlV : l ∈ verts (ds S.ps) := ((hR.out.1 l).1 hlR).1
        have HStep : Hid (Steps (verts (ds S.ps)) (edges (ds S.ps)) (L ++ [l])) := by
          have rdy : ∀ v, v ∈ R ↔ Ready (verts (ds S.ps)) (edges (ds S.ps)) L v := fun v => by
            rw [hR.out.1.ready]
            unfold Ready
            constructor
            · rintro ⟨a1, a2, a3⟩; exact ⟨a1, a2, fun u hu => a3 u ((HMem.out _).2 hu)⟩
            · rintro ⟨a1, a2, a3⟩; exact ⟨a1, a2, fun u hu => a3 u ((HMem.out _).1 hu)⟩
          refine .snoc hR.out.2 ((rdy l).1 hlR) (fun v hv => ?_)
          obtain ⟨k, hk, e⟩ := List.getElem_of_mem ((rdy v).2 hv)
          have := hI.out.hp.min k hk
          rw [at0_of (List.getElem?_eq_some_iff.2 ⟨hk, e⟩), ← hl] at this
          exact this
        unfold PopQ at hP
        rw [← hl] at hP
        have Hsl6 : Hid (sliceLen u6 = L.length) := own_len1 hI.out.own
        have HlL := Lib.hid hlL
        have HlV := Lib.hid hlV
        have Hl6 : Hid (L.length ≤ 1000000) := show _ ≤ _ by omega
        clear hl hlR hlL hlV hLn hRn hV9 h0
        go_upto_region 6 with (go_at_call 76; refine hP.mono ?_; rintro e w2 ⟨R', rfl, hcq2, hmem2, nd2, hp2, hl2, hg2⟩)
        have hI2 := hI.out.heap hg2 hcq2 hp2 nd2 (.inl rfl)
        have HI2 := Lib.hid hI2
        have HR2 := Lib.hid (hR.out.1.popped HlL.out hmem2)
        have HL7 : Hid (∀ u, Chg [ma] w1 u → (loadVx (.pointer (some ⟨blS S l, 0, none⟩))).run Tryd.prog u = .ok (.agg l.c) u) := fun u hu => by
          obtain ⟨q1, q2⟩ := HVx.out l HlV.out
          exact loadVx_eq (range_at q1 (hu.block _ (range_lt q1) (by simpa using q2)))
        have hown2 := hI2.own
        have hbase2 : w1.heap.size ≤ w2.heap.size := hI2.chg.size
        clear hI2 hcq2 hmem2 nd2 hp2 hl2 hg2 hP c5 hI
        obtain ⟨A, cA, hcA, hbeh, hcell⟩ := HBr.out l
        have HBeh := Lib.hid hbeh
        have HCell := Lib.hid hcell
        obtain ⟨n, hn⟩ : ∃ n, n = (outs E l).length := ⟨_, rfl⟩
        rw [← hn] at hcA HBeh
        have HN := Lib.hid hn
        have hnL : n ≤ 200000 := by have := outs_le E l; have := HEl.out; omega
        clear hbeh hcell hn
        have hcAI : (n : Int) ≤ cA := by omega
        generalize hbl : blS S l = bl at *
        go_upto_region 7 with (at_builtin; refine wpList_app_ptr rfl 88 Tryd.underlying88 (.tmp 28) (.tmp 30) rfl w1.heap.size u6 L.length (L.map fun v => ptr (blS S v)) bl rfl (own_stays hown2 ((Below.refl _ _).alloc (Nat.le_refl _) _)) w2.heap.size rfl (Go.heap_alloc_new w2 _) Hl6.out (Nat.le_trans hbase2 (by rw [World.size_alloc]; omega)) ?_; intro lv4 w4 own4 g4 loc4)
        have hI4 := HI2.out.list (l := l) ((Below.refl _ _).alloc (Nat.le_refl _) _) (by rw [hbl]; exact own4) g4 (by
          rcases loc4 with h9 | h9
          · exact .inl h9
          · exact .inr ⟨_, h9, by rw [World.size_alloc]; omega⟩)
        have HI4 := Lib.hid (hI4.eqf (f' := dlt E L l 0) (dlt_zero HlL.out))
        have e7 := HL7.out w4 hI4.chg
        have e7b := HBeh.out w4 hI4.chg
        clear hI4 own4 g4 loc4 hown2 hbase2 HI2
        go_upto_region 8 with (fail)
        clear e7 e7b hta HL7
        go_loopw [39] (fun i wr => ∃ (k : Nat) (R3 : List Vx) (g3 cap3 : Nat), k ≤ n ∧ i = .int .i64 k ∧ Hid (IO w1 ma (blS S) E (dlt E L l k) (L ++ [l]) R3 rd g3 cap3 lv4 wr) ∧ Hid (RS (verts (ds S.ps)) (L ++ [l]) (dlt E L l k) R3)) (fun i _ => n - (intOf i).toNat)
        case atStart => exact ⟨0, R', g, cap, Nat.zero_le _, rfl, HI4.out, HR2.out⟩
        case round =>
          obtain ⟨k, R3, g3, cap3, hk, rfl, hI5, hR5⟩ := hrel
          clear HI4 HR2
          by_cases hlt : k < n
          · have hltI : (k : Int) < n := by omega
            have hk0 : 0 ≤ (k : Int) := by omega
            obtain ⟨x, hx⟩ : ∃ x, (outs E l)[k]? = some x := ⟨_, List.getElem?_eq_getElem (by have := HN.out; omega)⟩
            obtain ⟨gs, rfl, hcl⟩ := HCell.out k x hx
            have cx := hcl _ hI5.out.chg
            obtain ⟨hxV, hxL⟩ := out_new HOk.out.adm hR.out.2 HMem.out HlL.out (List.mem_of_getElem? hx)
            obtain ⟨hxr, hxm⟩ := HVx.out x hxV
            have hR3 := nodup_len hI5.out.nd (fun v hv => ((hR5.out v).1 hv).1)
            have Hpush : Hid (R3.length ≤ 1000000 ∧ x ∉ R3) := ⟨by have := HV.out; omega, hR5.out.new hx⟩
            have hx0 : cntE E [] x ≠ 0 := fun e => by
              have := cntE_zero.1 e l (mem_outs.1 (List.mem_of_getElem? hx))
              cases this
            obtain ⟨c, hc⟩ : ∃ c, c = dlt E L l k x := ⟨_, rfl⟩
            obtain ⟨cz, hcz⟩ : ∃ cz, cz = dlt E L l (k + 1) x := ⟨_, rfl⟩
            have hccz : c = cz + 1 := by
              have := dlt_next (L := L) hx x
              rw [if_pos rfl, ← hc, ← hcz] at this
              exact this
            have hcb : c ≤ 700000 := by have h1 := dlt_le E L l k x; have h2 := HEl.out; omega
            have HW := Lib.hid (wrap_pred hccz hcb)
            obtain ⟨na, hna, hmA⟩ := hI5.out.ahd
            have hfb : (numF E (dlt E L l k) x).getD (.int .i64 0) = .int .i64 (c : Nat) := by
              unfold numF
              rw [if_neg hx0, ← hc]
              rfl
            have hfs : (numF E (dlt E L l k) x).isSome = true := by unfold numF; rw [if_neg hx0]; rfl
            have HBx : Hid (wr.rangeAt (blS S x) 0 x.c.toList) := range_at hxr (hI5.out.chg.block _ (range_lt hxr) (by simpa using hxm))
            have HBm : Hid (blS S x ≠ ma) := hxm
            have HBl : Hid (blS S x < w1.heap.size) := range_lt hxr
            have HRx : Hid (∀ u, Chg [ma] w1 u → u.rangeAt (blS S x) 0 x.c.toList) := fun u hu => range_at hxr (hu.block _ (range_lt hxr) (by simpa using hxm))
            have HM := Lib.hid hmA
            have Hfb := Lib.hid hfb
            have Hfs := Lib.hid hfs
            have Hna := Lib.hid hna
            have Hx := Lib.hid hx
            have Hx0 := Lib.hid hx0
            have HxV := Lib.hid hxV
            have HxL := Lib.hid hxL
            have Hcz := Lib.hid hcz
            have Hn8 : Hid (na < 100000000) := show na < _ by omega
            clear hx hcl hxV hxL hxr hxm hR3 hx0 hc hcz hccz hcb hmA hfb hfs hna
            generalize hf : numF E (dlt E L l k) = f at *
            have Hf := Lib.hid hf
            clear hf
            obtain ⟨px, hpx⟩ : ∃ px, px = blS S x := ⟨_, rfl⟩
            rw [← hpx] at cx HBx HBm HBl HRx
            have Hpx := Lib.hid hpx
            clear hpx
            go_upto_region 10 with (fail)
            obtain ⟨hw1, hv1⟩ := HW.out
            have apx : apartB [43, 44, 45, 46, 47, 48, 49, 50, 51, 1009] = true := by decide
            refine wp_region_any (by kernel_rfl) ?_
            change wpAny _ _ _ _ _ _ _ (World.drew _)
            refine wpAny_inv2 (fun ll aa wx => Hid (ll.size = 10 ∧ RelM wr ma (LookA ma x c) ll wx) ∧ ∃ (z : Nat → Value), Hid (aa = ⟨#[ptr S.g, undef, .slice none 0 0, .map (some mb), .map (some ma), ptr rd, lv4, ptr bl, undef, ptr px, .tuple #[.map (some mb), .map (some ma)], ptr S.g, .tuple #[.map (some mb), .map (some ma)], .map (some mb), .map (some ma), y15, y16, y17, y18, y19, y20, y21, .slice (some ⟨g, 0, none⟩) R.length cap, .int .i64 R.length, .bool true, .iface 135 (ptr rd), .iface 87 (ptr bl), ptr bl, u6, ptr bl, .slice (some ⟨w2.heap.size, 0, none⟩) 1 1, lv4, .map (some mb), ptr bl, .pointer (some ⟨bl, 0, none⟩), .pointer (some ⟨bl, 0, none⟩), .agg l.c, .slice (some ⟨gs, 0, none⟩) n cA, .int .i64 n, .int .i64 k, .bool true, .pointer (some ⟨gs, k, none⟩), ptr px, z 43, z 44, z 45, z 46, z 47, z 48, z 49, z 50, z 51, u52, u53, u54, u55, u56, u57, u58, u59, u60, u61, u62, u63, undef], []⟩) ∧ Holding [43, 44, 45, 46, 47, 48, 49, 50, 51, 1009] [some (.map (some ma)), some (ptr px), some (.pointer (some ⟨px, 0, none⟩)), some (.pointer (some ⟨px, 0, none⟩)), some (.agg x.c), some (.int .i64 c), some (.int .i64 cz), none, none, none] ll z ∧ Whu ll 7 9 (EntQ 130 ma (if (f x).isSome then na else na + 1) f x) (z 50) wx ∧ Whu ll 8 9 (StQ 130 ma (if (f x).isSome then na else na + 1) f x) (z 51) wx ∧ Whn ll 9 (MapQ ma (if (f x).isSome then na else na + 1) (upd1 f x (some (.int .i64 cz))) wr) (z 1009) wx) ?_ (by kernel_rfl) ?_ ?_ _ rfl _ _ ?_
            · rintro ll aa wx ⟨hI, _⟩
              exact hI.out.1
            · rintro ll aa wx ⟨hI, z, ha, hz, hp7, hp8, hp9⟩ hall
              have hx := Lib.hid hI.out.2
              have e0 : z 43 = .map (some ma) := hz 0 _ (hall 0 (by decide)) rfl
              have e1 : z 44 = ptr px := hz 1 _ (hall 1 (by decide)) rfl
              have e2 : z 45 = .pointer (some ⟨px, 0, none⟩) := hz 2 _ (hall 2 (by decide)) rfl
              have e3 : z 46 = .pointer (some ⟨px, 0, none⟩) := hz 3 _ (hall 3 (by decide)) rfl
              have e4 : z 47 = .agg x.c := hz 4 _ (hall 4 (by decide)) rfl
              have e5 : z 48 = .int .i64 c := hz 5 _ (hall 5 (by decide)) rfl
              have e6 : z 49 = .int .i64 cz := hz 6 _ (hall 6 (by decide)) rfl
              have p9 := hp9.get (hall 9 (by decide))
              clear hall hz hI hp7 hp8 hp9
              obtain rfl := ha.out
              clear ha
              clear apx
              obtain ⟨hM9, hC9⟩ := p9
              rw [if_pos Hfs.out, ← Hf.out, Hcz.out] at hM9
              have hI9 := hI5.out.num (f' := dlt E L l (k + 1)) (x := x) hC9 hM9 Hna.out Hx0.out (fun v hv => by
                have := dlt_next (L := L) Hx.out v
                rw [if_neg hv] at this
                exact this.symm)
              have HI9 := Lib.hid hI9
              have e11 : LookA ma x cz wx := by
                obtain ⟨na9, _, hA9⟩ := hI9.ahd
                exact hA9.lookA x cz (by unfold numF; rw [if_neg Hx0.out, ← Hcz.out]; rfl)
              unfold LookA at e11
              have ex11 := loadVx_eq (HRx.out wx hI9.chg)
              have hR11 := HRx.out wx hI9.chg
              rename World => w9
              have c5 : w9.cell? ⟨rd, 0, none⟩ = some (.slice (some ⟨g3, 0, none⟩) R3.length cap3) := cell_row hI9.cq.box 0
              have hwk : Hid (wrap64 ((k : Int) + 1) = ((k + 1 : Nat) : Int)) := by show _ = _; unfold wrap64; omega
              clear hx hM9 hC9 hI9 hw1 hv1 e0 e1 e2 e3 e4 e5 e6
              generalize z 43 = q43
              generalize z 44 = q44
              generalize z 45 = q45
              generalize z 46 = q46
              generalize z 47 = q47
              generalize z 48 = q48
              generalize z 49 = q49
              generalize z 50 = q50
              generalize z 51 = q51
              by_cases hz : cz = 0
              · have hzI : (cz : Int) = 0 := by omega
                have hPu := hpush_any HI9.out.cq HI9.out.hp HI9.out.nd Hpush.out.1 x Hpush.out.2 (by rw [← Hpx.out]; exact hR11) (by rw [← Hpx.out]; exact HBl.out)
                rw [← Hpx.out] at hPu
                have Hz := Lib.hid hz
                clear hz hR11
                have hwk2 := hwk.out
                go_wp2_with (go_at_call 77; refine hPu.mono ?_; rintro e w12 ⟨g12, cap12, R12, rfl, hcq12, hm12, nd12, hp12, hl12, hg12, hgg12⟩)
                have hI12 := HI9.out.heap hg12 hcq12 hp12 nd12 hgg12
                have hR12 := hR5.out.more Hx.out (by rw [← Hcz.out]; exact Hz.out) HxV.out HxL.out hm12
                clear hwk2
                go_roundw
                case rel => exact ⟨_, _, _, _, _, _, _, _, _, _, _, _, _, _, _, _, _, _, _, _, _, _, _, _, _, _, ⟨k + 1, R12, g12, cap12, hlt, by go_num, hI12, hR12⟩, rfl⟩
                case measure =>
                  simp [intOf]
                  omega
              · have hzI : ¬ (cz : Int) = 0 := by omega
                have hR12 := hR5.out.same Hx.out (by rw [← Hcz.out]; exact hz)
                have HR12 := Lib.hid hR12
                clear hz hR11 hR12
                have hwk2 := hwk.out
                go_wp2
                clear hwk2
                go_roundw
                case rel => exact ⟨_, _, _, _, _, _, _, _, _, _, _, _, _, _, _, _, _, _, _, _, _, _, _, _, _, _, ⟨k + 1, R3, g3, cap3, hlt, by go_num, HI9.out, HR12.out⟩, rfl⟩
                case measure =>
                  simp [intOf]
                  omega
            · rintro ll aa wx i ⟨hI, z, ha, hz, hp7, hp8, hp9⟩ hcl hi hu hw
              obtain rfl := ha.out
              have hsz := Lib.hid hI.out.1
              have hx := Lib.hid hI.out.2
              clear ha hI
              have hin : i < 10 := hi
              obtain rfl | rfl | rfl | rfl | rfl | rfl | rfl | rfl | rfl | rfl : i = 0 ∨ i = 1 ∨ i = 2 ∨ i = 3 ∨ i = 4 ∨ i = 5 ∨ i = 6 ∨ i = 7 ∨ i = 8 ∨ i = 9 := by omega
              · refine wpOp_plain rfl rfl ?_
                go_simp
                exact ⟨⟨by simp [hsz.out], hx.out.same⟩, upd z 43 (.map (some ma)), (by unfold Hid; simp [upd]), hz.next apx hsz.out 0 (by decide) _ (fun _ h => Option.some.inj h), hp7.keep (by decide), hp8.keep (by decide), hp9.keep (by decide)⟩
              · refine wpOp_plain rfl rfl ?_
                go_simp
                exact ⟨⟨by simp [hsz.out], hx.out.same⟩, upd z 44 (ptr px), (by unfold Hid; simp [upd]), hz.next apx hsz.out 1 (by decide) _ (fun _ h => Option.some.inj h), hp7.keep (by decide), hp8.keep (by decide), hp9.keep (by decide)⟩
              · have e1 : z 44 = ptr px := hz 1 _ (hw 1 (by kernel_rfl)) rfl
                refine wpOp_plain rfl rfl ?_
                go_simp
                exact ⟨⟨by simp [hsz.out], hx.out.same⟩, upd z 45 (.pointer (some ⟨px, 0, none⟩)), (by unfold Hid; simp [upd, e1]), hz.next apx hsz.out 2 (by decide) _ (fun _ h => Option.some.inj h), hp7.keep (by decide), hp8.keep (by decide), hp9.keep (by decide)⟩
              · have e2 : z 45 = .pointer (some ⟨px, 0, none⟩) := hz 2 _ (hw 2 (by kernel_rfl)) rfl
                refine wpOp_plain rfl rfl ?_
                go_simp
                exact ⟨⟨by simp [hsz.out], hx.out.same⟩, upd z 46 (.pointer (some ⟨px, 0, none⟩)), (by unfold Hid; simp [upd, e2]), hz.next apx hsz.out 3 (by decide) _ (fun _ h => Option.some.inj h), hp7.keep (by decide), hp8.keep (by decide), hp9.keep (by decide)⟩
              · have e3 : z 46 = .pointer (some ⟨px, 0, none⟩) := hz 3 _ (hw 3 (by kernel_rfl)) rfl
                have cl := loadVx_eq (range_at HBx.out (hx.out.1.block _ (range_lt HBx.out) (by simpa using HBm.out)))
                refine wpOp_plain rfl rfl ?_
                go_simp
                exact ⟨⟨by simp [hsz.out], hx.out.same⟩, upd z 47 (.agg x.c), (by unfold Hid; simp [upd, e3]), hz.next apx hsz.out 4 (by decide) _ (fun _ h => Option.some.inj h), hp7.keep (by decide), hp8.keep (by decide), hp9.keep (by decide)⟩
              · have e0 : z 43 = .map (some ma) := hz 0 _ (hw 0 (by kernel_rfl)) rfl
                have e4 : z 47 = .agg x.c := hz 4 _ (hw 4 (by kernel_rfl)) rfl
                have cl := hx.out.2.1 (no_of (fun hl => hcl 9 5 hl (by kernel_rfl)) hu)
                unfold LookA at cl
                refine wpOp_plain rfl rfl ?_
                go_simp
                exact ⟨⟨by simp [hsz.out], hx.out.same⟩, upd z 48 (.int .i64 c), (by unfold Hid; simp [upd, e0, e4]), hz.next apx hsz.out 5 (by decide) _ (fun _ h => Option.some.inj h), hp7.keep (by decide), hp8.keep (by decide), hp9.keep (by decide)⟩
              · have e5 : z 48 = .int .i64 c := hz 5 _ (hw 5 (by kernel_rfl)) rfl
                refine wpOp_plain rfl rfl ?_
                go_simp
                exact ⟨⟨by simp [hsz.out], hx.out.same⟩, upd z 49 (.int .i64 cz), (by unfold Hid; simp [upd, e5]), hz.next apx hsz.out 6 (by decide) _ (fun _ h => Option.some.inj h), hp7.keep (by decide), hp8.keep (by decide), hp9.keep (by decide)⟩
              · have e0 : z 43 = .map (some ma) := hz 0 _ (hw 0 (by kernel_rfl)) rfl
                have e4 : z 47 = .agg x.c := hz 4 _ (hw 4 (by kernel_rfl)) rfl
                obtain ⟨v0, st, w1, hrun, hc1, hlk, hent⟩ := (HM.out.stay ((hx.out.2.2 hu).block _ HM.out.lt)).entA Hn8.out x c Hfb.out
                refine wpOp_plain rfl rfl ?_
                go_simp
                exact ⟨⟨by simp [hsz.out], hx.out.ent hc1 hlk (by rw [hsz.out]; decide)⟩, upd z 50 (.tuple #[v0, .int .i64 st]), (by unfold Hid; simp [upd, e0, e4]), hz.next apx hsz.out 7 (by decide) _ (fun _ h => by cases h), Whu.done (hent), Whu.never (by decide) (fun hl => hcl 8 7 hl (by kernel_rfl)) hu, Whn.never (by decide) (fun hl => hcl 9 7 hl (by kernel_rfl)) hu⟩
              · have p7 := hp7.get (hw 7 (by kernel_rfl)) (no_of (fun hl => hcl 9 8 hl (by kernel_rfl)) hu)
                obtain ⟨v0, st, hz7, hent⟩ := p7
                refine wpOp_plain rfl rfl ?_
                go_simp
                exact ⟨⟨by simp [hsz.out], hx.out.same⟩, upd z 51 (.int .i64 st), (by unfold Hid; simp [upd, hz7]), hz.next apx hsz.out 8 (by decide) _ (fun _ h => by cases h), hp7.keep (by decide), Whu.done (⟨st, rfl, hent⟩), Whn.never (by decide) (fun hl => hcl 9 8 hl (by kernel_rfl)) hu⟩
              · have e0 : z 43 = .map (some ma) := hz 0 _ (hw 0 (by kernel_rfl)) rfl
                have e6 : z 49 = .int .i64 cz := hz 6 _ (hw 6 (by kernel_rfl)) rfl
                have p8 := hp8.get (hw 8 (by kernel_rfl)) hu
                obtain ⟨st, hz8, hent⟩ := p8
                obtain ⟨w3, hrun, hM3, hc3⟩ := hent (.int .i64 cz) (.inr (.inr (.inl ⟨_, rfl⟩)))
                refine wpOp_plain rfl rfl ?_
                go_simp
                exact ⟨⟨by simp [hsz.out], hx.out.sto hc3 (by rw [hsz.out]; decide) (hw 7 (by kernel_rfl))⟩, upd z 1009 (undef), (by unfold Hid; simp [upd, e0, e6, hz8]), hz.next apx hsz.out 9 (by decide) _ (fun _ h => by cases h), Whu.past (by rw [hsz.out]; decide), Whu.past (by rw [hsz.out]; decide), Whn.done (⟨hM3, hx.out.1.trans hc3⟩)⟩
            · exact ⟨⟨rfl, ⟨Chg.of_below (Below.refl _ _).drew, fun _ => (MapF.stay (w' := wr.drew) HM.out rfl).lookA x c Hfb.out, fun _ => (Below.refl _ _).drew⟩⟩, fun xx => (#[ptr S.g, undef, .slice none 0 0, .map (some mb), .map (some ma), ptr rd, lv4, ptr bl, undef, ptr px, .tuple #[.map (some mb), .map (some ma)], ptr S.g, .tuple #[.map (some mb), .map (some ma)], .map (some mb), .map (some ma), y15, y16, y17, y18, y19, y20, y21, .slice (some ⟨g, 0, none⟩) R.length cap, .int .i64 R.length, .bool true, .iface 135 (ptr rd), .iface 87 (ptr bl), ptr bl, u6, ptr bl, .slice (some ⟨w2.heap.size, 0, none⟩) 1 1, lv4, .map (some mb), ptr bl, .pointer (some ⟨bl, 0, none⟩), .pointer (some ⟨bl, 0, none⟩), .agg l.c, .slice (some ⟨gs, 0, none⟩) n cA, .int .i64 n, .int .i64 k, .bool true, .pointer (some ⟨gs, k, none⟩), ptr px, u43, u44, u45, u46, u47, u48, u49, u50, u51, u52, u53, u54, u55, u56, u57, u58, u59, u60, u61, u62, u63, undef] : Array Value).getD xx undef, (by rfl), Holding.start, Whu.none (by decide), Whu.none (by decide), Whn.none (by decide)⟩
          · have hltI : ¬ (k : Int) < n := by omega
            obtain rfl : k = n := by omega
            have hS := hI5.out.eqf (f' := cntE E (L ++ [l])) (fun v => (dlt_end (by rw [← HN.out]; exact Nat.le_refl _) v).symm)
            have HS := Lib.hid hS
            have HRS5 : Hid (RS (verts (ds S.ps)) (L ++ [l]) (cntE E (L ++ [l])) R3 ∧ Steps (verts (ds S.ps)) (edges (ds S.ps)) (L ++ [l])) := ⟨hR5.out.ended (by rw [← HN.out]; exact Nat.le_refl _), HStep.out⟩
            have HMs : Hid (200001 - sliceLen lv4 < 200001 - sliceLen u6) := by
              have h1 := own_len1 hS.own
              have h2 := Hsl6.out
              have h3 := nodup_len HStep.out.nodup.1 HStep.out.nodup.2
              have h4 := HV.out
              rw [List.length_append, List.length_singleton] at h1 h3
              show _ < _
              rw [h1, h2]
              omega
            clear hS hI5 hR5
            go_wp2
            exact ⟨⟨L ++ [l], R3, g3, cap3, HS.out, HRS5.out⟩, HMs.out⟩
      · have h0I : ¬ (0 : Int) < R.length := by omega
        have h00 : R = [] := List.length_eq_zero_iff.1 (by omega)
        have hno : ∀ v, ¬ Ready (verts (ds S.ps)) (edges (ds S.ps)) L v := fun v hv => by
          have : v ∈ R := (hR.out.1.ready).2 ⟨hv.1, hv.2.1, fun u hu => hv.2.2 u ((HMem.out _).1 hu)⟩
          rw [h00] at this
          cases this
        have HF : Hid (InQ w S (.returned u6) wr) := by
          have hma := HEm.out.maN
          have hs := HEm.out.low.size
          exact ⟨u6, L, rfl, hR.out.2, steps_all HOk.out.adm hR.out.2 hno, own_base hI.out.own hs, hI.out.chg.below HEm.out.low hs (by simpa using hma)⟩
        clear hno h00 hI hR hLn hRn hV9
        go_wp2
        go_ret
        exact HF.out
  · rintro ll aa wx i ⟨hI, z, ha, hz, hp6, hp7, hp8⟩ hcl hi hu hw
    obtain rfl := ha.out
    have hsz := Lib.hid hI.out.1
    have hx := Lib.hid hI.out.2
    clear ha hI
    have hin : i < 9 := hi
    obtain rfl | rfl | rfl | rfl | rfl | rfl | rfl | rfl | rfl : i = 0 ∨ i = 1 ∨ i = 2 ∨ i = 3 ∨ i = 4 ∨ i = 5 ∨ i = 6 ∨ i = 7 ∨ i = 8 := by omega
    · refine wpOp_plain rfl rfl ?_
      go_simp
      exact ⟨⟨by simp [hsz.out], hx.out⟩, upd z 15 (ptr S.g), (by unfold Hid; simp [upd]), hz.next apx hsz.out 0 (by decide) _ (fun _ h => Option.some.inj h), hp6.keep (by decide), hp7.keep (by decide), hp8.keep (by decide)⟩
    · have e0 : z 15 = ptr S.g := hz 0 _ (hw 0 (by kernel_rfl)) rfl
      refine wpOp_plain rfl rfl ?_
      go_simp
      exact ⟨⟨by simp [hsz.out], hx.out⟩, upd z 16 (.pointer (some ⟨S.g, 0, none⟩)), (by unfold Hid; simp [upd, e0]), hz.next apx hsz.out 1 (by decide) _ (fun _ h => Option.some.inj h), hp6.keep (by decide), hp7.keep (by decide), hp8.keep (by decide)⟩
    · have e1 : z 16 = .pointer (some ⟨S.g, 0, none⟩) := hz 1 _ (hw 1 (by kernel_rfl)) rfl
      refine wpOp_plain rfl rfl ?_
      go_simp
      exact ⟨⟨by simp [hsz.out], hx.out⟩, upd z 17 (.pointer (some ⟨S.g, 3, none⟩)), (by unfold Hid; simp [upd, e1]), hz.next apx hsz.out 2 (by decide) _ (fun _ h => Option.some.inj h), hp6.keep (by decide), hp7.keep (by decide), hp8.keep (by decide)⟩
    · have e2 : z 17 = .pointer (some ⟨S.g, 3, none⟩) := hz 2 _ (hw 2 (by kernel_rfl)) rfl
      have cl : wx.cell? ⟨S.g, 3, none⟩ = some (.map (some S.mv)) := (hx.out.cell (p := ⟨S.g, 3, none⟩) (World.block_lt_of_cell? _ _ HG3.out)).trans HG3.out
      refine wpOp_plain rfl rfl ?_
      go_simp
      exact ⟨⟨by simp [hsz.out], hx.out⟩, upd z 18 (.map (some S.mv)), (by unfold Hid; simp [upd, e2]), hz.next apx hsz.out 3 (by decide) _ (fun _ h => Option.some.inj h), hp6.keep (by decide), hp7.keep (by decide), hp8.keep (by decide)⟩
    · have cl := HRt.out wx hx.out
      refine wpOp_plain rfl rfl ?_
      go_simp
      exact ⟨⟨by simp [hsz.out], hx.out⟩, upd z 19 (.agg root.c), (by unfold Hid; simp [upd]), hz.next apx hsz.out 4 (by decide) _ (fun _ h => Option.some.inj h), hp6.keep (by decide), hp7.keep (by decide), hp8.keep (by decide)⟩
    · have e3 : z 18 = .map (some S.mv) := hz 3 _ (hw 3 (by kernel_rfl)) rfl
      have e4 : z 19 = .agg root.c := hz 4 _ (hw 4 (by kernel_rfl)) rfl
      have cl := HLk.out wx hx.out
      refine wpOp_plain rfl rfl ?_
      go_simp
      exact ⟨⟨by simp [hsz.out], hx.out⟩, upd z 20 (ptr S.rb), (by unfold Hid; simp [upd, e3, e4]), hz.next apx hsz.out 5 (by decide) _ (fun _ h => Option.some.inj h), hp6.keep (by decide), hp7.keep (by decide), hp8.keep (by decide)⟩
    · have e5 : z 20 = ptr S.rb := hz 5 _ (hw 5 (by kernel_rfl)) rfl
      refine wpOp_plain rfl rfl ?_
      go_simp
      have lown : Below wx.heap.size wx (wx.alloc (.cells #[ptr S.rb] 87)) := (Below.refl _ _).alloc (Nat.le_refl _) _
      exact ⟨⟨by simp [hsz.out], hx.out.trans (lown.mono hx.out.size)⟩, upd z 21 (.slice (some ⟨wx.heap.size, 0, none⟩) 1 1), (by unfold Hid; simp [upd, e5]), hz.next apx hsz.out 6 (by decide) _ (fun _ h => by cases h), Whu.done (⟨wx.heap.size, rfl, hx.out.size, Go.heap_alloc_new wx _⟩), (hp7.keep (by decide)).map (fun h => h.later lown), Whn.never (by decide) (fun hl => hcl 8 6 hl (by kernel_rfl)) hu⟩
    · refine wpOp_plain rfl rfl ?_
      go_simp
      have lown : Below wx.heap.size wx (wx.alloc (.cells #[nils] 133)) := (Below.refl _ _).alloc (Nat.le_refl _) _
      exact ⟨⟨by simp [hsz.out], hx.out.trans (lown.mono hx.out.size)⟩, upd z 5 (.pointer (some ⟨wx.heap.size, 0, none⟩)), (by unfold Hid; simp [upd]), hz.next apx hsz.out 7 (by decide) _ (fun _ h => by cases h), (hp6.keep (by decide)).map (fun h => h.later lown), Whu.done (⟨wx.heap.size, rfl, hx.out.size, Go.heap_alloc_new wx _⟩), Whn.never (by decide) (fun hl => hcl 8 7 hl (by kernel_rfl)) hu⟩
    · have p6 := hp6.get (hw 6 (by kernel_rfl)) hu
      have p7 := hp7.get (hw 7 (by kernel_rfl)) hu
      obtain ⟨q, hzq, hq1, hq2⟩ := p6
      obtain ⟨rd, hzr, hr1, hr2⟩ := p7
      have cl := cell_row hr2 0
      have fr := free_row hr2 0
      have hst := rdy_store (bl := blS S) hx.out hr1 hr2 hq1 (by rw [← HRb.out]; exact hq2) HRg.out
      have Hst := Lib.hid hst
      clear hst
      refine wpOp_plain rfl rfl ?_
      go_simp
      exact ⟨⟨by simp [hsz.out], (Hst.out).choose_spec.choose_spec.2.2.2⟩, upd z 1008 (undef), (by unfold Hid; simp [upd, hzq, hzr]), hz.next apx hsz.out 8 (by decide) _ (fun _ h => by cases h), Whu.past (by rw [hsz.out]; decide), Whu.past (by rw [hsz.out]; decide), Whn.done ((by show RdyQ w1 (blS S) (z 5) _; rw [hzr]; exact Hst.out))⟩
  · exact ⟨⟨rfl, (Below.refl _ _).drew⟩, fun xx => (#[ptr S.g, undef, .slice none 0 0, .map (some mb), .map (some ma), undef, undef, undef, undef, undef, .tuple #[.map (some mb), .map (some ma)], ptr S.g, .tuple #[.map (some mb), .map (some ma)], .map (some mb), .map (some ma), undef, undef, undef, undef, undef, undef, undef, undef, undef, undef, undef, undef, undef, undef, undef, undef, undef, undef, undef, undef, undef, undef, undef, undef, undef, undef, undef, undef, undef, undef, undef, undef, undef, undef, undef, undef, undef, undef, undef, undef, undef, undef, undef, undef, undef, undef, undef, undef, undef, undef] : Array Value).getD xx undef, (by rfl), Holding.start, Whu.none (by decide), Whu.none (by decide), Whn.none (by decide)⟩
end Go.Proofs.YtnjeppmpnaemlaaDoor.Grf
