/- DERIVED. Texts of ours, merged: XGrfExt XGrfRel XGrfNewA XGrfLaid. -/
import Derived.Test.YtnjeppmpnaemlaaDoorMrk3
import Derived.Laws.Tables
import Derived.Maps.AppendAt
import Derived.OwnWalk
import Derived.Lib.OthersKept
import Derived.Test.YtnjeppmpnaemlaaDoorMrk1
import Derived.Deep.RegionWith
import Derived.Deep.WholeRow
import Derived.ProofKit
import Derived.OpenShut
import Derived.Lib.LaidTab
import Derived.ChangeSame
/- DERIVED. extend: a line at the end of a part's chain. Written by mkext.py. -/
set_option maxRecDepth 100000
namespace Go.Proofs.YtnjeppmpnaemlaaDoor.Grf
open Go.RowKit Str Go.Maps
attribute [local go_sem ↓ high] loadAtVx
/-- a row of pointers of the call's own. -/
def OwnP (base : Nat) (L : List Nat) (v : Value) (w : World) : Prop := w.ownsRow base 87 1 v L.length (L.map ptr)
theorem OwnP.nil (w : World) (base : Nat) : OwnP base [] nils w := World.ownsRow_nil w base 87 1
theorem OwnP.ptrs {base : Nat} {L : List Nat} {v : Value} {w : World} (h : OwnP base L v w) (hn : 0 < L.length) : Ptrs w v L := by
  rcases h.2 with ⟨_, h0⟩ | ⟨g, cap, cur, hv, hb, hg, hn2, hm, hs, ht⟩
  · omega
  · refine ⟨g, cap, hv, hn2, (Array.getElem?_eq_some_iff.1 hg).1, fun j x hx => ?_⟩
    have hj := (List.getElem?_eq_some_iff.1 hx).1
    have k : (L.map ptr)[j]? = some (ptr x) := by rw [List.getElem?_map, hx]; rfl
    rw [← ht, List.getElem?_take, if_pos (by omega)] at k
    rw [cell_row hg]
    simpa using k
theorem OwnP.below {base : Nat} {L : List Nat} {v : Value} {w w' : World} (h : OwnP base L v w) (hb : Below w.heap.size w w') : OwnP base L v w' := own_stays h hb
theorem OwnP.shape {base : Nat} {L : List Nat} {v : Value} {w : World} (h : OwnP base L v w) : ∃ A c, v = .slice A L.length c := by
  rcases h.2 with ⟨e, h0⟩ | ⟨g, cap, cur, hv, _⟩
  · rw [h0, e]; exact ⟨none, 0, rfl⟩
  · exact ⟨_, _, hv⟩
theorem infoPz : (Tryd.prog.info? 87).map (fun i => (i.zero, i.size, i.bytes)) = some (some (.pointer none), 1, 8) := by kernel_rfl
/-- append(m, x), x laid in a block of its own. -/
theorem wpList_append_ptr {w : World} {ops : Array Oper} {rest : List Oper} {o : Oper} {a : Act} {Q : Exit → Act → World → Prop} (hgd : o.guard = none) (s y : Operand)
    (ho : o.op = .call { callee := .builtin .append, args := #[s, y], argTypes := #[88, 88] }) (base : Nat) (v : Value) (L : List Nat) (x : Nat) (hs : a.eval s = v) (hown : OwnP base L v w)
    (hy : a.eval y = .slice (some ⟨w.heap.size, 0, none⟩) 1 1) (h63 : L.length ≤ 1000000) (hbase : base ≤ w.heap.size)
    (h : ∀ v' w', OwnP base (L ++ [x]) v' w' → w.grownBy w' v.ownBlock → (v'.ownBlock = v.ownBlock ∨ v'.ownBlock = some (w.heap.size + 1)) → wpList Tryd.prog ops Q rest (a.put o.dst v') w') : wpList Tryd.prog ops Q (o :: rest) a (w.alloc (.cells #[ptr x] 87)) := by
  obtain ⟨i0, hi0, hz00, hz10, hz20⟩ := info_parts infoPz
  refine wpList_append_own_at _ hgd s y 88 ho base 87 i0 (.pointer none) 1 8 Tryd.underlying88 hi0 hz00 hz10 hz20 rfl (by decide) v L.length (L.map ptr) hs (hown.alloc _) ⟨w.heap.size, 0, none⟩ 1 1 [ptr x] hy rfl
    (fun j u hu => ?_) (fun u hu => ?_) (by unfold maxLen; omega) (by omega) (by rw [World.size_alloc]; omega) ?_
  · have hg : (w.alloc (.cells #[ptr x] 87)).heap[w.heap.size]? = some (.cells #[ptr x] 87 (0, 0)) := heap_alloc_new _ _
    rw [Addr.add_mid, Nat.zero_add, cell_row hg]
    simpa using hu
  · simp only [List.mem_cons, List.mem_nil_iff, or_false] at hu
    subst hu; rfl
  · intro v' w' hown' hgrow _ hloc
    refine h v' w' ?_ ((World.grownBy_alloc w _ _).trans hgrow) (by rw [World.size_alloc] at hloc; exact hloc)
    unfold OwnP
    rw [List.length_append, List.map_append]
    exact hown'
theorem ty_ne {w : World} {b T U : Nat} {C D : Array Value} {fr fr' : Nat × Nat} (h : w.heap[b]? = some (.cells C T fr)) (k : w.heap[b]? = some (.cells D U fr')) (hne : T ≠ U) : False := by
  rw [h] at k
  exact hne (by simpa using (Option.some.inj k |> fun e => (Obj.cells.inj e).2.1))
theorem grown_setCell (w : World) (p : Addr) (u : Value) : w.grownBy (w.setCell p u) (some p.block) :=
  ⟨rfl, rfl, rfl, by simp [World.setCell], fun k _ hk => Below.heap_setCell _ _ _ _ (fun e => hk (by rw [e]))⟩
/-- what extend leaves. -/
structure ExQ (base pb : Nat) (d : PD) (lnv gnv : Value) (rank : Int) (users : Int) (L : List Nat) (cv : Value) (v : Vx) (s : ByteArray) (w : World) (lb : Nat) (cv' : Value) (w' : World) : Prop where
  new : w.heap.size ≤ lb
  line : LRow w' lb v s pb (L.length : Int) 0
  part : PRow w' pb d lnv gnv rank cv' users
  own : OwnP base (L ++ [lb]) cv' w'
  os : w'.os = w.os
  tape : w'.tape = w.tape
  output : w'.output = w.output
  size : w.heap.size ≤ w'.heap.size
  block : ∀ k, k < w.heap.size → k ≠ pb → cv.ownBlock ≠ some k → w'.heap[k]? = w.heap[k]?
  loc : cv'.ownBlock = cv.ownBlock ∨ ∃ k, cv'.ownBlock = some k ∧ w.heap.size ≤ k
theorem fun_of (C : Array Value) (n : Nat) (h : C.size = n) : ∃ f : Nat → Value, C = ((List.range n).map f).toArray := by
  refine ⟨fun j => C.getD j undef, ?_⟩
  apply Array.ext
  · simp [h]
  · intro i h1 h2
    simp [Array.getD, h1]
theorem built_lineF (f : Nat → Value) (s : ByteArray) (pb : Nat) (n : Int) : Tryd.prog.built 99 [(0, .agg ((List.range 33).map f).toArray), (1, .string s), (2, ptr pb), (3, .int .i64 n)] = some (((List.range 33).map f).toArray.toList ++ [Value.string s, ptr pb, .int .i64 n, .int .i64 0]).toArray := by kernel_rfl
theorem built_line (v : Vx) (s : ByteArray) (pb : Nat) (n : Int) : Tryd.prog.built 99 [(0, .agg v.c), (1, .string s), (2, ptr pb), (3, .int .i64 n)] = some (lineC v s pb n 0) := by
  obtain ⟨f, hf⟩ := fun_of v.c 33 v.c_size
  unfold lineC
  rw [hf]
  exact built_lineF f s pb n
theorem wp_buildV {o : Oper} {a : Act} {w : World} {K : Act → World → Prop} {Q : Exit → Act → World → Prop} (t : TypeId) (parts : Array (Nat × Operand)) (ho : o.op = .build t parts) (cells : Array Value)
    (hf : Tryd.prog.built t (parts.map fun (i, x) => (i, a.eval x)).toList = some cells) (h : K (a.put o.dst (.agg cells)) w) : o.wp Tryd.prog a w K Q :=
  wp_build t parts ho (by rw [hf]; rfl) (by rw [hf]; exact h)
/-- a line just laid. -/
def BoxL (B : Nat) (v : Vx) (s : ByteArray) (pb : Nat) (n : Int) (z : Value) (w : World) : Prop := ∃ q, z = ptr q ∧ B ≤ q ∧ LRow w q v s pb n 0
theorem BoxL.later {B : Nat} {v : Vx} {s : ByteArray} {pb : Nat} {n : Int} {z : Value} {w w' : World} (h : BoxL B v s pb n z w) (hb : Below w.heap.size w w') : BoxL B v s pb n z w' := by
  obtain ⟨q, h1, h2, h3⟩ := h
  exact ⟨q, h1, h2, at_below h3 hb⟩
theorem lineC_build (v : Vx) (s : ByteArray) (pb : Nat) (n : Int) : lineC v s pb n 0 = (v.c.toList ++ [Value.string s, ptr pb, .int .i64 n, .int .i64 0]).toArray := rfl
set_option maxHeartbeats 4000000 in
theorem extend_any (base pb : Nat) (d : PD) (lnv gnv : Value) (rank : Int) (users : Int) (L : List Nat) (cv : Value) (v : Vx) (s : ByteArray) (w : World) (hp : PRow w pb d lnv gnv rank cv users) (hown : OwnP base L cv w) (hL : L.length ≤ 1000000) (hb : base ≤ w.heap.size) :
    Calls Tryd.prog 43 #[ptr pb, .agg v.c, .string s] w fun e w' => ∃ lb cv', e = .returned (ptr lb) ∧ ExQ base pb d lnv gnv rank users L cv v s w lb cv' w' := by
  have hlow := (Below.refl w.heap.size w).alloc (Nat.le_refl _) (.cells v.c 27)
  have hnew := Go.heap_alloc_new w (.cells v.c 27)
  obtain ⟨w1, hw1⟩ : ∃ w1, w1 = w.alloc (.cells v.c 27) := ⟨_, rfl⟩
  rw [← hw1] at hlow hnew
  have HW := Lib.hid hw1.symm
  have Hlow := Lib.hid hlow
  have hp1 : PRow w1 pb d lnv gnv rank cv users := at_below hp hlow
  have HP1 := Lib.hid hp1
  have Hown1 := Lib.hid (hown.below hlow)
  obtain ⟨bx, hbx⟩ : ∃ bx, bx = w.heap.size := ⟨_, rfl⟩
  rw [← hbx] at hnew
  have Hbx := Lib.hid hbx
  have HNew := Lib.hid hnew
  have c3 := hp1.chn
  obtain ⟨A, c, hA⟩ := hown.shape
  have HA := Lib.hid hA
  rw [hA] at c3
  have HC3 := Lib.hid c3
  have hnL : L.length ≤ 1000000 := hL
  have HL := Lib.hid hL
  have HB := Lib.hid hb
  clear hp c3 hL hb hown hw1 hlow hnew hbx hp1 hA
  go_enter Tryd.func43, Tryd.ntmps43
  go_upto_region 1 with (fail)
  rw [HW.out, ← Hbx.out]
  have apx : apartB [8, 9, 10, 11, 12, 13, 14, 15, 16, 17, 7] = true := by decide
  refine wp_region_any (by kernel_rfl) ?_
  change wpAny _ _ _ _ _ _ _ (World.drew _)
  refine wpAny_inv (fun ll aa wx => Hid (ll.size = 11 ∧ Below w1.heap.size w1 wx) ∧ ∃ (z : Nat → Value), Hid (aa = ⟨#[ptr pb, .agg v.c, .string s, undef, .pointer (some ⟨bx, 0, none⟩), undef, .pointer none, z 7, z 8, z 9, z 10, z 11, z 12, z 13, z 14, z 15, z 16, z 17, undef, undef, undef, undef, undef, undef, undef, undef, undef, undef, undef], []⟩) ∧ Holding [8, 9, 10, 11, 12, 13, 14, 15, 16, 17, 7] [some (.agg v.c), some (.string s), some (ptr pb), some (ptr pb), some (.pointer (some ⟨pb, 0, none⟩)), some (.pointer (some ⟨pb, 103, none⟩)), some (.slice A L.length c), some (.int .i64 L.length), some (.agg (lineC v s pb L.length 0)), none, none] ll z ∧ Whn ll 9 (BoxL w1.heap.size v s pb L.length) (z 17) wx ∧ Whn ll 10 (BoxL w1.heap.size v s pb L.length) (z 7) wx) ?_ (by kernel_rfl) ?_ ?_ _ _ _ _ (unlisted_none _) ?_
  · rintro ll aa wx ⟨hI, _⟩
    exact hI.out.1
  · rintro ll aa wx ⟨hI, z, ha, hz, hp9, hp10⟩ hall
    have hx := Lib.hid hI.out.2
    have e0 : z 8 = .agg v.c := hz 0 _ (hall 0 (by decide)) rfl
    have e1 : z 9 = .string s := hz 1 _ (hall 1 (by decide)) rfl
    have e2 : z 10 = ptr pb := hz 2 _ (hall 2 (by decide)) rfl
    have e3 : z 11 = ptr pb := hz 3 _ (hall 3 (by decide)) rfl
    have e4 : z 12 = .pointer (some ⟨pb, 0, none⟩) := hz 4 _ (hall 4 (by decide)) rfl
    have e5 : z 13 = .pointer (some ⟨pb, 103, none⟩) := hz 5 _ (hall 5 (by decide)) rfl
    have e6 : z 14 = .slice A L.length c := hz 6 _ (hall 6 (by decide)) rfl
    have e7 : z 15 = .int .i64 L.length := hz 7 _ (hall 7 (by decide)) rfl
    have e8 : z 16 = .agg (lineC v s pb L.length 0) := hz 8 _ (hall 8 (by decide)) rfl
    have p9 := hp9.get (hall 9 (by decide))
    have p10 := hp10.get (hall 10 (by decide))
    clear hall hz hI hp9 hp10
    obtain rfl := ha.out
    clear ha
    clear apx
    obtain ⟨q, hq, hbq, hlq⟩ := p10
    have HX := Lib.hid hx.out
    have HLq := Lib.hid hlq
    have Hbq := Lib.hid hbq
    clear e0 e1 e2 e3 e4 e5 e6 e7 e8 hx p9 hlq hbq
    rw [hq]
    clear hq
    rename World => w5
    have hp5 : PRow w5 pb d lnv gnv rank cv users := at_below HP1.out HX.out
    have HP5 := Lib.hid hp5
    have Hown5 := Lib.hid (Hown1.out.below HX.out)
    have c5 := hp5.chn
    rw [HA.out] at c5
    have HBx : Hid (base ≤ w5.heap.size) := Nat.le_trans HB.out (Nat.le_trans Hlow.out.size HX.out.size)
    clear hp5
    generalize z 8 = y8
    generalize z 9 = y9
    generalize z 10 = y10
    generalize z 11 = y11
    generalize z 12 = y12
    generalize z 13 = y13
    generalize z 14 = y14
    generalize z 15 = y15
    generalize z 16 = y16
    generalize z 17 = y17
    go_upto_region 3 with (at_builtin; refine wpList_append_ptr rfl _ _ rfl base (.slice A L.length c) L q rfl (by rw [← HA.out]; exact Hown5.out) rfl hnL HBx.out ?_; intro v6 w6 hown6 hgrow6 hloc6; obtain ⟨A6, c6, rfl⟩ := hown6.shape; have hp6 : PRow w6 pb d lnv gnv rank cv users := (hgrow6.block pb (Array.getElem?_eq_some_iff.1 HP5.out).1 (fun e => Lib.ownBlock_ne Hown5.out HP5.out (by decide) (by rw [HA.out]; exact e.symm))).trans HP5.out; have HP6 := Lib.hid hp6; have d3 := hp6.chn; have f3 := free_row hp6 103; rw [HA.out] at d3; have Hown6 := Lib.hid hown6; have Hgrow6 := Lib.hid hgrow6; have Hloc6 := Lib.hid hloc6; clear hp6 hown6 hgrow6 hloc6 c5)
    go_wp2
    go_ret
    have hne := Lib.ownBlock_ne Hown6.out HP6.out (by decide)
    have hq6 : LRow w6 q v s pb L.length 0 := (Hgrow6.out.block q (Array.getElem?_eq_some_iff.1 HLq.out).1 (fun e => Lib.ownBlock_ne Hown5.out HLq.out (by decide) (by rw [HA.out]; exact e.symm))).trans HLq.out
    have hqp : q ≠ pb := fun e => by
      have h1 := hq6
      unfold LRow at h1
      rw [e] at h1
      exact ty_ne h1 HP6.out (by decide)
    have sz1 := Hlow.out.size
    have sz5 := HX.out.size
    have sz6 := Hgrow6.out.size
    refine ⟨q, .slice A6 (L.length + 1) c6, rfl, ?_⟩
    exact {
      new := Nat.le_trans sz1 Hbq.out
      line := (Below.heap_setCell _ _ _ _ hqp).trans hq6
      part := HP6.out.setChn _
      own := by
        have h9 : OwnP base (L ++ [q]) (.slice A6 (L.length + 1) c6) w6 := by simpa using Hown6.out
        exact World.ownsRow.kept h9 (grown_setCell w6 ⟨pb, 103, none⟩ _) (.inr (by simpa using hne))
      os := Hgrow6.out.os.trans (HX.out.os.trans Hlow.out.os)
      tape := Hgrow6.out.tape.trans (HX.out.tape.trans Hlow.out.tape)
      output := Hgrow6.out.output.trans (HX.out.output.trans Hlow.out.output)
      size := by simp only [World.size_setCell]; omega
      block := fun k hk h1 h2 => by
        rw [Below.heap_setCell _ _ _ _ h1]
        exact (Hgrow6.out.block k (by omega) (fun e => h2 (by rw [HA.out]; exact e.symm))).trans ((HX.out.block k (by omega)).trans (Hlow.out.block k hk))
      loc := by
        rcases Hloc6.out with h | h
        · left; rw [HA.out]; simpa using h
        · right; exact ⟨_, by simpa using h, by omega⟩ }
  · rintro ll aa wx i ⟨hI, z, ha, hz, hp9, hp10⟩ hi hu hw
    obtain rfl := ha.out
    have hsz := Lib.hid hI.out.1
    have hx := Lib.hid hI.out.2
    clear ha hI
    have hin : i < 11 := hi
    obtain rfl | rfl | rfl | rfl | rfl | rfl | rfl | rfl | rfl | rfl | rfl : i = 0 ∨ i = 1 ∨ i = 2 ∨ i = 3 ∨ i = 4 ∨ i = 5 ∨ i = 6 ∨ i = 7 ∨ i = 8 ∨ i = 9 ∨ i = 10 := by omega
    · have cl := (hx.out.block _ (Array.getElem?_eq_some_iff.1 HNew.out).1).trans HNew.out
      refine wpOp_plain rfl rfl (wp_load_row 27 (.tmp 4) rfl (bx) rfl 27 v.c (0, 0) _ cl Tryd.underlying27 rfl (infoVxA v) ?_)
      go_simp
      exact ⟨⟨by simp [hsz.out], hx.out⟩, upd z 8 (.agg v.c), (by unfold Hid; simp [upd]), hz.next apx hsz.out 0 (by decide) _ (fun _ h => Option.some.inj h), hp9.keep (by decide), hp10.keep (by decide)⟩
    · refine wpOp_plain rfl rfl ?_
      go_simp
      exact ⟨⟨by simp [hsz.out], hx.out⟩, upd z 9 (.string s), (by unfold Hid; simp [upd]), hz.next apx hsz.out 1 (by decide) _ (fun _ h => Option.some.inj h), hp9.keep (by decide), hp10.keep (by decide)⟩
    · refine wpOp_plain rfl rfl ?_
      go_simp
      exact ⟨⟨by simp [hsz.out], hx.out⟩, upd z 10 (ptr pb), (by unfold Hid; simp [upd]), hz.next apx hsz.out 2 (by decide) _ (fun _ h => Option.some.inj h), hp9.keep (by decide), hp10.keep (by decide)⟩
    · refine wpOp_plain rfl rfl ?_
      go_simp
      exact ⟨⟨by simp [hsz.out], hx.out⟩, upd z 11 (ptr pb), (by unfold Hid; simp [upd]), hz.next apx hsz.out 3 (by decide) _ (fun _ h => Option.some.inj h), hp9.keep (by decide), hp10.keep (by decide)⟩
    · have e3 : z 11 = ptr pb := hz 3 _ (hw 3 (by kernel_rfl)) rfl
      refine wpOp_plain rfl rfl ?_
      go_simp
      exact ⟨⟨by simp [hsz.out], hx.out⟩, upd z 12 (.pointer (some ⟨pb, 0, none⟩)), (by unfold Hid; simp [upd, e3]), hz.next apx hsz.out 4 (by decide) _ (fun _ h => Option.some.inj h), hp9.keep (by decide), hp10.keep (by decide)⟩
    · have e4 : z 12 = .pointer (some ⟨pb, 0, none⟩) := hz 4 _ (hw 4 (by kernel_rfl)) rfl
      refine wpOp_plain rfl rfl ?_
      go_simp
      exact ⟨⟨by simp [hsz.out], hx.out⟩, upd z 13 (.pointer (some ⟨pb, 103, none⟩)), (by unfold Hid; simp [upd, e4]), hz.next apx hsz.out 5 (by decide) _ (fun _ h => Option.some.inj h), hp9.keep (by decide), hp10.keep (by decide)⟩
    · have e5 : z 13 = .pointer (some ⟨pb, 103, none⟩) := hz 5 _ (hw 5 (by kernel_rfl)) rfl
      have cl : wx.cell? ⟨pb, 103, none⟩ = some (.slice A L.length c) := (hx.out.cell (p := ⟨pb, 103, none⟩) (World.block_lt_of_cell? _ _ HC3.out)).trans HC3.out
      refine wpOp_plain rfl rfl ?_
      go_simp
      exact ⟨⟨by simp [hsz.out], hx.out⟩, upd z 14 (.slice A L.length c), (by unfold Hid; simp [upd, e5]), hz.next apx hsz.out 6 (by decide) _ (fun _ h => Option.some.inj h), hp9.keep (by decide), hp10.keep (by decide)⟩
    · have e6 : z 14 = .slice A L.length c := hz 6 _ (hw 6 (by kernel_rfl)) rfl
      refine wpOp_plain rfl rfl ?_
      go_simp
      exact ⟨⟨by simp [hsz.out], hx.out⟩, upd z 15 (.int .i64 L.length), (by unfold Hid; simp [upd, e6]), hz.next apx hsz.out 7 (by decide) _ (fun _ h => Option.some.inj h), hp9.keep (by decide), hp10.keep (by decide)⟩
    · have e0 : z 8 = .agg v.c := hz 0 _ (hw 0 (by kernel_rfl)) rfl
      have e1 : z 9 = .string s := hz 1 _ (hw 1 (by kernel_rfl)) rfl
      have e2 : z 10 = ptr pb := hz 2 _ (hw 2 (by kernel_rfl)) rfl
      have e7 : z 15 = .int .i64 L.length := hz 7 _ (hw 7 (by kernel_rfl)) rfl
      refine wpOp_plain rfl rfl (wp_buildV 99 #[(0, .tmp 8), (1, .tmp 9), (2, .tmp 10), (3, .tmp 15)] rfl (lineC v s pb L.length 0) (by simp only [List.map_toArray, List.map_cons, List.map_nil]; show Tryd.prog.built _ [(0, z 8), (1, z 9), (2, z 10), (3, z 15)] = _; rw [e0, e1, e2, e7]; exact built_line v s pb L.length) ?_)
      go_simp
      exact ⟨⟨by simp [hsz.out], hx.out⟩, upd z 16 (.agg (lineC v s pb L.length 0)), (by unfold Hid; simp [upd, e0, e1, e2, e7]), hz.next apx hsz.out 8 (by decide) _ (fun _ h => Option.some.inj h), hp9.keep (by decide), hp10.keep (by decide)⟩
    · have e8 : z 16 = .agg (lineC v s pb L.length 0) := hz 8 _ (hw 8 (by kernel_rfl)) rfl
      refine wpOp_plain rfl rfl ?_
      go_simp
      have lown : Below wx.heap.size wx (wx.alloc (.cells (lineC v s pb L.length 0) 99)) := (Below.refl _ _).alloc (Nat.le_refl _) _
      exact ⟨⟨by simp [hsz.out], hx.out.trans (lown.mono hx.out.size)⟩, upd z 17 (ptr wx.heap.size), (by unfold Hid; simp [upd, e8]), hz.next apx hsz.out 9 (by decide) _ (fun _ h => by cases h), Whn.done (⟨wx.heap.size, rfl, hx.out.size, Go.heap_alloc_new wx _⟩), (hp10.keep (by decide)).map (fun h => h.later lown)⟩
    · have p9 := hp9.get (hw 9 (by kernel_rfl))
      refine wpOp_plain rfl rfl ?_
      go_simp
      exact ⟨⟨by simp [hsz.out], hx.out⟩, upd z 7 (z 17), (by unfold Hid; simp [upd]), hz.next apx hsz.out 10 (by decide) _ (fun _ h => by cases h), hp9.keep (by decide), Whn.done (p9)⟩
  · exact ⟨⟨rfl, (Below.refl _ _).drew⟩, fun xx => (#[ptr pb, .agg v.c, .string s, undef, .pointer (some ⟨bx, 0, none⟩), undef, .pointer none, undef, undef, undef, undef, undef, undef, undef, undef, undef, undef, undef, undef, undef, undef, undef, undef, undef, undef, undef, undef, undef, undef] : Array Value).getD xx undef, (by rfl), Holding.start, Whn.none (by decide), Whn.none (by decide)⟩
end Go.Proofs.YtnjeppmpnaemlaaDoor.Grf
/- DERIVED. A drawn region with one operation that writes: nothing old changes until it comes, from then on only these blocks. -/
namespace Go.Proofs.YtnjeppmpnaemlaaDoor.Grf
open Go.RowKit
def RelC (q : Nat) (S : List Nat) (W : World) (ll : Array Bool) (wx : World) : Prop := Chg S W wx ∧ (ll.getD q false = false → Below W.heap.size W wx)
theorem setC_false {l : Array Bool} {i j : Nat} (h : (l.setIfInBounds i true).getD j false = false) : l.getD j false = false := by
  cases e : l.getD j false with
  | false => rfl
  | true => rw [getD_set_true e] at h; cases h
theorem RelC.start {q : Nat} {S : List Nat} {W : World} {ll : Array Bool} : RelC q S W ll W.drew := ⟨Chg.of_below (Below.refl _ _).drew, fun _ => (Below.refl _ _).drew⟩
theorem RelC.same {q i : Nat} {S : List Nat} {W wx : World} {ll : Array Bool} (h : RelC q S W ll wx) : RelC q S W (ll.setIfInBounds i true) wx := ⟨h.1, fun hl => h.2 (setC_false hl)⟩
theorem RelC.call {q i : Nat} {S : List Nat} {W wx w' : World} {ll : Array Bool} (h : RelC q S W ll wx) (k : Below wx.heap.size wx w') : RelC q S W (ll.setIfInBounds i true) w' :=
  ⟨h.1.trans (Chg.of_below k), fun hl => (h.2 (setC_false hl)).trans (k.mono h.1.size)⟩
theorem RelC.wr {q : Nat} {S : List Nat} {W wx w' : World} {ll : Array Bool} (h : RelC q S W ll wx) (k : Chg S wx w') (hq : q < ll.size) : RelC q S W (ll.setIfInBounds q true) w' :=
  ⟨h.1.trans k, fun hl => by simp [hq] at hl⟩
theorem RelC.more {q i : Nat} {S : List Nat} {W wx w' : World} {ll : Array Bool} (h : RelC q S W ll wx) (k : Chg S wx w') (hc : ll.getD q false = true) : RelC q S W (ll.setIfInBounds i true) w' :=
  ⟨h.1.trans k, fun hl => by have := setC_false hl; rw [hc] at this; cases this⟩
theorem RelC.cell {q : Nat} {S : List Nat} {W wx : World} {ll : Array Bool} (h : RelC q S W ll wx) {p : Addr} {v : Value} (hc : W.cell? p = some v) (hp : p.block ∉ S) : wx.cell? p = some v :=
  (World.cell?_of_block (h.1.block p.block (World.block_lt_of_cell? W p hc) hp)).trans hc
theorem RelC.at {q : Nat} {S : List Nat} {W wx : World} {ll : Array Bool} (h : RelC q S W ll wx) {b : Nat} {o : Obj} (hc : W.heap[b]? = some o) (hp : b ∉ S) : wx.heap[b]? = some o :=
  (h.1.block b (Array.getElem?_eq_some_iff.1 hc).1 hp).trans hc
end Go.Proofs.YtnjeppmpnaemlaaDoor.Grf
/- DERIVED. New: a graph without parts. -/
set_option maxRecDepth 100000
namespace Go.Proofs.YtnjeppmpnaemlaaDoor.Grf
open Go.RowKit Str Go.Maps
attribute [local go_sem ↓ high] loadAtVx
/-- the two package variables. -/
structure Laid (w : World) : Prop where
  r : w.rangeAt 0 0 root.c.toList
  e : w.rangeAt 1 0 fin.c.toList
theorem range_lt {w : World} {b : Nat} {v : Vx} (h : w.rangeAt b 0 v.c.toList) : b < w.heap.size :=
  World.block_lt_of_cell? _ _ (h 0 _ (List.getElem?_eq_getElem (by rw [Array.length_toList, v.c_size]; decide)))
theorem range_at {w w' : World} {b o : Nat} {L : List Value} (h : w.rangeAt b o L) (hb : w'.heap[b]? = w.heap[b]?) : w'.rangeAt b o L := fun j v hv => (World.cell?_of_block hb).trans (h j v hv)
theorem Laid.below {w w' : World} {B : Nat} (h : Laid w) (hb : Below B w w') (hB : w.heap.size ≤ B) : Laid w' :=
  ⟨range_at h.r (hb.block _ (Nat.lt_of_lt_of_le (range_lt h.r) hB)), range_at h.e (hb.block _ (Nat.lt_of_lt_of_le (range_lt h.e) hB))⟩
theorem built_twoF (f g : Nat → Value) : Tryd.prog.built 91 [(0, .agg ((List.range 33).map f).toArray), (1, .agg ((List.range 33).map g).toArray)] = some (((List.range 33).map f) ++ ((List.range 33).map g)).toArray := by kernel_rfl
theorem built_two (a b : Vx) : Tryd.prog.built 91 [(0, .agg a.c), (1, .agg b.c)] = some (a.c.toList ++ b.c.toList).toArray := by
  obtain ⟨f, hf⟩ := fun_of a.c 33 a.c_size
  obtain ⟨g, hg⟩ := fun_of b.c 33 b.c_size
  rw [hf, hg]
  exact built_twoF f g
theorem fold_twoF (f g : Nat → Value) : Array.foldl (fun (cs : Array Value) (x : Value × Nat) => cs.setIfInBounds (33 + x.snd) x.fst) (Array.foldl (fun (cs : Array Value) (x : Value × Nat) => cs.setIfInBounds x.snd x.fst) Tryd.zeroCells91 ((List.range 33).map f).toArray.zipIdx 0 ((List.range 33).map f).toArray.size) ((List.range 33).map g).toArray.zipIdx 0 ((List.range 33).map g).toArray.size = (((List.range 33).map f) ++ ((List.range 33).map g)).toArray := by kernel_rfl
theorem fold_two (a b : Vx) : Array.foldl (fun (cs : Array Value) (x : Value × Nat) => cs.setIfInBounds (33 + x.snd) x.fst) (Array.foldl (fun (cs : Array Value) (x : Value × Nat) => cs.setIfInBounds x.snd x.fst) Tryd.zeroCells91 a.c.zipIdx 0 a.c.size) b.c.zipIdx 0 b.c.size = (a.c.toList ++ b.c.toList).toArray := by
  obtain ⟨f, hf⟩ := fun_of a.c 33 a.c_size
  obtain ⟨g, hg⟩ := fun_of b.c 33 b.c_size
  rw [hf, hg]
  exact fold_twoF f g
theorem two_at (a b : Vx) : (a.c.toList ++ b.c.toList).toArray.extract 0 33 = a.c ∧ (a.c.toList ++ b.c.toList).toArray.extract 33 66 = b.c := by
  have ha := a.c_size
  have hb := b.c_size
  refine ⟨arr_eq ?_, arr_eq ?_⟩
  · rw [Array.toList_extract]
    simp only [List.extract_eq_take_drop, List.drop_zero]
    exact List.take_left' (by rw [Array.length_toList, ha])
  · rw [Array.toList_extract]
    simp only [List.extract_eq_take_drop]
    rw [List.drop_left' (by rw [Array.length_toList, ha])]
    exact List.take_of_length_le (by rw [Array.length_toList, hb]; decide)
theorem part_zero : (partC pd0 nils nils 0 nils 0).toList = (List.replicate 32 (Value.int .u8 0) ++ [Value.int .i64 0, .int .i64 0] ++ List.replicate 32 (Value.int .u8 0) ++ [Value.int .i64 0] ++ List.replicate 32 (Value.int .u8 0) ++ [Value.int .i64 0, nils, nils, .int .i64 0, nils, .int .i64 0]) := by
  simp [partC, givC, pd0, zeroVx, Vx.c]
theorem zero_part : Tryd.zeroCells90 = partC pd0 nils nils 0 nils 0 := by kernel_rfl
theorem MapF.empty (k : TypeId) {w : World} {b : Nat} (h : w.heap[b]? = some (.map #[] 0)) : MapF k w b 0 (fun _ => none) := by
  obtain ⟨D, ⟨es, clock, h1, h2⟩, h3⟩ := MapF.made k w
  have h0 := Go.heap_alloc_new w (.map #[] 0)
  rw [h0] at h1
  exact ⟨D, ⟨es, clock, h.trans h1, h2⟩, h3⟩
theorem infoVs : (Tryd.prog.info? 27).map (·.size) = some 33 := by kernel_rfl
theorem idx_at (C : Array Value) (j : Nat) (hj : j < 2) (w : World) : (Instr.index 91 (.agg C) (.int .i64 j)).run Tryd.prog w = .ok (.agg (C.extract (j * 33) (j * 33 + 33))) w := by
  obtain ⟨i, hi, hs⟩ : ∃ i, Tryd.prog.info? 27 = some i ∧ i.size = 33 := by simpa [Option.map_eq_some_iff] using infoVs
  simp [Instr.index, asIntOf, run_underlying Tryd.underlying91, sizeOf, typeInfo, hi, hs, part, isAgg, run_underlying Tryd.underlying27]
  intro h; omega
/-- the vertex that comes k-th. -/
def vk (k : Nat) : Vx := if k = 0 then root else fin
/-- which line a vertex has, of those that are there. -/
def fk (L : List Nat) (v : Vx) : Option Nat := if v = root then L[0]? else if v = fin then L[1]? else none
/-- New under way. -/
structure NI (w : World) (F P V G : Nat) (k : Nat) (wr : World) : Prop where
  gr : wr.heap[G]? = some (.cells #[.pointer none, ptr F, .map (some P), .map (some V), .int .i64 0] 38 (0, 0))
  mapP : MapF 95 wr P 0 (fun _ => none)
  low : Below w.heap.size w wr
  rest : ∃ cv L, PRow wr F pd0 nils nils 0 cv 0 ∧ OwnP w.heap.size L cv wr ∧ L.length = k ∧ (∀ (j b : Nat), L[j]? = some b → LRow wr b (vk j) ByteArray.empty F j 0 ∧ w.heap.size ≤ b) ∧ MapF 27 wr V k (fun v => (fk L v).map ptr)
theorem at_ex {base pb : Nat} {d : PD} {lnv gnv : Value} {rank users : Int} {L : List Nat} {cv : Value} {v : Vx} {s : ByteArray} {w : World} {lb : Nat} {cv' : Value} {w' : World} (h : ExQ base pb d lnv gnv rank users L cv v s w lb cv' w') {k : Nat} {o : Obj} (hk : w.heap[k]? = some o) (h1 : k ≠ pb) (h2 : cv.ownBlock ≠ some k) : w'.heap[k]? = some o :=
  (h.block k (Array.getElem?_eq_some_iff.1 hk).1 h1 h2).trans hk
theorem map_ex {base pb : Nat} {d : PD} {lnv gnv : Value} {rank users : Int} {L : List Nat} {cv : Value} {v : Vx} {s : ByteArray} {w : World} {lb : Nat} {cv' : Value} {w' : World} (h : ExQ base pb d lnv gnv rank users L cv v s w lb cv' w') {k : TypeId} {b n : Nat} {f : Vx → Option Value} (hm : MapF k w b n f) (hp : PRow w pb d lnv gnv rank cv users) (ho : OwnP base L cv w) : w'.heap[b]? = w.heap[b]? := by
  have hlt := hm.lt
  obtain ⟨D, ⟨es, clock, hb, _⟩, _⟩ := hm
  refine h.block b hlt (fun e => ?_) (fun e => ?_)
  · rw [e, hp] at hb; cases hb
  · rcases ho.2 with ⟨hv, _⟩ | ⟨g, cap, cur, hv, _, hg, _⟩
    · rw [hv] at e; simp [Value.ownBlock] at e
    · rw [hv] at e
      simp only [Value.ownBlock, Option.some.injEq] at e
      rw [← e, hg] at hb; cases hb
theorem ne_ty {w : World} {b c T U : Nat} {C D : Array Value} {fr fr' : Nat × Nat} (h : w.heap[b]? = some (.cells C T fr)) (k : w.heap[c]? = some (.cells D U fr')) (hne : T ≠ U) : b ≠ c := fun e => by
  subst e
  exact ty_ne h k hne
theorem ex_chg {base pb : Nat} {d : PD} {lnv gnv : Value} {rank users : Int} {L : List Nat} {cv : Value} {v : Vx} {s : ByteArray} {w : World} {lb : Nat} {cv' : Value} {w' : World} (h : ExQ base pb d lnv gnv rank users L cv v s w lb cv' w') (K : List Nat) (h1 : pb ∈ K) (h2 : ∀ b, cv.ownBlock = some b → b ∈ K) : Chg K w w' :=
  ⟨h.os, h.tape, h.output, h.size, fun k hk hn => h.block k hk (fun e => hn (e ▸ h1)) (fun e => hn (h2 k e))⟩
theorem MapF.ne {k : TypeId} {w : World} {b n c T : Nat} {f : Vx → Option Value} {C : Array Value} {fr : Nat × Nat} (h : MapF k w b n f) (hc : w.heap[c]? = some (.cells C T fr)) : c ≠ b := fun e => by
  obtain ⟨D, ⟨es, clock, hb, _⟩, _⟩ := h
  rw [e, hb] at hc
  cases hc
theorem own_map {k : TypeId} {w : World} {b n base : Nat} {f : Vx → Option Value} {L : List Nat} {cv : Value} (h : MapF k w b n f) (ho : OwnP base L cv w) : cv.ownBlock ≠ some b := fun e => by
  rcases ho.2 with ⟨hv, _⟩ | ⟨g, cap, cur, hv, _, hg, _⟩
  · rw [hv] at e; simp [Value.ownBlock] at e
  · rw [hv] at e
    simp only [Value.ownBlock, Option.some.injEq] at e
    rw [e] at hg
    exact h.ne hg rfl
/-- what extend leaves, told of its pointer. -/
def EV (base F : Nat) (L : List Nat) (cv : Value) (v : Vx) (W : World) (z : Value) (w : World) : Prop := ∃ lb cv' wc, z = ptr lb ∧ Below W.heap.size W wc ∧ ExQ base F pd0 nils nils 0 0 L cv v ByteArray.empty wc lb cv' w
/-- one more vertex. -/
theorem NI.next {w wr w4 w5 w6 : World} {F P V G k : Nat} {cv cv' : Value} {L : List Nat} {lb : Nat} (hI : NI w F P V G k wr) (h4 : Below wr.heap.size wr w4) (hLk : L.length = k) (hls : ∀ (j b : Nat), L[j]? = some b → LRow wr b (vk j) ByteArray.empty F j 0 ∧ w.heap.size ≤ b) (hk : k < 2) (hP : PRow w4 F pd0 nils nils 0 cv 0) (hO : OwnP w.heap.size L cv w4)
    (hm4 : MapF 27 w4 V k (fun v => (fk L v).map ptr)) (hx : ExQ w.heap.size F pd0 nils nils 0 0 L cv (vk k) ByteArray.empty w4 lb cv' w5)
    (hm : MapF 27 w6 V (if ((fk L (vk k)).map ptr).isSome = true then k else k + 1) (upd1 (fun v => (fk L v).map ptr) (vk k) (some (ptr lb)))) (hc : Chg [V] w5 w6) (hF : w.heap.size ≤ F) (hPV : P ≠ V) (hV : F ≤ V) : NI w F P V G (k + 1) w6 := by
  have hw4 : w.heap.size ≤ w4.heap.size := Nat.le_trans hI.low.size h4.size
  have s5 : w4.heap.size ≤ w5.heap.size := hx.size
  have hm5 : MapF 27 w5 V k (fun v => (fk L v).map ptr) := hm4.stay (map_ex hx hm4 hP hO)
  have blk : ∀ (b : Nat) (o : Obj), w4.heap[b]? = some o → b ≠ F → cv.ownBlock ≠ some b → b ≠ V → w6.heap[b]? = some o := fun b o hb h1 h2 h3 => by
    have hlt := (Array.getElem?_eq_some_iff.1 hb).1
    exact (hc.block b (by omega) (by simpa using h3)).trans ((hx.block b hlt h1 h2).trans hb)
  have rowK : ∀ {b T : Nat} {C : Array Value}, w4.heap[b]? = some (.cells C T (0, 0)) → T ≠ 90 → T ≠ 87 → w6.heap[b]? = some (.cells C T (0, 0)) := fun {b T C} hb h1 h2 =>
    blk b _ hb (ne_ty hb hP h1) (Lib.ownBlock_ne hO hb h2) (hm4.ne hb)
  have hP4 := hI.mapP.stay (h4.block _ hI.mapP.lt)
  have hfk : (fk L (vk k)) = none := by
    rcases (show k = 0 ∨ k = 1 by omega) with rfl | rfl
    · obtain rfl := List.eq_nil_of_length_eq_zero hLk
      simp [fk, vk]
    · simp [fk, vk, root_ne.symm, hLk]
  rw [hfk] at hm
  simp only [Option.map_none, Option.isSome_none, Bool.false_eq_true, if_false] at hm
  exact {
    gr := rowK (at_below hI.gr h4) (by decide) (by decide)
    mapP := by
      obtain ⟨D, ⟨es, clock, hb, _⟩, _⟩ := id hP4
      exact hP4.stay ((blk P _ hb (fun e => hP4.ne (c := F) hP e.symm) (own_map hP4 hO) hPV).trans hb.symm)
    low := by
      have b4 := hI.low.trans (h4.mono hI.low.size)
      refine b4.trans ⟨hc.os.trans hx.os, hc.tape.trans hx.tape, hc.output.trans hx.output, by have := hc.size; omega, fun b hb => ?_⟩
      have hb4 : b < w4.heap.size := by omega
      exact (hc.block b (by omega) (by simp only [List.mem_singleton]; omega)).trans (hx.block b hb4 (by omega) (fun e => by have := (World.ownsRow.lt hO b e).1; omega))
    rest := by
      refine ⟨cv', L ++ [lb], (hc.block F (Array.getElem?_eq_some_iff.1 hx.part).1 (by simpa using hm5.ne hx.part)).trans hx.part, ?_, by simp [hLk], fun j b hb => ?_, ?_⟩
      · exact World.ownsRow.kept hx.own ⟨hc.os, hc.tape, hc.output, hc.size, fun i hi hn => hc.block i hi (fun e => hn (by rw [List.mem_singleton.1 e]))⟩ (.inr (own_map hm5 hx.own))
      · by_cases hj : j < L.length
        · rw [List.getElem?_append_left hj] at hb
          obtain ⟨h1, h2⟩ := hls j b hb
          exact ⟨rowK (at_below h1 h4) (by decide) (by decide), h2⟩
        · have hlt := (List.getElem?_eq_some_iff.1 hb).1
          simp only [List.length_append, List.length_singleton] at hlt
          obtain rfl : j = L.length := by omega
          rw [List.getElem?_append_right (Nat.le_refl _), Nat.sub_self] at hb
          obtain rfl : lb = b := by simpa using hb
          have hl := hx.line
          rw [hLk] at hl ⊢
          exact ⟨(hc.block lb (Array.getElem?_eq_some_iff.1 hl).1 (by simpa using hm5.ne hl)).trans hl, Nat.le_trans hw4 hx.new⟩
      · have e : (fun v => (fk (L ++ [lb]) v).map ptr) = upd1 (fun v => (fk L v).map ptr) (vk k) (some (ptr lb)) := by
          funext v
          unfold upd1
          rcases (show k = 0 ∨ k = 1 by omega) with rfl | rfl
          · obtain rfl := List.eq_nil_of_length_eq_zero hLk
            by_cases h1 : v = root
            · simp [fk, vk, h1]
            · by_cases h2 : v = fin <;> simp [fk, vk, h1, h2]
          · obtain ⟨a, rfl⟩ := List.length_eq_one_iff.1 hLk
            by_cases h1 : v = root
            · subst h1; simp [fk, vk, root_ne]
            · by_cases h2 : v = fin
              · subst h2; simp [fk, vk, root_ne.symm]
              · simp [fk, vk, h1, h2]
        rw [e]; exact hm }
end Go.Proofs.YtnjeppmpnaemlaaDoor.Grf
/- DERIVED. What the rows' list gives the walks of layers 15 and 16: root and end; a world for the witness. -/
set_option maxRecDepth 100000
namespace Go.Proofs.YtnjeppmpnaemlaaDoor.Grf
open Go.ChangeShapes Go.WideShapes Go.ChangeAt Go.RowKit Str
theorem gR : Tryd.prog.globalNamed "redwax/graph.root" = some 0 := by kernel_rfl
theorem gRType : (Tryd.prog.globals[0]?).map (·.type) = some 27 := by kernel_rfl
theorem gE : Tryd.prog.globalNamed "redwax/graph.end" = some 1 := by kernel_rfl
theorem gEType : (Tryd.prog.globals[1]?).map (·.type) = some 27 := by kernel_rfl
theorem cellsHt : Tryd.prog.cellsOf 25 = 32 := by kernel_rfl
theorem cellsU8 : Tryd.prog.cellsOf 5 = 1 := by kernel_rfl
theorem cellsIt : Tryd.prog.cellsOf 3 = 1 := by kernel_rfl
theorem cellsVt : Tryd.prog.cellsOf 27 = 33 := by kernel_rfl
theorem cells_of_vx {H : Type} {enc : TypeId × Value → H} {w : World} {base : Nat} {sp : Nat → Bool} {held : Bool} {fuel : Nat} {cs : List Value} {zs : List Int} {n : Int} {p : List MemPlace}
    (h : DataW.trod enc Tryd.prog w base sp held fuel 27 cs = some (.agg [Lib.tabData .u8 zs, .lit (.int .i64 n)], p)) : cs = zs.map (fun z => Value.int .u8 z) ++ [.int .i64 n] := by
  cases fuel with
  | zero => simp [DataW.trod] at h
  | succ fuel =>
    obtain ⟨y0, y1, m, hx, hl, h0, h1⟩ := trod_struct2 Tryd.underlying27 h
    rw [cellsVt] at hl
    simp only [cellsHt, cellsIt] at h0 h1
    obtain ⟨d0, p0⟩ := y0
    obtain ⟨d1, p1⟩ := y1
    simp only [Prod.mk.injEq, DataW.agg.injEq, List.cons.injEq, and_true] at hx
    obtain ⟨⟨rfl, rfl⟩, -⟩ := hx
    have e0 := Lib.cells_of_tab (zs := zs) Tryd.underlying25 Tryd.underlying5 cellsU8 cellsHt h0
    have e1 : (cs.drop 32).take 1 = [Value.int .i64 n] := by
      obtain ⟨z, hc, hz, _⟩ := DataW.trod_int Tryd.underlying3 h1
      injection hz with hz
      injection hz with hz
      injection hz with _ hz
      rw [hc, hz]
    have e2 : cs = cs.take 32 ++ (cs.drop 32).take 1 := by
      rw [List.take_of_length_le (l := cs.drop 32) (by rw [List.length_drop, hl]; decide), List.take_append_drop]
    rw [e2, e1]
    congr 1
theorem var_range {w : World} {name : String} {g : Nat} {cs : Array Value} {l : List Value} (hg : Tryd.prog.globalNamed name = some g) (h : w.var? Tryd.prog name = some cs) (hc : cs.toList = l) : w.rangeAt g 0 l := by
  unfold World.var? at h
  rw [hg] at h
  simp only [Option.bind_some] at h
  cases hh : w.heap[g]? with
  | none => rw [hh] at h; cases h
  | some o =>
    rw [hh] at h
    cases o with
    | cells c t k =>
      obtain rfl := Option.some.inj h
      intro j v hv
      rw [Nat.zero_add]
      have : w.cell? ⟨g, j, none⟩ = c[j]? := by simp [World.cell?, hh]
      rw [this, ← hc] at *
      simpa using hv
    | _ => cases h
/-- what the walks want of the two variables. -/
theorem laid_vars {W : World} (h : laidMetH Tryd.prog [("redwax/graph.root", Rows.laid_redwax_graph_root), ("redwax/graph.end", Rows.laid_redwax_graph_end)] W) : Laid W := by
  obtain ⟨ps, ⟨g0, t0, cs0, f0, p0, q0, hg0, ht0, hv0, hd0, ⟨g1, t1, cs1, f1, p1, q1, hg1, ht1, hv1, hd1, _⟩, _⟩, _⟩ := h
  obtain rfl := Option.some.inj (gR.symm.trans hg0)
  obtain rfl := Option.some.inj (gRType.symm.trans ht0)
  obtain rfl := Option.some.inj (gE.symm.trans hg1)
  obtain rfl := Option.some.inj (gEType.symm.trans ht1)
  have c0 := cells_of_vx (zs := List.replicate 32 0) (n := -1) hd0
  have c1 := cells_of_vx (zs := List.replicate 32 0) (n := -2) hd1
  exact ⟨var_range gR hv0 (c0.trans (by kernel_rfl)), var_range gE hv1 (c1.trans (by kernel_rfl))⟩
/-- a world for the witness: the settled one, the two variables laid. -/
noncomputable def laidWorld (os : Os) : World :=
  let w := World.holding Tryd.prog os ⟨#[], #[], []⟩
  { w with heap := (w.heap.modify 0 (fillRow root.c)).modify 1 (fillRow fin.c) }
end Go.Proofs.YtnjeppmpnaemlaaDoor.Grf
