/- DERIVED. Texts of ours, merged: XGrfPut. -/
import Derived.Test.YtnjeppmpnaemlaaDoorMrk17
import Derived.Test.YtnjeppmpnaemlaaDoorMrk12
/- DERIVED. put: a part into the graph. Written by mkput.py. -/
set_option maxRecDepth 100000
namespace Go.Proofs.YtnjeppmpnaemlaaDoor.Grf
open Go.RowKit Str Go.Maps
attribute [local go_sem ↓ high] loadAtVx loadAtHs loadAtGv
theorem GM.gcell {w : World} {S : GS} {us : Nat → Int} {gn : Vx → Int} (h : GM w S us gn) {i : Nat} {v : Value} (hc : w.cell? ⟨S.g, i, none⟩ = some v) : (∃ b, v = ptr b) ∨ (∃ b, v = .map (some b)) ∨ ∃ z, v = .int .i64 z := by
  rw [cell_row h.gr] at hc
  match i with
  | 0 => exact .inl ⟨_, (by simpa using hc.symm)⟩
  | 1 => exact .inl ⟨_, (by simpa using hc.symm)⟩
  | 2 => exact .inr (.inl ⟨_, (by simpa using hc.symm)⟩)
  | 3 => exact .inr (.inl ⟨_, (by simpa using hc.symm)⟩)
  | 4 => exact .inr (.inr ⟨_, (by simpa using hc.symm)⟩)
  | n + 5 => simp at hc
theorem rds_g {w w' : World} {S : GS} {us : Nat → Int} {gn : Vx → Int} (h : GM w S us gn) {v : Value} {l : List ByteArray} (hr : RdS w v l) (hb : ∀ k, k < w.heap.size → k ≠ S.g → w'.heap[k]? = w.heap[k]?) (hs : w.heap.size ≤ w'.heap.size) : RdS w' v l := by
  obtain ⟨A, c, e, hc, hr⟩ := hr
  refine ⟨A, c, e, hc, fun h0 => ?_⟩
  obtain ⟨g, off, eA, hg, hcell⟩ := hr h0
  have hne : g ≠ S.g := fun e2 => by
    have := hcell 0 _ (List.getElem?_eq_getElem h0)
    rw [e2] at this
    rcases h.gcell this with ⟨b, e3⟩ | ⟨b, e3⟩ | ⟨b, e3⟩ <;> cases e3
  exact ⟨g, off, eA, Nat.lt_of_lt_of_le hg hs, fun j x hx => (World.cell?_of_block (hb g hg hne)).trans (hcell j x hx)⟩
theorem rdv_g {w w' : World} {S : GS} {us : Nat → Int} {gn : Vx → Int} (h : GM w S us gn) {v : Value} {l : List Vx} (hr : RdV w v l) (hb : ∀ k, k < w.heap.size → k ≠ S.g → w'.heap[k]? = w.heap[k]?) (hs : w.heap.size ≤ w'.heap.size) : RdV w' v l := by
  obtain ⟨A, c, e, hc, hr⟩ := hr
  refine ⟨A, c, e, hc, fun h0 => ?_⟩
  obtain ⟨g, off, eA, hg, hcell⟩ := hr h0
  have hne : g ≠ S.g := fun e2 => by
    obtain ⟨x, hx⟩ : ∃ x, l[0]? = some x := ⟨_, List.getElem?_eq_getElem h0⟩
    have := hcell 0 x hx 0 (.int .u8 (x.h.getD 0 0)) (by
      rw [Vx.c_list]
      have := x.len
      cases hv : x.h with
      | nil => rw [hv] at this; cases this
      | cons y t => rfl)
    rw [e2] at this
    rcases h.gcell this with ⟨b, e3⟩ | ⟨b, e3⟩ | ⟨b, e3⟩ <;> cases e3
  exact ⟨g, off, eA, Nat.lt_of_lt_of_le hg hs, fun j x hx k y hy => (World.cell?_of_block (hb g hg hne)).trans (hcell j x hx k y hy)⟩
theorem built_partF (f : Nat → Value) (n : Int) (q : Nat) : Tryd.prog.built 90 [(0, .agg ((List.range 102).map f).toArray), (1, .int .i64 n), (2, .slice (some ⟨q, 0, none⟩) 1 1)] = some (((List.range 102).map f).toArray.toList ++ [Value.int .i64 n, .slice (some ⟨q, 0, none⟩) 1 1, .int .i64 0]).toArray := by kernel_rfl
theorem built_part (d : PD) (l g : Value) (n : Int) (q : Nat) : Tryd.prog.built 90 [(0, .agg (givC d l g)), (1, .int .i64 n), (2, .slice (some ⟨q, 0, none⟩) 1 1)] = some (partC d l g n (.slice (some ⟨q, 0, none⟩) 1 1) 0) := by
  obtain ⟨f, hf⟩ := fun_of (givC d l g) 102 (givC_size d l g)
  unfold partC
  rw [hf]
  exact built_partF f n q
def CopQ (B : Nat) (d : PD) (z : Value) (w : World) : Prop := ∃ l g, z = .agg (givC d l g) ∧ OwnS B d.lines l w ∧ OwnV B d.gone g w
theorem CopQ.later {B : Nat} {d : PD} {z : Value} {w w' : World} (h : CopQ B d z w) (hb : Below w.heap.size w w') : CopQ B d z w' := by
  obtain ⟨l, g, h1, h2, h3⟩ := h
  exact ⟨l, g, h1, own_stays h2 hb, own_stays h3 hb⟩
def Row1 (B u : Nat) (z : Value) (w : World) : Prop := ∃ q, z = .slice (some ⟨q, 0, none⟩) 1 1 ∧ OwnP B [u] z w
theorem Row1.later {B u : Nat} {z : Value} {w w' : World} (h : Row1 B u z w) (hb : Below w.heap.size w w') : Row1 B u z w' := by
  obtain ⟨q, h1, h2⟩ := h
  exact ⟨q, h1, h2.below hb⟩
theorem Row1.new {B u : Nat} {w : World} (hB : B ≤ w.heap.size) : Row1 B u (.slice (some ⟨w.heap.size, 0, none⟩) 1 1) (w.alloc (.cells #[ptr u] 87)) :=
  ⟨_, rfl, rfl, .inr ⟨w.heap.size, 1, #[ptr u], rfl, hB, Go.heap_alloc_new _ _, Nat.le_refl _, by unfold maxLen; omega, rfl, rfl⟩⟩
def BldQ (B : Nat) (d : PD) (ad : Int) (u : Nat) (z : Value) (w : World) : Prop := ∃ l g q, z = .agg (partC d l g ad (.slice (some ⟨q, 0, none⟩) 1 1) 0) ∧ OwnS B d.lines l w ∧ OwnV B d.gone g w ∧ OwnP B [u] (.slice (some ⟨q, 0, none⟩) 1 1) w
theorem BldQ.later {B : Nat} {d : PD} {ad : Int} {u : Nat} {z : Value} {w w' : World} (h : BldQ B d ad u z w) (hb : Below w.heap.size w w') : BldQ B d ad u z w' := by
  obtain ⟨l, g, q, h1, h2, h3, h4⟩ := h
  exact ⟨l, g, q, h1, own_stays h2 hb, own_stays h3 hb, h4.below hb⟩
def BoxQ (B : Nat) (d : PD) (ad : Int) (u : Nat) (z : Value) (w : World) : Prop := ∃ l g q pb, z = ptr pb ∧ B ≤ pb ∧ PRow w pb d l g ad (.slice (some ⟨q, 0, none⟩) 1 1) 0 ∧ OwnS B d.lines l w ∧ OwnV B d.gone g w ∧ OwnP B [u] (.slice (some ⟨q, 0, none⟩) 1 1) w
theorem BoxQ.later {B : Nat} {d : PD} {ad : Int} {u : Nat} {z : Value} {w w' : World} (h : BoxQ B d ad u z w) (hb : Below w.heap.size w w') : BoxQ B d ad u z w' := by
  obtain ⟨l, g, q, pb, h1, h2, h3, h4, h5, h6⟩ := h
  exact ⟨l, g, q, pb, h1, h2, at_below h3 hb, own_stays h4 hb, own_stays h5 hb, h6.below hb⟩
/-- the graph with a part more. -/
structure GI (w : World) (S : GS) : Prop where
  gm : GM w S (usS S) (gnS S)
  ok : GOk S
  mne : S.mp ≠ S.mv
/-- a graph's own blocks. -/
def blk (S : GS) : List Nat := S.g :: S.mp :: S.mv :: S.fr :: S.rb :: S.eb :: S.ps.flatMap fun p => p.b :: p.ls
/-- what extend leaves, told of its pointer. -/
def EVp (base pb : Nat) (d : PD) (l g : Value) (rank : Int) (L : List Nat) (cv : Value) (v : Vx) (s : ByteArray) (W : World) (z : Value) (w : World) : Prop := ∃ lb cv' wc, z = ptr lb ∧ Below W.heap.size W wc ∧ ExQ base pb d l g rank 0 L cv v s wc lb cv' w
theorem sum_bd {α : Type} (f : α → Int) (m : Nat) : ∀ l : List α, (∀ x ∈ l, 0 ≤ f x ∧ f x ≤ m) → 0 ≤ (l.map f).sum ∧ (l.map f).sum ≤ (l.length * m : Nat) := by
  intro l
  induction l with
  | nil => intro _; simp
  | cons a t ih =>
    intro h
    have h1 := h a (by simp)
    have h2 := ih (fun x hx => h x (by simp [hx]))
    rw [List.map_cons, List.sum_cons, List.length_cons, Nat.add_mul]
    omega
theorem usS_bd {S : GS} (h1 : S.ps.length ≤ 100) (h2 : ∀ p ∈ S.ps, p.d.gone.length ≤ 1000) (b : Nat) : -1000000000 ≤ usS S b ∧ usS S b ≤ 1000000000 := by
  have h := sum_bd (fun p : PA => ((if pOf S p.d.up = b then (1 : Int) else 0) + (if pOf S p.d.down = b then (1 : Int) else 0) + ((p.d.gone.countP fun v => decide (pOf S v = b) : Nat) : Int))) 1002 S.ps (fun p hp => by
    have h3 := h2 p hp
    have h4 : (p.d.gone.countP fun v => decide (pOf S v = b)) ≤ p.d.gone.length := List.countP_le_length
    split <;> split <;> omega)
  have h5 : S.ps.length * 1002 ≤ 100200 := by omega
  unfold usS
  omega
theorem gnS_bd {S : GS} (h1 : S.ps.length ≤ 100) (h2 : ∀ p ∈ S.ps, p.d.gone.length ≤ 1000) (v : Vx) : -1000000000 ≤ gnS S v ∧ gnS S v ≤ 1000000000 := by
  have h := sum_bd (fun p : PA => ((p.d.gone.count v : Nat) : Int)) 1000 S.ps (fun p hp => by
    have h3 := h2 p hp
    have h4 : p.d.gone.count v ≤ p.d.gone.length := List.count_le_length
    omega)
  have h5 : S.ps.length * 1000 ≤ 100000 := by omega
  unfold gnS
  omega
/-- the chain's end appended, before it is stored. -/
def ChQ (B pb : Nat) (L : List Nat) (W : World) (z : Value) (w : World) : Prop := OwnP B L z w ∧ w.heap[pb]? = W.heap[pb]?
def ChE (B pb : Nat) (d : PD) (l g : Value) (rank : Nat) (L : List Nat) (K : List Nat) (W : World) (_ : Value) (w : World) : Prop := ∃ cv2, PRow w pb d l g rank cv2 0 ∧ OwnP B L cv2 w ∧ Chg K W w
theorem ChQ.of {W wx w' : World} {B pb dn : Nat} {d : PD} {l g : Value} {rank : Int} {cv v' : Value} {L : List Nat} (hp : PRow W pb d l g rank cv 0) (ho : OwnP B L cv W) (hlow : Below W.heap.size W wx) (hown : w'.ownsRow B 87 1 v' (L.length + 1) (L.map ptr ++ [ptr dn])) (hg : wx.grownBy w' cv.ownBlock) : ChQ B pb (L ++ [dn]) W v' w' := by
  refine ⟨?_, ?_⟩
  · unfold OwnP
    rw [List.length_append, List.length_singleton, List.map_append]
    exact hown
  · have hlt : pb < W.heap.size := (Array.getElem?_eq_some_iff.1 hp).1
    exact (hg.block pb (Nat.lt_of_lt_of_le hlt hlow.size) (fun e => Lib.ownBlock_ne ho hp (by decide) e.symm)).trans (hlow.block _ hlt)
theorem ChQ.store {W wx : World} {B pb : Nat} {d : PD} {l g : Value} {rank : Nat} {cv z : Value} {L K : List Nat} (hp : PRow W pb d l g rank cv 0) (h : ChQ B pb L W z wx) (hc : Chg K W wx) (hK : pb ∈ K) : ChE B pb d l g rank L K W undef (wx.setCell ⟨pb, 103, none⟩ z) := by
  have hp2 : PRow wx pb d l g rank cv 0 := h.2.trans hp
  refine ⟨z, hp2.setChn z, own_keep h.1 (fun k hk => Below.heap_setCell _ _ _ _ (fun (e : k = pb) => ?_)), hc.setCell (p := ⟨pb, 103, none⟩) hK _⟩
  rw [e] at hk
  exact Lib.ownBlock_ne h.1 hp2 (by decide) hk
def MpQ (b s : Nat) (f : Vx → Option Value) (W : World) (_ : Value) (w : World) : Prop := MapF 95 w b s f ∧ Chg [b] W w
def PUx (w : World) (S : GS) (d : PD) (gv : Nat × Value × Value) (l g : Value) (pb u k : Nat) (_ : Value) (ww : World) : Prop := ∃ cv2 ls2, ls2.length = k ∧ PU w S d gv l g pb u cv2 ls2 ww
def PutQ (w : World) (S : GS) (d : PD) (w' : World) : Prop := ∃ p : PA, p.d = d ∧ w.heap.size ≤ p.b ∧ (∀ b ∈ p.ls, w.heap.size ≤ b) ∧ GI w' (moreS S p) ∧ Chg (blk S) w w'
set_option maxHeartbeats 8000000 in
theorem put_any (S : GS) (w : World) (h : GI w S) (d : PD) (lnv gnv : Value) (f : Fits d (ds S.ps)) (hle : le (ds S.ps) d.up d.down) (hne : d.up ≠ d.down) (hl : RdS w lnv d.lines) (hg : RdV w gnv d.gone) (hz : d.gone = [] → ∃ A c, gnv = .slice A 0 c ∧ (A = none ∨ ∃ b off, A = some ⟨b, off, none⟩))
    (hln : d.lines.length ≤ 1000) (hgn : d.gone.length ≤ 1000) (hbig : ∀ s ∈ d.lines, s.size ≤ 281474976710656) (hps : S.ps.length ≤ 100) (hgl : ∀ p ∈ S.ps, p.d.gone.length ≤ 1000) (had : S.added ≤ 1000000) (hnv : S.nv ≤ 10000000) :
    Calls Tryd.prog 45 #[ptr S.g, .agg (givC d lnv gnv)] w fun e w' => e = .returned (.tuple #[]) ∧ PutQ w S d w' := by
  have hm := h.gm
  obtain ⟨u, hu⟩ := (lineB_in hm.lsl).2 f.upIn
  obtain ⟨dn, hdn⟩ := (lineB_in hm.lsl).2 f.downIn
  obtain ⟨ad, hadE⟩ : ∃ ad : Nat, ad = S.added + 1 := ⟨_, rfl⟩
  have hwa : wrap64 ((S.added : Int) + 1) = (ad : Int) := by unfold wrap64; omega
  -- the world behind the box and the number
  obtain ⟨bx, hbx⟩ : ∃ bx, bx = w.heap.size := ⟨_, rfl⟩
  obtain ⟨W1, hW1⟩ : ∃ W1, W1 = w.alloc (.cells (givC d lnv gnv) 31) := ⟨_, rfl⟩
  have l1 : Below w.heap.size w W1 := by rw [hW1]; exact (Below.refl _ _).alloc (Nat.le_refl _) _
  have hb1 : GRow W1 bx d lnv gnv := by rw [hW1, hbx]; exact Go.heap_alloc_new _ _
  have hm1 := hm.below l1
  have c4 := hm1.g4
  have f4 := free_row hm1.gr 4
  obtain ⟨W2, hW2⟩ : ∃ W2, W2 = W1.setCell ⟨S.g, 4, none⟩ (.int .i64 (ad : Nat)) := ⟨_, rfl⟩
  have hC12 : Chg [S.g] W1 W2 := by rw [hW2]; exact (Chg.refl _ _).setCell (by simp) _
  have hC2 : Chg [S.g, S.mp, S.mv] w W2 := (Chg.of_below l1).trans (hC12.mono (fun k hk => .inl (by rw [List.mem_singleton.1 hk]; simp)))
  have hgr2 : W2.heap[S.g]? = some (.cells #[ptr S.g, ptr S.fr, .map (some S.mp), .map (some S.mv), .int .i64 (ad : Nat)] 38 (0, 0)) := by
    rw [hW2]
    exact heap_setCell_same _ _ _ _ _ _ hm1.gr
  have hmP2 := hm1.mapP.stay (hC12.block _ hm1.mapP.lt (by simp only [List.mem_singleton]; exact fun e => hm1.mapP.ne hm1.gr e.symm))
  have hmV2 := hm1.mapV.stay (hC12.block _ hm1.mapV.lt (by simp only [List.mem_singleton]; exact fun e => hm1.mapV.ne hm1.gr e.symm))
  have hb2 : GRow W2 bx d lnv gnv := hC12.at hb1 (by simp only [List.mem_singleton]; exact ne_ty hb1 hm1.gr (by decide))
  have blk2 : ∀ k, k < W1.heap.size → k ≠ S.g → W2.heap[k]? = W1.heap[k]? := fun k h1 h2 => hC12.block k h1 (by simpa using h2)
  have hl2 := rds_g hm1 (hl.below l1) blk2 hC12.size
  have hg2 := rdv_g hm1 (hg.below l1) blk2 hC12.size
  have HB2 : Hid (w.heap.size ≤ W2.heap.size) := Nat.le_trans l1.size hC12.size
  have HCp : Hid (∀ x, Below W2.heap.size W2 x → Calls Tryd.prog 71 #[.agg (givC d lnv gnv)] x fun e w' => ∃ lnv' gnv', e = .returned (.agg (givC d lnv' gnv')) ∧ OwnS x.heap.size d.lines lnv' w' ∧ OwnV x.heap.size d.gone gnv' w' ∧ Below x.heap.size x w') := fun x hx =>
    copied_any d lnv gnv x (hl2.below hx) (by omega) hbig (hg2.below hx) (by omega) hz
  have look : ∀ {x : World} {v : Vx} {b : Nat}, x.heap[S.mv]? = W2.heap[S.mv]? → lineB S v = some b → (Instr.lookup 36 (.map (some S.mv)) (.agg v.c) false).run Tryd.prog x = .ok (ptr b) x := fun {x v b} hx hv => by
    have := (hmV2.stay hx).look kbV Tryd.underlying36 (zeroL x) isPtr v
    rw [hv] at this
    exact this
  have HLk : Hid (∀ x, Below W2.heap.size W2 x → (Instr.lookup 36 (.map (some S.mv)) (.agg d.up.c) false).run Tryd.prog x = .ok (ptr u) x) := fun x hx => look (hx.block _ hmV2.lt) hu
  have HB := Lib.hid hb2
  have HG4 : Hid (W2.cell? ⟨S.g, 4, none⟩ = some (.int .i64 (ad : Nat))) := cell_row hgr2 4
  have HG3 : Hid (W2.cell? ⟨S.g, 3, none⟩ = some (.map (some S.mv))) := cell_row hgr2 3
  have HPU0 : Hid (∀ (x : World) (l g cv : Value) (pb : Nat), Below W2.heap.size W2 x → w.heap.size ≤ pb → PRow x pb d l g (ad : Nat) cv 0 → OwnS w.heap.size d.lines l x → OwnV w.heap.size d.gone g x → OwnP w.heap.size [u] cv x → PU w S d (bx, lnv, gnv) l g pb u cv [] x) := fun x l g cv pb hx hpb hp ho1 ho2 ho3 => {
    chg := hC2.trans (Chg.of_below hx)
    gr := by rw [← hadE]; exact at_below hgr2 hx
    mapP := hmP2.stay (hx.block _ hmP2.lt)
    prt := by rw [← hadE]; exact hp
    own := ho3
    ln := fun j b s hj => by simp at hj
    mapV := by rw [fkP_nil]; exact hmV2.stay (hx.block _ hmV2.lt)
    lns := ho1
    gns := ho2
    pbN := hpb
    gvr := at_below hb2 hx }
  have HM := Lib.hid hm
  have HOk := Lib.hid h.ok
  have HMne := Lib.hid h.mne
  have HLs := Lib.hid hps
  have HF := Lib.hid f
  have HLe := Lib.hid hle
  have HNe := Lib.hid hne
  have Hu := Lib.hid hu
  have Hdn := Lib.hid hdn
  have HadE := Lib.hid hadE
  have Hbx := Lib.hid hbx
  have HmvW : Hid (W2.heap.size ≤ W2.heap.size ∧ S.nv ≤ 10000000) := ⟨Nat.le_refl _, hnv⟩
  have Hln : Hid (d.lines.length ≤ 1000 ∧ d.gone.length ≤ 1000 ∧ S.ps.length ≤ 100 ∧ S.added ≤ 1000000) := ⟨hln, hgn, hps, had⟩
  have Hgl := Lib.hid hgl
  have HW1 := Lib.hid hW1.symm
  have HW2 := Lib.hid hW2.symm
  have c4' : W1.cell? ⟨S.g, 4, none⟩ = some (.int .i64 (S.added : Nat)) := c4
  clear h hm l1 hb1 hm1 c4 hC12 hC2 hgr2 hmP2 hmV2 hb2 blk2 hl2 hg2 look f hle hne hl hg hz hln hgn hbig hps hgl had hnv hu hdn hadE hW1 hW2
  go_enter Tryd.func45, Tryd.ntmps45
  go_upto_region 1 with (fail)
  rw [HW1.out, ← hbx]
  clear hbx
  go_upto_region 2 with (fail)
  rw [hwa]
  rw [HW2.out]
  clear hwa c4' f4
  have apx : apartB [15, 16, 17, 18, 19, 20, 21, 22, 23, 24, 25, 26, 27, 28, 29, 30, 4] = true := by decide
  refine wp_region_any (by kernel_rfl) ?_
  change wpAny _ _ _ _ _ _ _ (World.drew _)
  refine wpAny_inv (fun ll aa wx => Hid (ll.size = 17 ∧ Below W2.heap.size W2 wx) ∧ ∃ (z : Nat → Value), Hid (aa = ⟨#[ptr S.g, .agg (givC d lnv gnv), undef, ptr bx, z 4, undef, undef, undef, ptr S.g, .pointer (some ⟨S.g, 0, none⟩), .pointer (some ⟨S.g, 4, none⟩), .int .i64 S.added, .int .i64 ad, .pointer (some ⟨S.g, 0, none⟩), .pointer (some ⟨S.g, 4, none⟩), z 15, z 16, z 17, z 18, z 19, z 20, z 21, z 22, z 23, z 24, z 25, z 26, z 27, z 28, z 29, z 30, undef, undef, undef, undef, undef, undef, undef, undef, undef, undef, undef, undef, undef, undef, undef, undef, undef, undef, undef, undef, undef, undef, undef, undef, undef, undef, undef, undef, undef, undef, undef, undef, undef, undef, undef, undef, undef, undef, undef, undef, undef, undef, undef, undef, undef, undef, undef, undef, undef, undef], []⟩) ∧ Holding [15, 16, 17, 18, 19, 20, 21, 22, 23, 24, 25, 26, 27, 28, 29, 30, 4] [some (.agg (givC d lnv gnv)), none, some (ptr S.g), some (.pointer (some ⟨S.g, 0, none⟩)), some (.pointer (some ⟨S.g, 4, none⟩)), some (.int .i64 ad), some (ptr S.g), some (.pointer (some ⟨S.g, 0, none⟩)), some (.pointer (some ⟨S.g, 3, none⟩)), some (.map (some S.mv)), some (.pointer (some ⟨bx, 34, none⟩)), some (.agg d.up.c), some (ptr u), none, none, none, none] ll z ∧ Whn ll 1 (CopQ w.heap.size d) (z 16) wx ∧ Whn ll 13 (Row1 w.heap.size u) (z 28) wx ∧ Whn ll 14 (BldQ w.heap.size d ad u) (z 29) wx ∧ Whn ll 15 (BoxQ w.heap.size d ad u) (z 30) wx ∧ Whn ll 16 (BoxQ w.heap.size d ad u) (z 4) wx) ?_ (by kernel_rfl) ?_ ?_ _ _ _ _ (unlisted_none _) ?_
  · rintro ll aa wx ⟨hI, _⟩
    exact hI.out.1
  · rintro ll aa wx ⟨hI, z, ha, hz, hp1, hp13, hp14, hp15, hp16⟩ hall
    have hx := Lib.hid hI.out.2
    have e0 : z 15 = .agg (givC d lnv gnv) := hz 0 _ (hall 0 (by decide)) rfl
    have e2 : z 17 = ptr S.g := hz 2 _ (hall 2 (by decide)) rfl
    have e3 : z 18 = .pointer (some ⟨S.g, 0, none⟩) := hz 3 _ (hall 3 (by decide)) rfl
    have e4 : z 19 = .pointer (some ⟨S.g, 4, none⟩) := hz 4 _ (hall 4 (by decide)) rfl
    have e5 : z 20 = .int .i64 ad := hz 5 _ (hall 5 (by decide)) rfl
    have e6 : z 21 = ptr S.g := hz 6 _ (hall 6 (by decide)) rfl
    have e7 : z 22 = .pointer (some ⟨S.g, 0, none⟩) := hz 7 _ (hall 7 (by decide)) rfl
    have e8 : z 23 = .pointer (some ⟨S.g, 3, none⟩) := hz 8 _ (hall 8 (by decide)) rfl
    have e9 : z 24 = .map (some S.mv) := hz 9 _ (hall 9 (by decide)) rfl
    have e10 : z 25 = .pointer (some ⟨bx, 34, none⟩) := hz 10 _ (hall 10 (by decide)) rfl
    have e11 : z 26 = .agg d.up.c := hz 11 _ (hall 11 (by decide)) rfl
    have e12 : z 27 = ptr u := hz 12 _ (hall 12 (by decide)) rfl
    have p1 := hp1.get (hall 1 (by decide))
    have p13 := hp13.get (hall 13 (by decide))
    have p14 := hp14.get (hall 14 (by decide))
    have p15 := hp15.get (hall 15 (by decide))
    have p16 := hp16.get (hall 16 (by decide))
    clear hall hz hI hp1 hp13 hp14 hp15 hp16
    obtain rfl := ha.out
    clear ha
    clear apx
    obtain ⟨l, g, q, pb, hz4, hpb, hp, ho1, ho2, ho3⟩ := p16
    rw [hz4]
    rename World => w3
    have HPU := Lib.hid (HPU0.out w3 l g _ pb hx.out hpb hp ho1 ho2 ho3)
    clear hx p1 p13 p14 p15 hpb hp ho1 ho2 ho3 hz4 e0 e2 e3 e4 e5 e6 e7 e8 e9 e10 e11 e12
    generalize z 15 = y15
    generalize z 16 = y16
    generalize z 17 = y17
    generalize z 18 = y18
    generalize z 19 = y19
    generalize z 20 = y20
    generalize z 21 = y21
    generalize z 22 = y22
    generalize z 23 = y23
    generalize z 24 = y24
    generalize z 25 = y25
    generalize z 26 = y26
    generalize z 27 = y27
    generalize z 28 = y28
    generalize z 29 = y29
    generalize z 30 = y30
    obtain ⟨A, c, egl, hcl, _⟩ := OwnS.rds HPU.out.lns
    have f100 := HPU.out.prt.lines
    rw [egl] at f100
    obtain ⟨n, hN⟩ : ∃ n, n = d.lines.length := ⟨_, rfl⟩
    rw [← hN] at f100 hcl egl
    have Hegl := Lib.hid egl
    have HN := Lib.hid hN
    have hn1 : n ≤ 1000 := by have := Hln.out.1; omega
    have hcI : (n : Int) ≤ c := by omega
    have Hmg : Hid (S.g < w.heap.size ∧ S.mp < w.heap.size ∧ S.mv < w.heap.size ∧ S.mp ≠ S.mv) := ⟨(Array.getElem?_eq_some_iff.1 HM.out.gr).1, HM.out.mapP.lt, HM.out.mapV.lt, HMne.out⟩
    clear egl hN hcl HCp HLk HB HG4 HG3 HPU0 HW1 HW2
    go_upto_region 4 with (fail)
    go_loopw [37] (fun i wr => ∃ (k : Nat) (cv : Value) (ls : List Nat), k ≤ n ∧ ls.length = k ∧ i = .int .i64 k ∧ Hid (PU w S d (bx, lnv, gnv) l g pb u cv ls wr)) (fun i _ => n - (intOf i).toNat)
    case atStart => exact ⟨0, _, [], Nat.zero_le _, rfl, rfl, HPU.out⟩
    case round =>
      obtain ⟨k, cv, ls, hk, hlk, rfl, hI⟩ := hrel
      clear HPU f100
      by_cases hlt : k < n
      · have hltI : (k : Int) < n := by omega
        have hk0 : 0 ≤ (k : Int) := by omega
        obtain ⟨s, hs⟩ : ∃ s, d.lines[k]? = some s := ⟨_, List.getElem?_eq_getElem (by have := HN.out; omega)⟩
        obtain ⟨A', c', e, hc', hr'⟩ := OwnS.rds hI.out.lns
        rw [Hegl.out] at e
        injection e with e1 e2 e3
        subst e1
        obtain ⟨gs, off, rfl, hgs, hcell⟩ := hr' (by have := HN.out; omega)
        have cs := hcell k s hs
        have hB : GRow wr bx d lnv gnv := hI.out.gvr
        have eg := loadGv_eq hB
        have hV := vertex_any d lnv gnv k wr
        have Hs := Lib.hid hs
        have Hlk := Lib.hid hlk
        clear hcell hs hgs e2 e3 hr' hc' hlk hB
        go_upto_region 7 with (first | (go_at_call 72; refine hV.mono ?_; rintro e w5 ⟨rfl, low5⟩) | (refine wpList_store_row rfl 27 (.tmp 7) (.tmp 44) rfl w5.heap.size (vert d k).c rfl rfl 27 _ (Go.heap_alloc_new w5 _) (infoVxA _) (by simp [Vx.c_size]) (Vx.one _) ?_; rw [World.setRow_alloc_new]))
        rw [put_none]
        obtain ⟨w7, hw7⟩ : ∃ w7, w7 = w5.alloc (.cells (vert d k).c 27) := ⟨_, rfl⟩
        have l7 : Below wr.heap.size wr w7 := by rw [hw7]; exact low5.alloc low5.size _
        have hb7 : w7.heap[w5.heap.size]? = some (.cells (vert d k).c 27 (0, 0)) := by rw [hw7]; exact Go.heap_alloc_new _ _
        rw [← hw7]
        obtain ⟨b7, hb7e⟩ : ∃ b7, b7 = w5.heap.size := ⟨_, rfl⟩
        rw [← hb7e] at hb7 ⊢
        have hI7 := hI.out.below l7
        have HE3 : Hid (w7.cell? ⟨S.g, 3, none⟩ = some (.map (some S.mv))) := cell_row hI7.gr 3
        obtain ⟨K, hK⟩ : ∃ K : List Nat, K = pb :: S.mv :: cv.ownBlock.toList := ⟨_, rfl⟩
        have HKp : Hid (pb ∈ K) := by show pb ∈ K; rw [hK]; simp
        have HKV : Hid (S.mv ∈ K) := by show S.mv ∈ K; rw [hK]; simp
        have HKo : Hid (∀ b, cv.ownBlock = some b → b ∈ K) := by intro b hb; rw [hK, hb]; simp
        have nk : ∀ {b T : Nat} {C : Array Value}, w7.heap[b]? = some (.cells C T (0, 0)) → T ≠ 90 → T ≠ 87 → b ∉ K := fun hb h1 h2 hm => by
          rw [hK] at hm
          simp only [List.mem_cons, Option.mem_toList] at hm
          rcases hm with h | h | h
          · exact ne_ty hb hI7.prt h1 h
          · exact hI7.mapV.ne hb h
          · exact Lib.ownBlock_ne hI7.own hb h2 h
        have HKG : Hid (S.g ∉ K) := nk hI7.gr (by decide) (by decide)
        have HKb : Hid (b7 ∉ K) := nk hb7 (by decide) (by decide)
        have HEx : Hid (∀ wx, Below w7.heap.size w7 wx → Calls Tryd.prog 43 #[ptr pb, .agg (vert d k).c, .string s] wx fun e w' => ∃ lb cv', e = .returned (ptr lb) ∧ ExQ w.heap.size pb d l g ((S.added + 1 : Nat) : Int) 0 (u :: ls) cv (vert d k) s wx lb cv' w') := fun wx hx =>
          extend_any w.heap.size pb d l g ((S.added + 1 : Nat) : Int) 0 (u :: ls) cv (vert d k) s wx (at_below hI7.prt hx) (hI7.own.below hx) (by rw [List.length_cons, Hlk.out]; omega) (Nat.le_trans hI7.chg.size hx.size)
        have HM7 : Hid (∀ (wc w5 : World) (lb : Nat) (cv' : Value), Below w7.heap.size w7 wc → ExQ w.heap.size pb d l g ((S.added + 1 : Nat) : Int) 0 (u :: ls) cv (vert d k) s wc lb cv' w5 → MapF 27 w5 S.mv (S.nv + ls.length) (fun v => (fkP S d ls v).map ptr)) := fun wc w5 lb cv' hb hx => by
          have hc := hI7.below hb
          exact hc.mapV.stay (map_ex hx hc.mapV hc.prt hc.own)
        have HNx : Hid (∀ (wc w5 w6 : World) (lb : Nat) (cv' : Value), Below w7.heap.size w7 wc → ExQ w.heap.size pb d l g ((S.added + 1 : Nat) : Int) 0 (u :: ls) cv (vert d k) s wc lb cv' w5 → MapF 27 w6 S.mv (if ((fkP S d ls (vert d k)).map ptr).isSome = true then S.nv + ls.length else S.nv + ls.length + 1) (upd1 (fun v => (fkP S d ls v).map ptr) (vert d k) (some (ptr lb))) → Chg [S.mv] w5 w6 → PU w S d (bx, lnv, gnv) l g pb u cv' (ls ++ [lb]) w6) := fun wc w5 w6 lb cv' hb hx hm hc => by
          have e := Hlk.out
          subst e
          exact PU.next (hI7.below hb) HM.out.lsl HF.out Hs.out hx hm hc Hmg.out
        have HNv : Hid (S.nv + ls.length < 100000000) := by have h1 := HmvW.out.2; have h2 := Hlk.out; show _ < _; omega
        have Hb7 := Lib.hid hb7
        clear eg hV low5 hw7 l7 hb7 hI7 hK nk cs hb7e
        have apx : apartB [45, 46, 47, 48, 49, 50, 51, 52, 53, 1009] = true := by decide
        refine wp_region_any (by kernel_rfl) ?_
        change wpAny _ _ _ _ _ _ _ (World.drew _)
        refine wpAny_inv2 (fun ll aa wx => Hid (ll.size = 10 ∧ RelC 8 K w7 ll wx) ∧ ∃ (z : Nat → Value), Hid (aa = ⟨#[ptr S.g, .agg (givC d lnv gnv), undef, ptr bx, ptr pb, .int .i64 k, .string s, .pointer (some ⟨b7, 0, none⟩), ptr S.g, .pointer (some ⟨S.g, 0, none⟩), .pointer (some ⟨S.g, 4, none⟩), .int .i64 S.added, .int .i64 ad, .pointer (some ⟨S.g, 0, none⟩), .pointer (some ⟨S.g, 4, none⟩), y15, y16, y17, y18, y19, y20, y21, y22, y23, y24, y25, y26, y27, y28, y29, y30, ptr pb, .pointer (some ⟨pb, 0, none⟩), .pointer (some ⟨pb, 0, none⟩), .pointer (some ⟨pb, 100, none⟩), .slice (some ⟨gs, off, none⟩) n c, .int .i64 n, .int .i64 k, .bool true, .int .i64 k, .pointer (some ⟨gs, off + k, none⟩), .string s, .agg (givC d lnv gnv), .int .i64 k, .agg (vert d k).c, z 45, z 46, z 47, z 48, z 49, z 50, z 51, z 52, z 53, u54, undef, undef, undef, undef, undef, undef, undef, undef, undef, undef, undef, undef, undef, undef, undef, undef, undef, undef, undef, undef, undef, undef, undef, undef, undef, undef], []⟩) ∧ Holding [45, 46, 47, 48, 49, 50, 51, 52, 53, 1009] [some (ptr S.g), some (.pointer (some ⟨S.g, 0, none⟩)), some (.pointer (some ⟨S.g, 3, none⟩)), some (.map (some S.mv)), some (.agg (vert d k).c), some (ptr pb), some (.agg (vert d k).c), some (.string s), none, none] ll z ∧ Whu ll 8 9 (EVp w.heap.size pb d l g ((S.added + 1 : Nat) : Int) (u :: ls) cv (vert d k) s w7) (z 53) wx ∧ Whn ll 9 (PUx w S d (bx, lnv, gnv) l g pb u (k + 1)) (z 1009) wx) ?_ (by kernel_rfl) ?_ ?_ _ rfl _ _ ?_
        · rintro ll aa wx ⟨hI, _⟩
          exact hI.out.1
        · rintro ll aa wx ⟨hI, z, ha, hz, hp8, hp9⟩ hall
          have hx := Lib.hid hI.out.2
          have e0 : z 45 = ptr S.g := hz 0 _ (hall 0 (by decide)) rfl
          have e1 : z 46 = .pointer (some ⟨S.g, 0, none⟩) := hz 1 _ (hall 1 (by decide)) rfl
          have e2 : z 47 = .pointer (some ⟨S.g, 3, none⟩) := hz 2 _ (hall 2 (by decide)) rfl
          have e3 : z 48 = .map (some S.mv) := hz 3 _ (hall 3 (by decide)) rfl
          have e4 : z 49 = .agg (vert d k).c := hz 4 _ (hall 4 (by decide)) rfl
          have e5 : z 50 = ptr pb := hz 5 _ (hall 5 (by decide)) rfl
          have e6 : z 51 = .agg (vert d k).c := hz 6 _ (hall 6 (by decide)) rfl
          have e7 : z 52 = .string s := hz 7 _ (hall 7 (by decide)) rfl
          have p9 := hp9.get (hall 9 (by decide))
          clear hall hz hI hp8 hp9
          obtain rfl := ha.out
          clear ha
          clear apx
          have HQ := Lib.hid p9
          clear hx p9 e0 e1 e2 e3 e4 e5 e6 e7
          generalize z 45 = q45
          generalize z 46 = q46
          generalize z 47 = q47
          generalize z 48 = q48
          generalize z 49 = q49
          generalize z 50 = q50
          generalize z 51 = q51
          generalize z 52 = q52
          generalize z 53 = q53
          go_wp2
          go_roundw
          case rel =>
            obtain ⟨cv9, ls9, hl9, hP9⟩ := HQ.out
            exact ⟨k + 1, cv9, ls9, hlt, hl9, by go_num, hP9⟩
          case measure => simp [intOf]; omega
        · rintro ll aa wx i ⟨hI, z, ha, hz, hp8, hp9⟩ hcl hi hu hw
          obtain rfl := ha.out
          have hsz := Lib.hid hI.out.1
          have hx := Lib.hid hI.out.2
          clear ha hI
          have hin : i < 10 := hi
          obtain rfl | rfl | rfl | rfl | rfl | rfl | rfl | rfl | rfl | rfl : i = 0 ∨ i = 1 ∨ i = 2 ∨ i = 3 ∨ i = 4 ∨ i = 5 ∨ i = 6 ∨ i = 7 ∨ i = 8 ∨ i = 9 := by omega
          · refine wpOp_plain rfl rfl ?_
            go_simp
            exact ⟨⟨by simp [hsz.out], hx.out.same⟩, upd z 45 (ptr S.g), (by unfold Hid; simp [upd]), hz.next apx hsz.out 0 (by decide) _ (fun _ h => Option.some.inj h), hp8.keep (by decide), hp9.keep (by decide)⟩
          · have e0 : z 45 = ptr S.g := hz 0 _ (hw 0 (by kernel_rfl)) rfl
            refine wpOp_plain rfl rfl ?_
            go_simp
            exact ⟨⟨by simp [hsz.out], hx.out.same⟩, upd z 46 (.pointer (some ⟨S.g, 0, none⟩)), (by unfold Hid; simp [upd, e0]), hz.next apx hsz.out 1 (by decide) _ (fun _ h => Option.some.inj h), hp8.keep (by decide), hp9.keep (by decide)⟩
          · have e1 : z 46 = .pointer (some ⟨S.g, 0, none⟩) := hz 1 _ (hw 1 (by kernel_rfl)) rfl
            refine wpOp_plain rfl rfl ?_
            go_simp
            exact ⟨⟨by simp [hsz.out], hx.out.same⟩, upd z 47 (.pointer (some ⟨S.g, 3, none⟩)), (by unfold Hid; simp [upd, e1]), hz.next apx hsz.out 2 (by decide) _ (fun _ h => Option.some.inj h), hp8.keep (by decide), hp9.keep (by decide)⟩
          · have e2 : z 47 = .pointer (some ⟨S.g, 3, none⟩) := hz 2 _ (hw 2 (by kernel_rfl)) rfl
            have cl := hx.out.cell HE3.out HKG.out
            refine wpOp_plain rfl rfl ?_
            go_simp
            exact ⟨⟨by simp [hsz.out], hx.out.same⟩, upd z 48 (.map (some S.mv)), (by unfold Hid; simp [upd, e2]), hz.next apx hsz.out 3 (by decide) _ (fun _ h => Option.some.inj h), hp8.keep (by decide), hp9.keep (by decide)⟩
          · have cl := box_vx (hx.out.at Hb7.out HKb.out)
            refine wpOp_plain rfl rfl ?_
            go_simp
            exact ⟨⟨by simp [hsz.out], hx.out.same⟩, upd z 49 (.agg (vert d k).c), (by unfold Hid; simp [upd]), hz.next apx hsz.out 4 (by decide) _ (fun _ h => Option.some.inj h), hp8.keep (by decide), hp9.keep (by decide)⟩
          · refine wpOp_plain rfl rfl ?_
            go_simp
            exact ⟨⟨by simp [hsz.out], hx.out.same⟩, upd z 50 (ptr pb), (by unfold Hid; simp [upd]), hz.next apx hsz.out 5 (by decide) _ (fun _ h => Option.some.inj h), hp8.keep (by decide), hp9.keep (by decide)⟩
          · have cl := box_vx (hx.out.at Hb7.out HKb.out)
            refine wpOp_plain rfl rfl ?_
            go_simp
            exact ⟨⟨by simp [hsz.out], hx.out.same⟩, upd z 51 (.agg (vert d k).c), (by unfold Hid; simp [upd]), hz.next apx hsz.out 6 (by decide) _ (fun _ h => Option.some.inj h), hp8.keep (by decide), hp9.keep (by decide)⟩
          · refine wpOp_plain rfl rfl ?_
            go_simp
            exact ⟨⟨by simp [hsz.out], hx.out.same⟩, upd z 52 (.string s), (by unfold Hid; simp [upd]), hz.next apx hsz.out 7 (by decide) _ (fun _ h => Option.some.inj h), hp8.keep (by decide), hp9.keep (by decide)⟩
          · have e5 : z 50 = ptr pb := hz 5 _ (hw 5 (by kernel_rfl)) rfl
            have e6 : z 51 = .agg (vert d k).c := hz 6 _ (hw 6 (by kernel_rfl)) rfl
            have e7 : z 52 = .string s := hz 7 _ (hw 7 (by kernel_rfl)) rfl
            refine wpOp_plain rfl rfl ?_
            go_simp
            go_at_call 43
            have hlow := hx.out.2 hu
            refine (HEx.out wx hlow).mono ?_
            rintro e w8 ⟨lb, cv8, rfl, hq⟩
            exact ⟨⟨by simp [hsz.out], hx.out.wr (ex_chg hq K HKp.out HKo.out) (by rw [hsz.out]; decide)⟩, upd z 53 (ptr lb), (by unfold Hid; simp [upd, e5, e6, e7]), hz.next apx hsz.out 8 (by decide) _ (fun _ h => by cases h), Whu.done (⟨lb, cv8, wx, rfl, hlow, hq⟩), Whn.never (by decide) (fun hl => hcl 9 8 hl (by kernel_rfl)) hu⟩
          · have e3 : z 48 = .map (some S.mv) := hz 3 _ (hw 3 (by kernel_rfl)) rfl
            have e4 : z 49 = .agg (vert d k).c := hz 4 _ (hw 4 (by kernel_rfl)) rfl
            have p8 := hp8.get (hw 8 (by kernel_rfl)) hu
            obtain ⟨lb, cv8, wc, hv10, hbw, hq⟩ := p8
            have hm5 := HM7.out wc wx lb cv8 hbw hq
            obtain ⟨w6, kr, hm6, hc6⟩ := hm5.put kbV Tryd.underlying36 HNv.out (vert d k) (val := ptr lb) (.inr (.inl ⟨lb, rfl⟩))
            refine wpOp_plain rfl rfl ?_
            go_simp
            exact ⟨⟨by simp [hsz.out], hx.out.more (hc6.mono (fun b hb => .inl (by rw [List.mem_singleton.1 hb]; exact HKV.out))) (hw 8 (by kernel_rfl))⟩, upd z 1009 (undef), (by unfold Hid; simp [upd, e3, e4, hv10]), hz.next apx hsz.out 9 (by decide) _ (fun _ h => by cases h), Whu.past (by rw [hsz.out]; decide), Whn.done (⟨cv8, ls ++ [lb], by rw [List.length_append, Hlk.out, List.length_singleton], HNx.out wc wx w6 lb cv8 hbw hq hm6 hc6⟩)⟩
        · exact ⟨⟨rfl, RelC.start⟩, fun xx => (#[ptr S.g, .agg (givC d lnv gnv), undef, ptr bx, ptr pb, .int .i64 k, .string s, .pointer (some ⟨b7, 0, none⟩), ptr S.g, .pointer (some ⟨S.g, 0, none⟩), .pointer (some ⟨S.g, 4, none⟩), .int .i64 S.added, .int .i64 ad, .pointer (some ⟨S.g, 0, none⟩), .pointer (some ⟨S.g, 4, none⟩), y15, y16, y17, y18, y19, y20, y21, y22, y23, y24, y25, y26, y27, y28, y29, y30, ptr pb, .pointer (some ⟨pb, 0, none⟩), .pointer (some ⟨pb, 0, none⟩), .pointer (some ⟨pb, 100, none⟩), .slice (some ⟨gs, off, none⟩) n c, .int .i64 n, .int .i64 k, .bool true, .int .i64 k, .pointer (some ⟨gs, off + k, none⟩), .string s, .agg (givC d lnv gnv), .int .i64 k, .agg (vert d k).c, u45, u46, u47, u48, u49, u50, u51, u52, u53, u54, undef, undef, undef, undef, undef, undef, undef, undef, undef, undef, undef, undef, undef, undef, undef, undef, undef, undef, undef, undef, undef, undef, undef, undef, undef, undef] : Array Value).getD xx undef, (by rfl), Holding.start, Whu.none (by decide), Whn.none (by decide)⟩
      · have hltI : ¬ (k : Int) < n := by omega
        obtain rfl : k = n := by omega
        have hP := hI.out
        have hB : GRow wr bx d lnv gnv := hP.gvr
        have HB9 := Lib.hid hB
        have HG9 : Hid (wr.cell? ⟨S.g, 3, none⟩ = some (.map (some S.mv))) := cell_row hP.gr 3
        have HG2 : Hid (wr.cell? ⟨S.g, 2, none⟩ = some (.map (some S.mp))) := cell_row hP.gr 2
        have HC9 := Lib.hid hP.prt.chn
        obtain ⟨Ac, cc, hcv⟩ := hP.own.shape
        obtain ⟨K, hK⟩ : ∃ K : List Nat, K = pb :: cv.ownBlock.toList := ⟨_, rfl⟩
        have HKp : Hid (pb ∈ K) := by show pb ∈ K; rw [hK]; simp
        have HKo : Hid (∀ b, cv.ownBlock = some b → b ∈ K) := by intro b hb; rw [hK, hb]; simp
        have HKe : Hid (K = pb :: cv.ownBlock.toList) := hK
        have nk : ∀ {b T : Nat} {C : Array Value}, wr.heap[b]? = some (.cells C T (0, 0)) → T ≠ 90 → T ≠ 87 → b ∉ K := fun hb h1 h2 hm => by
          rw [hK] at hm
          simp only [List.mem_cons, Option.mem_toList] at hm
          rcases hm with h | h
          · exact ne_ty hb hP.prt h1 h
          · exact Lib.ownBlock_ne hP.own hb h2 h
        have HKG : Hid (S.g ∉ K) := nk hP.gr (by decide) (by decide)
        have HKb : Hid (bx ∉ K) := nk hB (by decide) (by decide)
        have HKm : Hid (S.mv ∉ K) := fun hm => by
          rw [hK] at hm
          simp only [List.mem_cons, Option.mem_toList] at hm
          rcases hm with h | h
          · exact hP.mapV.ne hP.prt h.symm
          · exact own_map hP.mapV hP.own h
        have HKmp : Hid (S.mp ∉ K) := fun hm => by
          rw [hK] at hm
          simp only [List.mem_cons, Option.mem_toList] at hm
          rcases hm with h | h
          · exact hP.mapP.ne hP.prt h.symm
          · exact own_map hP.mapP hP.own h
        have HLd : Hid (∀ x : World, x.heap[S.mv]? = wr.heap[S.mv]? → (Instr.lookup 36 (.map (some S.mv)) (.agg d.down.c) false).run Tryd.prog x = .ok (ptr dn) x) := fun x hx => by
          have := (hP.mapV.stay hx).look kbV Tryd.underlying36 (zeroL x) isPtr d.down
          rw [show fkP S d ls d.down = some dn by unfold fkP; rw [if_neg (fun hm => HF.out.apart _ (List.mem_of_mem_take hm) HF.out.downIn)]; exact Hdn.out] at this
          exact this
        have HmvLt : Hid (S.mv < wr.heap.size) := hP.mapV.lt
        obtain ⟨mm, hmm⟩ : ∃ mm, mm = (u :: ls).length := ⟨_, rfl⟩
        rw [← hmm] at hcv
        have Hcv : Hid (cv = .slice Ac mm cc) := hcv
        have Hlk := Lib.hid hlk
        have HWr : Hid (w.heap.size ≤ wr.heap.size) := hP.chg.size
        have Hl6 : Hid ((u :: ls).length ≤ 1000000) := by show _ ≤ _; rw [List.length_cons, hlk]; omega
        clear hB hcv hK nk hlk hP hmm
        go_upto_region 9 with (fail)
        have apx : apartB [55, 56, 57, 58, 59, 60, 61, 62, 63, 64, 65, 66, 67, 68, 69, 70, 1016] = true := by decide
        refine wp_region_any (by kernel_rfl) ?_
        change wpAny _ _ _ _ _ _ _ (World.drew _)
        refine wpAny_inv2 (fun ll aa wx => Hid (ll.size = 17 ∧ RelC 13 K wr ll wx) ∧ ∃ (z : Nat → Value), Hid (aa = ⟨#[ptr S.g, .agg (givC d lnv gnv), undef, ptr bx, ptr pb, u5, u6, u7, ptr S.g, .pointer (some ⟨S.g, 0, none⟩), .pointer (some ⟨S.g, 4, none⟩), .int .i64 S.added, .int .i64 ad, .pointer (some ⟨S.g, 0, none⟩), .pointer (some ⟨S.g, 4, none⟩), y15, y16, y17, y18, y19, y20, y21, y22, y23, y24, y25, y26, y27, y28, y29, y30, ptr pb, .pointer (some ⟨pb, 0, none⟩), .pointer (some ⟨pb, 0, none⟩), .pointer (some ⟨pb, 100, none⟩), .slice A k c, .int .i64 k, .int .i64 k, .bool false, u39, u40, u41, u42, u43, u44, u45, u46, u47, u48, u49, u50, u51, u52, u53, u54, z 55, z 56, z 57, z 58, z 59, z 60, z 61, z 62, z 63, z 64, z 65, z 66, z 67, z 68, z 69, z 70, undef, undef, undef, undef, undef, undef, undef, undef, undef, undef], []⟩) ∧ Holding [55, 56, 57, 58, 59, 60, 61, 62, 63, 64, 65, 66, 67, 68, 69, 70, 1016] [some (ptr pb), some (ptr pb), some (.pointer (some ⟨pb, 0, none⟩)), some (.pointer (some ⟨pb, 103, none⟩)), some (.slice Ac mm cc), some (ptr S.g), some (.pointer (some ⟨S.g, 0, none⟩)), some (.pointer (some ⟨S.g, 3, none⟩)), some (.map (some S.mv)), some (.pointer (some ⟨bx, 67, none⟩)), some (.agg d.down.c), some (ptr dn), none, none, some (.pointer (some ⟨pb, 0, none⟩)), some (.pointer (some ⟨pb, 103, none⟩)), none] ll z ∧ Whu ll 12 13 (OneP dn) (z 67) wx ∧ Whu ll 13 16 (ChQ w.heap.size pb (u :: (ls ++ [dn])) wr) (z 68) wx ∧ Whn ll 16 (ChE w.heap.size pb d l g (S.added + 1) (u :: (ls ++ [dn])) K wr) (z 1016) wx) ?_ (by kernel_rfl) ?_ ?_ _ rfl _ _ ?_
        · rintro ll aa wx ⟨hI, _⟩
          exact hI.out.1
        · rintro ll aa wx ⟨hI, z, ha, hz, hp12, hp13, hp16⟩ hall
          have hx := Lib.hid hI.out.2
          have e0 : z 55 = ptr pb := hz 0 _ (hall 0 (by decide)) rfl
          have e1 : z 56 = ptr pb := hz 1 _ (hall 1 (by decide)) rfl
          have e2 : z 57 = .pointer (some ⟨pb, 0, none⟩) := hz 2 _ (hall 2 (by decide)) rfl
          have e3 : z 58 = .pointer (some ⟨pb, 103, none⟩) := hz 3 _ (hall 3 (by decide)) rfl
          have e4 : z 59 = .slice Ac mm cc := hz 4 _ (hall 4 (by decide)) rfl
          have e5 : z 60 = ptr S.g := hz 5 _ (hall 5 (by decide)) rfl
          have e6 : z 61 = .pointer (some ⟨S.g, 0, none⟩) := hz 6 _ (hall 6 (by decide)) rfl
          have e7 : z 62 = .pointer (some ⟨S.g, 3, none⟩) := hz 7 _ (hall 7 (by decide)) rfl
          have e8 : z 63 = .map (some S.mv) := hz 8 _ (hall 8 (by decide)) rfl
          have e9 : z 64 = .pointer (some ⟨bx, 67, none⟩) := hz 9 _ (hall 9 (by decide)) rfl
          have e10 : z 65 = .agg d.down.c := hz 10 _ (hall 10 (by decide)) rfl
          have e11 : z 66 = ptr dn := hz 11 _ (hall 11 (by decide)) rfl
          have e14 : z 69 = .pointer (some ⟨pb, 0, none⟩) := hz 14 _ (hall 14 (by decide)) rfl
          have e15 : z 70 = .pointer (some ⟨pb, 103, none⟩) := hz 15 _ (hall 15 (by decide)) rfl
          have p16 := hp16.get (hall 16 (by decide))
          clear hall hz hI hp12 hp13 hp16
          obtain rfl := ha.out
          clear ha
          clear apx
          have HQ9 := Lib.hid p16
          clear hx p16 e0 e1 e2 e3 e4 e5 e6 e7 e8 e9 e10 e11 e14 e15
          generalize z 55 = q55
          generalize z 56 = q56
          generalize z 57 = q57
          generalize z 58 = q58
          generalize z 59 = q59
          generalize z 60 = q60
          generalize z 61 = q61
          generalize z 62 = q62
          generalize z 63 = q63
          generalize z 64 = q64
          generalize z 65 = q65
          generalize z 66 = q66
          generalize z 67 = q67
          generalize z 68 = q68
          generalize z 69 = q69
          generalize z 70 = q70
          rename World => w9
          obtain ⟨cv2, hp9, ho9, hc9⟩ := HQ9.out
          have hmP9 := hI.out.mapP.stay (hc9.block _ hI.out.mapP.lt HKmp.out)
          have HB10 : Hid (GRow w9 bx d lnv gnv) := hc9.at HB9.out HKb.out
          have HG10 : Hid (w9.cell? ⟨S.g, 2, none⟩ = some (.map (some S.mp))) := (World.cell?_of_block (hc9.block _ (World.block_lt_of_cell? _ _ HG2.out) HKG.out)).trans HG2.out
          have HgN : Hid (S.g ∉ [S.mp]) := by
            show _ ∉ _
            simp only [List.mem_singleton]
            exact hI.out.mapP.ne hI.out.gr
          have HbN : Hid (bx ∉ [S.mp]) := by
            show _ ∉ _
            simp only [List.mem_singleton]
            exact hI.out.mapP.ne HB9.out
          have hfn : (S.ps.find? fun p => decide (p.d.nm = d.nm)).map (fun p => ptr p.b) = none := by
            rw [Option.map_eq_none_iff, List.find?_eq_none]
            intro q hq
            simpa using HF.out.name q.d (List.mem_map.2 ⟨q, hq, rfl⟩)
          have HMp := Lib.hid hmP9
          have Hfn := Lib.hid hfn
          have HPs : Hid (S.ps.length < 100000000) := by have := Hln.out.2.2.1; show _ < _; omega
          clear hmP9 hfn hp9 ho9 hc9 HG2 HG9 HC9 HLd
          go_upto_region 10 with (fail)
          have apx : apartB [71, 72, 73, 74, 75, 76, 77, 1007] = true := by decide
          refine wp_region_any (by kernel_rfl) ?_
          change wpAny _ _ _ _ _ _ _ (World.drew _)
          refine wpAny_inv2 (fun ll aa wx => Hid (ll.size = 8 ∧ RelC 7 [S.mp] w9 ll wx) ∧ ∃ (z : Nat → Value), Hid (aa = ⟨#[ptr S.g, .agg (givC d lnv gnv), undef, ptr bx, ptr pb, u5, u6, u7, ptr S.g, .pointer (some ⟨S.g, 0, none⟩), .pointer (some ⟨S.g, 4, none⟩), .int .i64 S.added, .int .i64 ad, .pointer (some ⟨S.g, 0, none⟩), .pointer (some ⟨S.g, 4, none⟩), y15, y16, y17, y18, y19, y20, y21, y22, y23, y24, y25, y26, y27, y28, y29, y30, ptr pb, .pointer (some ⟨pb, 0, none⟩), .pointer (some ⟨pb, 0, none⟩), .pointer (some ⟨pb, 100, none⟩), .slice A k c, .int .i64 k, .int .i64 k, .bool false, u39, u40, u41, u42, u43, u44, u45, u46, u47, u48, u49, u50, u51, u52, u53, u54, q55, q56, q57, q58, q59, q60, q61, q62, q63, q64, q65, q66, q67, q68, q69, q70, z 71, z 72, z 73, z 74, z 75, z 76, z 77, undef, undef, undef], []⟩) ∧ Holding [71, 72, 73, 74, 75, 76, 77, 1007] [some (ptr S.g), some (.pointer (some ⟨S.g, 0, none⟩)), some (.pointer (some ⟨S.g, 2, none⟩)), some (.map (some S.mp)), some (.agg (givC d lnv gnv)), some (.agg d.nm.c), some (ptr pb), none] ll z ∧ Whn ll 7 (MpQ S.mp (S.ps.length + 1) (upd1 (fun x => (S.ps.find? fun p => decide (p.d.nm = x)).map fun p => ptr p.b) d.nm (some (ptr pb))) w9) (z 1007) wx) ?_ (by kernel_rfl) ?_ ?_ _ rfl _ _ ?_
          · rintro ll aa wx ⟨hI, _⟩
            exact hI.out.1
          · rintro ll aa wx ⟨hI, z, ha, hz, hp7⟩ hall
            have hx := Lib.hid hI.out.2
            have e0 : z 71 = ptr S.g := hz 0 _ (hall 0 (by decide)) rfl
            have e1 : z 72 = .pointer (some ⟨S.g, 0, none⟩) := hz 1 _ (hall 1 (by decide)) rfl
            have e2 : z 73 = .pointer (some ⟨S.g, 2, none⟩) := hz 2 _ (hall 2 (by decide)) rfl
            have e3 : z 74 = .map (some S.mp) := hz 3 _ (hall 3 (by decide)) rfl
            have e4 : z 75 = .agg (givC d lnv gnv) := hz 4 _ (hall 4 (by decide)) rfl
            have e5 : z 76 = .agg d.nm.c := hz 5 _ (hall 5 (by decide)) rfl
            have e6 : z 77 = ptr pb := hz 6 _ (hall 6 (by decide)) rfl
            have p7 := hp7.get (hall 7 (by decide))
            clear hall hz hI hp7
            obtain rfl := ha.out
            clear ha
            clear apx
            have HQ10 := Lib.hid p7
            clear hx p7 e0 e1 e2 e3 e4 e5 e6
            generalize z 71 = q71
            generalize z 72 = q72
            generalize z 73 = q73
            generalize z 74 = q74
            generalize z 75 = q75
            generalize z 76 = q76
            generalize z 77 = q77
            rename World => w10
            obtain ⟨cv2, hp9, ho9, hc9⟩ := HQ9.out
            obtain ⟨hm10, hc10⟩ := HQ10.out
            obtain ⟨p, hpd, hpb, hpls, hpl, hpo, hpin, hgm, hchg⟩ := PU.done HM.out HOk.out hI.out HF.out HLe.out HNe.out (by rw [Hlk.out, ← HN.out]) Hu.out Hdn.out (by rw [← HKe.out]; exact hc9) hp9 ho9 hm10 hc10 Hmg.out
            have hok2 := HOk.out.more hpo
            have hbu : ∀ b, -1000000000 ≤ usS S b ∧ usS S b ≤ 1000000000 := usS_bd HLs.out Hgl.out
            have hbg : ∀ v, -1000000000 ≤ gnS S v ∧ gnS S v ≤ 1000000000 := gnS_bd HLs.out Hgl.out
            have hcnt := count_any (moreS S p) (usS S) (gnS S) hok2 p hpin 1 (by omega) hbu hbg (fun v hv => by
              rw [hpd] at hv
              exact (lineB_in hgm.lsl).2 (List.mem_append.2 (.inr (HF.out.goneIn v hv).1))) (by rw [hpd]; have := Hln.out.2.1; omega) (by rw [hpd, ← HN.out]; omega) (blk (moreS S p)) (fun q hq => by
                refine ⟨?_, fun b hb => ?_⟩
                · unfold blk; simp only [List.mem_cons, List.mem_flatMap]; exact .inr (.inr (.inr (.inr (.inr (.inr ⟨q, hq, by simp⟩)))))
                · unfold blk; simp only [List.mem_cons, List.mem_flatMap]; exact .inr (.inr (.inr (.inr (.inr (.inr ⟨q, hq, by simp [hb]⟩)))))) (by unfold blk moreS; simp) w10 hgm
            rw [hpb] at hcnt
            have HFin : Hid (∀ w', GM w' (moreS S p) (cntU (moreS S p) p.d 1 (usS S) p.d.gone.length) (cntG p.d 1 (gnS S) p.d.gone.length) → Chg (blk (moreS S p)) w10 w' → PutQ w S d w') := fun w' hg hc => by
              rw [← usS_more HOk.out hpo, ← gnS_more] at hg
              refine ⟨p, hpd, by rw [hpb]; exact hI.out.pbN, hpls, ⟨hg, hok2, HMne.out⟩, ?_⟩
              refine ⟨hc.os.trans hchg.os, hc.tape.trans hchg.tape, hc.output.trans hchg.output, Nat.le_trans hchg.size hc.size, fun k hk hn => ?_⟩
              have hnot : k ∉ blk (moreS S p) := fun hm => by
                unfold blk moreS at hm
                simp only [List.mem_cons, List.mem_flatMap, List.flatMap_cons, List.mem_append] at hm
                have hpn := hI.out.pbN
                rcases hm with h | h | h | h | h | h | (h | h) | h
                · exact hn (by rw [h]; simp [blk])
                · exact hn (by rw [h]; simp [blk])
                · exact hn (by rw [h]; simp [blk])
                · exact hn (by rw [h]; simp [blk])
                · exact hn (by rw [h]; simp [blk])
                · exact hn (by rw [h]; simp [blk])
                · rw [h, hpb] at hk; omega
                · have := hpls k h; omega
                · exact hn (by unfold blk; simp only [List.mem_cons, List.mem_flatMap]; exact .inr (.inr (.inr (.inr (.inr (.inr h))))))
              exact (hc.block k (Nat.lt_of_lt_of_le hk hchg.size) hnot).trans (hchg.block k hk (fun hm => hn (by
                simp only [List.mem_cons, List.mem_nil_iff, or_false] at hm
                rcases hm with h | h | h <;> rw [h] <;> simp [blk])))
            clear hp9 ho9 hc9 hm10 hc10 hpd hpls hpl hpo hpin hgm hchg hok2 hbu hbg hI
            go_wp2_with (go_at_call 74; refine hcnt.mono ?_; rintro e w11 ⟨rfl, hg11, hc11⟩)
            exact bodyPost_end (results_none rfl _ _ _) rfl ⟨rfl, HFin.out w11 hg11 hc11⟩
          · rintro ll aa wx i ⟨hI, z, ha, hz, hp7⟩ hcl hi hu hw
            obtain rfl := ha.out
            have hsz := Lib.hid hI.out.1
            have hx := Lib.hid hI.out.2
            clear ha hI
            have hin : i < 8 := hi
            obtain rfl | rfl | rfl | rfl | rfl | rfl | rfl | rfl : i = 0 ∨ i = 1 ∨ i = 2 ∨ i = 3 ∨ i = 4 ∨ i = 5 ∨ i = 6 ∨ i = 7 := by omega
            · refine wpOp_plain rfl rfl ?_
              go_simp
              exact ⟨⟨by simp [hsz.out], hx.out.same⟩, upd z 71 (ptr S.g), (by unfold Hid; simp [upd]), hz.next apx hsz.out 0 (by decide) _ (fun _ h => Option.some.inj h), hp7.keep (by decide)⟩
            · have e0 : z 71 = ptr S.g := hz 0 _ (hw 0 (by kernel_rfl)) rfl
              refine wpOp_plain rfl rfl ?_
              go_simp
              exact ⟨⟨by simp [hsz.out], hx.out.same⟩, upd z 72 (.pointer (some ⟨S.g, 0, none⟩)), (by unfold Hid; simp [upd, e0]), hz.next apx hsz.out 1 (by decide) _ (fun _ h => Option.some.inj h), hp7.keep (by decide)⟩
            · have e1 : z 72 = .pointer (some ⟨S.g, 0, none⟩) := hz 1 _ (hw 1 (by kernel_rfl)) rfl
              refine wpOp_plain rfl rfl ?_
              go_simp
              exact ⟨⟨by simp [hsz.out], hx.out.same⟩, upd z 73 (.pointer (some ⟨S.g, 2, none⟩)), (by unfold Hid; simp [upd, e1]), hz.next apx hsz.out 2 (by decide) _ (fun _ h => Option.some.inj h), hp7.keep (by decide)⟩
            · have e2 : z 73 = .pointer (some ⟨S.g, 2, none⟩) := hz 2 _ (hw 2 (by kernel_rfl)) rfl
              have cl := hx.out.cell HG10.out HgN.out
              refine wpOp_plain rfl rfl ?_
              go_simp
              exact ⟨⟨by simp [hsz.out], hx.out.same⟩, upd z 74 (.map (some S.mp)), (by unfold Hid; simp [upd, e2]), hz.next apx hsz.out 3 (by decide) _ (fun _ h => Option.some.inj h), hp7.keep (by decide)⟩
            · have cl := loadGv_eq (hx.out.at HB10.out HbN.out)
              refine wpOp_plain rfl rfl ?_
              go_simp
              exact ⟨⟨by simp [hsz.out], hx.out.same⟩, upd z 75 (.agg (givC d lnv gnv)), (by unfold Hid; simp [upd]), hz.next apx hsz.out 4 (by decide) _ (fun _ h => Option.some.inj h), hp7.keep (by decide)⟩
            · have e4 : z 75 = .agg (givC d lnv gnv) := hz 4 _ (hw 4 (by kernel_rfl)) rfl
              refine wpOp_plain rfl rfl ?_
              go_simp
              go_at_call 73
              refine (name_any d lnv gnv wx).mono ?_
              rintro e w8 ⟨rfl, low⟩
              exact ⟨⟨by simp [hsz.out], hx.out.call low⟩, upd z 76 (.agg d.nm.c), (by unfold Hid; simp [upd, e4]), hz.next apx hsz.out 5 (by decide) _ (fun _ h => Option.some.inj h), Whn.never (by decide) (fun hl => hcl 7 5 hl (by kernel_rfl)) hu⟩
            · refine wpOp_plain rfl rfl ?_
              go_simp
              exact ⟨⟨by simp [hsz.out], hx.out.same⟩, upd z 77 (ptr pb), (by unfold Hid; simp [upd]), hz.next apx hsz.out 6 (by decide) _ (fun _ h => Option.some.inj h), hp7.keep (by decide)⟩
            · have e3 : z 74 = .map (some S.mp) := hz 3 _ (hw 3 (by kernel_rfl)) rfl
              have e5 : z 76 = .agg d.nm.c := hz 5 _ (hw 5 (by kernel_rfl)) rfl
              have e6 : z 77 = ptr pb := hz 6 _ (hw 6 (by kernel_rfl)) rfl
              have hlow := hx.out.2 hu
              obtain ⟨w6, kr, hm6, hc6⟩ := (HMp.out.stay (hlow.block _ HMp.out.lt)).put kbN Tryd.underlying35 HPs.out d.nm (val := ptr pb) (.inr (.inl ⟨pb, rfl⟩))
              simp only [Hfn.out, Option.isSome_none, Bool.false_eq_true, if_false] at hm6
              have Hm6 := Lib.hid hm6
              clear hm6
              refine wpOp_plain rfl rfl ?_
              go_simp
              exact ⟨⟨by simp [hsz.out], hx.out.wr hc6 (by rw [hsz.out]; decide)⟩, upd z 1007 (undef), (by unfold Hid; simp [upd, e3, e5, e6]), hz.next apx hsz.out 7 (by decide) _ (fun _ h => by cases h), Whn.done (⟨Hm6.out, (Chg.of_below hlow).trans hc6⟩)⟩
          · exact ⟨⟨rfl, RelC.start⟩, fun xx => (#[ptr S.g, .agg (givC d lnv gnv), undef, ptr bx, ptr pb, u5, u6, u7, ptr S.g, .pointer (some ⟨S.g, 0, none⟩), .pointer (some ⟨S.g, 4, none⟩), .int .i64 S.added, .int .i64 ad, .pointer (some ⟨S.g, 0, none⟩), .pointer (some ⟨S.g, 4, none⟩), y15, y16, y17, y18, y19, y20, y21, y22, y23, y24, y25, y26, y27, y28, y29, y30, ptr pb, .pointer (some ⟨pb, 0, none⟩), .pointer (some ⟨pb, 0, none⟩), .pointer (some ⟨pb, 100, none⟩), .slice A k c, .int .i64 k, .int .i64 k, .bool false, u39, u40, u41, u42, u43, u44, u45, u46, u47, u48, u49, u50, u51, u52, u53, u54, q55, q56, q57, q58, q59, q60, q61, q62, q63, q64, q65, q66, q67, q68, q69, q70, undef, undef, undef, undef, undef, undef, undef, undef, undef, undef] : Array Value).getD xx undef, (by rfl), Holding.start, Whn.none (by decide)⟩
        · rintro ll aa wx i ⟨hI, z, ha, hz, hp12, hp13, hp16⟩ hcl hi hu hw
          obtain rfl := ha.out
          have hsz := Lib.hid hI.out.1
          have hx := Lib.hid hI.out.2
          clear ha hI
          have hin : i < 17 := hi
          obtain rfl | rfl | rfl | rfl | rfl | rfl | rfl | rfl | rfl | rfl | rfl | rfl | rfl | rfl | rfl | rfl | rfl : i = 0 ∨ i = 1 ∨ i = 2 ∨ i = 3 ∨ i = 4 ∨ i = 5 ∨ i = 6 ∨ i = 7 ∨ i = 8 ∨ i = 9 ∨ i = 10 ∨ i = 11 ∨ i = 12 ∨ i = 13 ∨ i = 14 ∨ i = 15 ∨ i = 16 := by omega
          · refine wpOp_plain rfl rfl ?_
            go_simp
            exact ⟨⟨by simp [hsz.out], hx.out.same⟩, upd z 55 (ptr pb), (by unfold Hid; simp [upd]), hz.next apx hsz.out 0 (by decide) _ (fun _ h => Option.some.inj h), hp12.keep (by decide), hp13.keep (by decide), hp16.keep (by decide)⟩
          · refine wpOp_plain rfl rfl ?_
            go_simp
            exact ⟨⟨by simp [hsz.out], hx.out.same⟩, upd z 56 (ptr pb), (by unfold Hid; simp [upd]), hz.next apx hsz.out 1 (by decide) _ (fun _ h => Option.some.inj h), hp12.keep (by decide), hp13.keep (by decide), hp16.keep (by decide)⟩
          · have e1 : z 56 = ptr pb := hz 1 _ (hw 1 (by kernel_rfl)) rfl
            refine wpOp_plain rfl rfl ?_
            go_simp
            exact ⟨⟨by simp [hsz.out], hx.out.same⟩, upd z 57 (.pointer (some ⟨pb, 0, none⟩)), (by unfold Hid; simp [upd, e1]), hz.next apx hsz.out 2 (by decide) _ (fun _ h => Option.some.inj h), hp12.keep (by decide), hp13.keep (by decide), hp16.keep (by decide)⟩
          · have e2 : z 57 = .pointer (some ⟨pb, 0, none⟩) := hz 2 _ (hw 2 (by kernel_rfl)) rfl
            refine wpOp_plain rfl rfl ?_
            go_simp
            exact ⟨⟨by simp [hsz.out], hx.out.same⟩, upd z 58 (.pointer (some ⟨pb, 103, none⟩)), (by unfold Hid; simp [upd, e2]), hz.next apx hsz.out 3 (by decide) _ (fun _ h => Option.some.inj h), hp12.keep (by decide), hp13.keep (by decide), hp16.keep (by decide)⟩
          · have e3 : z 58 = .pointer (some ⟨pb, 103, none⟩) := hz 3 _ (hw 3 (by kernel_rfl)) rfl
            have hlow := hx.out.2 (no_of (fun hl => hcl 13 4 hl (by kernel_rfl)) hu)
            have cl := (hlow.cell (World.block_lt_of_cell? _ _ HC9.out)).trans HC9.out
            have hcv := Hcv.out
            rw [hcv] at cl
            clear hcv
            refine wpOp_plain rfl rfl ?_
            go_simp
            exact ⟨⟨by simp [hsz.out], hx.out.same⟩, upd z 59 (.slice Ac mm cc), (by unfold Hid; simp [upd, e3]), hz.next apx hsz.out 4 (by decide) _ (fun _ h => Option.some.inj h), hp12.keep (by decide), hp13.keep (by decide), hp16.keep (by decide)⟩
          · refine wpOp_plain rfl rfl ?_
            go_simp
            exact ⟨⟨by simp [hsz.out], hx.out.same⟩, upd z 60 (ptr S.g), (by unfold Hid; simp [upd]), hz.next apx hsz.out 5 (by decide) _ (fun _ h => Option.some.inj h), hp12.keep (by decide), hp13.keep (by decide), hp16.keep (by decide)⟩
          · have e5 : z 60 = ptr S.g := hz 5 _ (hw 5 (by kernel_rfl)) rfl
            refine wpOp_plain rfl rfl ?_
            go_simp
            exact ⟨⟨by simp [hsz.out], hx.out.same⟩, upd z 61 (.pointer (some ⟨S.g, 0, none⟩)), (by unfold Hid; simp [upd, e5]), hz.next apx hsz.out 6 (by decide) _ (fun _ h => Option.some.inj h), hp12.keep (by decide), hp13.keep (by decide), hp16.keep (by decide)⟩
          · have e6 : z 61 = .pointer (some ⟨S.g, 0, none⟩) := hz 6 _ (hw 6 (by kernel_rfl)) rfl
            refine wpOp_plain rfl rfl ?_
            go_simp
            exact ⟨⟨by simp [hsz.out], hx.out.same⟩, upd z 62 (.pointer (some ⟨S.g, 3, none⟩)), (by unfold Hid; simp [upd, e6]), hz.next apx hsz.out 7 (by decide) _ (fun _ h => Option.some.inj h), hp12.keep (by decide), hp13.keep (by decide), hp16.keep (by decide)⟩
          · have e7 : z 62 = .pointer (some ⟨S.g, 3, none⟩) := hz 7 _ (hw 7 (by kernel_rfl)) rfl
            have cl := hx.out.cell HG9.out HKG.out
            refine wpOp_plain rfl rfl ?_
            go_simp
            exact ⟨⟨by simp [hsz.out], hx.out.same⟩, upd z 63 (.map (some S.mv)), (by unfold Hid; simp [upd, e7]), hz.next apx hsz.out 8 (by decide) _ (fun _ h => Option.some.inj h), hp12.keep (by decide), hp13.keep (by decide), hp16.keep (by decide)⟩
          · refine wpOp_plain rfl rfl ?_
            go_simp
            exact ⟨⟨by simp [hsz.out], hx.out.same⟩, upd z 64 (.pointer (some ⟨bx, 67, none⟩)), (by unfold Hid; simp [upd]), hz.next apx hsz.out 9 (by decide) _ (fun _ h => Option.some.inj h), hp12.keep (by decide), hp13.keep (by decide), hp16.keep (by decide)⟩
          · have e9 : z 64 = .pointer (some ⟨bx, 67, none⟩) := hz 9 _ (hw 9 (by kernel_rfl)) rfl
            have cl := loadVx_eq (GRow.down (hx.out.at HB9.out HKb.out))
            refine wpOp_plain rfl rfl ?_
            go_simp
            exact ⟨⟨by simp [hsz.out], hx.out.same⟩, upd z 65 (.agg d.down.c), (by unfold Hid; simp [upd, e9]), hz.next apx hsz.out 10 (by decide) _ (fun _ h => Option.some.inj h), hp12.keep (by decide), hp13.keep (by decide), hp16.keep (by decide)⟩
          · have e8 : z 63 = .map (some S.mv) := hz 8 _ (hw 8 (by kernel_rfl)) rfl
            have e10 : z 65 = .agg d.down.c := hz 10 _ (hw 10 (by kernel_rfl)) rfl
            have cl := HLd.out wx (hx.out.1.block _ HmvLt.out HKm.out)
            refine wpOp_plain rfl rfl ?_
            go_simp
            exact ⟨⟨by simp [hsz.out], hx.out.same⟩, upd z 66 (ptr dn), (by unfold Hid; simp [upd, e8, e10]), hz.next apx hsz.out 11 (by decide) _ (fun _ h => Option.some.inj h), hp12.keep (by decide), hp13.keep (by decide), hp16.keep (by decide)⟩
          · have e11 : z 66 = ptr dn := hz 11 _ (hw 11 (by kernel_rfl)) rfl
            refine wpOp_plain rfl rfl ?_
            go_simp
            have lown : Below wx.heap.size wx (wx.alloc (.cells #[ptr dn] 87)) := (Below.refl _ _).alloc (Nat.le_refl _) _
            exact ⟨⟨by simp [hsz.out], hx.out.call lown⟩, upd z 67 (.slice (some ⟨wx.heap.size, 0, none⟩) 1 1), (by unfold Hid; simp [upd, e11]), hz.next apx hsz.out 12 (by decide) _ (fun _ h => by cases h), Whu.done (⟨wx.heap.size, rfl, Go.heap_alloc_new wx _⟩), Whu.never (by decide) (fun hl => hcl 13 12 hl (by kernel_rfl)) hu, Whn.never (by decide) (fun hl => hcl 16 12 hl (by kernel_rfl)) hu⟩
          · have e4 : z 59 = .slice Ac mm cc := hz 4 _ (hw 4 (by kernel_rfl)) rfl
            have p12 := hp12.get (hw 12 (by kernel_rfl)) hu
            obtain ⟨q, hq, hqb⟩ := p12
            have hlow := hx.out.2 hu
            refine wpOp_plain rfl rfl (wp_app_ptr 88 Tryd.underlying88 (.tmp 59) (.tmp 67) rfl w.heap.size cv (u :: ls).length ((u :: ls).map ptr) dn (by show z 59 = cv; rw [Hcv.out]; exact e4) (own_stays hI.out.own hlow) q (by show z 67 = _; exact hq) hqb Hl6.out (Nat.le_trans HWr.out hlow.size) ?_)
            intro vr w4 own gr loc
            have hCh := ChQ.of hI.out.prt hI.out.own hlow own gr
            go_simp
            exact ⟨⟨by simp [hsz.out], hx.out.wr ⟨gr.os, gr.tape, gr.output, gr.size, fun k hk hn => gr.block k hk (fun e => hn (HKo.out k e.symm))⟩ (by rw [hsz.out]; decide)⟩, upd z 68 (vr), (by unfold Hid; simp [upd, e4, hq]), hz.next apx hsz.out 13 (by decide) _ (fun _ h => by cases h), Whu.past (by rw [hsz.out]; decide), Whu.done (hCh), Whn.never (by decide) (fun hl => hcl 16 13 hl (by kernel_rfl)) hu⟩
          · have e0 : z 55 = ptr pb := hz 0 _ (hw 0 (by kernel_rfl)) rfl
            refine wpOp_plain rfl rfl ?_
            go_simp
            exact ⟨⟨by simp [hsz.out], hx.out.same⟩, upd z 69 (.pointer (some ⟨pb, 0, none⟩)), (by unfold Hid; simp [upd, e0]), hz.next apx hsz.out 14 (by decide) _ (fun _ h => Option.some.inj h), hp12.keep (by decide), hp13.keep (by decide), hp16.keep (by decide)⟩
          · have e14 : z 69 = .pointer (some ⟨pb, 0, none⟩) := hz 14 _ (hw 14 (by kernel_rfl)) rfl
            refine wpOp_plain rfl rfl ?_
            go_simp
            exact ⟨⟨by simp [hsz.out], hx.out.same⟩, upd z 70 (.pointer (some ⟨pb, 103, none⟩)), (by unfold Hid; simp [upd, e14]), hz.next apx hsz.out 15 (by decide) _ (fun _ h => Option.some.inj h), hp12.keep (by decide), hp13.keep (by decide), hp16.keep (by decide)⟩
          · have e15 : z 70 = .pointer (some ⟨pb, 103, none⟩) := hz 15 _ (hw 15 (by kernel_rfl)) rfl
            have p13 := hp13.get (hw 13 (by kernel_rfl)) hu
            have hst := ChQ.store hI.out.prt p13 hx.out.1 HKp.out
            have hp2 : PRow wx pb d l g ((S.added + 1 : Nat) : Int) cv 0 := p13.2.trans hI.out.prt
            have cl := hp2.chn
            have fr := free_row hp2 103
            obtain ⟨A2, c2, hz2⟩ := p13.1.shape
            obtain ⟨m2, hm2⟩ : ∃ m2, m2 = (u :: (ls ++ [dn])).length := ⟨_, rfl⟩
            rw [← hm2] at hz2
            clear hm2
            rw [hz2] at hst
            have Hst := Lib.hid hst
            have hcv := Hcv.out
            rw [hcv] at cl
            clear hst hp2 hcv
            refine wpOp_plain rfl rfl ?_
            go_simp
            exact ⟨⟨by simp [hsz.out], hx.out.more ((Chg.refl _ _).setCell (p := ⟨pb, 103, none⟩) HKp.out _) (hw 13 (by kernel_rfl))⟩, upd z 1016 (undef), (by unfold Hid; simp [upd, e15, hz2]), hz.next apx hsz.out 16 (by decide) _ (fun _ h => by cases h), Whu.gone (hw 13 (by kernel_rfl)), Whu.past (by rw [hsz.out]; decide), Whn.done (Hst.out)⟩
        · exact ⟨⟨rfl, RelC.start⟩, fun xx => (#[ptr S.g, .agg (givC d lnv gnv), undef, ptr bx, ptr pb, u5, u6, u7, ptr S.g, .pointer (some ⟨S.g, 0, none⟩), .pointer (some ⟨S.g, 4, none⟩), .int .i64 S.added, .int .i64 ad, .pointer (some ⟨S.g, 0, none⟩), .pointer (some ⟨S.g, 4, none⟩), y15, y16, y17, y18, y19, y20, y21, y22, y23, y24, y25, y26, y27, y28, y29, y30, ptr pb, .pointer (some ⟨pb, 0, none⟩), .pointer (some ⟨pb, 0, none⟩), .pointer (some ⟨pb, 100, none⟩), .slice A k c, .int .i64 k, .int .i64 k, .bool false, u39, u40, u41, u42, u43, u44, u45, u46, u47, u48, u49, u50, u51, u52, u53, u54, undef, undef, undef, undef, undef, undef, undef, undef, undef, undef, undef, undef, undef, undef, undef, undef, undef, undef, undef, undef, undef, undef, undef, undef, undef, undef] : Array Value).getD xx undef, (by rfl), Holding.start, Whu.none (by decide), Whu.none (by decide), Whn.none (by decide)⟩
  · rintro ll aa wx i ⟨hI, z, ha, hz, hp1, hp13, hp14, hp15, hp16⟩ hi hu hw
    obtain rfl := ha.out
    have hsz := Lib.hid hI.out.1
    have hx := Lib.hid hI.out.2
    clear ha hI
    have hin : i < 17 := hi
    obtain rfl | rfl | rfl | rfl | rfl | rfl | rfl | rfl | rfl | rfl | rfl | rfl | rfl | rfl | rfl | rfl | rfl : i = 0 ∨ i = 1 ∨ i = 2 ∨ i = 3 ∨ i = 4 ∨ i = 5 ∨ i = 6 ∨ i = 7 ∨ i = 8 ∨ i = 9 ∨ i = 10 ∨ i = 11 ∨ i = 12 ∨ i = 13 ∨ i = 14 ∨ i = 15 ∨ i = 16 := by omega
    · have cl := (hx.out.block _ (Array.getElem?_eq_some_iff.1 HB.out).1).trans HB.out
      refine wpOp_plain rfl rfl (wp_load_row 31 (.tmp 3) rfl (bx) rfl 31 (givC d lnv gnv) (0, 0) _ cl Tryd.underlying31 rfl (infoGiv d lnv gnv) ?_)
      go_simp
      exact ⟨⟨by simp [hsz.out], hx.out⟩, upd z 15 (.agg (givC d lnv gnv)), (by unfold Hid; simp [upd]), hz.next apx hsz.out 0 (by decide) _ (fun _ h => Option.some.inj h), hp1.keep (by decide), hp13.keep (by decide), hp14.keep (by decide), hp15.keep (by decide), hp16.keep (by decide)⟩
    · have e0 : z 15 = .agg (givC d lnv gnv) := hz 0 _ (hw 0 (by kernel_rfl)) rfl
      refine wpOp_plain rfl rfl ?_
      go_simp
      go_at_call 71
      refine (HCp.out wx hx.out).mono ?_
      rintro e w8 ⟨l, g, rfl, ho1, ho2, low⟩
      exact ⟨⟨by simp [hsz.out], hx.out.trans (low.mono hx.out.size)⟩, upd z 16 (.agg (givC d l g)), (by unfold Hid; simp [upd, e0]), hz.next apx hsz.out 1 (by decide) _ (fun _ h => by cases h), Whn.done (⟨l, g, rfl, own_base ho1 (Nat.le_trans HB2.out hx.out.size), own_base ho2 (Nat.le_trans HB2.out hx.out.size)⟩), (hp13.keep (by decide)).map (fun h => h.later low), (hp14.keep (by decide)).map (fun h => h.later low), (hp15.keep (by decide)).map (fun h => h.later low), (hp16.keep (by decide)).map (fun h => h.later low)⟩
    · refine wpOp_plain rfl rfl ?_
      go_simp
      exact ⟨⟨by simp [hsz.out], hx.out⟩, upd z 17 (ptr S.g), (by unfold Hid; simp [upd]), hz.next apx hsz.out 2 (by decide) _ (fun _ h => Option.some.inj h), hp1.keep (by decide), hp13.keep (by decide), hp14.keep (by decide), hp15.keep (by decide), hp16.keep (by decide)⟩
    · have e2 : z 17 = ptr S.g := hz 2 _ (hw 2 (by kernel_rfl)) rfl
      refine wpOp_plain rfl rfl ?_
      go_simp
      exact ⟨⟨by simp [hsz.out], hx.out⟩, upd z 18 (.pointer (some ⟨S.g, 0, none⟩)), (by unfold Hid; simp [upd, e2]), hz.next apx hsz.out 3 (by decide) _ (fun _ h => Option.some.inj h), hp1.keep (by decide), hp13.keep (by decide), hp14.keep (by decide), hp15.keep (by decide), hp16.keep (by decide)⟩
    · have e3 : z 18 = .pointer (some ⟨S.g, 0, none⟩) := hz 3 _ (hw 3 (by kernel_rfl)) rfl
      refine wpOp_plain rfl rfl ?_
      go_simp
      exact ⟨⟨by simp [hsz.out], hx.out⟩, upd z 19 (.pointer (some ⟨S.g, 4, none⟩)), (by unfold Hid; simp [upd, e3]), hz.next apx hsz.out 4 (by decide) _ (fun _ h => Option.some.inj h), hp1.keep (by decide), hp13.keep (by decide), hp14.keep (by decide), hp15.keep (by decide), hp16.keep (by decide)⟩
    · have e4 : z 19 = .pointer (some ⟨S.g, 4, none⟩) := hz 4 _ (hw 4 (by kernel_rfl)) rfl
      have cl : wx.cell? ⟨S.g, 4, none⟩ = some (.int .i64 ad) := (hx.out.cell (p := ⟨S.g, 4, none⟩) (World.block_lt_of_cell? _ _ HG4.out)).trans HG4.out
      refine wpOp_plain rfl rfl ?_
      go_simp
      exact ⟨⟨by simp [hsz.out], hx.out⟩, upd z 20 (.int .i64 ad), (by unfold Hid; simp [upd, e4]), hz.next apx hsz.out 5 (by decide) _ (fun _ h => Option.some.inj h), hp1.keep (by decide), hp13.keep (by decide), hp14.keep (by decide), hp15.keep (by decide), hp16.keep (by decide)⟩
    · refine wpOp_plain rfl rfl ?_
      go_simp
      exact ⟨⟨by simp [hsz.out], hx.out⟩, upd z 21 (ptr S.g), (by unfold Hid; simp [upd]), hz.next apx hsz.out 6 (by decide) _ (fun _ h => Option.some.inj h), hp1.keep (by decide), hp13.keep (by decide), hp14.keep (by decide), hp15.keep (by decide), hp16.keep (by decide)⟩
    · have e6 : z 21 = ptr S.g := hz 6 _ (hw 6 (by kernel_rfl)) rfl
      refine wpOp_plain rfl rfl ?_
      go_simp
      exact ⟨⟨by simp [hsz.out], hx.out⟩, upd z 22 (.pointer (some ⟨S.g, 0, none⟩)), (by unfold Hid; simp [upd, e6]), hz.next apx hsz.out 7 (by decide) _ (fun _ h => Option.some.inj h), hp1.keep (by decide), hp13.keep (by decide), hp14.keep (by decide), hp15.keep (by decide), hp16.keep (by decide)⟩
    · have e7 : z 22 = .pointer (some ⟨S.g, 0, none⟩) := hz 7 _ (hw 7 (by kernel_rfl)) rfl
      refine wpOp_plain rfl rfl ?_
      go_simp
      exact ⟨⟨by simp [hsz.out], hx.out⟩, upd z 23 (.pointer (some ⟨S.g, 3, none⟩)), (by unfold Hid; simp [upd, e7]), hz.next apx hsz.out 8 (by decide) _ (fun _ h => Option.some.inj h), hp1.keep (by decide), hp13.keep (by decide), hp14.keep (by decide), hp15.keep (by decide), hp16.keep (by decide)⟩
    · have e8 : z 23 = .pointer (some ⟨S.g, 3, none⟩) := hz 8 _ (hw 8 (by kernel_rfl)) rfl
      have cl : wx.cell? ⟨S.g, 3, none⟩ = some (.map (some S.mv)) := (hx.out.cell (p := ⟨S.g, 3, none⟩) (World.block_lt_of_cell? _ _ HG3.out)).trans HG3.out
      refine wpOp_plain rfl rfl ?_
      go_simp
      exact ⟨⟨by simp [hsz.out], hx.out⟩, upd z 24 (.map (some S.mv)), (by unfold Hid; simp [upd, e8]), hz.next apx hsz.out 9 (by decide) _ (fun _ h => Option.some.inj h), hp1.keep (by decide), hp13.keep (by decide), hp14.keep (by decide), hp15.keep (by decide), hp16.keep (by decide)⟩
    · refine wpOp_plain rfl rfl ?_
      go_simp
      exact ⟨⟨by simp [hsz.out], hx.out⟩, upd z 25 (.pointer (some ⟨bx, 34, none⟩)), (by unfold Hid; simp [upd]), hz.next apx hsz.out 10 (by decide) _ (fun _ h => Option.some.inj h), hp1.keep (by decide), hp13.keep (by decide), hp14.keep (by decide), hp15.keep (by decide), hp16.keep (by decide)⟩
    · have e10 : z 25 = .pointer (some ⟨bx, 34, none⟩) := hz 10 _ (hw 10 (by kernel_rfl)) rfl
      have cl := loadVx_eq (GRow.up (at_below HB.out hx.out))
      refine wpOp_plain rfl rfl ?_
      go_simp
      exact ⟨⟨by simp [hsz.out], hx.out⟩, upd z 26 (.agg d.up.c), (by unfold Hid; simp [upd, e10]), hz.next apx hsz.out 11 (by decide) _ (fun _ h => Option.some.inj h), hp1.keep (by decide), hp13.keep (by decide), hp14.keep (by decide), hp15.keep (by decide), hp16.keep (by decide)⟩
    · have e9 : z 24 = .map (some S.mv) := hz 9 _ (hw 9 (by kernel_rfl)) rfl
      have e11 : z 26 = .agg d.up.c := hz 11 _ (hw 11 (by kernel_rfl)) rfl
      have cl := HLk.out wx hx.out
      refine wpOp_plain rfl rfl ?_
      go_simp
      exact ⟨⟨by simp [hsz.out], hx.out⟩, upd z 27 (ptr u), (by unfold Hid; simp [upd, e9, e11]), hz.next apx hsz.out 12 (by decide) _ (fun _ h => Option.some.inj h), hp1.keep (by decide), hp13.keep (by decide), hp14.keep (by decide), hp15.keep (by decide), hp16.keep (by decide)⟩
    · have e12 : z 27 = ptr u := hz 12 _ (hw 12 (by kernel_rfl)) rfl
      refine wpOp_plain rfl rfl ?_
      go_simp
      have lown : Below wx.heap.size wx (wx.alloc (.cells #[ptr u] 87)) := (Below.refl _ _).alloc (Nat.le_refl _) _
      exact ⟨⟨by simp [hsz.out], hx.out.trans (lown.mono hx.out.size)⟩, upd z 28 (.slice (some ⟨wx.heap.size, 0, none⟩) 1 1), (by unfold Hid; simp [upd, e12]), hz.next apx hsz.out 13 (by decide) _ (fun _ h => by cases h), (hp1.keep (by decide)).map (fun h => h.later lown), Whn.done (Row1.new (Nat.le_trans HB2.out hx.out.size)), (hp14.keep (by decide)).map (fun h => h.later lown), (hp15.keep (by decide)).map (fun h => h.later lown), (hp16.keep (by decide)).map (fun h => h.later lown)⟩
    · have e5 : z 20 = .int .i64 ad := hz 5 _ (hw 5 (by kernel_rfl)) rfl
      have p1 := hp1.get (hw 1 (by kernel_rfl))
      have p13 := hp13.get (hw 13 (by kernel_rfl))
      obtain ⟨l, g, hz1, ho1, ho2⟩ := p1
      obtain ⟨q, hz13, ho3⟩ := p13
      rw [hz13] at ho3
      refine wpOp_plain rfl rfl (wp_buildV 90 #[(0, .tmp 16), (1, .tmp 20), (2, .tmp 28)] rfl (partC d l g ad (.slice (some ⟨q, 0, none⟩) 1 1) 0) (by simp only [List.map_toArray, List.map_cons, List.map_nil]; show Tryd.prog.built _ [(0, z 16), (1, z 20), (2, z 28)] = _; rw [hz1, hz13, e5]; exact built_part d l g ad q) ?_)
      go_simp
      exact ⟨⟨by simp [hsz.out], hx.out⟩, upd z 29 (.agg (partC d l g ad (.slice (some ⟨q, 0, none⟩) 1 1) 0)), (by unfold Hid; simp [upd, e5, hz1, hz13]), hz.next apx hsz.out 14 (by decide) _ (fun _ h => by cases h), hp1.keep (by decide), hp13.keep (by decide), Whn.done (⟨l, g, q, rfl, ho1, ho2, ho3⟩), hp15.keep (by decide), hp16.keep (by decide)⟩
    · have p14 := hp14.get (hw 14 (by kernel_rfl))
      obtain ⟨l, g, q, hz14, ho1, ho2, ho3⟩ := p14
      refine wpOp_plain rfl rfl ?_
      rw [hz14]
      go_simp
      have lown : Below wx.heap.size wx (wx.alloc (.cells (partC d l g ad (.slice (some ⟨q, 0, none⟩) 1 1) 0) 90)) := (Below.refl _ _).alloc (Nat.le_refl _) _
      exact ⟨⟨by simp [hsz.out], hx.out.trans (lown.mono hx.out.size)⟩, upd z 30 (ptr wx.heap.size), (by unfold Hid; simp [upd, hz14]), hz.next apx hsz.out 15 (by decide) _ (fun _ h => by cases h), (hp1.keep (by decide)).map (fun h => h.later lown), (hp13.keep (by decide)).map (fun h => h.later lown), (hp14.keep (by decide)).map (fun h => h.later lown), Whn.done (⟨l, g, q, wx.heap.size, rfl, Nat.le_trans HB2.out hx.out.size, Go.heap_alloc_new wx _, own_stays ho1 lown, own_stays ho2 lown, ho3.below lown⟩), (hp16.keep (by decide)).map (fun h => h.later lown)⟩
    · have p15 := hp15.get (hw 15 (by kernel_rfl))
      refine wpOp_plain rfl rfl ?_
      go_simp
      exact ⟨⟨by simp [hsz.out], hx.out⟩, upd z 4 (z 30), (by unfold Hid; simp [upd]), hz.next apx hsz.out 16 (by decide) _ (fun _ h => by cases h), hp1.keep (by decide), hp13.keep (by decide), hp14.keep (by decide), hp15.keep (by decide), Whn.done (p15)⟩
  · exact ⟨⟨rfl, (Below.refl _ _).drew⟩, fun xx => (#[ptr S.g, .agg (givC d lnv gnv), undef, ptr bx, undef, undef, undef, undef, ptr S.g, .pointer (some ⟨S.g, 0, none⟩), .pointer (some ⟨S.g, 4, none⟩), .int .i64 S.added, .int .i64 ad, .pointer (some ⟨S.g, 0, none⟩), .pointer (some ⟨S.g, 4, none⟩), undef, undef, undef, undef, undef, undef, undef, undef, undef, undef, undef, undef, undef, undef, undef, undef, undef, undef, undef, undef, undef, undef, undef, undef, undef, undef, undef, undef, undef, undef, undef, undef, undef, undef, undef, undef, undef, undef, undef, undef, undef, undef, undef, undef, undef, undef, undef, undef, undef, undef, undef, undef, undef, undef, undef, undef, undef, undef, undef, undef, undef, undef, undef, undef, undef, undef] : Array Value).getD xx undef, (by rfl), Holding.start, Whn.none (by decide), Whn.none (by decide), Whn.none (by decide), Whn.none (by decide), Whn.none (by decide)⟩
end Go.Proofs.YtnjeppmpnaemlaaDoor.Grf
