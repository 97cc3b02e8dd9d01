/- DERIVED. The contract of segment.Open (mkopen5.py writes this text out of open5.txt). -/
import Derived.Test.YtkjhoanlkkcfkaaGreatDoorSgmOpen4
namespace Go.Proofs.YtkjhoanlkkcfkaaGreatDoor.Sgm
open Go.RowKit Dsk Slt Epo Cod
/-- the value that the counter tells. -/
def vD (D : DS) : Nat := lead 1 (regL D 0 1024)
/-- what Open answers, and leaves. -/
def opnR (D : DS) (k C : List Int) (cs : List (List Int)) : Option (List (List Int)) := opensL k C (vD D) 0 1 (cs.map textC)
def opnX (D : DS) (k C : List Int) (cs : List (List Int)) (e : Bool) : Int := if xs0 D ≠ 0 then xs0 D else if xs1 e ≠ 0 then xs1 e else if xs2 (opnR D k C cs) ≠ 0 then xs2 (opnR D k C cs) else nxtE D (vD D)
def opnD (D : DS) (k C : List Int) (cs : List (List Int)) (e : Bool) : DS := if xs0 D ≠ 0 then D else if xs1 e ≠ 0 then D else if xs2 (opnR D k C cs) ≠ 0 then D else nxtD D (vD D)
set_option maxRecDepth 100000 in
theorem built_lit (K : DK) (a0 a1 a2 a3 a4 a5 a6 a7 a8 a9 a10 a11 a12 a13 a14 a15 a16 a17 a18 a19 a20 a21 a22 a23 a24 a25 a26 a27 a28 a29 a30 a31 : Int) (A : Option Addr) (n c : Nat) : Tryz.prog.built 92 [(1, .pointer (some ⟨K.g, 0, none⟩)), (3, .agg (u8s [a0, a1, a2, a3, a4, a5, a6, a7, a8, a9, a10, a11, a12, a13, a14, a15, a16, a17, a18, a19, a20, a21, a22, a23, a24, a25, a26, a27, a28, a29, a30, a31])), (4, .slice A n c)] = some (rowG none K none [a0, a1, a2, a3, a4, a5, a6, a7, a8, a9, a10, a11, a12, a13, a14, a15, a16, a17, a18, a19, a20, a21, a22, a23, a24, a25, a26, a27, a28, a29, a30, a31] (.slice A n c) 0 (.slice none 0 0) false) := by kernel_rfl
theorem built_seg (K : DK) (key : List Int) (hk : key.length = 32) (A : Option Addr) (n c : Nat) : Tryz.prog.built 92 [(1, .pointer (some ⟨K.g, 0, none⟩)), (3, .agg (u8s key)), (4, .slice A n c)] = some (rowG none K none key (.slice A n c) 0 (.slice none 0 0) false) := by
  match key, hk with
  | [a0, a1, a2, a3, a4, a5, a6, a7, a8, a9, a10, a11, a12, a13, a14, a15, a16, a17, a18, a19, a20, a21, a22, a23, a24, a25, a26, a27, a28, a29, a30, a31], _ => exact built_lit K a0 a1 a2 a3 a4 a5 a6 a7 a8 a9 a10 a11 a12 a13 a14 a15 a16 a17 a18 a19 a20 a21 a22 a23 a24 a25 a26 a27 a28 a29 a30 a31 A n c
/-- the struct, its boxes: until the store. -/
def BuP (K : DK) (key C : List Int) (B : Nat) (v : Value) (w : World) : Prop := ∃ A c, v = .agg (rowG none K none key (.slice A C.length c) 0 (.slice none 0 0) false) ∧ NewB B C (.slice A C.length c) w
def BxP (K : DK) (key C : List Int) (B : Nat) (v : Value) (w : World) : Prop := ∃ gS A c, v = .pointer (some ⟨gS, 0, none⟩) ∧ B ≤ gS ∧ w.heap[gS]? = some (.cells (rowG none K none key (.slice A C.length c) 0 (.slice none 0 0) false) 92 (0, 0)) ∧ NewB B C (.slice A C.length c) w
def AlP (B : Nat) (v : Value) (w : World) : Prop := ∃ n, v = .pointer (some ⟨n, 0, none⟩) ∧ B ≤ n ∧ w.heap[n]? = some (.cells #[.pointer none] 42 (0, 0))
theorem BuP.later {K : DK} {key C : List Int} {B : Nat} {v : Value} {w w' : World} (h : BuP K key C B v w) (hb : Below w.heap.size w w') : BuP K key C B v w' := by
  obtain ⟨A, c, e, h⟩ := h; exact ⟨A, c, e, h.later hb⟩
theorem BxP.later {K : DK} {key C : List Int} {B : Nat} {v : Value} {w w' : World} (h : BxP K key C B v w) (hb : Below w.heap.size w w') : BxP K key C B v w' := by
  obtain ⟨g, A, c, e, h0, h1, h⟩ := h; exact ⟨g, A, c, e, h0, (hb.block _ (Array.getElem?_eq_some_iff.1 h1).1).trans h1, h.later hb⟩
theorem AlP.later {B : Nat} {v : Value} {w w' : World} (h : AlP B v w) (hb : Below w.heap.size w w') : AlP B v w' := by
  obtain ⟨n, e, h0, h1⟩ := h; exact ⟨n, e, h0, (hb.block _ (Array.getElem?_eq_some_iff.1 h1).1).trans h1⟩
/-- what the region leaves. -/
def FnP (K : DK) (key C : List Int) (B : Nat) (z : Value) (_v : Value) (w : World) : Prop := ∃ gS bs A c, z = .pointer (some ⟨bs, 0, none⟩) ∧ B ≤ gS ∧ B ≤ bs ∧ bs ≠ gS ∧ w.heap[gS]? = some (.cells (rowG none K none key (.slice A C.length c) 0 (.slice none 0 0) false) 92 (0, 0)) ∧ w.heap[bs]? = some (.cells #[.pointer (some ⟨gS, 0, none⟩)] 42 (0, 0)) ∧ Byt w A c C ∧ ∀ a, A = some a → B ≤ a.block ∧ a.block < w.heap.size ∧ a.block ≠ gS ∧ a.block ≠ bs
theorem FnP.later {K : DK} {key C : List Int} {B : Nat} {z v : Value} {w w' : World} (h : FnP K key C B z v w) (hb : Below w.heap.size w w') : FnP K key C B z v w' := by
  obtain ⟨gS, bs, A, c, e, h1, h2, h3, h4, h5, h6, h7⟩ := h
  exact ⟨gS, bs, A, c, e, h1, h2, h3, (hb.block _ (Array.getElem?_eq_some_iff.1 h4).1).trans h4, (hb.block _ (Array.getElem?_eq_some_iff.1 h5).1).trans h5, h6.below hb (Nat.le_refl _), fun a ha => ⟨(h7 a ha).1, Nat.lt_of_lt_of_le (h7 a ha).2.1 hb.size, (h7 a ha).2.2⟩⟩
theorem own_ty {w : World} {B n : Nat} {t : TypeId} {v : Value} {L : List Value} (h : w.ownsRow B t 1 v n L) (q : Nat) (hq : v.ownBlock = some q) : ∃ cur, w.heap[q]? = some (.cells cur t (0, 0)) := by
  rcases h.2 with ⟨rfl, _⟩ | ⟨g, cap, cur, rfl, _, hh, _⟩
  · cases hq
  · cases hq; exact ⟨cur, hh⟩
theorem fn_new {K : DK} {key C : List Int} {B gS n : Nat} {A : Option Addr} {c : Nat} {v : Value} {w : World} (hg : B ≤ gS) (hr : w.heap[gS]? = some (.cells (rowG none K none key (.slice A C.length c) 0 (.slice none 0 0) false) 92 (0, 0))) (hN : NewB B C (.slice A C.length c) w) (hn : B ≤ n) (ha : w.heap[n]? = some (.cells #[.pointer none] 42 (0, 0))) :
    FnP K key C B (.pointer (some ⟨n, 0, none⟩)) v (w.setCell ⟨n, 0, none⟩ (.pointer (some ⟨gS, 0, none⟩))) := by
  have hc : Chg [n] w (w.setCell ⟨n, 0, none⟩ (.pointer (some ⟨gS, 0, none⟩))) := (Chg.refl [n] w).setCell (by simp) _
  have hne : n ≠ gS := by
    intro e; subst e
    rw [hr] at ha
    injection ha with ha
    injection ha with _ ha
    exact absurd ha (by decide)
  have hA : ∀ a, A = some a → B ≤ a.block ∧ a.block < w.heap.size ∧ a.block ≠ gS ∧ a.block ≠ n := by
    intro a ea
    subst ea
    have hl := hN.lt a.block rfl
    obtain ⟨cur, hcur⟩ := own_ty hN a.block rfl
    refine ⟨hl.1, hl.2, fun e => ?_, fun e => ?_⟩
    · rw [e, hr] at hcur
      injection hcur with hcur
      injection hcur with _ hcur
      exact absurd hcur (by decide)
    · rw [e, ha] at hcur
      injection hcur with hcur
      injection hcur with _ hcur
      exact absurd hcur (by decide)
  obtain ⟨A', c', e', hB⟩ := NewB.sl hN
  cases e'
  exact ⟨gS, n, A, c, rfl, hg, hn, hne, hc.at hr (by simp; exact fun e => hne e.symm), heap_setCell_same _ _ _ _ _ _ ha, hB.chg hc (fun a ea => by simp; exact (hA a ea).2.2.2), fun a ea => ⟨(hA a ea).1, Nat.lt_of_lt_of_le (hA a ea).2.1 hc.size, (hA a ea).2.2⟩⟩
/-- the steps. -/
def stepF : Nat → Nat := fun i => [42, 44, 46, 49].getD i 0
def ptrV (b : Nat) : Value := .pointer (some ⟨b, 0, none⟩)
def stepC (bd bs bc : Nat) : Nat → Array Value := fun i => [#[ptrV bd, ptrV bc], #[ptrV bd, ptrV bs], #[ptrV bs, ptrV bc], #[ptrV bc, ptrV bs]].getD i #[]
def stepsV (bd bs bc : Nat) : Array Value := #[.func (.func 42) #[] #[ptrV bd, ptrV bc], .func (.func 44) #[] #[ptrV bd, ptrV bs], .func (.func 46) #[] #[ptrV bs, ptrV bc], .func (.func 49) #[] #[ptrV bc, ptrV bs]]
theorem step_enter : ∀ i, i < 4 → ∀ x w, (callFunc (stepF i) x).run Tryz.prog w = .ok (.enter (stepF i) x) w := by
  intro i hi x w
  obtain rfl | rfl | rfl | rfl : i = 0 ∨ i = 1 ∨ i = 2 ∨ i = 3 := by omega
  · exact enter_of Tryz.func42 (by kernel_rfl) rfl x w
  · exact enter_of Tryz.func44 (by kernel_rfl) rfl x w
  · exact enter_of Tryz.func46 (by kernel_rfl) rfl x w
  · exact enter_of Tryz.func49 (by kernel_rfl) rfl x w
section
variable {w0 w4 : World} {K : DK} {bd bs bc gS gF : Nat} {key : List Int} {A : Option Addr} {c : Nat} {C : List Int} {D : DS} {cs : List (List Int)} {Rr : List Int} {e : Bool}
/-- between the steps. -/
structure O0 (w0 w4 : World) (K : DK) (bd bs bc gS gF : Nat) (key : List Int) (A : Option Addr) (c : Nat) (C : List Int) (D : DS) (lg cp : Option Addr) (ep : Nat) (tv : Value) (W : World) : Prop where
  ob : OB w0 W K bd bs bc gS lg cp key A c C ep tv D
  fs : W.heap[gF]? = some (.cells (stepsV bd bs bc) 82 (0, 0))
  sz : w4.heap.size ≤ W.heap.size
structure C1 (K : DK) (B : Nat) (D : DS) (gC : Nat) (W : World) : Prop where
  off : D.off = false
  cnt : Cnt (regL D 0 1024) (vD D)
  ct : Ct W K gC ⟨0, 1024, vD D⟩
  new : B ≤ gC
/-- the log, in blocks behind gC. -/
structure L2 (K : DK) (B gC : Nat) (D : DS) (cs : List (List Int)) (J : LK) (W : World) : Prop where
  lg : Lg W K J (logS D cs)
  bl : ∀ q ∈ J.bl, B ≤ q ∧ gC < q
  tx : ∀ q ∈ J.tx, B ≤ q ∧ gC < q
theorem jbl_lt {w : World} {K : DK} {J : LK} {S : LS} (h : Lg w K J S) : ∀ q ∈ J.bl, q < w.heap.size := by
  intro q hq
  simp only [LK.bl, List.mem_cons, Option.mem_toList] at hq
  rcases hq with rfl | hq
  · exact h.glt
  · exact (h.own.lt q hq).2
/-- the texts, in blocks behind all that. -/
def T3 (B gC : Nat) (J : LK) (tv : Value) (ts : List Value) (T : List (List Int)) (W : World) : Prop := ∃ B2, B ≤ B2 ∧ gC < B2 ∧ (∀ q ∈ J.bl, q < B2) ∧ (∀ q ∈ J.tx, q < B2) ∧ NewT B2 tv ts T W
def OI (w0 w4 : World) (K : DK) (bd bs bc gS gF : Nat) (key : List Int) (A : Option Addr) (c : Nat) (C : List Int) (D : DS) (cs : List (List Int)) (e : Bool) : Nat → World → Prop
  | 0, W => O0 w0 w4 K bd bs bc gS gF key A c C D none none 0 (.slice none 0 0) W
  | 1, W => xs0 D = 0 ∧ ∃ gC, O0 w0 w4 K bd bs bc gS gF key A c C D none (some ⟨gC, 0, none⟩) 0 (.slice none 0 0) W ∧ C1 K w4.heap.size D gC W
  | 2, W => xs0 D = 0 ∧ xs1 e = 0 ∧ ∃ gC J, O0 w0 w4 K bd bs bc gS gF key A c C D (some ⟨J.g, 0, none⟩) (some ⟨gC, 0, none⟩) 0 (.slice none 0 0) W ∧ C1 K w4.heap.size D gC W ∧ L2 K w4.heap.size gC D cs J W
  | 3, W => xs0 D = 0 ∧ xs1 e = 0 ∧ ∃ gC J T ts tv, opnR D key C cs = some T ∧ O0 w0 w4 K bd bs bc gS gF key A c C D (some ⟨J.g, 0, none⟩) (some ⟨gC, 0, none⟩) 0 tv W ∧ C1 K w4.heap.size D gC W ∧ L2 K w4.heap.size gC D cs J W ∧ T3 w4.heap.size gC J tv ts T W
  | _, W => xs0 D = 0 ∧ xs1 e = 0 ∧ nxtE D (vD D) = 0 ∧ ∃ gC J T ts tv, opnR D key C cs = some T ∧ O0 w0 w4 K bd bs bc gS gF key A c C (nxtD D (vD D)) (some ⟨J.g, 0, none⟩) (some ⟨gC, 0, none⟩) (nxtP D (vD D)) tv W ∧ L2 K w4.heap.size gC D cs J W ∧ T3 w4.heap.size gC J tv ts T W
def OQ (w0 : World) (K : DK) (key C : List Int) (D : DS) (cs : List (List Int)) (e : Bool) (x : Int) (W : World) : Prop := x = opnX D key C cs e ∧ Dsk W K (opnD D key C cs e) ∧ Chg K.bl w0 W
/-- what the steps stand on. -/
structure OH (w0 w4 : World) (K : DK) (bd bs bc gS gF : Nat) (key : List Int) (A : Option Addr) (C : List Int) (D : DS) (cs : List (List Int)) (Rr : List Int) (e : Bool) : Prop where
  n9 : 9 ≤ D.secs
  wr : D.writes ≤ 1152921504606846976
  rd : Reads (logL D) cs Rr e
  txs : ∀ t ∈ cs.map textC, t.length ≤ 200000
  key : key.length = 32 ∧ InB key
  cin : InB C ∧ C.length ≤ 1000
  laid : Seal.SLaid w0
  ktab : ∀ q ∈ K.bl, q ∉ Tab
  lt4 : bd < w4.heap.size ∧ bs < w4.heap.size ∧ bc < w4.heap.size ∧ gS < w4.heap.size ∧ gF < w4.heap.size ∧ ∀ a, A = some a → a.block < w4.heap.size
  gf : gF ≠ bc ∧ gF ≠ gS ∧ w0.heap.size ≤ gF
  le4 : w0.heap.size ≤ w4.heap.size
  w128 : D.data.length = D.secs * 128
theorem opn_x0 (h : xs0 D ≠ 0) : opnX D key C cs e = xs0 D ∧ opnD D key C cs e = D := by
  unfold opnX opnD; rw [if_pos h, if_pos h]; exact ⟨rfl, rfl⟩
theorem opn_x1 (h0 : xs0 D = 0) (h : xs1 e ≠ 0) : opnX D key C cs e = xs1 e ∧ opnD D key C cs e = D := by
  unfold opnX opnD; rw [if_neg (not_not_intro h0), if_neg (not_not_intro h0), if_pos h, if_pos h]; exact ⟨rfl, rfl⟩
theorem opn_x2 (h0 : xs0 D = 0) (h1 : xs1 e = 0) (h : xs2 (opnR D key C cs) ≠ 0) : opnX D key C cs e = xs2 (opnR D key C cs) ∧ opnD D key C cs e = D := by
  unfold opnX opnD; rw [if_neg (not_not_intro h0), if_neg (not_not_intro h0), if_neg (not_not_intro h1), if_neg (not_not_intro h1), if_pos h, if_pos h]; exact ⟨rfl, rfl⟩
theorem opn_x3 (h0 : xs0 D = 0) (h1 : xs1 e = 0) (h : xs2 (opnR D key C cs) = 0) : opnX D key C cs e = nxtE D (vD D) ∧ opnD D key C cs e = nxtD D (vD D) := by
  unfold opnX opnD; rw [if_neg (not_not_intro h0), if_neg (not_not_intro h0), if_neg (not_not_intro h1), if_neg (not_not_intro h1), if_neg (not_not_intro h), if_neg (not_not_intro h)]; exact ⟨rfl, rfl⟩
theorem vD_le (h : 9 ≤ D.secs) (hw : D.data.length = D.secs * 128) : vD D ≤ 1024 := by
  have := lead_le 1 (regL D 0 1024)
  rw [Epo.reg_len (by omega)] at this
  exact this
theorem fs_chg {X : List Nat} {W W' : World} {FS : Array Value} {T : TypeId} (h : W.heap[gF]? = some (.cells FS T (0, 0))) (hc : Chg X W W') (hX : gF ∉ X) : W'.heap[gF]? = some (.cells FS T (0, 0)) := hc.at h hX
variable (H : OH w0 w4 K bd bs bc gS gF key A C D cs Rr e)
include H
theorem step0 {W : World} (h : OI w0 w4 K bd bs bc gS gF key A c C D cs e 0 W) : Calls Tryz.prog (stepF 0) (stepC bd bs bc 0) W (StepQ (OI w0 w4 K bd bs bc gS gF key A c C D cs e 1) (OQ w0 K key C D cs e)) := by
  have h : O0 w0 w4 K bd bs bc gS gF key A c C D none none 0 (.slice none 0 0) W := h
  refine (open1_any h.ob H.n9).mono ?_
  rintro ee W' ⟨rfl, cp, ob, hw, hc⟩
  refine ⟨_, rfl, ?_⟩
  by_cases hx : xs0 D = 0
  · obtain ⟨gC, v, rfl, h1, h2, h3, h4⟩ := hw hx
    have hv : vD D = v := h2.lead1
    exact .inl ⟨hx, hx, gC, ⟨ob, fs_chg h.fs hc (by simp; exact H.gf.1), Nat.le_trans h.sz hc.size⟩, h1, by rw [hv]; exact h2, by rw [hv]; exact h3, Nat.le_trans h.sz h4⟩
  · obtain ⟨e1, e2⟩ := opn_x0 (key := key) (C := C) (cs := cs) (e := e) hx
    exact .inr ⟨hx, e1.symm, by rw [e2]; exact ob.dsk, ob.low⟩
theorem step1 {W : World} (h : OI w0 w4 K bd bs bc gS gF key A c C D cs e 1 W) : Calls Tryz.prog (stepF 1) (stepC bd bs bc 1) W (StepQ (OI w0 w4 K bd bs bc gS gF key A c C D cs e 2) (OQ w0 K key C D cs e)) := by
  obtain ⟨h0, gC, ho, h1⟩ := h
  refine (open2_any ho.ob H.n9 h1.off H.rd).mono ?_
  rintro ee W' ⟨rfl, lp, ob, hw, hc⟩
  refine ⟨_, rfl, ?_⟩
  by_cases hx : xs1 e = 0
  · obtain ⟨J, rfl, hl, hb, ht⟩ := hw hx
    have hgl := h1.ct.lt
    have hgS := H.lt4.2.2.2.1
    have := h1.new
    exact .inl ⟨hx, h0, hx, gC, J, ⟨ob, fs_chg ho.fs hc (by simp; exact H.gf.2.1), Nat.le_trans ho.sz hc.size⟩, ⟨h1.off, h1.cnt, h1.ct.chg hc (by simp; omega), h1.new⟩, hl, fun q hq => ⟨Nat.le_trans ho.sz (hb q hq), Nat.lt_of_lt_of_le hgl (hb q hq)⟩, fun q hq => ⟨Nat.le_trans ho.sz (ht q hq), Nat.lt_of_lt_of_le hgl (ht q hq)⟩⟩
  · obtain ⟨e1, e2⟩ := opn_x1 (key := key) (C := C) (cs := cs) h0 hx
    exact .inr ⟨hx, e1.symm, by rw [e2]; exact ob.dsk, ob.low⟩
theorem step2 {W : World} (h : OI w0 w4 K bd bs bc gS gF key A c C D cs e 2 W) : Calls Tryz.prog (stepF 2) (stepC bd bs bc 2) W (StepQ (OI w0 w4 K bd bs bc gS gF key A c C D cs e 3) (OQ w0 K key C D cs e)) := by
  obtain ⟨h0, h1, gC, J, ho, hC, hL⟩ := h
  have hgS := H.lt4.2.2.2.1
  have hnew := hC.new
  have hjn : (∀ q ∈ J.bl, q ≠ gS) ∧ ∀ q ∈ J.tx, q ≠ gS := ⟨fun q hq => by have := (hL.bl q hq).1; omega, fun q hq => by have := (hL.tx q hq).1; omega⟩
  have hW : D.data.length = D.secs * 128 := ho.ob.dsk.ok.whole128
  have htab : gS ∉ Tab := fun hm => by have := tab_lt H.laid _ hm; have := ho.ob.base.2.2.2; omega
  refine (open3_any ho.ob hL.lg hjn hC.ct (by omega) (vD_le H.n9 hW) H.key.1 H.key.2 H.cin.1 H.cin.2 H.txs (slaid_chg H.laid ho.ob.low H.ktab) htab).mono ?_
  rintro ee W' ⟨rfl, tv, ob, hw, hc⟩
  refine ⟨_, rfl, ?_⟩
  have hR : opensL key C (vD D) 0 1 (logS D cs).texts = opnR D key C cs := rfl
  rw [hR] at hw ⊢
  cases hr : opnR D key C cs with
  | none =>
    have hx : xs2 (opnR D key C cs) ≠ 0 := by rw [hr]; decide
    obtain ⟨e1, e2⟩ := opn_x2 h0 h1 hx
    rw [hr] at e1
    exact .inr ⟨by decide, e1.symm, by rw [e2]; exact ob.dsk, ob.low⟩
  | some T =>
    rw [hr] at hw
    obtain ⟨ts, hT⟩ := hw
    have hgl := hC.ct.lt
    exact .inl ⟨rfl, h0, h1, gC, J, T, ts, tv, hr, ⟨ob, fs_chg ho.fs hc (by simp; exact H.gf.2.1), Nat.le_trans ho.sz hc.size⟩, ⟨hC.off, hC.cnt, hC.ct.chg hc (by simp; omega), hC.new⟩,
      ⟨hL.lg.chg hc (fun q hq => by simp; exact hjn.1 q hq) (fun q hq => by simp; exact hjn.2 q hq), hL.bl, hL.tx⟩, W.heap.size, ho.sz, hgl, jbl_lt hL.lg, hL.lg.tlt, hT⟩
theorem step3 {W : World} (h : OI w0 w4 K bd bs bc gS gF key A c C D cs e 3 W) : Calls Tryz.prog (stepF 3) (stepC bd bs bc 3) W (StepQ (OI w0 w4 K bd bs bc gS gF key A c C D cs e 4) (OQ w0 K key C D cs e)) := by
  obtain ⟨h0, h1, gC, J, T, ts, tv, hr, ho, hC, hL, B2, hB2, hgB, hjb, hjt, hT⟩ := h
  obtain ⟨l1, l2, l3, l4, l5, l6⟩ := H.lt4
  have hnew := hC.new
  have hlow := ho.ob.low.size
  have hW : D.data.length = D.secs * 128 := ho.ob.dsk.ok.whole128
  have hb := ho.ob.base
  refine (open4_any ho.ob hC.ct ⟨by omega, by omega, by omega, by omega, by omega, fun a ha => by have := l6 a ha; omega⟩ (vD_le H.n9 hW) H.n9 hC.off H.wr H.key.1).mono ?_
  rintro ee W' ⟨rfl, ob, hc⟩
  refine ⟨_, rfl, ?_⟩
  have hx2 : xs2 (opnR D key C cs) = 0 := by rw [hr]; rfl
  obtain ⟨e1, e2⟩ := opn_x3 h0 h1 hx2
  by_cases hx : nxtE D (vD D) = 0
  · have hnot : ∀ q, w4.heap.size ≤ q → gC < q → q ∉ gS :: gC :: K.bl := fun q h2 h3 hm => by
      rcases List.mem_cons.1 hm with e | hm
      · omega
      rcases List.mem_cons.1 hm with e | hm
      · omega
      · have := ho.ob.kin _ hm; omega
    refine .inl ⟨hx, h0, h1, hx, gC, J, T, ts, tv, hr, ⟨ob, fs_chg ho.fs hc (fun hm => ?_), Nat.le_trans ho.sz hc.size⟩, ⟨hL.lg.chg hc (fun q hq => hnot q (hL.bl q hq).1 (hL.bl q hq).2) (fun q hq => hnot q (hL.tx q hq).1 (hL.tx q hq).2), hL.bl, hL.tx⟩, B2, hB2, hgB, hjb, hjt, ?_⟩
    · rcases List.mem_cons.1 hm with e | hm
      · exact H.gf.2.1 e
      rcases List.mem_cons.1 hm with e | hm
      · omega
      · have := ho.ob.kin _ hm; have := H.gf.2.2; omega
    · refine NewT.chg hT hc (fun q hm => ?_)
      rcases List.mem_cons.1 hm with e | hm
      · omega
      rcases List.mem_cons.1 hm with e | hm
      · omega
      · have := ho.ob.kin _ hm; omega
  · exact .inr ⟨hx, e1.symm, by rw [e2]; exact ob.dsk, ob.low⟩
theorem steps_any {W : World} (h : OI w0 w4 K bd bs bc gS gF key A c C D cs e 0 W) : Calls Tryz.prog 41 #[.slice (some ⟨gF, 0, none⟩) 4 4] W (StepQ (OI w0 w4 K bd bs bc gS gF key A c C D cs e 4) (OQ w0 K key C D cs e)) := by
  refine first_any (m := 4) (by decide) stepF step_enter (stepC bd bs bc) (OI w0 w4 K bd bs bc gS gF key A c C D cs e) (OQ w0 K key C D cs e) ?_ ?_ W h
  · intro i W hi hI
    have hfs : W.heap[gF]? = some (.cells (stepsV bd bs bc) 82 (0, 0)) := by
      obtain rfl | rfl | rfl | rfl : i = 0 ∨ i = 1 ∨ i = 2 ∨ i = 3 := by omega
      · exact O0.fs hI
      · exact hI.2.choose_spec.1.fs
      · exact hI.2.2.choose_spec.choose_spec.1.fs
      · exact hI.2.2.choose_spec.choose_spec.choose_spec.choose_spec.choose_spec.2.1.fs
    rw [cell_row hfs]
    obtain rfl | rfl | rfl | rfl : i = 0 ∨ i = 1 ∨ i = 2 ∨ i = 3 := by omega
    all_goals rfl
  · intro i W hi hI
    obtain rfl | rfl | rfl | rfl : i = 0 ∨ i = 1 ∨ i = 2 ∨ i = 3 := by omega
    · exact step0 H hI
    · exact step1 H hI
    · exact step2 H hI
    · exact step3 H hI
end
end Go.Proofs.YtkjhoanlkkcfkaaGreatDoor.Sgm
