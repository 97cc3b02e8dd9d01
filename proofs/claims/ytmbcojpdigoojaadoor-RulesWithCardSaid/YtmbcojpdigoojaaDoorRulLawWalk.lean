/- DERIVED. The law RulesWith. -/
import Derived.Test.YtmbcojpdigoojaaDoorRulLawRes
import Derived.Test.YtmbcojpdigoojaaDoorRulRefSame
namespace Go.Proofs.YtmbcojpdigoojaaDoor.Rul
open Go.RowKit Lab Pth
/-- the reference's answer, and what it reads as. -/
def TQ (V : Int) (U : List Rl) (Z : Int) (z : Value) (w : World) : Prop := ∃ Ab cb, z = .tuple #[.agg (tabV V Ab U.length cb), .int .i64 Z] ∧ Ruls w Ab cb U
theorem TQ.later {V : Int} {U : List Rl} {Z : Int} {z : Value} {w w' : World} (h : TQ V U Z z w) (hb : Below w.heap.size w w') : TQ V U Z z w' := by
  obtain ⟨Ab, cb, h1, h2⟩ := h
  exact ⟨Ab, cb, h1, h2.below hb (Nat.le_refl _)⟩
/-- its shape alone. -/
def TS (V : Int) (U : List Rl) (Z : Int) (y z : Value) (_ : World) : Prop := z = y ∧ ∃ Ab cb, z = .tuple #[.agg (tabV V Ab U.length cb), .int .i64 Z]
theorem TS.later {V : Int} {U : List Rl} {Z : Int} {y z : Value} {w w' : World} (h : TS V U Z y z w) (_ : Below w.heap.size w w') : TS V U Z y z w' := h
def AQ (V : Int) (U : List Rl) (z : Value) (w : World) : Prop := ∃ Ab cb, z = .agg (tabV V Ab U.length cb) ∧ Ruls w Ab cb U
theorem AQ.later {V : Int} {U : List Rl} {z : Value} {w w' : World} (h : AQ V U z w) (hb : Below w.heap.size w w') : AQ V U z w' := by
  obtain ⟨Ab, cb, h1, h2⟩ := h
  exact ⟨Ab, cb, h1, h2.below hb (Nat.le_refl _)⟩
/-- a box of two cells, at or above B. -/
def BT (B : Nat) (z : Value) (w : World) : Prop := ∃ q, z = .pointer (some ⟨q, 0, none⟩) ∧ B ≤ q ∧ w.heap[q]? = some (.cells (tabV 0 none 0 0) 34 (0, 0))
theorem BT.later {B : Nat} {z : Value} {w w' : World} (h : BT B z w) (hb : Below w.heap.size w w') : BT B z w' := by
  obtain ⟨q, h1, h2, h3⟩ := h
  exact ⟨q, h1, h2, (hb.block _ (Array.getElem?_eq_some_iff.1 h3).1).trans h3⟩
/-- the box that holds the reference's table. -/
def RT (B : Nat) (V : Int) (U : List Rl) (z : Value) (w : World) : Prop := ∃ q Ab cb, z = .pointer (some ⟨q, 0, none⟩) ∧ B ≤ q ∧ w.heap[q]? = some (.cells (tabV V Ab U.length cb) 34 (0, 0)) ∧ Ruls w Ab cb U
theorem RT.later {B : Nat} {V : Int} {U : List Rl} {z : Value} {w w' : World} (h : RT B V U z w) (hb : Below w.heap.size w w') : RT B V U z w' := by
  obtain ⟨q, Ab, cb, h1, h2, h3, h4⟩ := h
  exact ⟨q, Ab, cb, h1, h2, (hb.block _ (Array.getElem?_eq_some_iff.1 h3).1).trans h3, h4.below hb (Nat.le_refl _)⟩
theorem ruls_setRow {w : World} {A : Option Addr} {c q T : Nat} {rs : List Rl} {old C : Array Value} (h : Ruls w A c rs) (hq : w.heap[q]? = some (.cells old T (0, 0))) (h2 : old.size = 2) : Ruls (w.setRow q C) A c rs := by
  refine ⟨h.1, h.2.1, fun hl => ?_⟩
  obtain ⟨b, off, e, hb, hr⟩ := h.2.2 hl
  refine ⟨b, off, e, by rw [size_setRow]; exact hb, fun i x hx j u hu => ?_⟩
  by_cases hne : q = b
  · exfalso
    subst hne
    have k0 := hr i x hx 0 _ rfl
    have k2 := hr i x hx 2 _ rfl
    rw [cell_row hq] at k0 k2
    have l0 := (Array.getElem?_eq_some_iff.1 k0).1
    have l2 := (Array.getElem?_eq_some_iff.1 k2).1
    omega
  · rw [World.cell?_of_block (setRow_ne hne)]
    exact hr i x hx j u hu
theorem frozen_block {w w' : World} {a : Addr} (h : w'.heap[a.block]? = w.heap[a.block]?) : w'.frozen? a = w.frozen? a := by simp [World.frozen?, h]
/-- the loop that writes over With's own rules. -/
structure LI (w w5 : World) (Aa : Option Addr) (N q8 : Nat) (C : Array Value) (wr : World) : Prop where
  low : Below w.heap.size w wr
  low5 : Below w5.heap.size w5 wr
  r8 : wr.heap[q8]? = some (.cells C 24 (0, 0))
  at_ : ∀ i, i < N → ∃ g, Aa = some ⟨g, 0, none⟩ ∧ w5.heap.size ≤ g ∧ g ≠ q8 ∧ (∃ u, wr.cell? ⟨g, i * 3, none⟩ = some u) ∧ wr.frozen? ⟨g, i * 3, none⟩ = false
theorem LI.start {w w5 w6 w9 : World} {Aa : Option Addr} {ca q8 : Nat} {U : List Rl} {C : Array Value} (hga : 0 < U.length → ∃ g, Aa = some ⟨g, 0, none⟩ ∧ w5.heap.size ≤ g ∧ ∀ i, i < U.length → w6.frozen? ⟨g, i * 3, none⟩ = false)
    (hra : Ruls w6 Aa ca U) (l69 : Below w6.heap.size w6 w9) (low : Below w.heap.size w w9) (low5 : Below w5.heap.size w5 w9) (h8 : w9.heap[q8]? = some (.cells C 24 (0, 0))) (hC : C.size = 2) : LI w w5 Aa U.length q8 C w9 := by
  refine ⟨low, low5, h8, fun i hi => ?_⟩
  obtain ⟨g, e, hg, hf⟩ := hga (by omega)
  obtain ⟨b, off, e2, hb, hr⟩ := hra.2.2 (by omega)
  rw [e] at e2
  cases e2
  have hblk := l69.block g hb
  have h0 := hr i U[i] (List.getElem?_eq_getElem hi) 0 _ rfl
  have h2 := hr i U[i] (List.getElem?_eq_getElem hi) 2 _ rfl
  rw [Nat.zero_add, Nat.add_zero] at h0
  rw [Nat.zero_add] at h2
  refine ⟨g, e, hg, fun e8 => ?_, ⟨_, (World.cell?_of_block (a := ⟨g, i * 3, none⟩) hblk).trans h0⟩, (frozen_block (a := ⟨g, i * 3, none⟩) hblk).trans (hf i hi)⟩
  subst e8
  have h3 := (World.cell?_of_block (a := ⟨g, i * 3 + 2, none⟩) hblk).trans h2
  rw [cell_row h8] at h3
  have := (Array.getElem?_eq_some_iff.1 h3).1
  omega
theorem LI.next {w w5 wr : World} {g N q8 i : Nat} {C : Array Value} (h : LI w w5 (some ⟨g, 0, none⟩) N q8 C wr) (hi : i < N) (hw : w.heap.size ≤ w5.heap.size) (u : Value) : LI w w5 (some ⟨g, 0, none⟩) N q8 C (wr.setCell ⟨g, i * 3, none⟩ u) := by
  obtain ⟨g', e, hg, hne, _⟩ := h.at_ i hi
  cases e
  refine ⟨h.low.setCell (by show _ ≤ g; omega) _, h.low5.setCell (by show _ ≤ g; omega) _, (Below.heap_setCell _ _ _ _ (by show q8 ≠ g; exact fun e => hne e.symm)).trans h.r8, fun j hj => ?_⟩
  obtain ⟨g', e, hg', hne', ⟨x, hx⟩, hf⟩ := h.at_ j hj
  cases e
  obtain ⟨x', hx'⟩ := cell?_setCell_some (p := ⟨g, i * 3, none⟩) (x := u) hx
  exact ⟨g, rfl, hg', hne', ⟨x', hx'⟩, (World.frozen?_setCell ..).trans hf⟩
set_option maxRecDepth 100000 in
set_option maxHeartbeats 20000000 in
theorem with_walk (v : Int) (A : Option Addr) (n c : Nat) (rs : List Rl) (r : Rl) (w : World) (hn : rs.length = n) (hR : Ruls w A c rs) (hL : Laid w) :
    Calls Tryd.prog 3 #[.agg (tabV v A n c), .string r.p, .agg (lab r.a r.c)] w fun e w' => e = .returned (.bool true) ∧ Below w.heap.size w w' := by
  have Hn := Lib.hid hn
  have HR := Lib.hid hR
  have HL := Lib.hid hL
  have h2 := two_new w (.cells (tabV v A n c) 24) (.cells (lab r.a r.c) 27)
  have k2 : Below w.heap.size w ((w.alloc (.cells (tabV v A n c) 24)).alloc (.cells (lab r.a r.c) 27)) := ((Below.refl _ _).alloc (Nat.le_refl _) _).alloc (by rw [World.size_alloc]; omega) _
  obtain ⟨W2, hW2⟩ : ∃ W2, W2 = (w.alloc (.cells (tabV v A n c) 24)).alloc (.cells (lab r.a r.c) 27) := ⟨_, rfl⟩
  rw [← hW2] at h2 k2
  have HW2 : Hid ((w.alloc (.cells (tabV v A n c) 24)).alloc (.cells (lab r.a r.c) 27) = W2) := hW2.symm
  have H1 := Lib.hid h2.1
  have H2 := Lib.hid h2.2
  have K2 := Lib.hid k2
  have HAw := Lib.hid (fun W (hb : Below w.heap.size w W) => awake_any W (hL.below hb (Nat.le_refl _)))
  clear hn hR hL h2 k2 hW2
  go_enter Tryd.func3, Tryd.ntmps3
  go_upto_region 1 with fail
  rw [HW2.out]
  obtain ⟨tb, htb⟩ : ∃ tb, tb = w.heap.size := ⟨_, rfl⟩
  rw [← htb] at H1 H2 ⊢
  have HTB := Lib.hid htb
  clear htb HW2
  go_wp2_with (refine wpList_load_row rfl 24 (.tmp 3) rfl tb rfl 24 (tabV v A n c) (0, 0) _ H1.out Tryd.underlying24 rfl infoT ?_)
  refine (large_any v A n c rs r.p W2 Hn.out (HR.out.below K2.out (Nat.le_refl _))).mono ?_
  rintro e w3 ⟨⟨z, rfl, hz⟩, low3⟩
  have Low3 := Lib.hid (K2.out.trans (low3.mono K2.out.size))
  have H13 := Lib.hid ((low3.block _ (Array.getElem?_eq_some_iff.1 H1.out).1).trans H1.out)
  have H23 := Lib.hid ((low3.block _ (Array.getElem?_eq_some_iff.1 H2.out).1).trans H2.out)
  clear low3 H1 H2
  cases z with
  | true =>
    clear hz
    go_wp2_with (go_at_call 5; refine (HAw.out w3 Low3.out).mono ?_; rintro e w4 ⟨rfl, low4⟩; have Low4 := Lib.hid (Low3.out.trans (low4.mono Low3.out.size)); clear low4)
    go_ret
    exact ⟨rfl, Low4.out⟩
  | false =>
    have HS := Lib.hid (hz rfl)
    clear hz
    have hn60 : n ≤ 60 := by have := HS.out.1; have := Hn.out; omega
    have HR3 := Lib.hid (HR.out.below Low3.out (Nat.le_refl _))
    go_upto_region 4 with (first
      | (refine wpList_load_row rfl 24 (.tmp 3) rfl tb rfl 24 (tabV v A n c) (0, 0) _ H13.out Tryd.underlying24 rfl infoT ?_)
      | (go_at_call 6; refine (lcopied_any v A n c rs w3 Hn.out HR3.out (by omega)).mono ?_; rintro e w4 ⟨⟨B, d, rfl, own4⟩, low4⟩; have Own4 := Lib.hid own4; have Low4 := Lib.hid (Low3.out.trans (low4.mono Low3.out.size)); have H14 := Lib.hid ((low4.block _ (Array.getElem?_eq_some_iff.1 H13.out).1).trans H13.out); have H24 := Lib.hid ((low4.block _ (Array.getElem?_eq_some_iff.1 H23.out).1).trans H23.out); clear own4 low4)
      | (refine wpList_store_row rfl 24 (.tmp 7) (.tmp 19) rfl w4.heap.size (tabV v B n d) rfl rfl 24 _ (Go.heap_alloc_new w4 _) infoT rfl (tab_one ..) ?_; rw [World.setRow_alloc_new]))
    obtain ⟨w5, hw5⟩ : ∃ w5, w5 = w4.alloc (.cells (tabV v B n d) 24) := ⟨_, rfl⟩
    have h5 : w5.heap[w4.heap.size]? = some (.cells (tabV v B n d) 24 (0, 0)) := by rw [hw5]; exact Go.heap_alloc_new w4 _
    have l5 : Below w4.heap.size w4 w5 := by rw [hw5]; exact (Below.refl _ _).alloc (Nat.le_refl _) _
    have Low5 := Lib.hid (Low4.out.trans (l5.mono Low4.out.size))
    have H15 := Lib.hid ((l5.block _ (Array.getElem?_eq_some_iff.1 H14.out).1).trans H14.out)
    have H25 := Lib.hid ((l5.block _ (Array.getElem?_eq_some_iff.1 H24.out).1).trans H24.out)
    have H75 := Lib.hid h5
    have Own5 : Hid (OwnR (w3.heap.size + 2) rs (.slice B n d) w5) := own_stays Own4.out l5
    rw [← hw5]
    obtain ⟨q7, hq7⟩ : ∃ q7, q7 = w4.heap.size := ⟨_, rfl⟩
    rw [← hq7] at H75 ⊢
    clear hw5 h5 l5 hq7 H14 H24 Own4 H13 H23
    have HRB : Hid (Ruls w5 B d rs) := by
      obtain ⟨A1, c1, e, h⟩ := Own5.out.ruls
      cases e
      exact h
    go_upto_region 5 with (first
      | (refine wpList_load_row rfl 24 (.tmp 7) rfl q7 rfl 24 (tabV v B n d) (0, 0) _ H75.out Tryd.underlying24 rfl infoT ?_)
      | (refine wpList_load_row rfl 27 (.tmp 5) rfl (tb + 1) rfl 27 (lab r.a r.c) (0, 0) _ H25.out Tryd.underlying27 rfl infoL ?_)
      | (go_at_call 7; refine (with_any v B n d rs r w5 Hn.out HRB.out (HL.out.below Low5.out (Nat.le_refl _)) (fun x hx => by have := HS.out.2.1 x hx; omega) (by omega) (by have := HS.out.2.2.1; omega) HS.out.2.2.2).mono ?_; rintro e w6 ⟨hwr, low6⟩; obtain ⟨Aa, ca, rfl, hra, hl32, hga⟩ := with_res hwr; have Hra := Lib.hid hra; have Hl32 := Lib.hid hl32; have Hga := Lib.hid hga; have Low6 := Lib.hid low6; clear hra hl32 hga hwr low6)
      | (refine wpList_store_row rfl 24 (.tmp 8) (.tmp 25) rfl w6.heap.size (tabV (resV v rs r) Aa (resL v rs r).length ca) rfl rfl 24 _ (Go.heap_alloc_new w6 _) infoT rfl (tab_one ..) ?_; rw [World.setRow_alloc_new]))
    obtain ⟨w7, hw7⟩ : ∃ w7, w7 = w6.alloc (.cells (tabV (resV v rs r) Aa (resL v rs r).length ca) 24) := ⟨_, rfl⟩
    have h7 : w7.heap[w6.heap.size]? = some (.cells (tabV (resV v rs r) Aa (resL v rs r).length ca) 24 (0, 0)) := by rw [hw7]; exact Go.heap_alloc_new w6 _
    have l7 : Below w6.heap.size w6 w7 := by rw [hw7]; exact (Below.refl _ _).alloc (Nat.le_refl _) _
    have l57 : Below w5.heap.size w5 w7 := Low6.out.trans (l7.mono Low6.out.size)
    have Low7 := Lib.hid (Low5.out.trans (l57.mono Low5.out.size))
    have H17 := Lib.hid ((l57.block _ (Array.getElem?_eq_some_iff.1 H15.out).1).trans H15.out)
    have H27 := Lib.hid ((l57.block _ (Array.getElem?_eq_some_iff.1 H25.out).1).trans H25.out)
    have H77 := Lib.hid ((l57.block _ (Array.getElem?_eq_some_iff.1 H75.out).1).trans H75.out)
    have Own7 : Hid (OwnR (w3.heap.size + 2) rs (.slice B n d) w7) := own_stays Own5.out l57
    have Hra7 := Lib.hid (Hra.out.below l7 (Nat.le_refl _))
    have H87 := Lib.hid h7
    have HRW : Hid (∀ W, Below w7.heap.size w7 W → Calls Tryd.prog 8 #[.agg (tabV v A n c), .string r.p, .agg (lab r.a r.c)] W fun e w' => (∃ Ab cb, e = .returned (.tuple #[.agg (tabV (resV v rs r) Ab (resL v rs r).length cb), .int .i64 (withZ v rs r)]) ∧ Ruls w' Ab cb (resL v rs r)) ∧ Below W.heap.size W w') := fun W hW =>
      (rwith_any v A n c rs r W Hn.out (HR.out.below (Low7.out.trans (hW.mono Low7.out.size)) (Nat.le_refl _)) (fun x hx => by have := HS.out.2.1 x hx; omega) (by omega) (by have := HS.out.2.2.1; omega) HS.out.2.2.2).mono fun _ _ h => ⟨rwith_res h.1, h.2⟩
    rw [← hw7]
    obtain ⟨q8, hq8⟩ : ∃ q8, q8 = w6.heap.size := ⟨_, rfl⟩
    rw [← hq8] at H87 ⊢
    have Low57 := Lib.hid l57
    have L67 := Lib.hid l7
    clear hw7 h7 l7 l57 hq8
    obtain ⟨U, hU⟩ : ∃ U, U = resL v rs r := ⟨_, rfl⟩
    obtain ⟨V, hV⟩ : ∃ V, V = resV v rs r := ⟨_, rfl⟩
    obtain ⟨Z, hZ⟩ : ∃ Z, Z = withZ v rs r := ⟨_, rfl⟩
    rw [← hU, ← hV, ← hZ] at HRW ⊢
    rw [← hU] at Hra7 Hra Hl32 Hga
    rw [← hU, ← hV] at H87
    clear hU hV hZ
    have apx : apartB [28, 29, 30, 31, 32, 27, 33, 34, 10, 1009, 11] = true := by decide
    refine wp_region_any (by kernel_rfl) ?_
    change wpAny _ _ _ _ _ _ _ (World.drew _)
    refine wpAny_inv2 (fun ll aa wx => Hid (ll.size = 11 ∧ Below w7.heap.size w7 wx) ∧ ∃ (z : Nat → Value), Hid (aa = ⟨#[.agg (tabV v A n c), .string r.p, .agg (lab r.a r.c), .pointer (some ⟨tb, 0, none⟩), undef, .pointer (some ⟨tb + 1, 0, none⟩), .bool false, .pointer (some ⟨q7, 0, none⟩), .pointer (some ⟨q8, 0, none⟩), .int .i64 Z, z 10, z 11, undef, undef, .agg (tabV v A n c), .string r.p, .bool false, undef, .agg (tabV v A n c), .agg (tabV v B n d), .tuple #[.agg (tabV V Aa U.length ca), .int .i64 Z], .agg (tabV v B n d), .string r.p, .agg (lab r.a r.c), .tuple #[.agg (tabV V Aa U.length ca), .int .i64 Z], .agg (tabV V Aa U.length ca), .int .i64 Z, z 27, z 28, z 29, z 30, z 31, z 32, z 33, z 34, undef, undef, undef, undef, undef, undef, undef, undef, undef, undef, undef, undef, undef, undef, undef, undef, undef, undef, undef, undef, undef, undef, undef, undef, undef, undef, undef, undef, undef, undef, undef, undef, undef, undef, undef, undef, undef, undef, undef], []⟩) ∧ Holding [28, 29, 30, 31, 32, 27, 33, 34, 10, 1009, 11] [some (.agg (tabV v A n c)), some (.agg (tabV v A n c)), some (.string r.p), some (.agg (lab r.a r.c)), none, none, none, some (.int .i64 Z), none, none, some (.int .i64 Z)] ll z ∧ Whu ll 4 6 (TQ V U Z) (z 32) wx ∧ Whn ll 5 (TS V U Z (z 32)) (z 27) wx ∧ Whu ll 6 9 (AQ V U) (z 33) wx ∧ Whu ll 8 9 (BT w7.heap.size) (z 10) wx ∧ Whn ll 9 (fun _ ww => RT w7.heap.size V U (z 10) ww) (z 1009) wx) ?_ (by kernel_rfl) ?_ ?_ _ rfl _ _ ?_
    · rintro ll aa wx ⟨hI, _⟩
      exact hI.out.1
    · rintro ll aa wx ⟨hI, z, ha, hz, hp4, hp5, hp6, hp8, hp9⟩ hall
      have hx := Lib.hid hI.out.2
      have e0 : z 28 = .agg (tabV v A n c) := hz 0 _ (hall 0 (by decide)) rfl
      have e1 : z 29 = .agg (tabV v A n c) := hz 1 _ (hall 1 (by decide)) rfl
      have e2 : z 30 = .string r.p := hz 2 _ (hall 2 (by decide)) rfl
      have e3 : z 31 = .agg (lab r.a r.c) := hz 3 _ (hall 3 (by decide)) rfl
      have e7 : z 34 = .int .i64 Z := hz 7 _ (hall 7 (by decide)) rfl
      have e10 : z 11 = .int .i64 Z := hz 10 _ (hall 10 (by decide)) rfl
      have p5 := hp5.get (hall 5 (by decide))
      have p9 := hp9.get (hall 9 (by decide))
      clear hall hz hI hp4 hp5 hp6 hp8 hp9
      obtain rfl := ha.out
      clear ha
      clear apx
      obtain ⟨q10, Ab, cb, hv10, hb10, h10, hrb10⟩ := p9
      have E11 := Lib.hid e10
      have HX := Lib.hid hx.out
      clear e0 e1 e2 e3 e7 e10 hx p5
      dsimp only
      have L8 := HX.out
      rw [hv10, E11.out]
      clear hv10 E11
      generalize z 27 = y27
      generalize z 28 = y28
      generalize z 29 = y29
      generalize z 30 = y30
      generalize z 31 = y31
      generalize z 32 = y32
      generalize z 33 = y33
      generalize z 34 = y34
      rename World => w8
      have H18 := Lib.hid ((L8.block _ (Array.getElem?_eq_some_iff.1 H17.out).1).trans H17.out)
      have H78 := Lib.hid ((L8.block _ (Array.getElem?_eq_some_iff.1 H77.out).1).trans H77.out)
      have H88 := Lib.hid ((L8.block _ (Array.getElem?_eq_some_iff.1 H87.out).1).trans H87.out)
      have Low8 := Lib.hid (Low7.out.trans (L8.mono Low7.out.size))
      have Low58 := Lib.hid (Low57.out.trans (L8.mono Low57.out.size))
      have HR8 := Lib.hid (HR.out.below Low8.out (Nat.le_refl _))
      have HRB8 := Lib.hid (HRB.out.below Low58.out (Nat.le_refl _))
      have Hra8 := Lib.hid (Hra7.out.below L8 (Nat.le_refl _))
      have L68 := Lib.hid (L67.out.trans (L8.mono L67.out.size))
      have H10 := Lib.hid h10
      have Hrb8 := Lib.hid hrb10
      clear L8 HX h10 hrb10 hb10 H17 H27 H77 H87 Own7 Own5 H25 HRW
      go_upto_region 6 with (fail)
      have apx : apartB [35, 36, 37, 38, 39, 40, 41, 42, 43, 44, 45, 46, 47, 48, 49, 50, 12] = true := by decide
      refine wp_region_any (by kernel_rfl) ?_
      change wpAny _ _ _ _ _ _ _ (World.drew _)
      refine wpAny_inv2 (fun ll aa wx => Hid (ll.size = 17 ∧ Below w8.heap.size w8 wx) ∧ ∃ (z : Nat → Value), Hid (aa = ⟨#[.agg (tabV v A n c), .string r.p, .agg (lab r.a r.c), .pointer (some ⟨tb, 0, none⟩), undef, .pointer (some ⟨tb + 1, 0, none⟩), .bool false, .pointer (some ⟨q7, 0, none⟩), .pointer (some ⟨q8, 0, none⟩), .int .i64 Z, .pointer (some ⟨q10, 0, none⟩), .int .i64 Z, z 12, undef, .agg (tabV v A n c), .string r.p, .bool false, undef, .agg (tabV v A n c), .agg (tabV v B n d), .tuple #[.agg (tabV V Aa U.length ca), .int .i64 Z], .agg (tabV v B n d), .string r.p, .agg (lab r.a r.c), .tuple #[.agg (tabV V Aa U.length ca), .int .i64 Z], .agg (tabV V Aa U.length ca), .int .i64 Z, y27, y28, y29, y30, y31, y32, y33, y34, z 35, z 36, z 37, z 38, z 39, z 40, z 41, z 42, z 43, z 44, z 45, z 46, z 47, z 48, z 49, z 50, undef, undef, undef, undef, undef, undef, undef, undef, undef, undef, undef, undef, undef, undef, undef, undef, undef, undef, undef, undef, undef, undef, undef], []⟩) ∧ Holding [35, 36, 37, 38, 39, 40, 41, 42, 43, 44, 45, 46, 47, 48, 49, 50, 12] [some (.int .i64 Z), some (.int .i64 Z), some (.bool true), some (.bool true), some (.agg (tabV V Aa U.length ca)), some (.agg (tabV V Aa U.length ca)), some (.agg (tabV V Ab U.length cb)), some (.bool true), some (.bool true), some (.bool true), some (.agg (tabV v B n d)), some (.agg (tabV v B n d)), some (.agg (tabV v A n c)), some (.agg (tabV v A n c)), some (.bool true), some (.bool true), some (.bool true)] ll z) ?_ (by kernel_rfl) ?_ ?_ _ rfl _ _ ?_
      · rintro ll aa wx ⟨hI, _⟩
        exact hI.out.1
      · rintro ll aa wx ⟨hI, z, ha, hz⟩ hall
        have hx := Lib.hid hI.out.2
        have e0 : z 35 = .int .i64 Z := hz 0 _ (hall 0 (by decide)) rfl
        have e1 : z 36 = .int .i64 Z := hz 1 _ (hall 1 (by decide)) rfl
        have e2 : z 37 = .bool true := hz 2 _ (hall 2 (by decide)) rfl
        have e3 : z 38 = .bool true := hz 3 _ (hall 3 (by decide)) rfl
        have e4 : z 39 = .agg (tabV V Aa U.length ca) := hz 4 _ (hall 4 (by decide)) rfl
        have e5 : z 40 = .agg (tabV V Aa U.length ca) := hz 5 _ (hall 5 (by decide)) rfl
        have e6 : z 41 = .agg (tabV V Ab U.length cb) := hz 6 _ (hall 6 (by decide)) rfl
        have e7 : z 42 = .bool true := hz 7 _ (hall 7 (by decide)) rfl
        have e8 : z 43 = .bool true := hz 8 _ (hall 8 (by decide)) rfl
        have e9 : z 44 = .bool true := hz 9 _ (hall 9 (by decide)) rfl
        have e10 : z 45 = .agg (tabV v B n d) := hz 10 _ (hall 10 (by decide)) rfl
        have e11 : z 46 = .agg (tabV v B n d) := hz 11 _ (hall 11 (by decide)) rfl
        have e12 : z 47 = .agg (tabV v A n c) := hz 12 _ (hall 12 (by decide)) rfl
        have e13 : z 48 = .agg (tabV v A n c) := hz 13 _ (hall 13 (by decide)) rfl
        have e14 : z 49 = .bool true := hz 14 _ (hall 14 (by decide)) rfl
        have e15 : z 50 = .bool true := hz 15 _ (hall 15 (by decide)) rfl
        have e16 : z 12 = .bool true := hz 16 _ (hall 16 (by decide)) rfl
        clear hall hz hI 
        obtain rfl := ha.out
        clear ha
        clear apx
        have E12 := Lib.hid e16
        have HX := Lib.hid hx.out
        clear e0 e1 e2 e3 e4 e5 e6 e7 e8 e9 e10 e11 e12 e13 e14 e15 e16 hx
        rw [E12.out]
        generalize z 35 = y35
        generalize z 36 = y36
        generalize z 37 = y37
        generalize z 38 = y38
        generalize z 39 = y39
        generalize z 40 = y40
        generalize z 41 = y41
        generalize z 42 = y42
        generalize z 43 = y43
        generalize z 44 = y44
        generalize z 45 = y45
        generalize z 46 = y46
        generalize z 47 = y47
        generalize z 48 = y48
        generalize z 49 = y49
        generalize z 50 = y50
        clear E12
        rename World => w9
        have L9 := HX.out
        have H89 := Lib.hid ((L9.block _ (Array.getElem?_eq_some_iff.1 H88.out).1).trans H88.out)
        have Low59 := Lib.hid (Low58.out.trans (L9.mono Low58.out.size))
        have HLI := Lib.hid (LI.start Hga.out Hra.out (L68.out.trans (L9.mono L68.out.size)) (Low8.out.trans (L9.mono Low8.out.size)) Low59.out H89.out rfl)
        have Hw5 : Hid (w.heap.size ≤ w5.heap.size) := Low5.out.size
        clear L9 HX H18 H78 H88 H10 Hrb8 Hra8 HR8 HRB8 Low8 Low58 Low7 Low57 Hra7 Hra Hga L67 L68 Low59 H89
        dsimp only
        go_wp2
        go_loopw [13] (fun v wr => ∃ i : Nat, i ≤ U.length ∧ v = .int .i64 i ∧ Hid (LI w w5 Aa U.length q8 (tabV V Aa U.length ca) wr)) (fun v _ => U.length - (intOf v).toNat)
        case atStart => exact ⟨0, Nat.zero_le _, rfl, HLI.out⟩
        case round =>
          obtain ⟨i, hi, rfl, hr⟩ := hrel
          clear HLI
          have c8 : wr.cell? ⟨q8, 1, none⟩ = some (.slice Aa U.length ca) := cell_row hr.out.r8 1
          by_cases hlt : i < U.length
          · have hltI : (i : Int) < (U.length : Int) := by omega
            obtain ⟨g, e, hg5, hg8, ⟨u, hcu⟩, hfr⟩ := hr.out.at_ i hlt
            subst e
            have hi32 : (i : Int) ≤ 32 := by have := Hl32.out; omega
            go_wp2
            exact ⟨⟨i + 1, by omega, by go_num, hr.out.next hlt Hw5.out _⟩, by simp [intOf]; omega⟩
          · have hltI : ¬ (i : Int) < (U.length : Int) := by omega
            have H1 := Lib.hid ((hr.out.low5.block _ (Array.getElem?_eq_some_iff.1 H15.out).1).trans H15.out)
            have H7 := Lib.hid ((hr.out.low5.block _ (Array.getElem?_eq_some_iff.1 H75.out).1).trans H75.out)
            have HRw := Lib.hid (HR.out.below hr.out.low (Nat.le_refl _))
            have HRBw := Lib.hid (HRB.out.below hr.out.low5 (Nat.le_refl _))
            have Loww := Lib.hid hr.out.low
            go_upto_region 11 with (fail)
            clear c8 hr
            have apx : apartB [63, 64, 65, 66, 67, 68, 69, 70, 71, 72, 73, 6] = true := by decide
            refine wp_region_any (by kernel_rfl) ?_
            change wpAny _ _ _ _ _ _ _ (World.drew _)
            refine wpAny_inv2 (fun ll aa wx => Hid (ll.size = 12 ∧ Below wr.heap.size wr wx) ∧ ∃ (z : Nat → Value), Hid (aa = ⟨#[.agg (tabV v A n c), .string r.p, .agg (lab r.a r.c), .pointer (some ⟨tb, 0, none⟩), undef, .pointer (some ⟨tb + 1, 0, none⟩), z 6, .pointer (some ⟨q7, 0, none⟩), .pointer (some ⟨q8, 0, none⟩), .int .i64 Z, .pointer (some ⟨q10, 0, none⟩), .int .i64 Z, .bool true, .int .i64 i, .agg (tabV v A n c), .string r.p, .bool false, undef, .agg (tabV v A n c), .agg (tabV v B n d), .tuple #[.agg (tabV V Aa U.length ca), .int .i64 Z], .agg (tabV v B n d), .string r.p, .agg (lab r.a r.c), .tuple #[.agg (tabV V Aa U.length ca), .int .i64 Z], .agg (tabV V Aa U.length ca), .int .i64 Z, y27, y28, y29, y30, y31, y32, y33, y34, y35, y36, y37, y38, y39, y40, y41, y42, y43, y44, y45, y46, y47, y48, y49, y50, .int .i64 i, .pointer (some ⟨q8, 1, none⟩), .slice Aa U.length ca, .int .i64 U.length, .bool false, u56, u57, u58, u59, u60, u61, u62, z 63, z 64, z 65, z 66, z 67, z 68, z 69, z 70, z 71, z 72, z 73], []⟩) ∧ Holding [63, 64, 65, 66, 67, 68, 69, 70, 71, 72, 73, 6] [some (.bool true), some (.bool true), some (.agg (tabV v B n d)), some (.agg (tabV v B n d)), some (.agg (tabV v A n c)), some (.agg (tabV v A n c)), some (.bool true), some (.bool true), some (.bool true), some (.bool true), some (.bool true), some (.bool true)] ll z) ?_ (by kernel_rfl) ?_ ?_ _ rfl _ _ ?_
            · rintro ll aa wx ⟨hI, _⟩
              exact hI.out.1
            · rintro ll aa wx ⟨hI, z, ha, hz⟩ hall
              have hx := Lib.hid hI.out.2
              have e0 : z 63 = .bool true := hz 0 _ (hall 0 (by decide)) rfl
              have e1 : z 64 = .bool true := hz 1 _ (hall 1 (by decide)) rfl
              have e2 : z 65 = .agg (tabV v B n d) := hz 2 _ (hall 2 (by decide)) rfl
              have e3 : z 66 = .agg (tabV v B n d) := hz 3 _ (hall 3 (by decide)) rfl
              have e4 : z 67 = .agg (tabV v A n c) := hz 4 _ (hall 4 (by decide)) rfl
              have e5 : z 68 = .agg (tabV v A n c) := hz 5 _ (hall 5 (by decide)) rfl
              have e6 : z 69 = .bool true := hz 6 _ (hall 6 (by decide)) rfl
              have e7 : z 70 = .bool true := hz 7 _ (hall 7 (by decide)) rfl
              have e8 : z 71 = .bool true := hz 8 _ (hall 8 (by decide)) rfl
              have e9 : z 72 = .bool true := hz 9 _ (hall 9 (by decide)) rfl
              have e10 : z 73 = .bool true := hz 10 _ (hall 10 (by decide)) rfl
              have e11 : z 6 = .bool true := hz 11 _ (hall 11 (by decide)) rfl
              clear hall hz hI 
              obtain rfl := ha.out
              clear ha
              clear apx
              have E6 := Lib.hid e11
              have HX := Lib.hid hx.out
              clear e0 e1 e2 e3 e4 e5 e6 e7 e8 e9 e10 e11 hx
              rw [E6.out]
              dsimp only
              go_wp2
              go_ret
              exact ⟨rfl, Loww.out.trans (HX.out.mono Loww.out.size)⟩
            · rintro ll aa wx i ⟨hI, z, ha, hz⟩ hcl hi hu hw
              obtain rfl := ha.out
              have hsz := Lib.hid hI.out.1
              have hx := Lib.hid hI.out.2
              clear ha hI
              have hin : i < 12 := hi
              obtain rfl | rfl | rfl | rfl | rfl | rfl | rfl | rfl | rfl | rfl | rfl | rfl : i = 0 ∨ i = 1 ∨ i = 2 ∨ i = 3 ∨ i = 4 ∨ i = 5 ∨ i = 6 ∨ i = 7 ∨ i = 8 ∨ i = 9 ∨ i = 10 ∨ i = 11 := by omega
              · refine wpOp_plain rfl rfl ?_
                go_simp
                exact ⟨⟨by simp [hsz.out], hx.out⟩, upd z 63 (.bool true), (by unfold Hid; simp [upd]), hz.next apx hsz.out 0 (by decide) _ (fun _ h => Option.some.inj h)⟩
              · have e0 : z 63 = .bool true := hz 0 _ (hw 0 (by kernel_rfl)) rfl
                refine wpOp_plain rfl rfl ?_
                go_simp
                exact ⟨⟨by simp [hsz.out], hx.out⟩, upd z 64 (.bool true), (by unfold Hid; simp [upd, e0]), hz.next apx hsz.out 1 (by decide) _ (fun _ h => Option.some.inj h)⟩
              · have e1 : z 64 = .bool true := hz 1 _ (hw 1 (by kernel_rfl)) rfl
                have cl := (hx.out.block _ (Array.getElem?_eq_some_iff.1 H7.out).1).trans H7.out
                refine wpOp_want rfl (by simp [Region.wanted, yielded, e1]) (wp_load_row 24 (.tmp 7) rfl (q7) rfl 24 (tabV v B n d) (0, 0) _ cl Tryd.underlying24 rfl infoT ?_)
                go_simp
                exact ⟨⟨by simp [hsz.out], hx.out⟩, upd z 65 (.agg (tabV v B n d)), (by unfold Hid; simp [upd, e1]), hz.next apx hsz.out 2 (by decide) _ (fun _ h => Option.some.inj h)⟩
              · have e1 : z 64 = .bool true := hz 1 _ (hw 1 (by kernel_rfl)) rfl
                have e2 : z 65 = .agg (tabV v B n d) := hz 2 _ (hw 2 (by kernel_rfl)) rfl
                refine wpOp_want rfl (by simp [Region.wanted, yielded, e1]) ?_
                go_simp
                go_at_call 9
                refine (of_any _ _ _ _ wx).mono ?_
                rintro e w9 ⟨rfl, low⟩
                exact ⟨⟨by simp [hsz.out], hx.out.trans (low.mono hx.out.size)⟩, upd z 66 (.agg (tabV v B n d)), (by unfold Hid; simp [upd, e1, e2]), hz.next apx hsz.out 3 (by decide) _ (fun _ h => Option.some.inj h)⟩
              · have e1 : z 64 = .bool true := hz 1 _ (hw 1 (by kernel_rfl)) rfl
                have cl := (hx.out.block _ (Array.getElem?_eq_some_iff.1 H1.out).1).trans H1.out
                refine wpOp_want rfl (by simp [Region.wanted, yielded, e1]) (wp_load_row 24 (.tmp 3) rfl (tb) rfl 24 (tabV v A n c) (0, 0) _ cl Tryd.underlying24 rfl infoT ?_)
                go_simp
                exact ⟨⟨by simp [hsz.out], hx.out⟩, upd z 67 (.agg (tabV v A n c)), (by unfold Hid; simp [upd, e1]), hz.next apx hsz.out 4 (by decide) _ (fun _ h => Option.some.inj h)⟩
              · have e1 : z 64 = .bool true := hz 1 _ (hw 1 (by kernel_rfl)) rfl
                have e4 : z 67 = .agg (tabV v A n c) := hz 4 _ (hw 4 (by kernel_rfl)) rfl
                refine wpOp_want rfl (by simp [Region.wanted, yielded, e1]) ?_
                go_simp
                go_at_call 9
                refine (of_any _ _ _ _ wx).mono ?_
                rintro e w9 ⟨rfl, low⟩
                exact ⟨⟨by simp [hsz.out], hx.out.trans (low.mono hx.out.size)⟩, upd z 68 (.agg (tabV v A n c)), (by unfold Hid; simp [upd, e1, e4]), hz.next apx hsz.out 5 (by decide) _ (fun _ h => Option.some.inj h)⟩
              · have e1 : z 64 = .bool true := hz 1 _ (hw 1 (by kernel_rfl)) rfl
                have e3 : z 66 = .agg (tabV v B n d) := hz 3 _ (hw 3 (by kernel_rfl)) rfl
                have e5 : z 68 = .agg (tabV v A n c) := hz 5 _ (hw 5 (by kernel_rfl)) rfl
                refine wpOp_want rfl (by simp [Region.wanted, yielded, e1]) ?_
                go_simp
                go_at_call 10
                refine (rsame_yes v B A n d c rs wx Hn.out (HRBw.out.below hx.out (Nat.le_refl _)) (HRw.out.below hx.out (Nat.le_refl _)) (by omega)).mono ?_
                rintro e w9 ⟨rfl, low⟩
                exact ⟨⟨by simp [hsz.out], hx.out.trans (low.mono hx.out.size)⟩, upd z 69 (.bool true), (by unfold Hid; simp [upd, e1, e3, e5]), hz.next apx hsz.out 6 (by decide) _ (fun _ h => Option.some.inj h)⟩
              · have e1 : z 64 = .bool true := hz 1 _ (hw 1 (by kernel_rfl)) rfl
                have e6 : z 69 = .bool true := hz 6 _ (hw 6 (by kernel_rfl)) rfl
                refine wpOp_plain rfl rfl ?_
                go_simp
                exact ⟨⟨by simp [hsz.out], hx.out⟩, upd z 70 (.bool true), (by unfold Hid; simp [upd, e1, e6]), hz.next apx hsz.out 7 (by decide) _ (fun _ h => Option.some.inj h)⟩
              · have e7 : z 70 = .bool true := hz 7 _ (hw 7 (by kernel_rfl)) rfl
                refine wpOp_plain rfl rfl ?_
                go_simp
                exact ⟨⟨by simp [hsz.out], hx.out⟩, upd z 71 (.bool true), (by unfold Hid; simp [upd, e7]), hz.next apx hsz.out 8 (by decide) _ (fun _ h => Option.some.inj h)⟩
              · have e8 : z 71 = .bool true := hz 8 _ (hw 8 (by kernel_rfl)) rfl
                refine wpOp_want rfl (by simp [Region.wanted, yielded, e8]) ?_
                go_simp
                go_at_call 5
                refine (HAw.out wx (Loww.out.trans (hx.out.mono Loww.out.size))).mono ?_
                rintro e w9 ⟨rfl, low⟩
                exact ⟨⟨by simp [hsz.out], hx.out.trans (low.mono hx.out.size)⟩, upd z 72 (.bool true), (by unfold Hid; simp [upd, e8]), hz.next apx hsz.out 9 (by decide) _ (fun _ h => Option.some.inj h)⟩
              · have e8 : z 71 = .bool true := hz 8 _ (hw 8 (by kernel_rfl)) rfl
                have e9 : z 72 = .bool true := hz 9 _ (hw 9 (by kernel_rfl)) rfl
                refine wpOp_plain rfl rfl ?_
                go_simp
                exact ⟨⟨by simp [hsz.out], hx.out⟩, upd z 73 (.bool true), (by unfold Hid; simp [upd, e8, e9]), hz.next apx hsz.out 10 (by decide) _ (fun _ h => Option.some.inj h)⟩
              · have e10 : z 73 = .bool true := hz 10 _ (hw 10 (by kernel_rfl)) rfl
                refine wpOp_plain rfl rfl ?_
                go_simp
                exact ⟨⟨by simp [hsz.out], hx.out⟩, upd z 6 (.bool true), (by unfold Hid; simp [upd, e10]), hz.next apx hsz.out 11 (by decide) _ (fun _ h => Option.some.inj h)⟩
            · exact ⟨⟨rfl, (Below.refl _ _).drew⟩, fun xx => (#[.agg (tabV v A n c), .string r.p, .agg (lab r.a r.c), .pointer (some ⟨tb, 0, none⟩), undef, .pointer (some ⟨tb + 1, 0, none⟩), .bool false, .pointer (some ⟨q7, 0, none⟩), .pointer (some ⟨q8, 0, none⟩), .int .i64 Z, .pointer (some ⟨q10, 0, none⟩), .int .i64 Z, .bool true, .int .i64 i, .agg (tabV v A n c), .string r.p, .bool false, undef, .agg (tabV v A n c), .agg (tabV v B n d), .tuple #[.agg (tabV V Aa U.length ca), .int .i64 Z], .agg (tabV v B n d), .string r.p, .agg (lab r.a r.c), .tuple #[.agg (tabV V Aa U.length ca), .int .i64 Z], .agg (tabV V Aa U.length ca), .int .i64 Z, y27, y28, y29, y30, y31, y32, y33, y34, y35, y36, y37, y38, y39, y40, y41, y42, y43, y44, y45, y46, y47, y48, y49, y50, .int .i64 i, .pointer (some ⟨q8, 1, none⟩), .slice Aa U.length ca, .int .i64 U.length, .bool false, u56, u57, u58, u59, u60, u61, u62, undef, undef, undef, undef, undef, undef, undef, undef, undef, undef, undef] : Array Value).getD xx undef, (by rfl), Holding.start⟩
      · rintro ll aa wx i ⟨hI, z, ha, hz⟩ hcl hi hu hw
        obtain rfl := ha.out
        have hsz := Lib.hid hI.out.1
        have hx := Lib.hid hI.out.2
        clear ha hI
        have hin : i < 17 := hi
        obtain rfl | rfl | rfl | rfl | rfl | rfl | rfl | rfl | rfl | rfl | rfl | rfl | rfl | rfl | rfl | rfl | rfl : i = 0 ∨ i = 1 ∨ i = 2 ∨ i = 3 ∨ i = 4 ∨ i = 5 ∨ i = 6 ∨ i = 7 ∨ i = 8 ∨ i = 9 ∨ i = 10 ∨ i = 11 ∨ i = 12 ∨ i = 13 ∨ i = 14 ∨ i = 15 ∨ i = 16 := by omega
        · refine wpOp_plain rfl rfl ?_
          go_simp
          exact ⟨⟨by simp [hsz.out], hx.out⟩, upd z 35 (.int .i64 Z), (by unfold Hid; simp [upd]), hz.next apx hsz.out 0 (by decide) _ (fun _ h => Option.some.inj h)⟩
        · refine wpOp_plain rfl rfl ?_
          go_simp
          exact ⟨⟨by simp [hsz.out], hx.out⟩, upd z 36 (.int .i64 Z), (by unfold Hid; simp [upd]), hz.next apx hsz.out 1 (by decide) _ (fun _ h => Option.some.inj h)⟩
        · have e0 : z 35 = .int .i64 Z := hz 0 _ (hw 0 (by kernel_rfl)) rfl
          have e1 : z 36 = .int .i64 Z := hz 1 _ (hw 1 (by kernel_rfl)) rfl
          refine wpOp_plain rfl rfl ?_
          go_simp
          exact ⟨⟨by simp [hsz.out], hx.out⟩, upd z 37 (.bool true), (by unfold Hid; simp [upd, e0, e1]), hz.next apx hsz.out 2 (by decide) _ (fun _ h => Option.some.inj h)⟩
        · have e2 : z 37 = .bool true := hz 2 _ (hw 2 (by kernel_rfl)) rfl
          refine wpOp_plain rfl rfl ?_
          go_simp
          exact ⟨⟨by simp [hsz.out], hx.out⟩, upd z 38 (.bool true), (by unfold Hid; simp [upd, e2]), hz.next apx hsz.out 3 (by decide) _ (fun _ h => Option.some.inj h)⟩
        · have e3 : z 38 = .bool true := hz 3 _ (hw 3 (by kernel_rfl)) rfl
          have cl := (hx.out.block _ (Array.getElem?_eq_some_iff.1 H88.out).1).trans H88.out
          refine wpOp_want rfl (by simp [Region.wanted, yielded, e3]) (wp_load_row 24 (.tmp 8) rfl (q8) rfl 24 (tabV V Aa U.length ca) (0, 0) _ cl Tryd.underlying24 rfl infoT ?_)
          go_simp
          exact ⟨⟨by simp [hsz.out], hx.out⟩, upd z 39 (.agg (tabV V Aa U.length ca)), (by unfold Hid; simp [upd, e3]), hz.next apx hsz.out 4 (by decide) _ (fun _ h => Option.some.inj h)⟩
        · have e3 : z 38 = .bool true := hz 3 _ (hw 3 (by kernel_rfl)) rfl
          have e4 : z 39 = .agg (tabV V Aa U.length ca) := hz 4 _ (hw 4 (by kernel_rfl)) rfl
          refine wpOp_want rfl (by simp [Region.wanted, yielded, e3]) ?_
          go_simp
          go_at_call 9
          refine (of_any _ _ _ _ wx).mono ?_
          rintro e w9 ⟨rfl, low⟩
          exact ⟨⟨by simp [hsz.out], hx.out.trans (low.mono hx.out.size)⟩, upd z 40 (.agg (tabV V Aa U.length ca)), (by unfold Hid; simp [upd, e3, e4]), hz.next apx hsz.out 5 (by decide) _ (fun _ h => Option.some.inj h)⟩
        · have e3 : z 38 = .bool true := hz 3 _ (hw 3 (by kernel_rfl)) rfl
          have cl := (hx.out.block _ (Array.getElem?_eq_some_iff.1 H10.out).1).trans H10.out
          refine wpOp_want rfl (by simp [Region.wanted, yielded, e3]) (wp_load_row 34 (.tmp 10) rfl (q10) rfl 34 (tabV V Ab U.length cb) (0, 0) _ cl Tryd.underlying34 rfl infoT2 ?_)
          go_simp
          exact ⟨⟨by simp [hsz.out], hx.out⟩, upd z 41 (.agg (tabV V Ab U.length cb)), (by unfold Hid; simp [upd, e3]), hz.next apx hsz.out 6 (by decide) _ (fun _ h => Option.some.inj h)⟩
        · have e3 : z 38 = .bool true := hz 3 _ (hw 3 (by kernel_rfl)) rfl
          have e5 : z 40 = .agg (tabV V Aa U.length ca) := hz 5 _ (hw 5 (by kernel_rfl)) rfl
          have e6 : z 41 = .agg (tabV V Ab U.length cb) := hz 6 _ (hw 6 (by kernel_rfl)) rfl
          refine wpOp_want rfl (by simp [Region.wanted, yielded, e3]) ?_
          go_simp
          go_at_call 10
          refine (rsame_yes V Aa Ab _ ca cb U wx rfl (Hra8.out.below hx.out (Nat.le_refl _)) (Hrb8.out.below hx.out (Nat.le_refl _)) (by have := Hl32.out; omega)).mono ?_
          rintro e w9 ⟨rfl, low⟩
          exact ⟨⟨by simp [hsz.out], hx.out.trans (low.mono hx.out.size)⟩, upd z 42 (.bool true), (by unfold Hid; simp [upd, e3, e5, e6]), hz.next apx hsz.out 7 (by decide) _ (fun _ h => Option.some.inj h)⟩
        · have e3 : z 38 = .bool true := hz 3 _ (hw 3 (by kernel_rfl)) rfl
          have e7 : z 42 = .bool true := hz 7 _ (hw 7 (by kernel_rfl)) rfl
          refine wpOp_plain rfl rfl ?_
          go_simp
          exact ⟨⟨by simp [hsz.out], hx.out⟩, upd z 43 (.bool true), (by unfold Hid; simp [upd, e3, e7]), hz.next apx hsz.out 8 (by decide) _ (fun _ h => Option.some.inj h)⟩
        · have e8 : z 43 = .bool true := hz 8 _ (hw 8 (by kernel_rfl)) rfl
          refine wpOp_plain rfl rfl ?_
          go_simp
          exact ⟨⟨by simp [hsz.out], hx.out⟩, upd z 44 (.bool true), (by unfold Hid; simp [upd, e8]), hz.next apx hsz.out 9 (by decide) _ (fun _ h => Option.some.inj h)⟩
        · have e9 : z 44 = .bool true := hz 9 _ (hw 9 (by kernel_rfl)) rfl
          have cl := (hx.out.block _ (Array.getElem?_eq_some_iff.1 H78.out).1).trans H78.out
          refine wpOp_want rfl (by simp [Region.wanted, yielded, e9]) (wp_load_row 24 (.tmp 7) rfl (q7) rfl 24 (tabV v B n d) (0, 0) _ cl Tryd.underlying24 rfl infoT ?_)
          go_simp
          exact ⟨⟨by simp [hsz.out], hx.out⟩, upd z 45 (.agg (tabV v B n d)), (by unfold Hid; simp [upd, e9]), hz.next apx hsz.out 10 (by decide) _ (fun _ h => Option.some.inj h)⟩
        · have e9 : z 44 = .bool true := hz 9 _ (hw 9 (by kernel_rfl)) rfl
          have e10 : z 45 = .agg (tabV v B n d) := hz 10 _ (hw 10 (by kernel_rfl)) rfl
          refine wpOp_want rfl (by simp [Region.wanted, yielded, e9]) ?_
          go_simp
          go_at_call 9
          refine (of_any _ _ _ _ wx).mono ?_
          rintro e w9 ⟨rfl, low⟩
          exact ⟨⟨by simp [hsz.out], hx.out.trans (low.mono hx.out.size)⟩, upd z 46 (.agg (tabV v B n d)), (by unfold Hid; simp [upd, e9, e10]), hz.next apx hsz.out 11 (by decide) _ (fun _ h => Option.some.inj h)⟩
        · have e9 : z 44 = .bool true := hz 9 _ (hw 9 (by kernel_rfl)) rfl
          have cl := (hx.out.block _ (Array.getElem?_eq_some_iff.1 H18.out).1).trans H18.out
          refine wpOp_want rfl (by simp [Region.wanted, yielded, e9]) (wp_load_row 24 (.tmp 3) rfl (tb) rfl 24 (tabV v A n c) (0, 0) _ cl Tryd.underlying24 rfl infoT ?_)
          go_simp
          exact ⟨⟨by simp [hsz.out], hx.out⟩, upd z 47 (.agg (tabV v A n c)), (by unfold Hid; simp [upd, e9]), hz.next apx hsz.out 12 (by decide) _ (fun _ h => Option.some.inj h)⟩
        · have e9 : z 44 = .bool true := hz 9 _ (hw 9 (by kernel_rfl)) rfl
          have e12 : z 47 = .agg (tabV v A n c) := hz 12 _ (hw 12 (by kernel_rfl)) rfl
          refine wpOp_want rfl (by simp [Region.wanted, yielded, e9]) ?_
          go_simp
          go_at_call 9
          refine (of_any _ _ _ _ wx).mono ?_
          rintro e w9 ⟨rfl, low⟩
          exact ⟨⟨by simp [hsz.out], hx.out.trans (low.mono hx.out.size)⟩, upd z 48 (.agg (tabV v A n c)), (by unfold Hid; simp [upd, e9, e12]), hz.next apx hsz.out 13 (by decide) _ (fun _ h => Option.some.inj h)⟩
        · have e9 : z 44 = .bool true := hz 9 _ (hw 9 (by kernel_rfl)) rfl
          have e11 : z 46 = .agg (tabV v B n d) := hz 11 _ (hw 11 (by kernel_rfl)) rfl
          have e13 : z 48 = .agg (tabV v A n c) := hz 13 _ (hw 13 (by kernel_rfl)) rfl
          refine wpOp_want rfl (by simp [Region.wanted, yielded, e9]) ?_
          go_simp
          go_at_call 10
          refine (rsame_yes v B A n d c rs wx Hn.out (HRB8.out.below hx.out (Nat.le_refl _)) (HR8.out.below hx.out (Nat.le_refl _)) (by omega)).mono ?_
          rintro e w9 ⟨rfl, low⟩
          exact ⟨⟨by simp [hsz.out], hx.out.trans (low.mono hx.out.size)⟩, upd z 49 (.bool true), (by unfold Hid; simp [upd, e9, e11, e13]), hz.next apx hsz.out 14 (by decide) _ (fun _ h => Option.some.inj h)⟩
        · have e9 : z 44 = .bool true := hz 9 _ (hw 9 (by kernel_rfl)) rfl
          have e14 : z 49 = .bool true := hz 14 _ (hw 14 (by kernel_rfl)) rfl
          refine wpOp_plain rfl rfl ?_
          go_simp
          exact ⟨⟨by simp [hsz.out], hx.out⟩, upd z 50 (.bool true), (by unfold Hid; simp [upd, e9, e14]), hz.next apx hsz.out 15 (by decide) _ (fun _ h => Option.some.inj h)⟩
        · have e15 : z 50 = .bool true := hz 15 _ (hw 15 (by kernel_rfl)) rfl
          refine wpOp_plain rfl rfl ?_
          go_simp
          exact ⟨⟨by simp [hsz.out], hx.out⟩, upd z 12 (.bool true), (by unfold Hid; simp [upd, e15]), hz.next apx hsz.out 16 (by decide) _ (fun _ h => Option.some.inj h)⟩
      · exact ⟨⟨rfl, (Below.refl _ _).drew⟩, fun xx => (#[.agg (tabV v A n c), .string r.p, .agg (lab r.a r.c), .pointer (some ⟨tb, 0, none⟩), undef, .pointer (some ⟨tb + 1, 0, none⟩), .bool false, .pointer (some ⟨q7, 0, none⟩), .pointer (some ⟨q8, 0, none⟩), .int .i64 Z, .pointer (some ⟨q10, 0, none⟩), .int .i64 Z, undef, undef, .agg (tabV v A n c), .string r.p, .bool false, undef, .agg (tabV v A n c), .agg (tabV v B n d), .tuple #[.agg (tabV V Aa U.length ca), .int .i64 Z], .agg (tabV v B n d), .string r.p, .agg (lab r.a r.c), .tuple #[.agg (tabV V Aa U.length ca), .int .i64 Z], .agg (tabV V Aa U.length ca), .int .i64 Z, y27, y28, y29, y30, y31, y32, y33, y34, undef, undef, undef, undef, undef, undef, undef, undef, undef, undef, undef, undef, undef, undef, undef, undef, undef, undef, undef, undef, undef, undef, undef, undef, undef, undef, undef, undef, undef, undef, undef, undef, undef, undef, undef, undef, undef, undef, undef] : Array Value).getD xx undef, (by rfl), Holding.start⟩
    · rintro ll aa wx i ⟨hI, z, ha, hz, hp4, hp5, hp6, hp8, hp9⟩ hcl hi hu hw
      obtain rfl := ha.out
      have hsz := Lib.hid hI.out.1
      have hx := Lib.hid hI.out.2
      clear ha hI
      have hin : i < 11 := hi
      obtain rfl | rfl | rfl | rfl | rfl | rfl | rfl | rfl | rfl | rfl | rfl : i = 0 ∨ i = 1 ∨ i = 2 ∨ i = 3 ∨ i = 4 ∨ i = 5 ∨ i = 6 ∨ i = 7 ∨ i = 8 ∨ i = 9 ∨ i = 10 := by omega
      · have cl := (hx.out.block _ (Array.getElem?_eq_some_iff.1 H17.out).1).trans H17.out
        refine wpOp_plain rfl rfl (wp_load_row 24 (.tmp 3) rfl (tb) rfl 24 (tabV v A n c) (0, 0) _ cl Tryd.underlying24 rfl infoT ?_)
        go_simp
        exact ⟨⟨by simp [hsz.out], hx.out⟩, upd z 28 (.agg (tabV v A n c)), (by unfold Hid; simp [upd]), hz.next apx hsz.out 0 (by decide) _ (fun _ h => Option.some.inj h), hp4.keep (by decide), hp5.keep (by decide), hp6.keep (by decide), hp8.keep (by decide), hp9.keep (by decide)⟩
      · have e0 : z 28 = .agg (tabV v A n c) := hz 0 _ (hw 0 (by kernel_rfl)) rfl
        refine wpOp_plain rfl rfl ?_
        go_simp
        go_at_call 9
        refine (of_any _ _ _ _ wx).mono ?_
        rintro e w8 ⟨rfl, low⟩
        exact ⟨⟨by simp [hsz.out], hx.out.trans (low.mono hx.out.size)⟩, upd z 29 (.agg (tabV v A n c)), (by unfold Hid; simp [upd, e0]), hz.next apx hsz.out 1 (by decide) _ (fun _ h => Option.some.inj h), (hp4.keep (by decide)).map (fun h => h.later low), (hp5.keep (by decide)).map (fun h => h.later low), (hp6.keep (by decide)).map (fun h => h.later low), (hp8.keep (by decide)).map (fun h => h.later low), (hp9.keep (by decide)).map (fun h => h.later low)⟩
      · refine wpOp_plain rfl rfl ?_
        go_simp
        exact ⟨⟨by simp [hsz.out], hx.out⟩, upd z 30 (.string r.p), (by unfold Hid; simp [upd]), hz.next apx hsz.out 2 (by decide) _ (fun _ h => Option.some.inj h), hp4.keep (by decide), hp5.keep (by decide), hp6.keep (by decide), hp8.keep (by decide), hp9.keep (by decide)⟩
      · have cl := (hx.out.block _ (Array.getElem?_eq_some_iff.1 H27.out).1).trans H27.out
        refine wpOp_plain rfl rfl (wp_load_row 27 (.tmp 5) rfl ((tb + 1)) rfl 27 (lab r.a r.c) (0, 0) _ cl Tryd.underlying27 rfl infoL ?_)
        go_simp
        exact ⟨⟨by simp [hsz.out], hx.out⟩, upd z 31 (.agg (lab r.a r.c)), (by unfold Hid; simp [upd]), hz.next apx hsz.out 3 (by decide) _ (fun _ h => Option.some.inj h), hp4.keep (by decide), hp5.keep (by decide), hp6.keep (by decide), hp8.keep (by decide), hp9.keep (by decide)⟩
      · have e1 : z 29 = .agg (tabV v A n c) := hz 1 _ (hw 1 (by kernel_rfl)) rfl
        have e2 : z 30 = .string r.p := hz 2 _ (hw 2 (by kernel_rfl)) rfl
        have e3 : z 31 = .agg (lab r.a r.c) := hz 3 _ (hw 3 (by kernel_rfl)) rfl
        refine wpOp_plain rfl rfl ?_
        go_simp
        go_at_call 8
        refine (HRW.out wx hx.out).mono ?_
        rintro e w8 ⟨⟨Ab, cb, rfl, hrb⟩, low⟩
        exact ⟨⟨by simp [hsz.out], hx.out.trans (low.mono hx.out.size)⟩, upd z 32 (.tuple #[.agg (tabV V Ab U.length cb), .int .i64 Z]), (by unfold Hid; simp [upd, e1, e2, e3]), hz.next apx hsz.out 4 (by decide) _ (fun _ h => by cases h), Whu.done (⟨Ab, cb, rfl, hrb⟩), Whn.never (by decide) (fun hl => hcl 5 4 hl (by kernel_rfl)) hu, (hp6.keep (by decide)).map (fun h => h.later low), (hp8.keep (by decide)).map (fun h => h.later low), (hp9.keep (by decide)).map (fun h => h.later low)⟩
      · have hn6 : ll.getD 6 false = false := by
          cases hl : ll.getD 6 false
          · rfl
          · exact absurd (hcl 6 5 hl (by kernel_rfl)) (by rw [hu]; decide)
        have p4 := hp4.get (hw 4 (by kernel_rfl)) hn6
        have hv4 : ∃ Ab cb, z 32 = .tuple #[.agg (tabV V Ab U.length cb), .int .i64 Z] := by
          obtain ⟨Ab, cb, h1, _⟩ := p4
          exact ⟨Ab, cb, h1⟩
        obtain ⟨Ab, cb, hv4⟩ := hv4
        refine wpOp_plain rfl rfl ?_
        go_simp
        exact ⟨⟨by simp [hsz.out], hx.out⟩, upd z 27 (.tuple #[.agg (tabV V Ab U.length cb), .int .i64 Z]), (by unfold Hid; simp [upd, hv4]), hz.next apx hsz.out 5 (by decide) _ (fun _ h => by cases h), hp4.keep (by decide), Whn.done (⟨by simp [upd, hv4], Ab, cb, rfl⟩), hp6.keep (by decide), hp8.keep (by decide), hp9.keep (by decide)⟩
      · have p5 := hp5.get (hw 5 (by kernel_rfl))
        have p4 := hp4.get (hcl 5 4 (hw 5 (by kernel_rfl)) (by kernel_rfl)) hu
        obtain ⟨Ab, cb, hv4, hrb⟩ := p4
        obtain ⟨hv5, _⟩ := p5
        rw [hv4] at hv5
        refine wpOp_plain rfl rfl ?_
        go_simp
        exact ⟨⟨by simp [hsz.out], hx.out⟩, upd z 33 (.agg (tabV V Ab U.length cb)), (by unfold Hid; simp [upd, hv4, hv5]), hz.next apx hsz.out 6 (by decide) _ (fun _ h => by cases h), Whu.past (by rw [hsz.out]; decide), hp5.keep (by decide), Whu.done (⟨Ab, cb, rfl, hrb⟩), hp8.keep (by decide), hp9.keep (by decide)⟩
      · have p5 := hp5.get (hw 5 (by kernel_rfl))
        obtain ⟨h27, Ab, cb, hv5⟩ := p5
        clear h27
        refine wpOp_plain rfl rfl ?_
        go_simp
        exact ⟨⟨by simp [hsz.out], hx.out⟩, upd z 34 (.int .i64 Z), (by unfold Hid; simp [upd, hv5]), hz.next apx hsz.out 7 (by decide) _ (fun _ h => Option.some.inj h), hp4.keep (by decide), hp5.keep (by decide), hp6.keep (by decide), hp8.keep (by decide), hp9.keep (by decide)⟩
      · refine wpOp_plain rfl rfl ?_
        go_simp
        have lown : Below wx.heap.size wx (wx.alloc (.cells #[.int .i64 0, .slice none 0 0] 34)) := (Below.refl _ _).alloc (Nat.le_refl _) _
        exact ⟨⟨by simp [hsz.out], hx.out.trans (lown.mono hx.out.size)⟩, upd z 10 (.pointer (some ⟨wx.heap.size, 0, none⟩)), (by unfold Hid; simp [upd]), hz.next apx hsz.out 8 (by decide) _ (fun _ h => by cases h), (hp4.keep (by decide)).map (fun h => h.later lown), (hp5.keep (by decide)).map (fun h => h.later lown), (hp6.keep (by decide)).map (fun h => h.later lown), Whu.done (⟨wx.heap.size, rfl, hx.out.size, Go.heap_alloc_new wx _⟩), Whn.never (by decide) (fun hl => hcl 9 8 hl (by kernel_rfl)) hu⟩
      · have p6 := hp6.get (hw 6 (by kernel_rfl)) hu
        have p8 := hp8.get (hw 8 (by kernel_rfl)) hu
        obtain ⟨Ab, cb, hv6, hrb⟩ := p6
        obtain ⟨q, hv8, hbq, hq⟩ := p8
        refine wpOp_plain rfl rfl (wp_store_row 34 (.tmp 10) (.tmp 33) rfl q (tabV V Ab U.length cb) (by show z 10 = _; exact hv8) (by show z 33 = _; exact hv6) 34 _ hq infoT2 rfl (tab_one ..) ?_)
        go_simp
        exact ⟨⟨by simp [hsz.out], Lab.below_setRow hx.out hbq _⟩, upd z 1009 (undef), (by unfold Hid; simp [upd, hv8, hv6]), hz.next apx hsz.out 9 (by decide) _ (fun _ h => by cases h), Whu.gone (hw 6 (by kernel_rfl)), (hp5.keep (by decide)).map (fun h => h), Whu.past (by rw [hsz.out]; decide), Whu.past (by rw [hsz.out]; decide), Whn.done (⟨q, Ab, cb, hv8, hbq, setRow_at hq, ruls_setRow hrb hq rfl⟩)⟩
      · have e7 : z 34 = .int .i64 Z := hz 7 _ (hw 7 (by kernel_rfl)) rfl
        refine wpOp_plain rfl rfl ?_
        go_simp
        exact ⟨⟨by simp [hsz.out], hx.out⟩, upd z 11 (.int .i64 Z), (by unfold Hid; simp [upd, e7]), hz.next apx hsz.out 10 (by decide) _ (fun _ h => Option.some.inj h), hp4.keep (by decide), hp5.keep (by decide), hp6.keep (by decide), hp8.keep (by decide), hp9.keep (by decide)⟩
    · exact ⟨⟨rfl, (Below.refl _ _).drew⟩, fun xx => (#[.agg (tabV v A n c), .string r.p, .agg (lab r.a r.c), .pointer (some ⟨tb, 0, none⟩), undef, .pointer (some ⟨tb + 1, 0, none⟩), .bool false, .pointer (some ⟨q7, 0, none⟩), .pointer (some ⟨q8, 0, none⟩), .int .i64 Z, undef, undef, undef, undef, .agg (tabV v A n c), .string r.p, .bool false, undef, .agg (tabV v A n c), .agg (tabV v B n d), .tuple #[.agg (tabV V Aa U.length ca), .int .i64 Z], .agg (tabV v B n d), .string r.p, .agg (lab r.a r.c), .tuple #[.agg (tabV V Aa U.length ca), .int .i64 Z], .agg (tabV V Aa U.length ca), .int .i64 Z, undef, undef, undef, undef, undef, undef, undef, undef, undef, undef, undef, undef, undef, undef, undef, undef, undef, undef, undef, undef, undef, undef, undef, undef, undef, undef, undef, undef, undef, undef, undef, undef, undef, undef, undef, undef, undef, undef, undef, undef, undef, undef, undef, undef, undef, undef, undef] : Array Value).getD xx undef, (by rfl), Holding.start, Whu.none (by decide), Whn.none (by decide), Whu.none (by decide), Whu.none (by decide), Whn.none (by decide)⟩
end Go.Proofs.YtmbcojpdigoojaaDoor.Rul
