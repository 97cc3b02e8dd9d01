/- DERIVED. The walk of RulesKnown (mkknown.py writes this text out of known.txt). -/
import Derived.Test.YtmbcojpdigoojaaGreatDoorRulText
import Derived.Test.YtmbcojpdigoojaaGreatDoorRulTouched
import Derived.Test.YtmbcojpdigoojaaGreatDoorRulWith
import Derived.Deep.WholeRow
import Derived.Deep.MidRow
namespace Go.Proofs.YtmbcojpdigoojaaGreatDoor.Rul
open Go.RowKit Lab Pth
/-- a slice that reads as labels. -/
def TL (L : List (Int × Nat)) (z : Value) (w : World) : Prop := ∃ A c, z = .slice A L.length c ∧ Labs w A c L
theorem TL.later {L : List (Int × Nat)} {z : Value} {w w' : World} (h : TL L z w) (hb : Below w.heap.size w w') : TL L z w' := by
  obtain ⟨A, c, h1, h2⟩ := h
  exact ⟨A, c, h1, h2.below hb (Nat.le_refl _)⟩
/-- With's answer, and what it reads as. -/
def TQ (V : Int) (U : List Rl) (Z : Int) (z : Value) (w : World) : Prop := ∃ Ab cb, z = .tuple #[.agg (tabV V Ab U.length cb), .int .i64 Z] ∧ Ruls w Ab cb U
theorem TQ.later {V : Int} {U : List Rl} {Z : Int} {z : Value} {w w' : World} (h : TQ V U Z z w) (hb : Below w.heap.size w w') : TQ V U Z z w' := by
  obtain ⟨Ab, cb, h1, h2⟩ := h
  exact ⟨Ab, cb, h1, h2.below hb (Nat.le_refl _)⟩
/-- its shape alone. -/
def TS (V : Int) (U : List Rl) (Z : Int) (y z : Value) (_ : World) : Prop := z = y ∧ ∃ Ab cb, z = .tuple #[.agg (tabV V Ab U.length cb), .int .i64 Z]
theorem TS.later {V : Int} {U : List Rl} {Z : Int} {y z : Value} {w w' : World} (h : TS V U Z y z w) (_ : Below w.heap.size w w') : TS V U Z y z w' := h
def AQ (V : Int) (U : List Rl) (z : Value) (w : World) : Prop := ∃ Ab cb, z = .agg (tabV V Ab U.length cb) ∧ Ruls w Ab cb U
theorem AQ.later {V : Int} {U : List Rl} {z : Value} {w w' : World} (h : AQ V U z w) (hb : Below w.heap.size w w') : AQ V U z w' := by
  obtain ⟨Ab, cb, h1, h2⟩ := h
  exact ⟨Ab, cb, h1, h2.below hb (Nat.le_refl _)⟩
/-- a box of two cells, at or above B. -/
def BT (B : Nat) (z : Value) (w : World) : Prop := ∃ q, z = .pointer (some ⟨q, 0, none⟩) ∧ B ≤ q ∧ w.heap[q]? = some (.cells (tabV 0 none 0 0) 24 (0, 0))
theorem BT.later {B : Nat} {z : Value} {w w' : World} (h : BT B z w) (hb : Below w.heap.size w w') : BT B z w' := by
  obtain ⟨q, h1, h2, h3⟩ := h
  exact ⟨q, h1, h2, (hb.block _ (Array.getElem?_eq_some_iff.1 h3).1).trans h3⟩
/-- the box that holds the table. -/
def RT (B : Nat) (V : Int) (U : List Rl) (z : Value) (w : World) : Prop := ∃ q Ab cb, z = .pointer (some ⟨q, 0, none⟩) ∧ B ≤ q ∧ w.heap[q]? = some (.cells (tabV V Ab U.length cb) 24 (0, 0)) ∧ Ruls w Ab cb U
theorem RT.later {B : Nat} {V : Int} {U : List Rl} {z : Value} {w w' : World} (h : RT B V U z w) (hb : Below w.heap.size w w') : RT B V U z w' := by
  obtain ⟨q, Ab, cb, h1, h2, h3, h4⟩ := h
  exact ⟨q, Ab, cb, h1, h2, (hb.block _ (Array.getElem?_eq_some_iff.1 h3).1).trans h3, h4.below hb (Nat.le_refl _)⟩
theorem ruls_setRow {w : World} {A : Option Addr} {c q T : Nat} {rs : List Rl} {old C : Array Value} (h : Ruls w A c rs) (hq : w.heap[q]? = some (.cells old T (0, 0))) (h2 : old.size = 2) : Ruls (w.setRow q C) A c rs := by
  refine ⟨h.1, h.2.1, fun hl => ?_⟩
  obtain ⟨b, off, e, hb, hr⟩ := h.2.2 hl
  refine ⟨b, off, e, by rw [size_setRow]; exact hb, fun i x hx j u hu => ?_⟩
  by_cases hne : q = b
  · exfalso
    subst hne
    have k0 := hr i x hx 0 _ rfl
    have k2 := hr i x hx 2 _ rfl
    rw [cell_row hq] at k0 k2
    have l0 := (Array.getElem?_eq_some_iff.1 k0).1
    have l2 := (Array.getElem?_eq_some_iff.1 k2).1
    omega
  · rw [World.cell?_of_block (setRow_ne hne)]
    exact hr i x hx j u hu
def sA : ByteArray := ⟨#[97]⟩
def sAB : ByteArray := ⟨#[97, 47, 98]⟩
def sE : ByteArray := ⟨#[]⟩
def La : List (Int × Nat) := refL (touchF sA givenL)
def Lb : List (Int × Nat) := refL (touchF sAB givenL)
def Lc : List (Int × Nat) := refL (touchF sE givenL)
theorem La_is : La = [(0, 0), (2, 1)] := by decide +kernel
theorem Lb_len : Lb.length = 1 := by decide +kernel
theorem Lc_len : Lc.length = 3 := by decide +kernel
def U3 : List Rl := insW ⟨sA, 3, 0⟩ givenL
theorem U3_is : U3 = [⟨sE, 1, 0⟩, ⟨sA, 3, 0⟩, ⟨sAB, 0, 0⟩] := by kernel_rfl
theorem oth_len (p : ByteArray) : (othersL p givenL).length ≤ 3 := by
  unfold othersL
  exact List.length_filter_le _ _
theorem z3 : withZ 3 givenL ⟨sA, 3, 0⟩ = 0 := withZ_ok (by decide +kernel) (by decide) givenOk (by have := oth_len sA; show (othersL sA givenL).length ≠ 32; omega)
theorem z15 : withZ 3 givenL ⟨⟨#[97, 47, 47, 98]⟩, 0, 0⟩ = 15 := withZ_pre (by decide +kernel)
theorem z2 : withZ 3 givenL ⟨sA, 16, 0⟩ = 2 := withZ_arg (by decide +kernel) (.inl (by decide))
/-- the table, its box, the listed tables. -/
structure GK (b q : Nat) (wb W : World) : Prop where
  rows : Ruls W (some ⟨b, 0, none⟩) 3 givenL
  box : W.heap[q]? = some (.cells (tabV 3 (some ⟨b, 0, none⟩) 3 3) 24 (0, 0))
  low : Below wb.heap.size wb W
  lp : Pth.Laid W
  ll : Lab.Laid W
theorem GK.later {b q : Nat} {wb W W' : World} (h : GK b q wb W) (hb : Below W.heap.size W W') : GK b q wb W' :=
  ⟨h.rows.below hb (Nat.le_refl _), (hb.block _ (Array.getElem?_eq_some_iff.1 h.box).1).trans h.box, h.low.trans (hb.mono h.low.size), h.lp.below hb (Nat.le_refl _), h.ll.below hb⟩
theorem kt {b q : Nat} {wb W : World} (h : GK b q wb W) (s : ByteArray) (hs : s.size ≤ 1000) : Calls Tryz.prog 13 #[.agg (tabV 3 (some ⟨b, 0, none⟩) 3 3), .string s] W fun e w' => ∃ u, e = .returned u ∧ TL (refL (touchF s givenL)) u w' ∧ Below W.heap.size W w' :=
  (touched_any 3 _ 3 3 givenL s W W rfl h.rows (Below.refl _ _) h.lp givenZ hs (by decide)).mono fun _ _ ⟨u, he, ho, hb⟩ => ⟨u, he, ho.labs, hb⟩
theorem kw {b q : Nat} {wb W : World} (h : GK b q wb W) (r : Rl) (hs : r.p.size ≤ 1000) (hz : withZ 3 givenL r = 0) : Calls Tryz.prog 18 #[.agg (tabV 3 (some ⟨b, 0, none⟩) 3 3), .string r.p, .agg (lab r.a r.c)] W fun e w' => (∃ Ab cb, e = .returned (.tuple #[.agg (tabV 4 Ab (insW r givenL).length cb), .int .i64 0]) ∧ Ruls w' Ab cb (insW r givenL)) ∧ Below W.heap.size W w' := by
  refine (with_any 3 _ 3 3 givenL r W rfl h.rows h.lp givenZ (by decide) hs (by decide)).mono ?_
  rintro e w' ⟨hr, hb⟩
  rcases hr with ⟨z, h0, h1, _⟩ | ⟨g, cap, _, he, _, _, hr, _⟩
  · rw [hz] at h1; exact absurd h1 h0
  · exact ⟨⟨_, _, he, hr⟩, hb⟩
theorem kn {b q : Nat} {wb W : World} (h : GK b q wb W) (r : Rl) (hs : r.p.size ≤ 1000) (Z : Int) (hz : withZ 3 givenL r = Z) (h0 : Z ≠ 0) : Calls Tryz.prog 18 #[.agg (tabV 3 (some ⟨b, 0, none⟩) 3 3), .string r.p, .agg (lab r.a r.c)] W fun e w' => (∃ Ab cb, e = .returned (.tuple #[.agg (tabV 0 Ab ([] : List Rl).length cb), .int .i64 Z]) ∧ Ruls w' Ab cb []) ∧ Below W.heap.size W w' := by
  refine (with_any 3 _ 3 3 givenL r W rfl h.rows h.lp givenZ (by decide) hs (by decide)).mono ?_
  rintro e w' ⟨hr, hb⟩
  rcases hr with ⟨z, _, h1, he⟩ | ⟨g, cap, hz0, _⟩
  · rw [hz] at h1
    subst h1
    exact ⟨⟨none, 0, he, ⟨Nat.le_refl _, fun _ => rfl, fun h => absurd h (Nat.lt_irrefl 0)⟩⟩, hb⟩
  · rw [hz] at hz0; exact absurd hz0 h0
def turnL : List Rl := [⟨⟨#[98]⟩, 0, 0⟩, ⟨⟨#[97]⟩, 0, 0⟩]
abbrev turn6 : Array Value := #[.string ⟨#[98]⟩, .int .i64 0, .int .u64 0, .string ⟨#[97]⟩, .int .i64 0, .int .u64 0]
theorem turn_rows {w : World} {g : Nat} (h : w.heap[g]? = some (.cells turn6 48 (0, 0))) : Ruls w (some ⟨g, 0, none⟩) 2 turnL := by
  refine ⟨Nat.le_refl _, (fun h => by cases h), fun _ => ⟨g, 0, rfl, (Array.getElem?_eq_some_iff.1 h).1, fun i x hx j v hv => ?_⟩⟩
  rw [cell_row h]
  have hi := (List.getElem?_eq_some_iff.1 hx).1
  have hj : j < 3 := by have := (List.getElem?_eq_some_iff.1 hv).1; simpa using this
  have hi3 : i < 2 := hi
  have ci : i = 0 ∨ i = 1 := by omega
  have cj : j = 0 ∨ j = 1 ∨ j = 2 := by omega
  rcases ci with rfl | rfl <;> (obtain rfl := Option.some.inj hx; rcases cj with rfl | rfl | rfl <;> exact hv)
theorem turn_no : ¬ Okay 2 turnL := fun h => by
  have h1 := (h.2.2 1 ⟨⟨#[97]⟩, 0, 0⟩ (by decide) rfl).2 ⟨⟨#[98]⟩, 0, 0⟩ (by decide) rfl
  exact absurd h1 (by decide +kernel)
theorem fA : find ⟨#[97]⟩ givenL = (2, 1) := by decide +kernel
theorem fAB : find ⟨#[97, 47, 98]⟩ givenL = (0, 0) := by decide +kernel
theorem fU1 : find ⟨#[97, 47, 99]⟩ U3 = (3, 0) := by rw [U3_is]; decide +kernel
theorem fU2 : find ⟨#[97, 47, 98]⟩ U3 = (0, 0) := by rw [U3_is]; decide +kernel
theorem U3_len : U3.length = 3 := by rw [U3_is]; rfl
theorem U3_size : ∀ r ∈ U3, r.p.size ≤ 1000 := by rw [U3_is]; decide
/-- what stands when the answers are held against the chapter's. -/
structure K6 (b q1 q5 : Nat) (A5 : Option Addr) (c5 ga oa ca b11 q11 : Nat) (wb W : World) : Prop where
  g : GK b q1 wb W
  u : Ruls W A5 c5 U3
  bu : W.heap[q5]? = some (.cells (tabV 4 A5 3 c5) 24 (0, 0))
  la : Labs W (some ⟨ga, oa, none⟩) ca La
  tr : Ruls W (some ⟨b11, 0, none⟩) 2 turnL
  bt : W.heap[q11]? = some (.cells (tabV 2 (some ⟨b11, 0, none⟩) 2 2) 24 (0, 0))
section
variable {b q1 q5 c5 ga oa ca b11 q11 : Nat} {A5 : Option Addr} {wb W W' : World}
theorem K6.later (h : K6 b q1 q5 A5 c5 ga oa ca b11 q11 wb W) (hb : Below W.heap.size W W') : K6 b q1 q5 A5 c5 ga oa ca b11 q11 wb W' :=
  ⟨h.g.later hb, h.u.below hb (Nat.le_refl _), (hb.block _ (Array.getElem?_eq_some_iff.1 h.bu).1).trans h.bu, h.la.below hb (Nat.le_refl _), h.tr.below hb (Nat.le_refl _), (hb.block _ (Array.getElem?_eq_some_iff.1 h.bt).1).trans h.bt⟩
theorem k_awake (h : K6 b q1 q5 A5 c5 ga oa ca b11 q11 wb W) : Calls Tryz.prog 6 #[] W fun e w' => e = .returned (.bool true) ∧ Below W.heap.size W w' := (awake_any W h.g.lp).mono fun _ _ ⟨he, hb⟩ => ⟨he, hb⟩
theorem k_fa (h : K6 b q1 q5 A5 c5 ga oa ca b11 q11 wb W) : Calls Tryz.prog 10 #[.agg (tabV 3 (some ⟨b, 0, none⟩) 3 3), .string ⟨#[97]⟩] W fun e w' => e = .returned (.agg #[.int .i64 2, .int .u64 1]) ∧ Below W.heap.size W w' :=
  (find_any 3 _ 3 3 givenL ⟨#[97]⟩ W W rfl h.g.rows (Below.refl _ _) h.g.lp givenZ (by decide) (by decide)).mono fun _ _ ⟨he, hb⟩ => ⟨by rw [he, fA]; rfl, hb⟩
theorem k_fab (h : K6 b q1 q5 A5 c5 ga oa ca b11 q11 wb W) : Calls Tryz.prog 10 #[.agg (tabV 3 (some ⟨b, 0, none⟩) 3 3), .string ⟨#[97, 47, 98]⟩] W fun e w' => e = .returned (.agg #[.int .i64 0, .int .u64 0]) ∧ Below W.heap.size W w' :=
  (find_any 3 _ 3 3 givenL ⟨#[97, 47, 98]⟩ W W rfl h.g.rows (Below.refl _ _) h.g.lp givenZ (by decide) (by decide)).mono fun _ _ ⟨he, hb⟩ => ⟨by rw [he, fAB]; rfl, hb⟩
theorem k_uac (h : K6 b q1 q5 A5 c5 ga oa ca b11 q11 wb W) : Calls Tryz.prog 10 #[.agg (tabV 4 A5 3 c5), .string ⟨#[97, 47, 99]⟩] W fun e w' => e = .returned (.agg #[.int .i64 3, .int .u64 0]) ∧ Below W.heap.size W w' :=
  (find_any 4 A5 3 c5 U3 ⟨#[97, 47, 99]⟩ W W U3_len h.u (Below.refl _ _) h.g.lp U3_size (by decide) (by decide)).mono fun _ _ ⟨he, hb⟩ => ⟨by rw [he, fU1]; rfl, hb⟩
theorem k_uab (h : K6 b q1 q5 A5 c5 ga oa ca b11 q11 wb W) : Calls Tryz.prog 10 #[.agg (tabV 4 A5 3 c5), .string ⟨#[97, 47, 98]⟩] W fun e w' => e = .returned (.agg #[.int .i64 0, .int .u64 0]) ∧ Below W.heap.size W w' :=
  (find_any 4 A5 3 c5 U3 ⟨#[97, 47, 98]⟩ W W U3_len h.u (Below.refl _ _) h.g.lp U3_size (by decide) (by decide)).mono fun _ _ ⟨he, hb⟩ => ⟨by rw [he, fU2]; rfl, hb⟩
theorem k_none (h : K6 b q1 q5 A5 c5 ga oa ca b11 q11 wb W) : Calls Tryz.prog 10 #[.agg (tabV 0 none 0 0), .string ⟨#[120]⟩] W fun e w' => e = .returned (.agg #[.int .i64 0, .int .u64 0]) ∧ Below W.heap.size W w' :=
  (find_any 0 none 0 0 [] ⟨#[120]⟩ W W rfl ⟨Nat.le_refl _, fun _ => rfl, fun h => absurd h (Nat.lt_irrefl 0)⟩ (Below.refl _ _) h.g.lp (fun r hr => by cases hr) (by decide) (by decide)).mono fun _ _ ⟨he, hb⟩ => ⟨by rw [he]; rfl, hb⟩
theorem k_l00 (W : World) : Calls Tryz.prog 19 #[.int .i64 0, .int .u64 0] W fun e w' => e = .returned (.agg #[.int .i64 0, .int .u64 0]) ∧ Below W.heap.size W w' := label_any 0 0 W
theorem k_l21 (W : World) : Calls Tryz.prog 19 #[.int .i64 2, .int .u64 1] W fun e w' => e = .returned (.agg #[.int .i64 2, .int .u64 1]) ∧ Below W.heap.size W w' := label_any 2 1 W
theorem k_l30 (W : World) : Calls Tryz.prog 19 #[.int .i64 3, .int .u64 0] W fun e w' => e = .returned (.agg #[.int .i64 3, .int .u64 0]) ∧ Below W.heap.size W w' := label_any 3 0 W
theorem infoL2 : (Tryz.prog.info? 34).map (·.size) = some 2 := by kernel_rfl
theorem K6.la0 (h : K6 b q1 q5 A5 c5 ga oa ca b11 q11 wb W) : W.rangeAt ga oa [.int .i64 0, .int .u64 0] := by
  have hl := h.la
  rw [La_is] at hl
  obtain ⟨g, o, e, _, hr⟩ := hl.2.2 (by decide)
  cases e
  exact hr 0 (0, 0) rfl
theorem K6.la1 (h : K6 b q1 q5 A5 c5 ga oa ca b11 q11 wb W) : W.rangeAt ga (oa + 2) [.int .i64 2, .int .u64 1] := by
  have hl := h.la
  rw [La_is] at hl
  obtain ⟨g, o, e, _, hr⟩ := hl.2.2 (by decide)
  cases e
  exact hr 1 (2, 1) rfl
def textG : List UInt8 := [118, 51, 10, 49, 58, 48, 32, 10, 50, 58, 49, 32, 97, 10, 48, 58, 48, 32, 97, 47, 98]
theorem text_is : catS (partsR givenL) = Lib.byteCells textG := by kernel_rfl
theorem bytes_inj : ∀ {l m : List UInt8}, Lib.byteCells l = Lib.byteCells m → l = m := by
  intro l
  induction l with
  | nil =>
    intro m h
    cases m with
    | nil => rfl
    | cons y t => simp [Lib.byteCells] at h
  | cons x s ih =>
    intro m h
    cases m with
    | nil => simp [Lib.byteCells] at h
    | cons y t =>
      simp only [Lib.byteCells, List.map_cons, List.cons.injEq] at h
      obtain ⟨h1, h2⟩ := h
      have e1 : x = y := by
        have : ((x.toNat : Nat) : Int) = ((y.toNat : Nat) : Int) := by injection h1
        exact UInt8.toNat_inj.1 (by omega)
      rw [e1, ih h2]
theorem given_valid : ∀ r ∈ givenL, ValidR r := by
  intro r hr
  simp only [givenL, List.mem_cons, List.mem_nil_iff, or_false] at hr
  rcases hr with rfl | rfl | rfl <;> exact ⟨by decide, by decide, by decide, by decide⟩
theorem k_text (h : K6 b q1 q5 A5 c5 ga oa ca b11 q11 wb W) : Calls Tryz.prog 15 #[.agg (tabV 3 (some ⟨b, 0, none⟩) 3 3)] W fun e w' => e = .returned (.string { data := #[118, 51, 10, 49, 58, 48, 32, 10, 50, 58, 49, 32, 97, 10, 48, 58, 48, 32, 97, 47, 98] }) ∧ Below W.heap.size W w' := by
  refine (text_any3 (some ⟨b, 0, none⟩) 3 3 givenL W rfl h.g.rows given_valid (by decide) h.g.ll).mono ?_
  rintro e w' ⟨⟨l, hl, rfl⟩, hb⟩
  rw [text_is] at hl
  rw [bytes_inj hl]
  exact ⟨rfl, hb⟩
theorem k_check (h : K6 b q1 q5 A5 c5 ga oa ca b11 q11 wb W) : Calls Tryz.prog 7 #[.agg (tabV 2 (some ⟨b11, 0, none⟩) 2 2)] W fun e w' => e = .returned (.int .i64 2) ∧ Below W.heap.size W w' := by
  refine (tcheck_any 2 _ 2 2 turnL W W rfl h.tr (Below.refl _ _) h.g.lp (by decide) (by decide)).mono ?_
  rintro e w' ⟨z, rfl, h1, h2, hb⟩
  rcases h1 with rfl | rfl
  · exact absurd (h2.1 rfl) turn_no
  · exact ⟨rfl, hb⟩
end
theorem setRow_new2 (w : World) (A : Obj) (B C : Array Value) (T : TypeId) : ((w.alloc A).alloc (.cells B T)).setRow (w.heap.size + 1) C = (w.alloc A).alloc (.cells C T) := by
  have h := World.setRow_alloc_new (w.alloc A) B C T
  rw [World.size_alloc] at h
  exact h
theorem kw3 {b q : Nat} {wb W : World} (h : GK b q wb W) : Calls Tryz.prog 18 #[.agg (tabV 3 (some ⟨b, 0, none⟩) 3 3), .string ⟨#[97]⟩, .agg (lab 3 0)] W fun e w' => (∃ Ab cb, e = .returned (.tuple #[.agg (tabV 4 Ab U3.length cb), .int .i64 0]) ∧ Ruls w' Ab cb U3) ∧ Below W.heap.size W w' := kw h ⟨sA, 3, 0⟩ (by decide) z3
theorem kn15 {b q : Nat} {wb W : World} (h : GK b q wb W) : Calls Tryz.prog 18 #[.agg (tabV 3 (some ⟨b, 0, none⟩) 3 3), .string ⟨#[97, 47, 47, 98]⟩, .agg (lab 0 0)] W fun e w' => (∃ Ab cb, e = .returned (.tuple #[.agg (tabV 0 Ab ([] : List Rl).length cb), .int .i64 15]) ∧ Ruls w' Ab cb []) ∧ Below W.heap.size W w' := kn h ⟨⟨#[97, 47, 47, 98]⟩, 0, 0⟩ (by decide) 15 z15 (by decide)
theorem kn2 {b q : Nat} {wb W : World} (h : GK b q wb W) : Calls Tryz.prog 18 #[.agg (tabV 3 (some ⟨b, 0, none⟩) 3 3), .string ⟨#[97]⟩, .agg (lab 16 0)] W fun e w' => (∃ Ab cb, e = .returned (.tuple #[.agg (tabV 0 Ab ([] : List Rl).length cb), .int .i64 2]) ∧ Ruls w' Ab cb []) ∧ Below W.heap.size W w' := kn h ⟨sA, 16, 0⟩ (by decide) 2 z2 (by decide)
set_option maxRecDepth 100000 in
set_option maxHeartbeats 20000000 in
theorem known_walk (w : World) (hP : Pth.Laid w) (hL : Lab.Laid w) : Calls Tryz.prog 4 #[] w fun e w' => e = .returned (.bool true) ∧ Below w.heap.size w w' := by
  have HP := Lib.hid hP
  have HLb := Lib.hid hL
  clear hP hL
  go_enter Tryz.func4, Tryz.ntmps4
  go_upto_region 2 with (first
    | (go_at_call 17; refine (given_any w).mono ?_; rintro e w1 ⟨b, rfl, rows, low⟩; have Rows := Lib.hid rows; have Low := Lib.hid low; clear rows low)
    | (refine wpList_store_row rfl 24 (.tmp 1) (.tmp 12) rfl w1.heap.size (tabV 3 (some ⟨b, 0, none⟩) 3 3) rfl rfl 24 _ (Go.heap_alloc_new w1 _) infoT rfl (tab_one ..) ?_; rw [World.setRow_alloc_new]))
  obtain ⟨w2, hw2⟩ : ∃ w2, w2 = w1.alloc (.cells (tabV 3 (some ⟨b, 0, none⟩) 3 3) 24) := ⟨_, rfl⟩
  have k2 : Below w1.heap.size w1 w2 := by rw [hw2]; exact (Below.refl _ _).alloc (Nat.le_refl _) _
  have hg : GK b w1.heap.size w w2 := ⟨Rows.out.below k2 (Nat.le_refl _), by rw [hw2]; exact Go.heap_alloc_new w1 _, Low.out.trans (k2.mono Low.out.size), (HP.out.below Low.out (Nat.le_refl _)).below k2 (Nat.le_refl _), (HLb.out.below Low.out).below k2⟩
  rw [← hw2]
  obtain ⟨q1, hq1⟩ : ∃ q1, q1 = w1.heap.size := ⟨_, rfl⟩
  rw [← hq1] at hg ⊢
  have HG2 := Lib.hid hg
  have HB2 := Lib.hid hg.box
  clear hw2 hg k2 hq1 Rows Low HP HLb
  have apx : apartB [13, 14, 15, 16, 17, 18, 2, 3, 4] = true := by decide
  refine wp_region_any (by kernel_rfl) ?_
  change wpAny _ _ _ _ _ _ _ (World.drew _)
  refine wpAny_inv2 (fun ll aa wx => Hid (ll.size = 9 ∧ Below w2.heap.size w2 wx) ∧ ∃ (z : Nat → Value), Hid (aa = ⟨#[.bool false, .pointer (some ⟨q1, 0, none⟩), z 2, z 3, z 4, undef, undef, undef, undef, undef, undef, undef, .agg (tabV 3 (some ⟨b, 0, none⟩) 3 3), z 13, z 14, z 15, z 16, z 17, z 18, undef, undef, undef, undef, undef, undef, undef, undef, undef, undef, undef, undef, undef, undef, undef, undef, undef, undef, undef, undef, undef, undef, undef, undef, undef, undef, undef, undef, undef, undef, undef, undef, undef, undef, undef, undef, undef, undef, undef, undef, undef, undef, undef, undef, undef, undef, undef, undef, undef, undef, undef, undef, undef, undef, undef, undef, undef, undef, undef, undef, undef, undef, undef, undef, undef, undef, undef, undef, undef, undef, undef, undef, undef, undef, undef, undef, undef, undef, undef, undef, undef, undef, undef, undef, undef, undef, undef, undef, undef, undef, undef, undef, undef, undef, undef, undef, undef, undef, undef, undef, undef, undef, undef, undef, undef, undef, undef, undef, undef], []⟩) ∧ Holding [13, 14, 15, 16, 17, 18, 2, 3, 4] [some (.agg (tabV 3 (some ⟨b, 0, none⟩) 3 3)), none, some (.agg (tabV 3 (some ⟨b, 0, none⟩) 3 3)), none, some (.agg (tabV 3 (some ⟨b, 0, none⟩) 3 3)), none, none, none, none] ll z ∧ Whn ll 1 (TL La) (z 14) wx ∧ Whn ll 3 (TL Lb) (z 16) wx ∧ Whn ll 5 (TL Lc) (z 18) wx ∧ Whn ll 6 (TL La) (z 2) wx ∧ Whn ll 7 (TL Lb) (z 3) wx ∧ Whn ll 8 (TL Lc) (z 4) wx) ?_ (by kernel_rfl) ?_ ?_ _ rfl _ _ ?_
  · rintro ll aa wx ⟨hI, _⟩
    exact hI.out.1
  · rintro ll aa wx ⟨hI, z, ha, hz, hp1, hp3, hp5, hp6, hp7, hp8⟩ hall
    have hx := Lib.hid hI.out.2
    have e0 : z 13 = .agg (tabV 3 (some ⟨b, 0, none⟩) 3 3) := hz 0 _ (hall 0 (by decide)) rfl
    have e2 : z 15 = .agg (tabV 3 (some ⟨b, 0, none⟩) 3 3) := hz 2 _ (hall 2 (by decide)) rfl
    have e4 : z 17 = .agg (tabV 3 (some ⟨b, 0, none⟩) 3 3) := hz 4 _ (hall 4 (by decide)) rfl
    have p1 := hp1.get (hall 1 (by decide))
    have p3 := hp3.get (hall 3 (by decide))
    have p5 := hp5.get (hall 5 (by decide))
    have p6 := hp6.get (hall 6 (by decide))
    have p7 := hp7.get (hall 7 (by decide))
    have p8 := hp8.get (hall 8 (by decide))
    clear hall hz hI hp1 hp3 hp5 hp6 hp7 hp8
    obtain rfl := ha.out
    clear ha
    clear apx
    obtain ⟨Aa, ca, hva, hla⟩ := p6
    obtain ⟨Ab, cb, hvb, hlb⟩ := p7
    obtain ⟨Ac, cc, hvc, hlc⟩ := p8
    have HX := hx.out
    clear e0 e2 e4 hx p1 p3 p5
    rw [hva, hvb, hvc]
    clear hva hvb hvc hlb hlc
    generalize z 13 = y13
    generalize z 14 = y14
    generalize z 15 = y15
    generalize z 16 = y16
    generalize z 17 = y17
    generalize z 18 = y18
    rename World => w3
    dsimp only
    have HG3 := Lib.hid (HG2.out.later HX)
    have HLa := Lib.hid hla
    clear HX hla HG2 HB2
    have HB3 := Lib.hid HG3.out.box
    go_upto_region 3 with (fail)
    have apx : apartB [20, 21, 22, 19, 23, 24, 5, 1007, 6] = true := by decide
    refine wp_region_any (by kernel_rfl) ?_
    change wpAny _ _ _ _ _ _ _ (World.drew _)
    refine wpAny_inv2 (fun ll aa wx => Hid (ll.size = 9 ∧ Below w3.heap.size w3 wx) ∧ ∃ (z : Nat → Value), Hid (aa = ⟨#[.bool false, .pointer (some ⟨q1, 0, none⟩), .slice Aa La.length ca, .slice Ab Lb.length cb, .slice Ac Lc.length cc, z 5, z 6, undef, undef, undef, undef, undef, .agg (tabV 3 (some ⟨b, 0, none⟩) 3 3), y13, y14, y15, y16, y17, y18, z 19, z 20, z 21, z 22, z 23, z 24, undef, undef, undef, undef, undef, undef, undef, undef, undef, undef, undef, undef, undef, undef, undef, undef, undef, undef, undef, undef, undef, undef, undef, undef, undef, undef, undef, undef, undef, undef, undef, undef, undef, undef, undef, undef, undef, undef, undef, undef, undef, undef, undef, undef, undef, undef, undef, undef, undef, undef, undef, undef, undef, undef, undef, undef, undef, undef, undef, undef, undef, undef, undef, undef, undef, undef, undef, undef, undef, undef, undef, undef, undef, undef, undef, undef, undef, undef, undef, undef, undef, undef, undef, undef, undef, undef, undef, undef, undef, undef, undef, undef, undef, undef, undef, undef, undef, undef, undef, undef, undef, undef, undef], []⟩) ∧ Holding [20, 21, 22, 19, 23, 24, 5, 1007, 6] [some (.agg (tabV 3 (some ⟨b, 0, none⟩) 3 3)), some (.agg (lab 3 0)), none, none, none, some (.int .i64 0), none, none, some (.int .i64 0)] ll z ∧ Whu ll 2 4 (TQ 4 U3 0) (z 22) wx ∧ Whn ll 3 (TS 4 U3 0 (z 22)) (z 19) wx ∧ Whu ll 4 7 (AQ 4 U3) (z 23) wx ∧ Whu ll 6 7 (BT w3.heap.size) (z 5) wx ∧ Whn ll 7 (fun _ ww => RT w3.heap.size 4 U3 (z 5) ww) (z 1007) wx) ?_ (by kernel_rfl) ?_ ?_ _ rfl _ _ ?_
    · rintro ll aa wx ⟨hI, _⟩
      exact hI.out.1
    · rintro ll aa wx ⟨hI, z, ha, hz, hp2, hp3, hp4, hp6, hp7⟩ hall
      have hx := Lib.hid hI.out.2
      have e0 : z 20 = .agg (tabV 3 (some ⟨b, 0, none⟩) 3 3) := hz 0 _ (hall 0 (by decide)) rfl
      have e1 : z 21 = .agg (lab 3 0) := hz 1 _ (hall 1 (by decide)) rfl
      have e5 : z 24 = .int .i64 0 := hz 5 _ (hall 5 (by decide)) rfl
      have e8 : z 6 = .int .i64 0 := hz 8 _ (hall 8 (by decide)) rfl
      have p3 := hp3.get (hall 3 (by decide))
      have p7 := hp7.get (hall 7 (by decide))
      clear hall hz hI hp2 hp3 hp4 hp6 hp7
      obtain rfl := ha.out
      clear ha
      clear apx
      obtain ⟨q5, A5, c5, hvq, hbq, hbox, hru⟩ := p7
      have EE := Lib.hid e8
      have HX := hx.out
      clear e0 e1 e5 e8 hx p3
      dsimp only
      rw [hvq, EE.out]
      clear hvq EE
      generalize z 20 = y20
      generalize z 21 = y21
      generalize z 22 = y22
      generalize z 19 = y19
      generalize z 23 = y23
      generalize z 24 = y24
      rename World => w4
      have HG4 := Lib.hid (HG3.out.later HX)
      have HU := Lib.hid hru
      have HBu := Lib.hid hbox
      have HLa2 := Lib.hid (HLa.out.below HX (Nat.le_refl _))
      clear hru hbox HLa
      clear HX hbq HG3 HB3
      have HB4 := Lib.hid HG4.out.box
      go_upto_region 4 with (fail)
      have apx : apartB [26, 27, 28, 25, 29, 30, 7, 1007, 8] = true := by decide
      refine wp_region_any (by kernel_rfl) ?_
      change wpAny _ _ _ _ _ _ _ (World.drew _)
      refine wpAny_inv2 (fun ll aa wx => Hid (ll.size = 9 ∧ Below w4.heap.size w4 wx) ∧ ∃ (z : Nat → Value), Hid (aa = ⟨#[.bool false, .pointer (some ⟨q1, 0, none⟩), .slice Aa La.length ca, .slice Ab Lb.length cb, .slice Ac Lc.length cc, .pointer (some ⟨q5, 0, none⟩), .int .i64 0, z 7, z 8, undef, undef, undef, .agg (tabV 3 (some ⟨b, 0, none⟩) 3 3), y13, y14, y15, y16, y17, y18, y19, y20, y21, y22, y23, y24, z 25, z 26, z 27, z 28, z 29, z 30, undef, undef, undef, undef, undef, undef, undef, undef, undef, undef, undef, undef, undef, undef, undef, undef, undef, undef, undef, undef, undef, undef, undef, undef, undef, undef, undef, undef, undef, undef, undef, undef, undef, undef, undef, undef, undef, undef, undef, undef, undef, undef, undef, undef, undef, undef, undef, undef, undef, undef, undef, undef, undef, undef, undef, undef, undef, undef, undef, undef, undef, undef, undef, undef, undef, undef, undef, undef, undef, undef, undef, undef, undef, undef, undef, undef, undef, undef, undef, undef, undef, undef, undef, undef, undef, undef, undef, undef, undef, undef, undef, undef, undef, undef, undef, undef, undef], []⟩) ∧ Holding [26, 27, 28, 25, 29, 30, 7, 1007, 8] [some (.agg (tabV 3 (some ⟨b, 0, none⟩) 3 3)), some (.agg (lab 0 0)), none, none, none, some (.int .i64 15), none, none, some (.int .i64 15)] ll z ∧ Whu ll 2 4 (TQ 0 ([] : List Rl) 15) (z 28) wx ∧ Whn ll 3 (TS 0 ([] : List Rl) 15 (z 28)) (z 25) wx ∧ Whu ll 4 7 (AQ 0 ([] : List Rl)) (z 29) wx ∧ Whu ll 6 7 (BT w4.heap.size) (z 7) wx ∧ Whn ll 7 (fun _ ww => RT w4.heap.size 0 ([] : List Rl) (z 7) ww) (z 1007) wx) ?_ (by kernel_rfl) ?_ ?_ _ rfl _ _ ?_
      · rintro ll aa wx ⟨hI, _⟩
        exact hI.out.1
      · rintro ll aa wx ⟨hI, z, ha, hz, hp2, hp3, hp4, hp6, hp7⟩ hall
        have hx := Lib.hid hI.out.2
        have e0 : z 26 = .agg (tabV 3 (some ⟨b, 0, none⟩) 3 3) := hz 0 _ (hall 0 (by decide)) rfl
        have e1 : z 27 = .agg (lab 0 0) := hz 1 _ (hall 1 (by decide)) rfl
        have e5 : z 30 = .int .i64 15 := hz 5 _ (hall 5 (by decide)) rfl
        have e8 : z 8 = .int .i64 15 := hz 8 _ (hall 8 (by decide)) rfl
        have p3 := hp3.get (hall 3 (by decide))
        have p7 := hp7.get (hall 7 (by decide))
        clear hall hz hI hp2 hp3 hp4 hp6 hp7
        obtain rfl := ha.out
        clear ha
        clear apx
        obtain ⟨q7, A7, c7, hvq, hbq, hbox, hru⟩ := p7
        have EE := Lib.hid e8
        have HX := hx.out
        clear e0 e1 e5 e8 hx p3
        dsimp only
        rw [hvq, EE.out]
        clear hvq EE
        generalize z 26 = y26
        generalize z 27 = y27
        generalize z 28 = y28
        generalize z 25 = y25
        generalize z 29 = y29
        generalize z 30 = y30
        rename World => w5
        have HG5 := Lib.hid (HG4.out.later HX)
        have HU2 := Lib.hid (HU.out.below HX (Nat.le_refl _))
        have HBu2 := Lib.hid ((HX.block _ (Array.getElem?_eq_some_iff.1 HBu.out).1).trans HBu.out)
        have HLa3 := Lib.hid (HLa2.out.below HX (Nat.le_refl _))
        clear hru hbox HU HBu HLa2
        clear HX hbq HG4 HB4
        have HB5 := Lib.hid HG5.out.box
        go_upto_region 5 with (fail)
        have apx : apartB [32, 33, 34, 31, 35, 36, 9, 1007, 10] = true := by decide
        refine wp_region_any (by kernel_rfl) ?_
        change wpAny _ _ _ _ _ _ _ (World.drew _)
        refine wpAny_inv2 (fun ll aa wx => Hid (ll.size = 9 ∧ Below w5.heap.size w5 wx) ∧ ∃ (z : Nat → Value), Hid (aa = ⟨#[.bool false, .pointer (some ⟨q1, 0, none⟩), .slice Aa La.length ca, .slice Ab Lb.length cb, .slice Ac Lc.length cc, .pointer (some ⟨q5, 0, none⟩), .int .i64 0, .pointer (some ⟨q7, 0, none⟩), .int .i64 15, z 9, z 10, undef, .agg (tabV 3 (some ⟨b, 0, none⟩) 3 3), y13, y14, y15, y16, y17, y18, y19, y20, y21, y22, y23, y24, y25, y26, y27, y28, y29, y30, z 31, z 32, z 33, z 34, z 35, z 36, undef, undef, undef, undef, undef, undef, undef, undef, undef, undef, undef, undef, undef, undef, undef, undef, undef, undef, undef, undef, undef, undef, undef, undef, undef, undef, undef, undef, undef, undef, undef, undef, undef, undef, undef, undef, undef, undef, undef, undef, undef, undef, undef, undef, undef, undef, undef, undef, undef, undef, undef, undef, undef, undef, undef, undef, undef, undef, undef, undef, undef, undef, undef, undef, undef, undef, undef, undef, undef, undef, undef, undef, undef, undef, undef, undef, undef, undef, undef, undef, undef, undef, undef, undef, undef, undef, undef, undef, undef, undef, undef], []⟩) ∧ Holding [32, 33, 34, 31, 35, 36, 9, 1007, 10] [some (.agg (tabV 3 (some ⟨b, 0, none⟩) 3 3)), some (.agg (lab 16 0)), none, none, none, some (.int .i64 2), none, none, some (.int .i64 2)] ll z ∧ Whu ll 2 4 (TQ 0 ([] : List Rl) 2) (z 34) wx ∧ Whn ll 3 (TS 0 ([] : List Rl) 2 (z 34)) (z 31) wx ∧ Whu ll 4 7 (AQ 0 ([] : List Rl)) (z 35) wx ∧ Whu ll 6 7 (BT w5.heap.size) (z 9) wx ∧ Whn ll 7 (fun _ ww => RT w5.heap.size 0 ([] : List Rl) (z 9) ww) (z 1007) wx) ?_ (by kernel_rfl) ?_ ?_ _ rfl _ _ ?_
        · rintro ll aa wx ⟨hI, _⟩
          exact hI.out.1
        · rintro ll aa wx ⟨hI, z, ha, hz, hp2, hp3, hp4, hp6, hp7⟩ hall
          have hx := Lib.hid hI.out.2
          have e0 : z 32 = .agg (tabV 3 (some ⟨b, 0, none⟩) 3 3) := hz 0 _ (hall 0 (by decide)) rfl
          have e1 : z 33 = .agg (lab 16 0) := hz 1 _ (hall 1 (by decide)) rfl
          have e5 : z 36 = .int .i64 2 := hz 5 _ (hall 5 (by decide)) rfl
          have e8 : z 10 = .int .i64 2 := hz 8 _ (hall 8 (by decide)) rfl
          have p3 := hp3.get (hall 3 (by decide))
          have p7 := hp7.get (hall 7 (by decide))
          clear hall hz hI hp2 hp3 hp4 hp6 hp7
          obtain rfl := ha.out
          clear ha
          clear apx
          obtain ⟨q9, A9, c9, hvq, hbq, hbox, hru⟩ := p7
          have EE := Lib.hid e8
          have HX := hx.out
          clear e0 e1 e5 e8 hx p3
          dsimp only
          rw [hvq, EE.out]
          clear hvq EE
          generalize z 32 = y32
          generalize z 33 = y33
          generalize z 34 = y34
          generalize z 31 = y31
          generalize z 35 = y35
          generalize z 36 = y36
          rename World => w6
          have HG6 := Lib.hid (HG5.out.later HX)
          have HU3 := Lib.hid (HU2.out.below HX (Nat.le_refl _))
          have HBu3 := Lib.hid ((HX.block _ (Array.getElem?_eq_some_iff.1 HBu2.out).1).trans HBu2.out)
          have HLa4 := Lib.hid (HLa3.out.below HX (Nat.le_refl _))
          clear hru hbox HU2 HBu2 HLa3
          clear HX hbq HG5 HB5
          have HB6 := Lib.hid HG6.out.box
          have hlen2 : La.length = 2 := by rw [La_is]; rfl
          obtain ⟨ga, oa, hAa, hga, _⟩ := HLa4.out.2.2 (by rw [hlen2]; decide)
          subst hAa
          rw [hlen2, Lb_len, Lc_len]
          have hbu3 := HBu3.out
          rw [U3_len] at hbu3
          have h7 := two_new w6 (.cells turn6 48) (.cells (tabV 2 (some ⟨w6.heap.size, 0, none⟩) 2 2) 24)
          have k7 : Below w6.heap.size w6 ((w6.alloc (.cells turn6 48)).alloc (.cells (tabV 2 (some ⟨w6.heap.size, 0, none⟩) 2 2) 24)) := ((Below.refl _ _).alloc (Nat.le_refl _) _).alloc (by rw [World.size_alloc]; omega) _
          obtain ⟨W7, hW7⟩ : ∃ W7, W7 = (w6.alloc (.cells turn6 48)).alloc (.cells (tabV 2 (some ⟨w6.heap.size, 0, none⟩) 2 2) 24) := ⟨_, rfl⟩
          rw [← hW7] at h7 k7
          have HW7 : Hid (((w6.alloc (.cells #[.string ⟨#[98]⟩, .int .i64 0, .int .u64 0, .string ⟨#[97]⟩, .int .i64 0, .int .u64 0] 48)).alloc (.cells #[.int .i64 0, .slice none 0 0] 24)).setRow (w6.heap.size + 1) (tabV 2 (some ⟨w6.heap.size, 0, none⟩) 2 2) = W7) := by show _ = _; rw [setRow_new2]; exact hW7.symm
          have hk7 : K6 b q1 q5 A5 c5 ga oa ca w6.heap.size (w6.heap.size + 1) w W7 := ⟨HG6.out.later k7, HU3.out.below k7 (Nat.le_refl _), (k7.block _ (Array.getElem?_eq_some_iff.1 hbu3).1).trans hbu3, HLa4.out.below k7 (Nat.le_refl _), turn_rows h7.1, h7.2⟩
          have HK := Lib.hid hk7
          clear hlen2 hga hbu3 h7 k7 hW7 hk7 HG6 HU3 HBu3 HLa4 HB6
          go_upto_region 7 with (first
              | (refine wpList_store_row rfl 24 (.tmp 11) (.tmp 40) rfl (w6.heap.size + 1) (tabV 2 (some ⟨w6.heap.size, 0, none⟩) 2 2) rfl rfl 24 _ (two_new w6 _ _).2 infoT rfl (tab_one ..) ?_; rw [HW7.out]))
          clear HW7
          obtain ⟨b11, hb11⟩ : ∃ b11, b11 = w6.heap.size := ⟨_, rfl⟩
          rw [← hb11] at HK ⊢
          clear hb11
          have HR1 := Lib.hid HK.out.g.box
          have HR5 := Lib.hid HK.out.bu
          have HR11 := Lib.hid HK.out.bt
          have HC5 : Hid (W7.cell? ⟨q5, 0, none⟩ = some (.int .i64 4)) := cell_row HK.out.bu 0
          have apx : apartB [41, 42, 43, 44, 45, 46, 47, 48, 49, 50, 51, 52, 53, 54, 55, 56, 57, 58, 59, 60, 61, 62, 63, 64, 65, 66, 67, 68, 69, 70, 71, 72, 73, 74, 75, 76, 77, 78, 79, 80, 81, 82, 83, 84, 85, 86, 87, 88, 89, 90, 91, 92, 93, 94, 95, 96, 97, 98, 99, 100, 101, 102, 103, 104, 105, 106, 107, 108, 109, 110, 111, 112, 113, 114, 115, 116, 117, 118, 119, 120, 121, 122, 123, 124, 125, 126, 127, 0] = true := by decide
          refine wp_region_any (by kernel_rfl) ?_
          change wpAny _ _ _ _ _ _ _ (World.drew _)
          refine wpAny_inv2 (fun ll aa wx => Hid (ll.size = 88 ∧ Below W7.heap.size W7 wx) ∧ ∃ (z : Nat → Value), Hid (aa = ⟨#[z 0, .pointer (some ⟨q1, 0, none⟩), .slice (some ⟨ga, oa, none⟩) 2 ca, .slice Ab 1 cb, .slice Ac 3 cc, .pointer (some ⟨q5, 0, none⟩), .int .i64 0, .pointer (some ⟨q7, 0, none⟩), .int .i64 15, .pointer (some ⟨q9, 0, none⟩), .int .i64 2, .pointer (some ⟨b11 + 1, 0, none⟩), .agg (tabV 3 (some ⟨b, 0, none⟩) 3 3), y13, y14, y15, y16, y17, y18, y19, y20, y21, y22, y23, y24, y25, y26, y27, y28, y29, y30, y31, y32, y33, y34, y35, y36, .agg #[.string ⟨#[98]⟩, .int .i64 0, .int .u64 0], .agg #[.string ⟨#[97]⟩, .int .i64 0, .int .u64 0], .slice (some ⟨b11, 0, none⟩) 2 2, .agg #[.int .i64 2, .slice (some ⟨b11, 0, none⟩) 2 2], z 41, z 42, z 43, z 44, z 45, z 46, z 47, z 48, z 49, z 50, z 51, z 52, z 53, z 54, z 55, z 56, z 57, z 58, z 59, z 60, z 61, z 62, z 63, z 64, z 65, z 66, z 67, z 68, z 69, z 70, z 71, z 72, z 73, z 74, z 75, z 76, z 77, z 78, z 79, z 80, z 81, z 82, z 83, z 84, z 85, z 86, z 87, z 88, z 89, z 90, z 91, z 92, z 93, z 94, z 95, z 96, z 97, z 98, z 99, z 100, z 101, z 102, z 103, z 104, z 105, z 106, z 107, z 108, z 109, z 110, z 111, z 112, z 113, z 114, z 115, z 116, z 117, z 118, z 119, z 120, z 121, z 122, z 123, z 124, z 125, z 126, z 127], []⟩) ∧ Holding [41, 42, 43, 44, 45, 46, 47, 48, 49, 50, 51, 52, 53, 54, 55, 56, 57, 58, 59, 60, 61, 62, 63, 64, 65, 66, 67, 68, 69, 70, 71, 72, 73, 74, 75, 76, 77, 78, 79, 80, 81, 82, 83, 84, 85, 86, 87, 88, 89, 90, 91, 92, 93, 94, 95, 96, 97, 98, 99, 100, 101, 102, 103, 104, 105, 106, 107, 108, 109, 110, 111, 112, 113, 114, 115, 116, 117, 118, 119, 120, 121, 122, 123, 124, 125, 126, 127, 0] [some (.bool true), some (.bool true), some (.agg (tabV 3 (some ⟨b, 0, none⟩) 3 3)), some (.agg #[.int .i64 2, .int .u64 1]), some (.agg #[.int .i64 2, .int .u64 1]), some (.bool true), some (.bool true), some (.bool true), some (.agg (tabV 3 (some ⟨b, 0, none⟩) 3 3)), some (.agg #[.int .i64 0, .int .u64 0]), some (.agg #[.int .i64 0, .int .u64 0]), some (.bool true), some (.bool true), some (.bool true), some (.slice (some ⟨ga, oa, none⟩) 2 ca), some (.int .i64 2), some (.bool true), some (.bool true), some (.bool true), some (.slice (some ⟨ga, oa, none⟩) 2 ca), some (.pointer (some ⟨ga, oa, none⟩)), some (.agg #[.int .i64 0, .int .u64 0]), some (.agg #[.int .i64 0, .int .u64 0]), some (.bool true), some (.bool true), some (.bool true), some (.slice (some ⟨ga, oa, none⟩) 2 ca), some (.pointer (some ⟨ga, oa + 2, none⟩)), some (.agg #[.int .i64 2, .int .u64 1]), some (.agg #[.int .i64 2, .int .u64 1]), some (.bool true), some (.bool true), some (.bool true), some (.slice Ab 1 cb), some (.int .i64 1), some (.bool true), some (.bool true), some (.bool true), some (.slice Ac 3 cc), some (.int .i64 3), some (.bool true), some (.bool true), some (.bool true), some (.int .i64 0), some (.bool true), some (.bool true), some (.bool true), some (.pointer (some ⟨q5, 0, none⟩)), some (.int .i64 4), some (.bool true), some (.bool true), some (.bool true), some (.agg (tabV 4 A5 3 c5)), some (.agg #[.int .i64 3, .int .u64 0]), some (.agg #[.int .i64 3, .int .u64 0]), some (.bool true), some (.bool true), some (.bool true), some (.agg (tabV 4 A5 3 c5)), some (.agg #[.int .i64 0, .int .u64 0]), some (.agg #[.int .i64 0, .int .u64 0]), some (.bool true), some (.bool true), some (.bool true), some (.int .i64 15), some (.bool true), some (.bool true), some (.bool true), some (.int .i64 2), some (.bool true), some (.bool true), some (.bool true), some (.agg (tabV 3 (some ⟨b, 0, none⟩) 3 3)), some (.string { data := #[118, 51, 10, 49, 58, 48, 32, 10, 50, 58, 49, 32, 97, 10, 48, 58, 48, 32, 97, 47, 98] }), some (.bool true), some (.bool true), some (.bool true), some (.agg (tabV 2 (some ⟨b11, 0, none⟩) 2 2)), some (.int .i64 2), some (.bool true), some (.bool true), some (.bool true), some (.agg (tabV 0 none 0 0)), some (.agg #[.int .i64 0, .int .u64 0]), some (.agg #[.int .i64 0, .int .u64 0]), some (.bool true), some (.bool true), some (.bool true)] ll z) ?_ (by kernel_rfl) ?_ ?_ _ rfl _ _ ?_
          · rintro ll aa wx ⟨hI, _⟩
            exact hI.out.1
          · rintro ll aa wx ⟨hI, z, ha, hz⟩ hall
            have hx := Lib.hid hI.out.2
            have e0 : z 41 = .bool true := hz 0 _ (hall 0 (by decide)) rfl
            have e1 : z 42 = .bool true := hz 1 _ (hall 1 (by decide)) rfl
            have e2 : z 43 = .agg (tabV 3 (some ⟨b, 0, none⟩) 3 3) := hz 2 _ (hall 2 (by decide)) rfl
            have e3 : z 44 = .agg #[.int .i64 2, .int .u64 1] := hz 3 _ (hall 3 (by decide)) rfl
            have e4 : z 45 = .agg #[.int .i64 2, .int .u64 1] := hz 4 _ (hall 4 (by decide)) rfl
            have e5 : z 46 = .bool true := hz 5 _ (hall 5 (by decide)) rfl
            have e6 : z 47 = .bool true := hz 6 _ (hall 6 (by decide)) rfl
            have e7 : z 48 = .bool true := hz 7 _ (hall 7 (by decide)) rfl
            have e8 : z 49 = .agg (tabV 3 (some ⟨b, 0, none⟩) 3 3) := hz 8 _ (hall 8 (by decide)) rfl
            have e9 : z 50 = .agg #[.int .i64 0, .int .u64 0] := hz 9 _ (hall 9 (by decide)) rfl
            have e10 : z 51 = .agg #[.int .i64 0, .int .u64 0] := hz 10 _ (hall 10 (by decide)) rfl
            have e11 : z 52 = .bool true := hz 11 _ (hall 11 (by decide)) rfl
            have e12 : z 53 = .bool true := hz 12 _ (hall 12 (by decide)) rfl
            have e13 : z 54 = .bool true := hz 13 _ (hall 13 (by decide)) rfl
            have e14 : z 55 = .slice (some ⟨ga, oa, none⟩) 2 ca := hz 14 _ (hall 14 (by decide)) rfl
            have e15 : z 56 = .int .i64 2 := hz 15 _ (hall 15 (by decide)) rfl
            have e16 : z 57 = .bool true := hz 16 _ (hall 16 (by decide)) rfl
            have e17 : z 58 = .bool true := hz 17 _ (hall 17 (by decide)) rfl
            have e18 : z 59 = .bool true := hz 18 _ (hall 18 (by decide)) rfl
            have e19 : z 60 = .slice (some ⟨ga, oa, none⟩) 2 ca := hz 19 _ (hall 19 (by decide)) rfl
            have e20 : z 61 = .pointer (some ⟨ga, oa, none⟩) := hz 20 _ (hall 20 (by decide)) rfl
            have e21 : z 62 = .agg #[.int .i64 0, .int .u64 0] := hz 21 _ (hall 21 (by decide)) rfl
            have e22 : z 63 = .agg #[.int .i64 0, .int .u64 0] := hz 22 _ (hall 22 (by decide)) rfl
            have e23 : z 64 = .bool true := hz 23 _ (hall 23 (by decide)) rfl
            have e24 : z 65 = .bool true := hz 24 _ (hall 24 (by decide)) rfl
            have e25 : z 66 = .bool true := hz 25 _ (hall 25 (by decide)) rfl
            have e26 : z 67 = .slice (some ⟨ga, oa, none⟩) 2 ca := hz 26 _ (hall 26 (by decide)) rfl
            have e27 : z 68 = .pointer (some ⟨ga, oa + 2, none⟩) := hz 27 _ (hall 27 (by decide)) rfl
            have e28 : z 69 = .agg #[.int .i64 2, .int .u64 1] := hz 28 _ (hall 28 (by decide)) rfl
            have e29 : z 70 = .agg #[.int .i64 2, .int .u64 1] := hz 29 _ (hall 29 (by decide)) rfl
            have e30 : z 71 = .bool true := hz 30 _ (hall 30 (by decide)) rfl
            have e31 : z 72 = .bool true := hz 31 _ (hall 31 (by decide)) rfl
            have e32 : z 73 = .bool true := hz 32 _ (hall 32 (by decide)) rfl
            have e33 : z 74 = .slice Ab 1 cb := hz 33 _ (hall 33 (by decide)) rfl
            have e34 : z 75 = .int .i64 1 := hz 34 _ (hall 34 (by decide)) rfl
            have e35 : z 76 = .bool true := hz 35 _ (hall 35 (by decide)) rfl
            have e36 : z 77 = .bool true := hz 36 _ (hall 36 (by decide)) rfl
            have e37 : z 78 = .bool true := hz 37 _ (hall 37 (by decide)) rfl
            have e38 : z 79 = .slice Ac 3 cc := hz 38 _ (hall 38 (by decide)) rfl
            have e39 : z 80 = .int .i64 3 := hz 39 _ (hall 39 (by decide)) rfl
            have e40 : z 81 = .bool true := hz 40 _ (hall 40 (by decide)) rfl
            have e41 : z 82 = .bool true := hz 41 _ (hall 41 (by decide)) rfl
            have e42 : z 83 = .bool true := hz 42 _ (hall 42 (by decide)) rfl
            have e43 : z 84 = .int .i64 0 := hz 43 _ (hall 43 (by decide)) rfl
            have e44 : z 85 = .bool true := hz 44 _ (hall 44 (by decide)) rfl
            have e45 : z 86 = .bool true := hz 45 _ (hall 45 (by decide)) rfl
            have e46 : z 87 = .bool true := hz 46 _ (hall 46 (by decide)) rfl
            have e47 : z 88 = .pointer (some ⟨q5, 0, none⟩) := hz 47 _ (hall 47 (by decide)) rfl
            have e48 : z 89 = .int .i64 4 := hz 48 _ (hall 48 (by decide)) rfl
            have e49 : z 90 = .bool true := hz 49 _ (hall 49 (by decide)) rfl
            have e50 : z 91 = .bool true := hz 50 _ (hall 50 (by decide)) rfl
            have e51 : z 92 = .bool true := hz 51 _ (hall 51 (by decide)) rfl
            have e52 : z 93 = .agg (tabV 4 A5 3 c5) := hz 52 _ (hall 52 (by decide)) rfl
            have e53 : z 94 = .agg #[.int .i64 3, .int .u64 0] := hz 53 _ (hall 53 (by decide)) rfl
            have e54 : z 95 = .agg #[.int .i64 3, .int .u64 0] := hz 54 _ (hall 54 (by decide)) rfl
            have e55 : z 96 = .bool true := hz 55 _ (hall 55 (by decide)) rfl
            have e56 : z 97 = .bool true := hz 56 _ (hall 56 (by decide)) rfl
            have e57 : z 98 = .bool true := hz 57 _ (hall 57 (by decide)) rfl
            have e58 : z 99 = .agg (tabV 4 A5 3 c5) := hz 58 _ (hall 58 (by decide)) rfl
            have e59 : z 100 = .agg #[.int .i64 0, .int .u64 0] := hz 59 _ (hall 59 (by decide)) rfl
            have e60 : z 101 = .agg #[.int .i64 0, .int .u64 0] := hz 60 _ (hall 60 (by decide)) rfl
            have e61 : z 102 = .bool true := hz 61 _ (hall 61 (by decide)) rfl
            have e62 : z 103 = .bool true := hz 62 _ (hall 62 (by decide)) rfl
            have e63 : z 104 = .bool true := hz 63 _ (hall 63 (by decide)) rfl
            have e64 : z 105 = .int .i64 15 := hz 64 _ (hall 64 (by decide)) rfl
            have e65 : z 106 = .bool true := hz 65 _ (hall 65 (by decide)) rfl
            have e66 : z 107 = .bool true := hz 66 _ (hall 66 (by decide)) rfl
            have e67 : z 108 = .bool true := hz 67 _ (hall 67 (by decide)) rfl
            have e68 : z 109 = .int .i64 2 := hz 68 _ (hall 68 (by decide)) rfl
            have e69 : z 110 = .bool true := hz 69 _ (hall 69 (by decide)) rfl
            have e70 : z 111 = .bool true := hz 70 _ (hall 70 (by decide)) rfl
            have e71 : z 112 = .bool true := hz 71 _ (hall 71 (by decide)) rfl
            have e72 : z 113 = .agg (tabV 3 (some ⟨b, 0, none⟩) 3 3) := hz 72 _ (hall 72 (by decide)) rfl
            have e73 : z 114 = .string { data := #[118, 51, 10, 49, 58, 48, 32, 10, 50, 58, 49, 32, 97, 10, 48, 58, 48, 32, 97, 47, 98] } := hz 73 _ (hall 73 (by decide)) rfl
            have e74 : z 115 = .bool true := hz 74 _ (hall 74 (by decide)) rfl
            have e75 : z 116 = .bool true := hz 75 _ (hall 75 (by decide)) rfl
            have e76 : z 117 = .bool true := hz 76 _ (hall 76 (by decide)) rfl
            have e77 : z 118 = .agg (tabV 2 (some ⟨b11, 0, none⟩) 2 2) := hz 77 _ (hall 77 (by decide)) rfl
            have e78 : z 119 = .int .i64 2 := hz 78 _ (hall 78 (by decide)) rfl
            have e79 : z 120 = .bool true := hz 79 _ (hall 79 (by decide)) rfl
            have e80 : z 121 = .bool true := hz 80 _ (hall 80 (by decide)) rfl
            have e81 : z 122 = .bool true := hz 81 _ (hall 81 (by decide)) rfl
            have e82 : z 123 = .agg (tabV 0 none 0 0) := hz 82 _ (hall 82 (by decide)) rfl
            have e83 : z 124 = .agg #[.int .i64 0, .int .u64 0] := hz 83 _ (hall 83 (by decide)) rfl
            have e84 : z 125 = .agg #[.int .i64 0, .int .u64 0] := hz 84 _ (hall 84 (by decide)) rfl
            have e85 : z 126 = .bool true := hz 85 _ (hall 85 (by decide)) rfl
            have e86 : z 127 = .bool true := hz 86 _ (hall 86 (by decide)) rfl
            have e87 : z 0 = .bool true := hz 87 _ (hall 87 (by decide)) rfl
            clear hall hz hI 
            obtain rfl := ha.out
            clear ha
            clear apx
            have EE := Lib.hid e87
            have HX := hx.out
            clear e0 e1 e2 e3 e4 e5 e6 e7 e8 e9 e10 e11 e12 e13 e14 e15 e16 e17 e18 e19 e20 e21 e22 e23 e24 e25 e26 e27 e28 e29 e30 e31 e32 e33 e34 e35 e36 e37 e38 e39 e40 e41 e42 e43 e44 e45 e46 e47 e48 e49 e50 e51 e52 e53 e54 e55 e56 e57 e58 e59 e60 e61 e62 e63 e64 e65 e66 e67 e68 e69 e70 e71 e72 e73 e74 e75 e76 e77 e78 e79 e80 e81 e82 e83 e84 e85 e86 e87 hx
            rw [EE.out]
            dsimp only
            go_wp2
            go_ret
            exact ⟨rfl, HK.out.g.low.trans (HX.mono HK.out.g.low.size)⟩
          · rintro ll aa wx i ⟨hI, z, ha, hz⟩ hcl hi hu hw
            obtain rfl := ha.out
            have hsz := Lib.hid hI.out.1
            have hx := Lib.hid hI.out.2
            clear ha hI
            have hin : i < 88 := hi
            obtain rfl | rfl | rfl | rfl | rfl | rfl | rfl | rfl | rfl | rfl | rfl | rfl | rfl | rfl | rfl | rfl | rfl | rfl | rfl | rfl | rfl | rfl | rfl | rfl | rfl | rfl | rfl | rfl | rfl | rfl | rfl | rfl | rfl | rfl | rfl | rfl | rfl | rfl | rfl | rfl | rfl | rfl | rfl | rfl | rfl | rfl | rfl | rfl | rfl | rfl | rfl | rfl | rfl | rfl | rfl | rfl | rfl | rfl | rfl | rfl | rfl | rfl | rfl | rfl | rfl | rfl | rfl | rfl | rfl | rfl | rfl | rfl | rfl | rfl | rfl | rfl | rfl | rfl | rfl | rfl | rfl | rfl | rfl | rfl | rfl | rfl | rfl | rfl : i = 0 ∨ i = 1 ∨ i = 2 ∨ i = 3 ∨ i = 4 ∨ i = 5 ∨ i = 6 ∨ i = 7 ∨ i = 8 ∨ i = 9 ∨ i = 10 ∨ i = 11 ∨ i = 12 ∨ i = 13 ∨ i = 14 ∨ i = 15 ∨ i = 16 ∨ i = 17 ∨ i = 18 ∨ i = 19 ∨ i = 20 ∨ i = 21 ∨ i = 22 ∨ i = 23 ∨ i = 24 ∨ i = 25 ∨ i = 26 ∨ i = 27 ∨ i = 28 ∨ i = 29 ∨ i = 30 ∨ i = 31 ∨ i = 32 ∨ i = 33 ∨ i = 34 ∨ i = 35 ∨ i = 36 ∨ i = 37 ∨ i = 38 ∨ i = 39 ∨ i = 40 ∨ i = 41 ∨ i = 42 ∨ i = 43 ∨ i = 44 ∨ i = 45 ∨ i = 46 ∨ i = 47 ∨ i = 48 ∨ i = 49 ∨ i = 50 ∨ i = 51 ∨ i = 52 ∨ i = 53 ∨ i = 54 ∨ i = 55 ∨ i = 56 ∨ i = 57 ∨ i = 58 ∨ i = 59 ∨ i = 60 ∨ i = 61 ∨ i = 62 ∨ i = 63 ∨ i = 64 ∨ i = 65 ∨ i = 66 ∨ i = 67 ∨ i = 68 ∨ i = 69 ∨ i = 70 ∨ i = 71 ∨ i = 72 ∨ i = 73 ∨ i = 74 ∨ i = 75 ∨ i = 76 ∨ i = 77 ∨ i = 78 ∨ i = 79 ∨ i = 80 ∨ i = 81 ∨ i = 82 ∨ i = 83 ∨ i = 84 ∨ i = 85 ∨ i = 86 ∨ i = 87 := by omega
            · refine wpOp_plain rfl rfl ?_
              go_simp
              go_at_call 6
              refine (k_awake (HK.out.later hx.out)).mono ?_
              rintro e w9 ⟨rfl, low⟩
              exact ⟨⟨by simp [hsz.out], hx.out.trans (low.mono hx.out.size)⟩, upd z 41 (.bool true), (by unfold Hid; simp [upd]), hz.next apx hsz.out 0 (by decide) _ (fun _ h => Option.some.inj h)⟩
            · have e0 : z 41 = .bool true := hz 0 _ (hw 0 (by kernel_rfl)) rfl
              refine wpOp_plain rfl rfl ?_
              go_simp
              exact ⟨⟨by simp [hsz.out], hx.out⟩, upd z 42 (.bool true), (by unfold Hid; simp [upd, e0]), hz.next apx hsz.out 1 (by decide) _ (fun _ h => Option.some.inj h)⟩
            · have e1 : z 42 = .bool true := hz 1 _ (hw 1 (by kernel_rfl)) rfl
              have cl := (hx.out.block _ (Array.getElem?_eq_some_iff.1 HR1.out).1).trans HR1.out
              refine wpOp_want rfl (by simp [Region.wanted, yielded, e1]) (wp_load_row 24 (.tmp 1) rfl (q1) rfl 24 (tabV 3 (some ⟨b, 0, none⟩) 3 3) (0, 0) _ cl Tryz.underlying24 rfl infoT ?_)
              go_simp
              exact ⟨⟨by simp [hsz.out], hx.out⟩, upd z 43 (.agg (tabV 3 (some ⟨b, 0, none⟩) 3 3)), (by unfold Hid; simp [upd, e1]), hz.next apx hsz.out 2 (by decide) _ (fun _ h => Option.some.inj h)⟩
            · have e1 : z 42 = .bool true := hz 1 _ (hw 1 (by kernel_rfl)) rfl
              have e2 : z 43 = .agg (tabV 3 (some ⟨b, 0, none⟩) 3 3) := hz 2 _ (hw 2 (by kernel_rfl)) rfl
              refine wpOp_want rfl (by simp [Region.wanted, yielded, e1]) ?_
              go_simp
              go_at_call 10
              refine (k_fa (HK.out.later hx.out)).mono ?_
              rintro e w9 ⟨rfl, low⟩
              exact ⟨⟨by simp [hsz.out], hx.out.trans (low.mono hx.out.size)⟩, upd z 44 (.agg #[.int .i64 2, .int .u64 1]), (by unfold Hid; simp [upd, e1, e2]), hz.next apx hsz.out 3 (by decide) _ (fun _ h => Option.some.inj h)⟩
            · have e1 : z 42 = .bool true := hz 1 _ (hw 1 (by kernel_rfl)) rfl
              refine wpOp_want rfl (by simp [Region.wanted, yielded, e1]) ?_
              go_simp
              go_at_call 19
              refine (k_l21 wx).mono ?_
              rintro e w9 ⟨rfl, low⟩
              exact ⟨⟨by simp [hsz.out], hx.out.trans (low.mono hx.out.size)⟩, upd z 45 (.agg #[.int .i64 2, .int .u64 1]), (by unfold Hid; simp [upd, e1]), hz.next apx hsz.out 4 (by decide) _ (fun _ h => Option.some.inj h)⟩
            · have e1 : z 42 = .bool true := hz 1 _ (hw 1 (by kernel_rfl)) rfl
              have e3 : z 44 = .agg #[.int .i64 2, .int .u64 1] := hz 3 _ (hw 3 (by kernel_rfl)) rfl
              have e4 : z 45 = .agg #[.int .i64 2, .int .u64 1] := hz 4 _ (hw 4 (by kernel_rfl)) rfl
              refine wpOp_want rfl (by simp [Region.wanted, yielded, e1]) ?_
              go_simp
              exact ⟨⟨by simp [hsz.out], hx.out⟩, upd z 46 (.bool true), (by unfold Hid; simp [upd, e1, e3, e4]), hz.next apx hsz.out 5 (by decide) _ (fun _ h => Option.some.inj h)⟩
            · have e1 : z 42 = .bool true := hz 1 _ (hw 1 (by kernel_rfl)) rfl
              have e5 : z 46 = .bool true := hz 5 _ (hw 5 (by kernel_rfl)) rfl
              refine wpOp_plain rfl rfl ?_
              go_simp
              exact ⟨⟨by simp [hsz.out], hx.out⟩, upd z 47 (.bool true), (by unfold Hid; simp [upd, e1, e5]), hz.next apx hsz.out 6 (by decide) _ (fun _ h => Option.some.inj h)⟩
            · have e6 : z 47 = .bool true := hz 6 _ (hw 6 (by kernel_rfl)) rfl
              refine wpOp_plain rfl rfl ?_
              go_simp
              exact ⟨⟨by simp [hsz.out], hx.out⟩, upd z 48 (.bool true), (by unfold Hid; simp [upd, e6]), hz.next apx hsz.out 7 (by decide) _ (fun _ h => Option.some.inj h)⟩
            · have e7 : z 48 = .bool true := hz 7 _ (hw 7 (by kernel_rfl)) rfl
              have cl := (hx.out.block _ (Array.getElem?_eq_some_iff.1 HR1.out).1).trans HR1.out
              refine wpOp_want rfl (by simp [Region.wanted, yielded, e7]) (wp_load_row 24 (.tmp 1) rfl (q1) rfl 24 (tabV 3 (some ⟨b, 0, none⟩) 3 3) (0, 0) _ cl Tryz.underlying24 rfl infoT ?_)
              go_simp
              exact ⟨⟨by simp [hsz.out], hx.out⟩, upd z 49 (.agg (tabV 3 (some ⟨b, 0, none⟩) 3 3)), (by unfold Hid; simp [upd, e7]), hz.next apx hsz.out 8 (by decide) _ (fun _ h => Option.some.inj h)⟩
            · have e7 : z 48 = .bool true := hz 7 _ (hw 7 (by kernel_rfl)) rfl
              have e8 : z 49 = .agg (tabV 3 (some ⟨b, 0, none⟩) 3 3) := hz 8 _ (hw 8 (by kernel_rfl)) rfl
              refine wpOp_want rfl (by simp [Region.wanted, yielded, e7]) ?_
              go_simp
              go_at_call 10
              refine (k_fab (HK.out.later hx.out)).mono ?_
              rintro e w9 ⟨rfl, low⟩
              exact ⟨⟨by simp [hsz.out], hx.out.trans (low.mono hx.out.size)⟩, upd z 50 (.agg #[.int .i64 0, .int .u64 0]), (by unfold Hid; simp [upd, e7, e8]), hz.next apx hsz.out 9 (by decide) _ (fun _ h => Option.some.inj h)⟩
            · have e7 : z 48 = .bool true := hz 7 _ (hw 7 (by kernel_rfl)) rfl
              refine wpOp_want rfl (by simp [Region.wanted, yielded, e7]) ?_
              go_simp
              go_at_call 19
              refine (k_l00 wx).mono ?_
              rintro e w9 ⟨rfl, low⟩
              exact ⟨⟨by simp [hsz.out], hx.out.trans (low.mono hx.out.size)⟩, upd z 51 (.agg #[.int .i64 0, .int .u64 0]), (by unfold Hid; simp [upd, e7]), hz.next apx hsz.out 10 (by decide) _ (fun _ h => Option.some.inj h)⟩
            · have e7 : z 48 = .bool true := hz 7 _ (hw 7 (by kernel_rfl)) rfl
              have e9 : z 50 = .agg #[.int .i64 0, .int .u64 0] := hz 9 _ (hw 9 (by kernel_rfl)) rfl
              have e10 : z 51 = .agg #[.int .i64 0, .int .u64 0] := hz 10 _ (hw 10 (by kernel_rfl)) rfl
              refine wpOp_want rfl (by simp [Region.wanted, yielded, e7]) ?_
              go_simp
              exact ⟨⟨by simp [hsz.out], hx.out⟩, upd z 52 (.bool true), (by unfold Hid; simp [upd, e7, e9, e10]), hz.next apx hsz.out 11 (by decide) _ (fun _ h => Option.some.inj h)⟩
            · have e7 : z 48 = .bool true := hz 7 _ (hw 7 (by kernel_rfl)) rfl
              have e11 : z 52 = .bool true := hz 11 _ (hw 11 (by kernel_rfl)) rfl
              refine wpOp_plain rfl rfl ?_
              go_simp
              exact ⟨⟨by simp [hsz.out], hx.out⟩, upd z 53 (.bool true), (by unfold Hid; simp [upd, e7, e11]), hz.next apx hsz.out 12 (by decide) _ (fun _ h => Option.some.inj h)⟩
            · have e12 : z 53 = .bool true := hz 12 _ (hw 12 (by kernel_rfl)) rfl
              refine wpOp_plain rfl rfl ?_
              go_simp
              exact ⟨⟨by simp [hsz.out], hx.out⟩, upd z 54 (.bool true), (by unfold Hid; simp [upd, e12]), hz.next apx hsz.out 13 (by decide) _ (fun _ h => Option.some.inj h)⟩
            · have e13 : z 54 = .bool true := hz 13 _ (hw 13 (by kernel_rfl)) rfl
              refine wpOp_want rfl (by simp [Region.wanted, yielded, e13]) ?_
              go_simp
              exact ⟨⟨by simp [hsz.out], hx.out⟩, upd z 55 (.slice (some ⟨ga, oa, none⟩) 2 ca), (by unfold Hid; simp [upd, e13]), hz.next apx hsz.out 14 (by decide) _ (fun _ h => Option.some.inj h)⟩
            · have e13 : z 54 = .bool true := hz 13 _ (hw 13 (by kernel_rfl)) rfl
              have e14 : z 55 = .slice (some ⟨ga, oa, none⟩) 2 ca := hz 14 _ (hw 14 (by kernel_rfl)) rfl
              refine wpOp_want rfl (by simp [Region.wanted, yielded, e13]) ?_
              go_simp
              exact ⟨⟨by simp [hsz.out], hx.out⟩, upd z 56 (.int .i64 2), (by unfold Hid; simp [upd, e13, e14]), hz.next apx hsz.out 15 (by decide) _ (fun _ h => Option.some.inj h)⟩
            · have e13 : z 54 = .bool true := hz 13 _ (hw 13 (by kernel_rfl)) rfl
              have e15 : z 56 = .int .i64 2 := hz 15 _ (hw 15 (by kernel_rfl)) rfl
              refine wpOp_want rfl (by simp [Region.wanted, yielded, e13]) ?_
              go_simp
              exact ⟨⟨by simp [hsz.out], hx.out⟩, upd z 57 (.bool true), (by unfold Hid; simp [upd, e13, e15]), hz.next apx hsz.out 16 (by decide) _ (fun _ h => Option.some.inj h)⟩
            · have e13 : z 54 = .bool true := hz 13 _ (hw 13 (by kernel_rfl)) rfl
              have e16 : z 57 = .bool true := hz 16 _ (hw 16 (by kernel_rfl)) rfl
              refine wpOp_plain rfl rfl ?_
              go_simp
              exact ⟨⟨by simp [hsz.out], hx.out⟩, upd z 58 (.bool true), (by unfold Hid; simp [upd, e13, e16]), hz.next apx hsz.out 17 (by decide) _ (fun _ h => Option.some.inj h)⟩
            · have e17 : z 58 = .bool true := hz 17 _ (hw 17 (by kernel_rfl)) rfl
              refine wpOp_plain rfl rfl ?_
              go_simp
              exact ⟨⟨by simp [hsz.out], hx.out⟩, upd z 59 (.bool true), (by unfold Hid; simp [upd, e17]), hz.next apx hsz.out 18 (by decide) _ (fun _ h => Option.some.inj h)⟩
            · have e18 : z 59 = .bool true := hz 18 _ (hw 18 (by kernel_rfl)) rfl
              refine wpOp_want rfl (by simp [Region.wanted, yielded, e18]) ?_
              go_simp
              exact ⟨⟨by simp [hsz.out], hx.out⟩, upd z 60 (.slice (some ⟨ga, oa, none⟩) 2 ca), (by unfold Hid; simp [upd, e18]), hz.next apx hsz.out 19 (by decide) _ (fun _ h => Option.some.inj h)⟩
            · have e18 : z 59 = .bool true := hz 18 _ (hw 18 (by kernel_rfl)) rfl
              have e19 : z 60 = .slice (some ⟨ga, oa, none⟩) 2 ca := hz 19 _ (hw 19 (by kernel_rfl)) rfl
              refine wpOp_want rfl (by simp [Region.wanted, yielded, e18]) ?_
              go_simp
              exact ⟨⟨by simp [hsz.out], hx.out⟩, upd z 61 (.pointer (some ⟨ga, oa, none⟩)), (by unfold Hid; simp [upd, e18, e19]), hz.next apx hsz.out 20 (by decide) _ (fun _ h => Option.some.inj h)⟩
            · have e18 : z 59 = .bool true := hz 18 _ (hw 18 (by kernel_rfl)) rfl
              have e20 : z 61 = .pointer (some ⟨ga, oa, none⟩) := hz 20 _ (hw 20 (by kernel_rfl)) rfl
              have rg := (HK.out.later hx.out).la0
              refine wpOp_want rfl (by simp [Region.wanted, yielded, e18]) (wp_load_mid 34 (.tmp 61) rfl ga oa (e20) [.int .i64 0, .int .u64 0] _ rg Tryz.underlying34 rfl infoL2 ?_)
              go_simp
              exact ⟨⟨by simp [hsz.out], hx.out⟩, upd z 62 (.agg #[.int .i64 0, .int .u64 0]), (by unfold Hid; simp [upd, e18, e20]), hz.next apx hsz.out 21 (by decide) _ (fun _ h => Option.some.inj h)⟩
            · have e18 : z 59 = .bool true := hz 18 _ (hw 18 (by kernel_rfl)) rfl
              refine wpOp_want rfl (by simp [Region.wanted, yielded, e18]) ?_
              go_simp
              go_at_call 19
              refine (k_l00 wx).mono ?_
              rintro e w9 ⟨rfl, low⟩
              exact ⟨⟨by simp [hsz.out], hx.out.trans (low.mono hx.out.size)⟩, upd z 63 (.agg #[.int .i64 0, .int .u64 0]), (by unfold Hid; simp [upd, e18]), hz.next apx hsz.out 22 (by decide) _ (fun _ h => Option.some.inj h)⟩
            · have e18 : z 59 = .bool true := hz 18 _ (hw 18 (by kernel_rfl)) rfl
              have e21 : z 62 = .agg #[.int .i64 0, .int .u64 0] := hz 21 _ (hw 21 (by kernel_rfl)) rfl
              have e22 : z 63 = .agg #[.int .i64 0, .int .u64 0] := hz 22 _ (hw 22 (by kernel_rfl)) rfl
              refine wpOp_want rfl (by simp [Region.wanted, yielded, e18]) ?_
              go_simp
              exact ⟨⟨by simp [hsz.out], hx.out⟩, upd z 64 (.bool true), (by unfold Hid; simp [upd, e18, e21, e22]), hz.next apx hsz.out 23 (by decide) _ (fun _ h => Option.some.inj h)⟩
            · have e18 : z 59 = .bool true := hz 18 _ (hw 18 (by kernel_rfl)) rfl
              have e23 : z 64 = .bool true := hz 23 _ (hw 23 (by kernel_rfl)) rfl
              refine wpOp_plain rfl rfl ?_
              go_simp
              exact ⟨⟨by simp [hsz.out], hx.out⟩, upd z 65 (.bool true), (by unfold Hid; simp [upd, e18, e23]), hz.next apx hsz.out 24 (by decide) _ (fun _ h => Option.some.inj h)⟩
            · have e24 : z 65 = .bool true := hz 24 _ (hw 24 (by kernel_rfl)) rfl
              refine wpOp_plain rfl rfl ?_
              go_simp
              exact ⟨⟨by simp [hsz.out], hx.out⟩, upd z 66 (.bool true), (by unfold Hid; simp [upd, e24]), hz.next apx hsz.out 25 (by decide) _ (fun _ h => Option.some.inj h)⟩
            · have e25 : z 66 = .bool true := hz 25 _ (hw 25 (by kernel_rfl)) rfl
              refine wpOp_want rfl (by simp [Region.wanted, yielded, e25]) ?_
              go_simp
              exact ⟨⟨by simp [hsz.out], hx.out⟩, upd z 67 (.slice (some ⟨ga, oa, none⟩) 2 ca), (by unfold Hid; simp [upd, e25]), hz.next apx hsz.out 26 (by decide) _ (fun _ h => Option.some.inj h)⟩
            · have e25 : z 66 = .bool true := hz 25 _ (hw 25 (by kernel_rfl)) rfl
              have e26 : z 67 = .slice (some ⟨ga, oa, none⟩) 2 ca := hz 26 _ (hw 26 (by kernel_rfl)) rfl
              refine wpOp_want rfl (by simp [Region.wanted, yielded, e25]) ?_
              go_simp
              exact ⟨⟨by simp [hsz.out], hx.out⟩, upd z 68 (.pointer (some ⟨ga, oa + 2, none⟩)), (by unfold Hid; simp [upd, e25, e26]), hz.next apx hsz.out 27 (by decide) _ (fun _ h => Option.some.inj h)⟩
            · have e25 : z 66 = .bool true := hz 25 _ (hw 25 (by kernel_rfl)) rfl
              have e27 : z 68 = .pointer (some ⟨ga, oa + 2, none⟩) := hz 27 _ (hw 27 (by kernel_rfl)) rfl
              have rg := (HK.out.later hx.out).la1
              refine wpOp_want rfl (by simp [Region.wanted, yielded, e25]) (wp_load_mid 34 (.tmp 68) rfl ga (oa + 2) (e27) [.int .i64 2, .int .u64 1] _ rg Tryz.underlying34 rfl infoL2 ?_)
              go_simp
              exact ⟨⟨by simp [hsz.out], hx.out⟩, upd z 69 (.agg #[.int .i64 2, .int .u64 1]), (by unfold Hid; simp [upd, e25, e27]), hz.next apx hsz.out 28 (by decide) _ (fun _ h => Option.some.inj h)⟩
            · have e25 : z 66 = .bool true := hz 25 _ (hw 25 (by kernel_rfl)) rfl
              refine wpOp_want rfl (by simp [Region.wanted, yielded, e25]) ?_
              go_simp
              go_at_call 19
              refine (k_l21 wx).mono ?_
              rintro e w9 ⟨rfl, low⟩
              exact ⟨⟨by simp [hsz.out], hx.out.trans (low.mono hx.out.size)⟩, upd z 70 (.agg #[.int .i64 2, .int .u64 1]), (by unfold Hid; simp [upd, e25]), hz.next apx hsz.out 29 (by decide) _ (fun _ h => Option.some.inj h)⟩
            · have e25 : z 66 = .bool true := hz 25 _ (hw 25 (by kernel_rfl)) rfl
              have e28 : z 69 = .agg #[.int .i64 2, .int .u64 1] := hz 28 _ (hw 28 (by kernel_rfl)) rfl
              have e29 : z 70 = .agg #[.int .i64 2, .int .u64 1] := hz 29 _ (hw 29 (by kernel_rfl)) rfl
              refine wpOp_want rfl (by simp [Region.wanted, yielded, e25]) ?_
              go_simp
              exact ⟨⟨by simp [hsz.out], hx.out⟩, upd z 71 (.bool true), (by unfold Hid; simp [upd, e25, e28, e29]), hz.next apx hsz.out 30 (by decide) _ (fun _ h => Option.some.inj h)⟩
            · have e25 : z 66 = .bool true := hz 25 _ (hw 25 (by kernel_rfl)) rfl
              have e30 : z 71 = .bool true := hz 30 _ (hw 30 (by kernel_rfl)) rfl
              refine wpOp_plain rfl rfl ?_
              go_simp
              exact ⟨⟨by simp [hsz.out], hx.out⟩, upd z 72 (.bool true), (by unfold Hid; simp [upd, e25, e30]), hz.next apx hsz.out 31 (by decide) _ (fun _ h => Option.some.inj h)⟩
            · have e31 : z 72 = .bool true := hz 31 _ (hw 31 (by kernel_rfl)) rfl
              refine wpOp_plain rfl rfl ?_
              go_simp
              exact ⟨⟨by simp [hsz.out], hx.out⟩, upd z 73 (.bool true), (by unfold Hid; simp [upd, e31]), hz.next apx hsz.out 32 (by decide) _ (fun _ h => Option.some.inj h)⟩
            · have e32 : z 73 = .bool true := hz 32 _ (hw 32 (by kernel_rfl)) rfl
              refine wpOp_want rfl (by simp [Region.wanted, yielded, e32]) ?_
              go_simp
              exact ⟨⟨by simp [hsz.out], hx.out⟩, upd z 74 (.slice Ab 1 cb), (by unfold Hid; simp [upd, e32]), hz.next apx hsz.out 33 (by decide) _ (fun _ h => Option.some.inj h)⟩
            · have e32 : z 73 = .bool true := hz 32 _ (hw 32 (by kernel_rfl)) rfl
              have e33 : z 74 = .slice Ab 1 cb := hz 33 _ (hw 33 (by kernel_rfl)) rfl
              refine wpOp_want rfl (by simp [Region.wanted, yielded, e32]) ?_
              go_simp
              exact ⟨⟨by simp [hsz.out], hx.out⟩, upd z 75 (.int .i64 1), (by unfold Hid; simp [upd, e32, e33]), hz.next apx hsz.out 34 (by decide) _ (fun _ h => Option.some.inj h)⟩
            · have e32 : z 73 = .bool true := hz 32 _ (hw 32 (by kernel_rfl)) rfl
              have e34 : z 75 = .int .i64 1 := hz 34 _ (hw 34 (by kernel_rfl)) rfl
              refine wpOp_want rfl (by simp [Region.wanted, yielded, e32]) ?_
              go_simp
              exact ⟨⟨by simp [hsz.out], hx.out⟩, upd z 76 (.bool true), (by unfold Hid; simp [upd, e32, e34]), hz.next apx hsz.out 35 (by decide) _ (fun _ h => Option.some.inj h)⟩
            · have e32 : z 73 = .bool true := hz 32 _ (hw 32 (by kernel_rfl)) rfl
              have e35 : z 76 = .bool true := hz 35 _ (hw 35 (by kernel_rfl)) rfl
              refine wpOp_plain rfl rfl ?_
              go_simp
              exact ⟨⟨by simp [hsz.out], hx.out⟩, upd z 77 (.bool true), (by unfold Hid; simp [upd, e32, e35]), hz.next apx hsz.out 36 (by decide) _ (fun _ h => Option.some.inj h)⟩
            · have e36 : z 77 = .bool true := hz 36 _ (hw 36 (by kernel_rfl)) rfl
              refine wpOp_plain rfl rfl ?_
              go_simp
              exact ⟨⟨by simp [hsz.out], hx.out⟩, upd z 78 (.bool true), (by unfold Hid; simp [upd, e36]), hz.next apx hsz.out 37 (by decide) _ (fun _ h => Option.some.inj h)⟩
            · have e37 : z 78 = .bool true := hz 37 _ (hw 37 (by kernel_rfl)) rfl
              refine wpOp_want rfl (by simp [Region.wanted, yielded, e37]) ?_
              go_simp
              exact ⟨⟨by simp [hsz.out], hx.out⟩, upd z 79 (.slice Ac 3 cc), (by unfold Hid; simp [upd, e37]), hz.next apx hsz.out 38 (by decide) _ (fun _ h => Option.some.inj h)⟩
            · have e37 : z 78 = .bool true := hz 37 _ (hw 37 (by kernel_rfl)) rfl
              have e38 : z 79 = .slice Ac 3 cc := hz 38 _ (hw 38 (by kernel_rfl)) rfl
              refine wpOp_want rfl (by simp [Region.wanted, yielded, e37]) ?_
              go_simp
              exact ⟨⟨by simp [hsz.out], hx.out⟩, upd z 80 (.int .i64 3), (by unfold Hid; simp [upd, e37, e38]), hz.next apx hsz.out 39 (by decide) _ (fun _ h => Option.some.inj h)⟩
            · have e37 : z 78 = .bool true := hz 37 _ (hw 37 (by kernel_rfl)) rfl
              have e39 : z 80 = .int .i64 3 := hz 39 _ (hw 39 (by kernel_rfl)) rfl
              refine wpOp_want rfl (by simp [Region.wanted, yielded, e37]) ?_
              go_simp
              exact ⟨⟨by simp [hsz.out], hx.out⟩, upd z 81 (.bool true), (by unfold Hid; simp [upd, e37, e39]), hz.next apx hsz.out 40 (by decide) _ (fun _ h => Option.some.inj h)⟩
            · have e37 : z 78 = .bool true := hz 37 _ (hw 37 (by kernel_rfl)) rfl
              have e40 : z 81 = .bool true := hz 40 _ (hw 40 (by kernel_rfl)) rfl
              refine wpOp_plain rfl rfl ?_
              go_simp
              exact ⟨⟨by simp [hsz.out], hx.out⟩, upd z 82 (.bool true), (by unfold Hid; simp [upd, e37, e40]), hz.next apx hsz.out 41 (by decide) _ (fun _ h => Option.some.inj h)⟩
            · have e41 : z 82 = .bool true := hz 41 _ (hw 41 (by kernel_rfl)) rfl
              refine wpOp_plain rfl rfl ?_
              go_simp
              exact ⟨⟨by simp [hsz.out], hx.out⟩, upd z 83 (.bool true), (by unfold Hid; simp [upd, e41]), hz.next apx hsz.out 42 (by decide) _ (fun _ h => Option.some.inj h)⟩
            · have e42 : z 83 = .bool true := hz 42 _ (hw 42 (by kernel_rfl)) rfl
              refine wpOp_want rfl (by simp [Region.wanted, yielded, e42]) ?_
              go_simp
              exact ⟨⟨by simp [hsz.out], hx.out⟩, upd z 84 (.int .i64 0), (by unfold Hid; simp [upd, e42]), hz.next apx hsz.out 43 (by decide) _ (fun _ h => Option.some.inj h)⟩
            · have e42 : z 83 = .bool true := hz 42 _ (hw 42 (by kernel_rfl)) rfl
              have e43 : z 84 = .int .i64 0 := hz 43 _ (hw 43 (by kernel_rfl)) rfl
              refine wpOp_want rfl (by simp [Region.wanted, yielded, e42]) ?_
              go_simp
              exact ⟨⟨by simp [hsz.out], hx.out⟩, upd z 85 (.bool true), (by unfold Hid; simp [upd, e42, e43]), hz.next apx hsz.out 44 (by decide) _ (fun _ h => Option.some.inj h)⟩
            · have e42 : z 83 = .bool true := hz 42 _ (hw 42 (by kernel_rfl)) rfl
              have e44 : z 85 = .bool true := hz 44 _ (hw 44 (by kernel_rfl)) rfl
              refine wpOp_plain rfl rfl ?_
              go_simp
              exact ⟨⟨by simp [hsz.out], hx.out⟩, upd z 86 (.bool true), (by unfold Hid; simp [upd, e42, e44]), hz.next apx hsz.out 45 (by decide) _ (fun _ h => Option.some.inj h)⟩
            · have e45 : z 86 = .bool true := hz 45 _ (hw 45 (by kernel_rfl)) rfl
              refine wpOp_plain rfl rfl ?_
              go_simp
              exact ⟨⟨by simp [hsz.out], hx.out⟩, upd z 87 (.bool true), (by unfold Hid; simp [upd, e45]), hz.next apx hsz.out 46 (by decide) _ (fun _ h => Option.some.inj h)⟩
            · have e46 : z 87 = .bool true := hz 46 _ (hw 46 (by kernel_rfl)) rfl
              refine wpOp_want rfl (by simp [Region.wanted, yielded, e46]) ?_
              go_simp
              exact ⟨⟨by simp [hsz.out], hx.out⟩, upd z 88 (.pointer (some ⟨q5, 0, none⟩)), (by unfold Hid; simp [upd, e46]), hz.next apx hsz.out 47 (by decide) _ (fun _ h => Option.some.inj h)⟩
            · have e46 : z 87 = .bool true := hz 46 _ (hw 46 (by kernel_rfl)) rfl
              have e47 : z 88 = .pointer (some ⟨q5, 0, none⟩) := hz 47 _ (hw 47 (by kernel_rfl)) rfl
              have cl : wx.cell? ⟨q5, 0, none⟩ = some (.int .i64 4) := (hx.out.cell (p := ⟨q5, 0, none⟩) (World.block_lt_of_cell? _ _ HC5.out)).trans HC5.out
              refine wpOp_want rfl (by simp [Region.wanted, yielded, e46]) ?_
              go_simp
              exact ⟨⟨by simp [hsz.out], hx.out⟩, upd z 89 (.int .i64 4), (by unfold Hid; simp [upd, e46, e47]), hz.next apx hsz.out 48 (by decide) _ (fun _ h => Option.some.inj h)⟩
            · have e46 : z 87 = .bool true := hz 46 _ (hw 46 (by kernel_rfl)) rfl
              have e48 : z 89 = .int .i64 4 := hz 48 _ (hw 48 (by kernel_rfl)) rfl
              refine wpOp_want rfl (by simp [Region.wanted, yielded, e46]) ?_
              go_simp
              exact ⟨⟨by simp [hsz.out], hx.out⟩, upd z 90 (.bool true), (by unfold Hid; simp [upd, e46, e48]), hz.next apx hsz.out 49 (by decide) _ (fun _ h => Option.some.inj h)⟩
            · have e46 : z 87 = .bool true := hz 46 _ (hw 46 (by kernel_rfl)) rfl
              have e49 : z 90 = .bool true := hz 49 _ (hw 49 (by kernel_rfl)) rfl
              refine wpOp_plain rfl rfl ?_
              go_simp
              exact ⟨⟨by simp [hsz.out], hx.out⟩, upd z 91 (.bool true), (by unfold Hid; simp [upd, e46, e49]), hz.next apx hsz.out 50 (by decide) _ (fun _ h => Option.some.inj h)⟩
            · have e50 : z 91 = .bool true := hz 50 _ (hw 50 (by kernel_rfl)) rfl
              refine wpOp_plain rfl rfl ?_
              go_simp
              exact ⟨⟨by simp [hsz.out], hx.out⟩, upd z 92 (.bool true), (by unfold Hid; simp [upd, e50]), hz.next apx hsz.out 51 (by decide) _ (fun _ h => Option.some.inj h)⟩
            · have e51 : z 92 = .bool true := hz 51 _ (hw 51 (by kernel_rfl)) rfl
              have cl := (hx.out.block _ (Array.getElem?_eq_some_iff.1 HR5.out).1).trans HR5.out
              refine wpOp_want rfl (by simp [Region.wanted, yielded, e51]) (wp_load_row 24 (.tmp 5) rfl (q5) rfl 24 (tabV 4 A5 3 c5) (0, 0) _ cl Tryz.underlying24 rfl infoT ?_)
              go_simp
              exact ⟨⟨by simp [hsz.out], hx.out⟩, upd z 93 (.agg (tabV 4 A5 3 c5)), (by unfold Hid; simp [upd, e51]), hz.next apx hsz.out 52 (by decide) _ (fun _ h => Option.some.inj h)⟩
            · have e51 : z 92 = .bool true := hz 51 _ (hw 51 (by kernel_rfl)) rfl
              have e52 : z 93 = .agg (tabV 4 A5 3 c5) := hz 52 _ (hw 52 (by kernel_rfl)) rfl
              refine wpOp_want rfl (by simp [Region.wanted, yielded, e51]) ?_
              go_simp
              go_at_call 10
              refine (k_uac (HK.out.later hx.out)).mono ?_
              rintro e w9 ⟨rfl, low⟩
              exact ⟨⟨by simp [hsz.out], hx.out.trans (low.mono hx.out.size)⟩, upd z 94 (.agg #[.int .i64 3, .int .u64 0]), (by unfold Hid; simp [upd, e51, e52]), hz.next apx hsz.out 53 (by decide) _ (fun _ h => Option.some.inj h)⟩
            · have e51 : z 92 = .bool true := hz 51 _ (hw 51 (by kernel_rfl)) rfl
              refine wpOp_want rfl (by simp [Region.wanted, yielded, e51]) ?_
              go_simp
              go_at_call 19
              refine (k_l30 wx).mono ?_
              rintro e w9 ⟨rfl, low⟩
              exact ⟨⟨by simp [hsz.out], hx.out.trans (low.mono hx.out.size)⟩, upd z 95 (.agg #[.int .i64 3, .int .u64 0]), (by unfold Hid; simp [upd, e51]), hz.next apx hsz.out 54 (by decide) _ (fun _ h => Option.some.inj h)⟩
            · have e51 : z 92 = .bool true := hz 51 _ (hw 51 (by kernel_rfl)) rfl
              have e53 : z 94 = .agg #[.int .i64 3, .int .u64 0] := hz 53 _ (hw 53 (by kernel_rfl)) rfl
              have e54 : z 95 = .agg #[.int .i64 3, .int .u64 0] := hz 54 _ (hw 54 (by kernel_rfl)) rfl
              refine wpOp_want rfl (by simp [Region.wanted, yielded, e51]) ?_
              go_simp
              exact ⟨⟨by simp [hsz.out], hx.out⟩, upd z 96 (.bool true), (by unfold Hid; simp [upd, e51, e53, e54]), hz.next apx hsz.out 55 (by decide) _ (fun _ h => Option.some.inj h)⟩
            · have e51 : z 92 = .bool true := hz 51 _ (hw 51 (by kernel_rfl)) rfl
              have e55 : z 96 = .bool true := hz 55 _ (hw 55 (by kernel_rfl)) rfl
              refine wpOp_plain rfl rfl ?_
              go_simp
              exact ⟨⟨by simp [hsz.out], hx.out⟩, upd z 97 (.bool true), (by unfold Hid; simp [upd, e51, e55]), hz.next apx hsz.out 56 (by decide) _ (fun _ h => Option.some.inj h)⟩
            · have e56 : z 97 = .bool true := hz 56 _ (hw 56 (by kernel_rfl)) rfl
              refine wpOp_plain rfl rfl ?_
              go_simp
              exact ⟨⟨by simp [hsz.out], hx.out⟩, upd z 98 (.bool true), (by unfold Hid; simp [upd, e56]), hz.next apx hsz.out 57 (by decide) _ (fun _ h => Option.some.inj h)⟩
            · have e57 : z 98 = .bool true := hz 57 _ (hw 57 (by kernel_rfl)) rfl
              have cl := (hx.out.block _ (Array.getElem?_eq_some_iff.1 HR5.out).1).trans HR5.out
              refine wpOp_want rfl (by simp [Region.wanted, yielded, e57]) (wp_load_row 24 (.tmp 5) rfl (q5) rfl 24 (tabV 4 A5 3 c5) (0, 0) _ cl Tryz.underlying24 rfl infoT ?_)
              go_simp
              exact ⟨⟨by simp [hsz.out], hx.out⟩, upd z 99 (.agg (tabV 4 A5 3 c5)), (by unfold Hid; simp [upd, e57]), hz.next apx hsz.out 58 (by decide) _ (fun _ h => Option.some.inj h)⟩
            · have e57 : z 98 = .bool true := hz 57 _ (hw 57 (by kernel_rfl)) rfl
              have e58 : z 99 = .agg (tabV 4 A5 3 c5) := hz 58 _ (hw 58 (by kernel_rfl)) rfl
              refine wpOp_want rfl (by simp [Region.wanted, yielded, e57]) ?_
              go_simp
              go_at_call 10
              refine (k_uab (HK.out.later hx.out)).mono ?_
              rintro e w9 ⟨rfl, low⟩
              exact ⟨⟨by simp [hsz.out], hx.out.trans (low.mono hx.out.size)⟩, upd z 100 (.agg #[.int .i64 0, .int .u64 0]), (by unfold Hid; simp [upd, e57, e58]), hz.next apx hsz.out 59 (by decide) _ (fun _ h => Option.some.inj h)⟩
            · have e57 : z 98 = .bool true := hz 57 _ (hw 57 (by kernel_rfl)) rfl
              refine wpOp_want rfl (by simp [Region.wanted, yielded, e57]) ?_
              go_simp
              go_at_call 19
              refine (k_l00 wx).mono ?_
              rintro e w9 ⟨rfl, low⟩
              exact ⟨⟨by simp [hsz.out], hx.out.trans (low.mono hx.out.size)⟩, upd z 101 (.agg #[.int .i64 0, .int .u64 0]), (by unfold Hid; simp [upd, e57]), hz.next apx hsz.out 60 (by decide) _ (fun _ h => Option.some.inj h)⟩
            · have e57 : z 98 = .bool true := hz 57 _ (hw 57 (by kernel_rfl)) rfl
              have e59 : z 100 = .agg #[.int .i64 0, .int .u64 0] := hz 59 _ (hw 59 (by kernel_rfl)) rfl
              have e60 : z 101 = .agg #[.int .i64 0, .int .u64 0] := hz 60 _ (hw 60 (by kernel_rfl)) rfl
              refine wpOp_want rfl (by simp [Region.wanted, yielded, e57]) ?_
              go_simp
              exact ⟨⟨by simp [hsz.out], hx.out⟩, upd z 102 (.bool true), (by unfold Hid; simp [upd, e57, e59, e60]), hz.next apx hsz.out 61 (by decide) _ (fun _ h => Option.some.inj h)⟩
            · have e57 : z 98 = .bool true := hz 57 _ (hw 57 (by kernel_rfl)) rfl
              have e61 : z 102 = .bool true := hz 61 _ (hw 61 (by kernel_rfl)) rfl
              refine wpOp_plain rfl rfl ?_
              go_simp
              exact ⟨⟨by simp [hsz.out], hx.out⟩, upd z 103 (.bool true), (by unfold Hid; simp [upd, e57, e61]), hz.next apx hsz.out 62 (by decide) _ (fun _ h => Option.some.inj h)⟩
            · have e62 : z 103 = .bool true := hz 62 _ (hw 62 (by kernel_rfl)) rfl
              refine wpOp_plain rfl rfl ?_
              go_simp
              exact ⟨⟨by simp [hsz.out], hx.out⟩, upd z 104 (.bool true), (by unfold Hid; simp [upd, e62]), hz.next apx hsz.out 63 (by decide) _ (fun _ h => Option.some.inj h)⟩
            · have e63 : z 104 = .bool true := hz 63 _ (hw 63 (by kernel_rfl)) rfl
              refine wpOp_want rfl (by simp [Region.wanted, yielded, e63]) ?_
              go_simp
              exact ⟨⟨by simp [hsz.out], hx.out⟩, upd z 105 (.int .i64 15), (by unfold Hid; simp [upd, e63]), hz.next apx hsz.out 64 (by decide) _ (fun _ h => Option.some.inj h)⟩
            · have e63 : z 104 = .bool true := hz 63 _ (hw 63 (by kernel_rfl)) rfl
              have e64 : z 105 = .int .i64 15 := hz 64 _ (hw 64 (by kernel_rfl)) rfl
              refine wpOp_want rfl (by simp [Region.wanted, yielded, e63]) ?_
              go_simp
              exact ⟨⟨by simp [hsz.out], hx.out⟩, upd z 106 (.bool true), (by unfold Hid; simp [upd, e63, e64]), hz.next apx hsz.out 65 (by decide) _ (fun _ h => Option.some.inj h)⟩
            · have e63 : z 104 = .bool true := hz 63 _ (hw 63 (by kernel_rfl)) rfl
              have e65 : z 106 = .bool true := hz 65 _ (hw 65 (by kernel_rfl)) rfl
              refine wpOp_plain rfl rfl ?_
              go_simp
              exact ⟨⟨by simp [hsz.out], hx.out⟩, upd z 107 (.bool true), (by unfold Hid; simp [upd, e63, e65]), hz.next apx hsz.out 66 (by decide) _ (fun _ h => Option.some.inj h)⟩
            · have e66 : z 107 = .bool true := hz 66 _ (hw 66 (by kernel_rfl)) rfl
              refine wpOp_plain rfl rfl ?_
              go_simp
              exact ⟨⟨by simp [hsz.out], hx.out⟩, upd z 108 (.bool true), (by unfold Hid; simp [upd, e66]), hz.next apx hsz.out 67 (by decide) _ (fun _ h => Option.some.inj h)⟩
            · have e67 : z 108 = .bool true := hz 67 _ (hw 67 (by kernel_rfl)) rfl
              refine wpOp_want rfl (by simp [Region.wanted, yielded, e67]) ?_
              go_simp
              exact ⟨⟨by simp [hsz.out], hx.out⟩, upd z 109 (.int .i64 2), (by unfold Hid; simp [upd, e67]), hz.next apx hsz.out 68 (by decide) _ (fun _ h => Option.some.inj h)⟩
            · have e67 : z 108 = .bool true := hz 67 _ (hw 67 (by kernel_rfl)) rfl
              have e68 : z 109 = .int .i64 2 := hz 68 _ (hw 68 (by kernel_rfl)) rfl
              refine wpOp_want rfl (by simp [Region.wanted, yielded, e67]) ?_
              go_simp
              exact ⟨⟨by simp [hsz.out], hx.out⟩, upd z 110 (.bool true), (by unfold Hid; simp [upd, e67, e68]), hz.next apx hsz.out 69 (by decide) _ (fun _ h => Option.some.inj h)⟩
            · have e67 : z 108 = .bool true := hz 67 _ (hw 67 (by kernel_rfl)) rfl
              have e69 : z 110 = .bool true := hz 69 _ (hw 69 (by kernel_rfl)) rfl
              refine wpOp_plain rfl rfl ?_
              go_simp
              exact ⟨⟨by simp [hsz.out], hx.out⟩, upd z 111 (.bool true), (by unfold Hid; simp [upd, e67, e69]), hz.next apx hsz.out 70 (by decide) _ (fun _ h => Option.some.inj h)⟩
            · have e70 : z 111 = .bool true := hz 70 _ (hw 70 (by kernel_rfl)) rfl
              refine wpOp_plain rfl rfl ?_
              go_simp
              exact ⟨⟨by simp [hsz.out], hx.out⟩, upd z 112 (.bool true), (by unfold Hid; simp [upd, e70]), hz.next apx hsz.out 71 (by decide) _ (fun _ h => Option.some.inj h)⟩
            · have e71 : z 112 = .bool true := hz 71 _ (hw 71 (by kernel_rfl)) rfl
              have cl := (hx.out.block _ (Array.getElem?_eq_some_iff.1 HR1.out).1).trans HR1.out
              refine wpOp_want rfl (by simp [Region.wanted, yielded, e71]) (wp_load_row 24 (.tmp 1) rfl (q1) rfl 24 (tabV 3 (some ⟨b, 0, none⟩) 3 3) (0, 0) _ cl Tryz.underlying24 rfl infoT ?_)
              go_simp
              exact ⟨⟨by simp [hsz.out], hx.out⟩, upd z 113 (.agg (tabV 3 (some ⟨b, 0, none⟩) 3 3)), (by unfold Hid; simp [upd, e71]), hz.next apx hsz.out 72 (by decide) _ (fun _ h => Option.some.inj h)⟩
            · have e71 : z 112 = .bool true := hz 71 _ (hw 71 (by kernel_rfl)) rfl
              have e72 : z 113 = .agg (tabV 3 (some ⟨b, 0, none⟩) 3 3) := hz 72 _ (hw 72 (by kernel_rfl)) rfl
              refine wpOp_want rfl (by simp [Region.wanted, yielded, e71]) ?_
              go_simp
              go_at_call 15
              refine (k_text (HK.out.later hx.out)).mono ?_
              rintro e w9 ⟨rfl, low⟩
              exact ⟨⟨by simp [hsz.out], hx.out.trans (low.mono hx.out.size)⟩, upd z 114 (.string { data := #[118, 51, 10, 49, 58, 48, 32, 10, 50, 58, 49, 32, 97, 10, 48, 58, 48, 32, 97, 47, 98] }), (by unfold Hid; simp [upd, e71, e72]), hz.next apx hsz.out 73 (by decide) _ (fun _ h => Option.some.inj h)⟩
            · have e71 : z 112 = .bool true := hz 71 _ (hw 71 (by kernel_rfl)) rfl
              have e73 : z 114 = .string { data := #[118, 51, 10, 49, 58, 48, 32, 10, 50, 58, 49, 32, 97, 10, 48, 58, 48, 32, 97, 47, 98] } := hz 73 _ (hw 73 (by kernel_rfl)) rfl
              refine wpOp_want rfl (by simp [Region.wanted, yielded, e71]) ?_
              go_simp
              exact ⟨⟨by simp [hsz.out], hx.out⟩, upd z 115 (.bool true), (by unfold Hid; simp [upd, e71, e73]), hz.next apx hsz.out 74 (by decide) _ (fun _ h => Option.some.inj h)⟩
            · have e71 : z 112 = .bool true := hz 71 _ (hw 71 (by kernel_rfl)) rfl
              have e74 : z 115 = .bool true := hz 74 _ (hw 74 (by kernel_rfl)) rfl
              refine wpOp_plain rfl rfl ?_
              go_simp
              exact ⟨⟨by simp [hsz.out], hx.out⟩, upd z 116 (.bool true), (by unfold Hid; simp [upd, e71, e74]), hz.next apx hsz.out 75 (by decide) _ (fun _ h => Option.some.inj h)⟩
            · have e75 : z 116 = .bool true := hz 75 _ (hw 75 (by kernel_rfl)) rfl
              refine wpOp_plain rfl rfl ?_
              go_simp
              exact ⟨⟨by simp [hsz.out], hx.out⟩, upd z 117 (.bool true), (by unfold Hid; simp [upd, e75]), hz.next apx hsz.out 76 (by decide) _ (fun _ h => Option.some.inj h)⟩
            · have e76 : z 117 = .bool true := hz 76 _ (hw 76 (by kernel_rfl)) rfl
              have cl := (hx.out.block _ (Array.getElem?_eq_some_iff.1 HR11.out).1).trans HR11.out
              refine wpOp_want rfl (by simp [Region.wanted, yielded, e76]) (wp_load_row 24 (.tmp 11) rfl ((b11 + 1)) rfl 24 (tabV 2 (some ⟨b11, 0, none⟩) 2 2) (0, 0) _ cl Tryz.underlying24 rfl infoT ?_)
              go_simp
              exact ⟨⟨by simp [hsz.out], hx.out⟩, upd z 118 (.agg (tabV 2 (some ⟨b11, 0, none⟩) 2 2)), (by unfold Hid; simp [upd, e76]), hz.next apx hsz.out 77 (by decide) _ (fun _ h => Option.some.inj h)⟩
            · have e76 : z 117 = .bool true := hz 76 _ (hw 76 (by kernel_rfl)) rfl
              have e77 : z 118 = .agg (tabV 2 (some ⟨b11, 0, none⟩) 2 2) := hz 77 _ (hw 77 (by kernel_rfl)) rfl
              refine wpOp_want rfl (by simp [Region.wanted, yielded, e76]) ?_
              go_simp
              go_at_call 7
              refine (k_check (HK.out.later hx.out)).mono ?_
              rintro e w9 ⟨rfl, low⟩
              exact ⟨⟨by simp [hsz.out], hx.out.trans (low.mono hx.out.size)⟩, upd z 119 (.int .i64 2), (by unfold Hid; simp [upd, e76, e77]), hz.next apx hsz.out 78 (by decide) _ (fun _ h => Option.some.inj h)⟩
            · have e76 : z 117 = .bool true := hz 76 _ (hw 76 (by kernel_rfl)) rfl
              have e78 : z 119 = .int .i64 2 := hz 78 _ (hw 78 (by kernel_rfl)) rfl
              refine wpOp_want rfl (by simp [Region.wanted, yielded, e76]) ?_
              go_simp
              exact ⟨⟨by simp [hsz.out], hx.out⟩, upd z 120 (.bool true), (by unfold Hid; simp [upd, e76, e78]), hz.next apx hsz.out 79 (by decide) _ (fun _ h => Option.some.inj h)⟩
            · have e76 : z 117 = .bool true := hz 76 _ (hw 76 (by kernel_rfl)) rfl
              have e79 : z 120 = .bool true := hz 79 _ (hw 79 (by kernel_rfl)) rfl
              refine wpOp_plain rfl rfl ?_
              go_simp
              exact ⟨⟨by simp [hsz.out], hx.out⟩, upd z 121 (.bool true), (by unfold Hid; simp [upd, e76, e79]), hz.next apx hsz.out 80 (by decide) _ (fun _ h => Option.some.inj h)⟩
            · have e80 : z 121 = .bool true := hz 80 _ (hw 80 (by kernel_rfl)) rfl
              refine wpOp_plain rfl rfl ?_
              go_simp
              exact ⟨⟨by simp [hsz.out], hx.out⟩, upd z 122 (.bool true), (by unfold Hid; simp [upd, e80]), hz.next apx hsz.out 81 (by decide) _ (fun _ h => Option.some.inj h)⟩
            · have e81 : z 122 = .bool true := hz 81 _ (hw 81 (by kernel_rfl)) rfl
              refine wpOp_want rfl (by simp [Region.wanted, yielded, e81]) ?_
              go_simp
              exact ⟨⟨by simp [hsz.out], hx.out⟩, upd z 123 (.agg (tabV 0 none 0 0)), (by unfold Hid; simp [upd, e81]), hz.next apx hsz.out 82 (by decide) _ (fun _ h => Option.some.inj h)⟩
            · have e81 : z 122 = .bool true := hz 81 _ (hw 81 (by kernel_rfl)) rfl
              have e82 : z 123 = .agg (tabV 0 none 0 0) := hz 82 _ (hw 82 (by kernel_rfl)) rfl
              refine wpOp_want rfl (by simp [Region.wanted, yielded, e81]) ?_
              go_simp
              go_at_call 10
              refine (k_none (HK.out.later hx.out)).mono ?_
              rintro e w9 ⟨rfl, low⟩
              exact ⟨⟨by simp [hsz.out], hx.out.trans (low.mono hx.out.size)⟩, upd z 124 (.agg #[.int .i64 0, .int .u64 0]), (by unfold Hid; simp [upd, e81, e82]), hz.next apx hsz.out 83 (by decide) _ (fun _ h => Option.some.inj h)⟩
            · have e81 : z 122 = .bool true := hz 81 _ (hw 81 (by kernel_rfl)) rfl
              refine wpOp_want rfl (by simp [Region.wanted, yielded, e81]) ?_
              go_simp
              go_at_call 19
              refine (k_l00 wx).mono ?_
              rintro e w9 ⟨rfl, low⟩
              exact ⟨⟨by simp [hsz.out], hx.out.trans (low.mono hx.out.size)⟩, upd z 125 (.agg #[.int .i64 0, .int .u64 0]), (by unfold Hid; simp [upd, e81]), hz.next apx hsz.out 84 (by decide) _ (fun _ h => Option.some.inj h)⟩
            · have e81 : z 122 = .bool true := hz 81 _ (hw 81 (by kernel_rfl)) rfl
              have e83 : z 124 = .agg #[.int .i64 0, .int .u64 0] := hz 83 _ (hw 83 (by kernel_rfl)) rfl
              have e84 : z 125 = .agg #[.int .i64 0, .int .u64 0] := hz 84 _ (hw 84 (by kernel_rfl)) rfl
              refine wpOp_want rfl (by simp [Region.wanted, yielded, e81]) ?_
              go_simp
              exact ⟨⟨by simp [hsz.out], hx.out⟩, upd z 126 (.bool true), (by unfold Hid; simp [upd, e81, e83, e84]), hz.next apx hsz.out 85 (by decide) _ (fun _ h => Option.some.inj h)⟩
            · have e81 : z 122 = .bool true := hz 81 _ (hw 81 (by kernel_rfl)) rfl
              have e85 : z 126 = .bool true := hz 85 _ (hw 85 (by kernel_rfl)) rfl
              refine wpOp_plain rfl rfl ?_
              go_simp
              exact ⟨⟨by simp [hsz.out], hx.out⟩, upd z 127 (.bool true), (by unfold Hid; simp [upd, e81, e85]), hz.next apx hsz.out 86 (by decide) _ (fun _ h => Option.some.inj h)⟩
            · have e86 : z 127 = .bool true := hz 86 _ (hw 86 (by kernel_rfl)) rfl
              refine wpOp_plain rfl rfl ?_
              go_simp
              exact ⟨⟨by simp [hsz.out], hx.out⟩, upd z 0 (.bool true), (by unfold Hid; simp [upd, e86]), hz.next apx hsz.out 87 (by decide) _ (fun _ h => Option.some.inj h)⟩
          · exact ⟨⟨rfl, (Below.refl _ _).drew⟩, fun xx => (#[.bool false, .pointer (some ⟨q1, 0, none⟩), .slice (some ⟨ga, oa, none⟩) 2 ca, .slice Ab 1 cb, .slice Ac 3 cc, .pointer (some ⟨q5, 0, none⟩), .int .i64 0, .pointer (some ⟨q7, 0, none⟩), .int .i64 15, .pointer (some ⟨q9, 0, none⟩), .int .i64 2, .pointer (some ⟨b11 + 1, 0, none⟩), .agg (tabV 3 (some ⟨b, 0, none⟩) 3 3), y13, y14, y15, y16, y17, y18, y19, y20, y21, y22, y23, y24, y25, y26, y27, y28, y29, y30, y31, y32, y33, y34, y35, y36, .agg #[.string ⟨#[98]⟩, .int .i64 0, .int .u64 0], .agg #[.string ⟨#[97]⟩, .int .i64 0, .int .u64 0], .slice (some ⟨b11, 0, none⟩) 2 2, .agg #[.int .i64 2, .slice (some ⟨b11, 0, none⟩) 2 2], undef, undef, undef, undef, undef, undef, undef, undef, undef, undef, undef, undef, undef, undef, undef, undef, undef, undef, undef, undef, undef, undef, undef, undef, undef, undef, undef, undef, undef, undef, undef, undef, undef, undef, undef, undef, undef, undef, undef, undef, undef, undef, undef, undef, undef, undef, undef, undef, undef, undef, undef, undef, undef, undef, undef, undef, undef, undef, undef, undef, undef, undef, undef, undef, undef, undef, undef, undef, undef, undef, undef, undef, undef, undef, undef, undef, undef, undef, undef, undef, undef, undef, undef, undef, undef, undef, undef] : Array Value).getD xx undef, (by rfl), Holding.start⟩
        · rintro ll aa wx i ⟨hI, z, ha, hz, hp2, hp3, hp4, hp6, hp7⟩ hcl hi hu hw
          obtain rfl := ha.out
          have hsz := Lib.hid hI.out.1
          have hx := Lib.hid hI.out.2
          clear ha hI
          have hin : i < 9 := hi
          obtain rfl | rfl | rfl | rfl | rfl | rfl | rfl | rfl | rfl : i = 0 ∨ i = 1 ∨ i = 2 ∨ i = 3 ∨ i = 4 ∨ i = 5 ∨ i = 6 ∨ i = 7 ∨ i = 8 := by omega
          · have cl := (hx.out.block _ (Array.getElem?_eq_some_iff.1 HB5.out).1).trans HB5.out
            refine wpOp_plain rfl rfl (wp_load_row 24 (.tmp 1) rfl (q1) rfl 24 (tabV 3 (some ⟨b, 0, none⟩) 3 3) (0, 0) _ cl Tryz.underlying24 rfl infoT ?_)
            go_simp
            exact ⟨⟨by simp [hsz.out], hx.out⟩, upd z 32 (.agg (tabV 3 (some ⟨b, 0, none⟩) 3 3)), (by unfold Hid; simp [upd]), hz.next apx hsz.out 0 (by decide) _ (fun _ h => Option.some.inj h), hp2.keep (by decide), hp3.keep (by decide), hp4.keep (by decide), hp6.keep (by decide), hp7.keep (by decide)⟩
          · refine wpOp_plain rfl rfl ?_
            go_simp
            go_at_call 19
            refine (label_any 16 0 wx).mono ?_
            rintro e w9 ⟨rfl, low⟩
            exact ⟨⟨by simp [hsz.out], hx.out.trans (low.mono hx.out.size)⟩, upd z 33 (.agg (lab 16 0)), (by unfold Hid; simp [upd]), hz.next apx hsz.out 1 (by decide) _ (fun _ h => Option.some.inj h), (hp2.keep (by decide)).map (fun h => h.later low), (hp3.keep (by decide)).map (fun h => h.later low), (hp4.keep (by decide)).map (fun h => h.later low), (hp6.keep (by decide)).map (fun h => h.later low), (hp7.keep (by decide)).map (fun h => h.later low)⟩
          · have e0 : z 32 = .agg (tabV 3 (some ⟨b, 0, none⟩) 3 3) := hz 0 _ (hw 0 (by kernel_rfl)) rfl
            have e1 : z 33 = .agg (lab 16 0) := hz 1 _ (hw 1 (by kernel_rfl)) rfl
            refine wpOp_plain rfl rfl ?_
            go_simp
            go_at_call 18
            refine (kn2 (HG5.out.later hx.out)).mono ?_
            rintro e w9 ⟨⟨Ab, cb, rfl, hrb⟩, low⟩
            exact ⟨⟨by simp [hsz.out], hx.out.trans (low.mono hx.out.size)⟩, upd z 34 (.tuple #[.agg (tabV 0 Ab ([] : List Rl).length cb), .int .i64 2]), (by unfold Hid; simp [upd, e0, e1]), hz.next apx hsz.out 2 (by decide) _ (fun _ h => by cases h), Whu.done (⟨Ab, cb, rfl, hrb⟩), Whn.never (by decide) (fun hl => hcl 3 2 hl (by kernel_rfl)) hu, (hp4.keep (by decide)).map (fun h => h.later low), (hp6.keep (by decide)).map (fun h => h.later low), (hp7.keep (by decide)).map (fun h => h.later low)⟩
          · have hn4 : ll.getD 4 false = false := by
              cases hl : ll.getD 4 false
              · rfl
              · exact absurd (hcl 4 3 hl (by kernel_rfl)) (by rw [hu]; decide)
            have p2 := hp2.get (hw 2 (by kernel_rfl)) hn4
            have hv2 : ∃ Ab cb, z 34 = .tuple #[.agg (tabV 0 Ab ([] : List Rl).length cb), .int .i64 2] := by
              obtain ⟨Ab, cb, h1, _⟩ := p2
              exact ⟨Ab, cb, h1⟩
            obtain ⟨Ab, cb, hv2⟩ := hv2
            refine wpOp_plain rfl rfl ?_
            go_simp
            exact ⟨⟨by simp [hsz.out], hx.out⟩, upd z 31 (.tuple #[.agg (tabV 0 Ab ([] : List Rl).length cb), .int .i64 2]), (by unfold Hid; simp [upd, hv2]), hz.next apx hsz.out 3 (by decide) _ (fun _ h => by cases h), hp2.keep (by decide), Whn.done (⟨by simp [upd, hv2], Ab, cb, rfl⟩), hp4.keep (by decide), hp6.keep (by decide), hp7.keep (by decide)⟩
          · have p3 := hp3.get (hw 3 (by kernel_rfl))
            have p2 := hp2.get (hcl 3 2 (hw 3 (by kernel_rfl)) (by kernel_rfl)) hu
            obtain ⟨Ab, cb, hv2, hrb⟩ := p2
            obtain ⟨hv3, _⟩ := p3
            rw [hv2] at hv3
            refine wpOp_plain rfl rfl ?_
            go_simp
            exact ⟨⟨by simp [hsz.out], hx.out⟩, upd z 35 (.agg (tabV 0 Ab ([] : List Rl).length cb)), (by unfold Hid; simp [upd, hv2, hv3]), hz.next apx hsz.out 4 (by decide) _ (fun _ h => by cases h), Whu.past (by rw [hsz.out]; decide), hp3.keep (by decide), Whu.done (⟨Ab, cb, rfl, hrb⟩), hp6.keep (by decide), hp7.keep (by decide)⟩
          · have p3 := hp3.get (hw 3 (by kernel_rfl))
            obtain ⟨h27, Ab, cb, hv3⟩ := p3
            clear h27
            refine wpOp_plain rfl rfl ?_
            go_simp
            exact ⟨⟨by simp [hsz.out], hx.out⟩, upd z 36 (.int .i64 2), (by unfold Hid; simp [upd, hv3]), hz.next apx hsz.out 5 (by decide) _ (fun _ h => Option.some.inj h), hp2.keep (by decide), hp3.keep (by decide), hp4.keep (by decide), hp6.keep (by decide), hp7.keep (by decide)⟩
          · refine wpOp_plain rfl rfl ?_
            go_simp
            have lown : Below wx.heap.size wx (wx.alloc (.cells #[.int .i64 0, .slice none 0 0] 24)) := (Below.refl _ _).alloc (Nat.le_refl _) _
            exact ⟨⟨by simp [hsz.out], hx.out.trans (lown.mono hx.out.size)⟩, upd z 9 (.pointer (some ⟨wx.heap.size, 0, none⟩)), (by unfold Hid; simp [upd]), hz.next apx hsz.out 6 (by decide) _ (fun _ h => by cases h), (hp2.keep (by decide)).map (fun h => h.later lown), (hp3.keep (by decide)).map (fun h => h.later lown), (hp4.keep (by decide)).map (fun h => h.later lown), Whu.done (⟨wx.heap.size, rfl, hx.out.size, Go.heap_alloc_new wx _⟩), Whn.never (by decide) (fun hl => hcl 7 6 hl (by kernel_rfl)) hu⟩
          · have p4 := hp4.get (hw 4 (by kernel_rfl)) hu
            have p6 := hp6.get (hw 6 (by kernel_rfl)) hu
            obtain ⟨Ab, cb, hv4, hrb⟩ := p4
            obtain ⟨q, hv6, hbq, hq⟩ := p6
            refine wpOp_plain rfl rfl (wp_store_row 24 (.tmp 9) (.tmp 35) rfl q (tabV 0 Ab ([] : List Rl).length cb) (by show z 9 = _; exact hv6) (by show z 35 = _; exact hv4) 24 _ hq infoT rfl (tab_one ..) ?_)
            go_simp
            exact ⟨⟨by simp [hsz.out], Lab.below_setRow hx.out hbq _⟩, upd z 1007 (undef), (by unfold Hid; simp [upd, hv6, hv4]), hz.next apx hsz.out 7 (by decide) _ (fun _ h => by cases h), Whu.gone (hw 4 (by kernel_rfl)), (hp3.keep (by decide)).map (fun h => h), Whu.past (by rw [hsz.out]; decide), Whu.past (by rw [hsz.out]; decide), Whn.done (⟨q, Ab, cb, hv6, hbq, setRow_at hq, ruls_setRow hrb hq rfl⟩)⟩
          · have e5 : z 36 = .int .i64 2 := hz 5 _ (hw 5 (by kernel_rfl)) rfl
            refine wpOp_plain rfl rfl ?_
            go_simp
            exact ⟨⟨by simp [hsz.out], hx.out⟩, upd z 10 (.int .i64 2), (by unfold Hid; simp [upd, e5]), hz.next apx hsz.out 8 (by decide) _ (fun _ h => Option.some.inj h), hp2.keep (by decide), hp3.keep (by decide), hp4.keep (by decide), hp6.keep (by decide), hp7.keep (by decide)⟩
        · exact ⟨⟨rfl, (Below.refl _ _).drew⟩, fun xx => (#[.bool false, .pointer (some ⟨q1, 0, none⟩), .slice Aa La.length ca, .slice Ab Lb.length cb, .slice Ac Lc.length cc, .pointer (some ⟨q5, 0, none⟩), .int .i64 0, .pointer (some ⟨q7, 0, none⟩), .int .i64 15, undef, undef, undef, .agg (tabV 3 (some ⟨b, 0, none⟩) 3 3), y13, y14, y15, y16, y17, y18, y19, y20, y21, y22, y23, y24, y25, y26, y27, y28, y29, y30, undef, undef, undef, undef, undef, undef, undef, undef, undef, undef, undef, undef, undef, undef, undef, undef, undef, undef, undef, undef, undef, undef, undef, undef, undef, undef, undef, undef, undef, undef, undef, undef, undef, undef, undef, undef, undef, undef, undef, undef, undef, undef, undef, undef, undef, undef, undef, undef, undef, undef, undef, undef, undef, undef, undef, undef, undef, undef, undef, undef, undef, undef, undef, undef, undef, undef, undef, undef, undef, undef, undef, undef, undef, undef, undef, undef, undef, undef, undef, undef, undef, undef, undef, undef, undef, undef, undef, undef, undef, undef, undef, undef, undef, undef, undef, undef, undef] : Array Value).getD xx undef, (by rfl), Holding.start, Whu.none (by decide), Whn.none (by decide), Whu.none (by decide), Whu.none (by decide), Whn.none (by decide)⟩
      · rintro ll aa wx i ⟨hI, z, ha, hz, hp2, hp3, hp4, hp6, hp7⟩ hcl hi hu hw
        obtain rfl := ha.out
        have hsz := Lib.hid hI.out.1
        have hx := Lib.hid hI.out.2
        clear ha hI
        have hin : i < 9 := hi
        obtain rfl | rfl | rfl | rfl | rfl | rfl | rfl | rfl | rfl : i = 0 ∨ i = 1 ∨ i = 2 ∨ i = 3 ∨ i = 4 ∨ i = 5 ∨ i = 6 ∨ i = 7 ∨ i = 8 := by omega
        · have cl := (hx.out.block _ (Array.getElem?_eq_some_iff.1 HB4.out).1).trans HB4.out
          refine wpOp_plain rfl rfl (wp_load_row 24 (.tmp 1) rfl (q1) rfl 24 (tabV 3 (some ⟨b, 0, none⟩) 3 3) (0, 0) _ cl Tryz.underlying24 rfl infoT ?_)
          go_simp
          exact ⟨⟨by simp [hsz.out], hx.out⟩, upd z 26 (.agg (tabV 3 (some ⟨b, 0, none⟩) 3 3)), (by unfold Hid; simp [upd]), hz.next apx hsz.out 0 (by decide) _ (fun _ h => Option.some.inj h), hp2.keep (by decide), hp3.keep (by decide), hp4.keep (by decide), hp6.keep (by decide), hp7.keep (by decide)⟩
        · refine wpOp_plain rfl rfl ?_
          go_simp
          go_at_call 19
          refine (label_any 0 0 wx).mono ?_
          rintro e w9 ⟨rfl, low⟩
          exact ⟨⟨by simp [hsz.out], hx.out.trans (low.mono hx.out.size)⟩, upd z 27 (.agg (lab 0 0)), (by unfold Hid; simp [upd]), hz.next apx hsz.out 1 (by decide) _ (fun _ h => Option.some.inj h), (hp2.keep (by decide)).map (fun h => h.later low), (hp3.keep (by decide)).map (fun h => h.later low), (hp4.keep (by decide)).map (fun h => h.later low), (hp6.keep (by decide)).map (fun h => h.later low), (hp7.keep (by decide)).map (fun h => h.later low)⟩
        · have e0 : z 26 = .agg (tabV 3 (some ⟨b, 0, none⟩) 3 3) := hz 0 _ (hw 0 (by kernel_rfl)) rfl
          have e1 : z 27 = .agg (lab 0 0) := hz 1 _ (hw 1 (by kernel_rfl)) rfl
          refine wpOp_plain rfl rfl ?_
          go_simp
          go_at_call 18
          refine (kn15 (HG4.out.later hx.out)).mono ?_
          rintro e w9 ⟨⟨Ab, cb, rfl, hrb⟩, low⟩
          exact ⟨⟨by simp [hsz.out], hx.out.trans (low.mono hx.out.size)⟩, upd z 28 (.tuple #[.agg (tabV 0 Ab ([] : List Rl).length cb), .int .i64 15]), (by unfold Hid; simp [upd, e0, e1]), hz.next apx hsz.out 2 (by decide) _ (fun _ h => by cases h), Whu.done (⟨Ab, cb, rfl, hrb⟩), Whn.never (by decide) (fun hl => hcl 3 2 hl (by kernel_rfl)) hu, (hp4.keep (by decide)).map (fun h => h.later low), (hp6.keep (by decide)).map (fun h => h.later low), (hp7.keep (by decide)).map (fun h => h.later low)⟩
        · have hn4 : ll.getD 4 false = false := by
            cases hl : ll.getD 4 false
            · rfl
            · exact absurd (hcl 4 3 hl (by kernel_rfl)) (by rw [hu]; decide)
          have p2 := hp2.get (hw 2 (by kernel_rfl)) hn4
          have hv2 : ∃ Ab cb, z 28 = .tuple #[.agg (tabV 0 Ab ([] : List Rl).length cb), .int .i64 15] := by
            obtain ⟨Ab, cb, h1, _⟩ := p2
            exact ⟨Ab, cb, h1⟩
          obtain ⟨Ab, cb, hv2⟩ := hv2
          refine wpOp_plain rfl rfl ?_
          go_simp
          exact ⟨⟨by simp [hsz.out], hx.out⟩, upd z 25 (.tuple #[.agg (tabV 0 Ab ([] : List Rl).length cb), .int .i64 15]), (by unfold Hid; simp [upd, hv2]), hz.next apx hsz.out 3 (by decide) _ (fun _ h => by cases h), hp2.keep (by decide), Whn.done (⟨by simp [upd, hv2], Ab, cb, rfl⟩), hp4.keep (by decide), hp6.keep (by decide), hp7.keep (by decide)⟩
        · have p3 := hp3.get (hw 3 (by kernel_rfl))
          have p2 := hp2.get (hcl 3 2 (hw 3 (by kernel_rfl)) (by kernel_rfl)) hu
          obtain ⟨Ab, cb, hv2, hrb⟩ := p2
          obtain ⟨hv3, _⟩ := p3
          rw [hv2] at hv3
          refine wpOp_plain rfl rfl ?_
          go_simp
          exact ⟨⟨by simp [hsz.out], hx.out⟩, upd z 29 (.agg (tabV 0 Ab ([] : List Rl).length cb)), (by unfold Hid; simp [upd, hv2, hv3]), hz.next apx hsz.out 4 (by decide) _ (fun _ h => by cases h), Whu.past (by rw [hsz.out]; decide), hp3.keep (by decide), Whu.done (⟨Ab, cb, rfl, hrb⟩), hp6.keep (by decide), hp7.keep (by decide)⟩
        · have p3 := hp3.get (hw 3 (by kernel_rfl))
          obtain ⟨h27, Ab, cb, hv3⟩ := p3
          clear h27
          refine wpOp_plain rfl rfl ?_
          go_simp
          exact ⟨⟨by simp [hsz.out], hx.out⟩, upd z 30 (.int .i64 15), (by unfold Hid; simp [upd, hv3]), hz.next apx hsz.out 5 (by decide) _ (fun _ h => Option.some.inj h), hp2.keep (by decide), hp3.keep (by decide), hp4.keep (by decide), hp6.keep (by decide), hp7.keep (by decide)⟩
        · refine wpOp_plain rfl rfl ?_
          go_simp
          have lown : Below wx.heap.size wx (wx.alloc (.cells #[.int .i64 0, .slice none 0 0] 24)) := (Below.refl _ _).alloc (Nat.le_refl _) _
          exact ⟨⟨by simp [hsz.out], hx.out.trans (lown.mono hx.out.size)⟩, upd z 7 (.pointer (some ⟨wx.heap.size, 0, none⟩)), (by unfold Hid; simp [upd]), hz.next apx hsz.out 6 (by decide) _ (fun _ h => by cases h), (hp2.keep (by decide)).map (fun h => h.later lown), (hp3.keep (by decide)).map (fun h => h.later lown), (hp4.keep (by decide)).map (fun h => h.later lown), Whu.done (⟨wx.heap.size, rfl, hx.out.size, Go.heap_alloc_new wx _⟩), Whn.never (by decide) (fun hl => hcl 7 6 hl (by kernel_rfl)) hu⟩
        · have p4 := hp4.get (hw 4 (by kernel_rfl)) hu
          have p6 := hp6.get (hw 6 (by kernel_rfl)) hu
          obtain ⟨Ab, cb, hv4, hrb⟩ := p4
          obtain ⟨q, hv6, hbq, hq⟩ := p6
          refine wpOp_plain rfl rfl (wp_store_row 24 (.tmp 7) (.tmp 29) rfl q (tabV 0 Ab ([] : List Rl).length cb) (by show z 7 = _; exact hv6) (by show z 29 = _; exact hv4) 24 _ hq infoT rfl (tab_one ..) ?_)
          go_simp
          exact ⟨⟨by simp [hsz.out], Lab.below_setRow hx.out hbq _⟩, upd z 1007 (undef), (by unfold Hid; simp [upd, hv6, hv4]), hz.next apx hsz.out 7 (by decide) _ (fun _ h => by cases h), Whu.gone (hw 4 (by kernel_rfl)), (hp3.keep (by decide)).map (fun h => h), Whu.past (by rw [hsz.out]; decide), Whu.past (by rw [hsz.out]; decide), Whn.done (⟨q, Ab, cb, hv6, hbq, setRow_at hq, ruls_setRow hrb hq rfl⟩)⟩
        · have e5 : z 30 = .int .i64 15 := hz 5 _ (hw 5 (by kernel_rfl)) rfl
          refine wpOp_plain rfl rfl ?_
          go_simp
          exact ⟨⟨by simp [hsz.out], hx.out⟩, upd z 8 (.int .i64 15), (by unfold Hid; simp [upd, e5]), hz.next apx hsz.out 8 (by decide) _ (fun _ h => Option.some.inj h), hp2.keep (by decide), hp3.keep (by decide), hp4.keep (by decide), hp6.keep (by decide), hp7.keep (by decide)⟩
      · exact ⟨⟨rfl, (Below.refl _ _).drew⟩, fun xx => (#[.bool false, .pointer (some ⟨q1, 0, none⟩), .slice Aa La.length ca, .slice Ab Lb.length cb, .slice Ac Lc.length cc, .pointer (some ⟨q5, 0, none⟩), .int .i64 0, undef, undef, undef, undef, undef, .agg (tabV 3 (some ⟨b, 0, none⟩) 3 3), y13, y14, y15, y16, y17, y18, y19, y20, y21, y22, y23, y24, undef, undef, undef, undef, undef, undef, undef, undef, undef, undef, undef, undef, undef, undef, undef, undef, undef, undef, undef, undef, undef, undef, undef, undef, undef, undef, undef, undef, undef, undef, undef, undef, undef, undef, undef, undef, undef, undef, undef, undef, undef, undef, undef, undef, undef, undef, undef, undef, undef, undef, undef, undef, undef, undef, undef, undef, undef, undef, undef, undef, undef, undef, undef, undef, undef, undef, undef, undef, undef, undef, undef, undef, undef, undef, undef, undef, undef, undef, undef, undef, undef, undef, undef, undef, undef, undef, undef, undef, undef, undef, undef, undef, undef, undef, undef, undef, undef, undef, undef, undef, undef, undef, undef] : Array Value).getD xx undef, (by rfl), Holding.start, Whu.none (by decide), Whn.none (by decide), Whu.none (by decide), Whu.none (by decide), Whn.none (by decide)⟩
    · rintro ll aa wx i ⟨hI, z, ha, hz, hp2, hp3, hp4, hp6, hp7⟩ hcl hi hu hw
      obtain rfl := ha.out
      have hsz := Lib.hid hI.out.1
      have hx := Lib.hid hI.out.2
      clear ha hI
      have hin : i < 9 := hi
      obtain rfl | rfl | rfl | rfl | rfl | rfl | rfl | rfl | rfl : i = 0 ∨ i = 1 ∨ i = 2 ∨ i = 3 ∨ i = 4 ∨ i = 5 ∨ i = 6 ∨ i = 7 ∨ i = 8 := by omega
      · have cl := (hx.out.block _ (Array.getElem?_eq_some_iff.1 HB3.out).1).trans HB3.out
        refine wpOp_plain rfl rfl (wp_load_row 24 (.tmp 1) rfl (q1) rfl 24 (tabV 3 (some ⟨b, 0, none⟩) 3 3) (0, 0) _ cl Tryz.underlying24 rfl infoT ?_)
        go_simp
        exact ⟨⟨by simp [hsz.out], hx.out⟩, upd z 20 (.agg (tabV 3 (some ⟨b, 0, none⟩) 3 3)), (by unfold Hid; simp [upd]), hz.next apx hsz.out 0 (by decide) _ (fun _ h => Option.some.inj h), hp2.keep (by decide), hp3.keep (by decide), hp4.keep (by decide), hp6.keep (by decide), hp7.keep (by decide)⟩
      · refine wpOp_plain rfl rfl ?_
        go_simp
        go_at_call 19
        refine (label_any 3 0 wx).mono ?_
        rintro e w9 ⟨rfl, low⟩
        exact ⟨⟨by simp [hsz.out], hx.out.trans (low.mono hx.out.size)⟩, upd z 21 (.agg (lab 3 0)), (by unfold Hid; simp [upd]), hz.next apx hsz.out 1 (by decide) _ (fun _ h => Option.some.inj h), (hp2.keep (by decide)).map (fun h => h.later low), (hp3.keep (by decide)).map (fun h => h.later low), (hp4.keep (by decide)).map (fun h => h.later low), (hp6.keep (by decide)).map (fun h => h.later low), (hp7.keep (by decide)).map (fun h => h.later low)⟩
      · have e0 : z 20 = .agg (tabV 3 (some ⟨b, 0, none⟩) 3 3) := hz 0 _ (hw 0 (by kernel_rfl)) rfl
        have e1 : z 21 = .agg (lab 3 0) := hz 1 _ (hw 1 (by kernel_rfl)) rfl
        refine wpOp_plain rfl rfl ?_
        go_simp
        go_at_call 18
        refine (kw3 (HG3.out.later hx.out)).mono ?_
        rintro e w9 ⟨⟨Ab, cb, rfl, hrb⟩, low⟩
        exact ⟨⟨by simp [hsz.out], hx.out.trans (low.mono hx.out.size)⟩, upd z 22 (.tuple #[.agg (tabV 4 Ab U3.length cb), .int .i64 0]), (by unfold Hid; simp [upd, e0, e1]), hz.next apx hsz.out 2 (by decide) _ (fun _ h => by cases h), Whu.done (⟨Ab, cb, rfl, hrb⟩), Whn.never (by decide) (fun hl => hcl 3 2 hl (by kernel_rfl)) hu, (hp4.keep (by decide)).map (fun h => h.later low), (hp6.keep (by decide)).map (fun h => h.later low), (hp7.keep (by decide)).map (fun h => h.later low)⟩
      · have hn4 : ll.getD 4 false = false := by
          cases hl : ll.getD 4 false
          · rfl
          · exact absurd (hcl 4 3 hl (by kernel_rfl)) (by rw [hu]; decide)
        have p2 := hp2.get (hw 2 (by kernel_rfl)) hn4
        have hv2 : ∃ Ab cb, z 22 = .tuple #[.agg (tabV 4 Ab U3.length cb), .int .i64 0] := by
          obtain ⟨Ab, cb, h1, _⟩ := p2
          exact ⟨Ab, cb, h1⟩
        obtain ⟨Ab, cb, hv2⟩ := hv2
        refine wpOp_plain rfl rfl ?_
        go_simp
        exact ⟨⟨by simp [hsz.out], hx.out⟩, upd z 19 (.tuple #[.agg (tabV 4 Ab U3.length cb), .int .i64 0]), (by unfold Hid; simp [upd, hv2]), hz.next apx hsz.out 3 (by decide) _ (fun _ h => by cases h), hp2.keep (by decide), Whn.done (⟨by simp [upd, hv2], Ab, cb, rfl⟩), hp4.keep (by decide), hp6.keep (by decide), hp7.keep (by decide)⟩
      · have p3 := hp3.get (hw 3 (by kernel_rfl))
        have p2 := hp2.get (hcl 3 2 (hw 3 (by kernel_rfl)) (by kernel_rfl)) hu
        obtain ⟨Ab, cb, hv2, hrb⟩ := p2
        obtain ⟨hv3, _⟩ := p3
        rw [hv2] at hv3
        refine wpOp_plain rfl rfl ?_
        go_simp
        exact ⟨⟨by simp [hsz.out], hx.out⟩, upd z 23 (.agg (tabV 4 Ab U3.length cb)), (by unfold Hid; simp [upd, hv2, hv3]), hz.next apx hsz.out 4 (by decide) _ (fun _ h => by cases h), Whu.past (by rw [hsz.out]; decide), hp3.keep (by decide), Whu.done (⟨Ab, cb, rfl, hrb⟩), hp6.keep (by decide), hp7.keep (by decide)⟩
      · have p3 := hp3.get (hw 3 (by kernel_rfl))
        obtain ⟨h27, Ab, cb, hv3⟩ := p3
        clear h27
        refine wpOp_plain rfl rfl ?_
        go_simp
        exact ⟨⟨by simp [hsz.out], hx.out⟩, upd z 24 (.int .i64 0), (by unfold Hid; simp [upd, hv3]), hz.next apx hsz.out 5 (by decide) _ (fun _ h => Option.some.inj h), hp2.keep (by decide), hp3.keep (by decide), hp4.keep (by decide), hp6.keep (by decide), hp7.keep (by decide)⟩
      · refine wpOp_plain rfl rfl ?_
        go_simp
        have lown : Below wx.heap.size wx (wx.alloc (.cells #[.int .i64 0, .slice none 0 0] 24)) := (Below.refl _ _).alloc (Nat.le_refl _) _
        exact ⟨⟨by simp [hsz.out], hx.out.trans (lown.mono hx.out.size)⟩, upd z 5 (.pointer (some ⟨wx.heap.size, 0, none⟩)), (by unfold Hid; simp [upd]), hz.next apx hsz.out 6 (by decide) _ (fun _ h => by cases h), (hp2.keep (by decide)).map (fun h => h.later lown), (hp3.keep (by decide)).map (fun h => h.later lown), (hp4.keep (by decide)).map (fun h => h.later lown), Whu.done (⟨wx.heap.size, rfl, hx.out.size, Go.heap_alloc_new wx _⟩), Whn.never (by decide) (fun hl => hcl 7 6 hl (by kernel_rfl)) hu⟩
      · have p4 := hp4.get (hw 4 (by kernel_rfl)) hu
        have p6 := hp6.get (hw 6 (by kernel_rfl)) hu
        obtain ⟨Ab, cb, hv4, hrb⟩ := p4
        obtain ⟨q, hv6, hbq, hq⟩ := p6
        refine wpOp_plain rfl rfl (wp_store_row 24 (.tmp 5) (.tmp 23) rfl q (tabV 4 Ab U3.length cb) (by show z 5 = _; exact hv6) (by show z 23 = _; exact hv4) 24 _ hq infoT rfl (tab_one ..) ?_)
        go_simp
        exact ⟨⟨by simp [hsz.out], Lab.below_setRow hx.out hbq _⟩, upd z 1007 (undef), (by unfold Hid; simp [upd, hv6, hv4]), hz.next apx hsz.out 7 (by decide) _ (fun _ h => by cases h), Whu.gone (hw 4 (by kernel_rfl)), (hp3.keep (by decide)).map (fun h => h), Whu.past (by rw [hsz.out]; decide), Whu.past (by rw [hsz.out]; decide), Whn.done (⟨q, Ab, cb, hv6, hbq, setRow_at hq, ruls_setRow hrb hq rfl⟩)⟩
      · have e5 : z 24 = .int .i64 0 := hz 5 _ (hw 5 (by kernel_rfl)) rfl
        refine wpOp_plain rfl rfl ?_
        go_simp
        exact ⟨⟨by simp [hsz.out], hx.out⟩, upd z 6 (.int .i64 0), (by unfold Hid; simp [upd, e5]), hz.next apx hsz.out 8 (by decide) _ (fun _ h => Option.some.inj h), hp2.keep (by decide), hp3.keep (by decide), hp4.keep (by decide), hp6.keep (by decide), hp7.keep (by decide)⟩
    · exact ⟨⟨rfl, (Below.refl _ _).drew⟩, fun xx => (#[.bool false, .pointer (some ⟨q1, 0, none⟩), .slice Aa La.length ca, .slice Ab Lb.length cb, .slice Ac Lc.length cc, undef, undef, undef, undef, undef, undef, undef, .agg (tabV 3 (some ⟨b, 0, none⟩) 3 3), y13, y14, y15, y16, y17, y18, undef, undef, undef, undef, undef, undef, undef, undef, undef, undef, undef, undef, undef, undef, undef, undef, undef, undef, undef, undef, undef, undef, undef, undef, undef, undef, undef, undef, undef, undef, undef, undef, undef, undef, undef, undef, undef, undef, undef, undef, undef, undef, undef, undef, undef, undef, undef, undef, undef, undef, undef, undef, undef, undef, undef, undef, undef, undef, undef, undef, undef, undef, undef, undef, undef, undef, undef, undef, undef, undef, undef, undef, undef, undef, undef, undef, undef, undef, undef, undef, undef, undef, undef, undef, undef, undef, undef, undef, undef, undef, undef, undef, undef, undef, undef, undef, undef, undef, undef, undef, undef, undef, undef, undef, undef, undef, undef, undef, undef] : Array Value).getD xx undef, (by rfl), Holding.start, Whu.none (by decide), Whn.none (by decide), Whu.none (by decide), Whu.none (by decide), Whn.none (by decide)⟩
  · rintro ll aa wx i ⟨hI, z, ha, hz, hp1, hp3, hp5, hp6, hp7, hp8⟩ hcl hi hu hw
    obtain rfl := ha.out
    have hsz := Lib.hid hI.out.1
    have hx := Lib.hid hI.out.2
    clear ha hI
    have hin : i < 9 := hi
    obtain rfl | rfl | rfl | rfl | rfl | rfl | rfl | rfl | rfl : i = 0 ∨ i = 1 ∨ i = 2 ∨ i = 3 ∨ i = 4 ∨ i = 5 ∨ i = 6 ∨ i = 7 ∨ i = 8 := by omega
    · have cl := (hx.out.block _ (Array.getElem?_eq_some_iff.1 HB2.out).1).trans HB2.out
      refine wpOp_plain rfl rfl (wp_load_row 24 (.tmp 1) rfl (q1) rfl 24 (tabV 3 (some ⟨b, 0, none⟩) 3 3) (0, 0) _ cl Tryz.underlying24 rfl infoT ?_)
      go_simp
      exact ⟨⟨by simp [hsz.out], hx.out⟩, upd z 13 (.agg (tabV 3 (some ⟨b, 0, none⟩) 3 3)), (by unfold Hid; simp [upd]), hz.next apx hsz.out 0 (by decide) _ (fun _ h => Option.some.inj h), hp1.keep (by decide), hp3.keep (by decide), hp5.keep (by decide), hp6.keep (by decide), hp7.keep (by decide), hp8.keep (by decide)⟩
    · have e0 : z 13 = .agg (tabV 3 (some ⟨b, 0, none⟩) 3 3) := hz 0 _ (hw 0 (by kernel_rfl)) rfl
      refine wpOp_plain rfl rfl ?_
      go_simp
      go_at_call 13
      refine (kt (HG2.out.later hx.out) sA (by decide)).mono ?_
      rintro e w9 ⟨vr, rfl, ho, low⟩
      exact ⟨⟨by simp [hsz.out], hx.out.trans (low.mono hx.out.size)⟩, upd z 14 (vr), (by unfold Hid; simp [upd, e0]), hz.next apx hsz.out 1 (by decide) _ (fun _ h => by cases h), Whn.done (ho), (hp3.keep (by decide)).map (fun h => h.later low), (hp5.keep (by decide)).map (fun h => h.later low), (hp6.keep (by decide)).map (fun h => h.later low), (hp7.keep (by decide)).map (fun h => h.later low), (hp8.keep (by decide)).map (fun h => h.later low)⟩
    · have cl := (hx.out.block _ (Array.getElem?_eq_some_iff.1 HB2.out).1).trans HB2.out
      refine wpOp_plain rfl rfl (wp_load_row 24 (.tmp 1) rfl (q1) rfl 24 (tabV 3 (some ⟨b, 0, none⟩) 3 3) (0, 0) _ cl Tryz.underlying24 rfl infoT ?_)
      go_simp
      exact ⟨⟨by simp [hsz.out], hx.out⟩, upd z 15 (.agg (tabV 3 (some ⟨b, 0, none⟩) 3 3)), (by unfold Hid; simp [upd]), hz.next apx hsz.out 2 (by decide) _ (fun _ h => Option.some.inj h), hp1.keep (by decide), hp3.keep (by decide), hp5.keep (by decide), hp6.keep (by decide), hp7.keep (by decide), hp8.keep (by decide)⟩
    · have e2 : z 15 = .agg (tabV 3 (some ⟨b, 0, none⟩) 3 3) := hz 2 _ (hw 2 (by kernel_rfl)) rfl
      refine wpOp_plain rfl rfl ?_
      go_simp
      go_at_call 13
      refine (kt (HG2.out.later hx.out) sAB (by decide)).mono ?_
      rintro e w9 ⟨vr, rfl, ho, low⟩
      exact ⟨⟨by simp [hsz.out], hx.out.trans (low.mono hx.out.size)⟩, upd z 16 (vr), (by unfold Hid; simp [upd, e2]), hz.next apx hsz.out 3 (by decide) _ (fun _ h => by cases h), (hp1.keep (by decide)).map (fun h => h.later low), Whn.done (ho), (hp5.keep (by decide)).map (fun h => h.later low), (hp6.keep (by decide)).map (fun h => h.later low), (hp7.keep (by decide)).map (fun h => h.later low), (hp8.keep (by decide)).map (fun h => h.later low)⟩
    · have cl := (hx.out.block _ (Array.getElem?_eq_some_iff.1 HB2.out).1).trans HB2.out
      refine wpOp_plain rfl rfl (wp_load_row 24 (.tmp 1) rfl (q1) rfl 24 (tabV 3 (some ⟨b, 0, none⟩) 3 3) (0, 0) _ cl Tryz.underlying24 rfl infoT ?_)
      go_simp
      exact ⟨⟨by simp [hsz.out], hx.out⟩, upd z 17 (.agg (tabV 3 (some ⟨b, 0, none⟩) 3 3)), (by unfold Hid; simp [upd]), hz.next apx hsz.out 4 (by decide) _ (fun _ h => Option.some.inj h), hp1.keep (by decide), hp3.keep (by decide), hp5.keep (by decide), hp6.keep (by decide), hp7.keep (by decide), hp8.keep (by decide)⟩
    · have e4 : z 17 = .agg (tabV 3 (some ⟨b, 0, none⟩) 3 3) := hz 4 _ (hw 4 (by kernel_rfl)) rfl
      refine wpOp_plain rfl rfl ?_
      go_simp
      go_at_call 13
      refine (kt (HG2.out.later hx.out) sE (by decide)).mono ?_
      rintro e w9 ⟨vr, rfl, ho, low⟩
      exact ⟨⟨by simp [hsz.out], hx.out.trans (low.mono hx.out.size)⟩, upd z 18 (vr), (by unfold Hid; simp [upd, e4]), hz.next apx hsz.out 5 (by decide) _ (fun _ h => by cases h), (hp1.keep (by decide)).map (fun h => h.later low), (hp3.keep (by decide)).map (fun h => h.later low), Whn.done (ho), (hp6.keep (by decide)).map (fun h => h.later low), (hp7.keep (by decide)).map (fun h => h.later low), (hp8.keep (by decide)).map (fun h => h.later low)⟩
    · have p1 := hp1.get (hw 1 (by kernel_rfl))
      obtain ⟨A9, c9, hv9, hl9⟩ := p1
      refine wpOp_plain rfl rfl ?_
      go_simp
      exact ⟨⟨by simp [hsz.out], hx.out⟩, upd z 2 (.slice A9 La.length c9), (by unfold Hid; simp [upd, hv9]), hz.next apx hsz.out 6 (by decide) _ (fun _ h => by cases h), hp1.keep (by decide), hp3.keep (by decide), hp5.keep (by decide), Whn.done (⟨A9, c9, rfl, hl9⟩), hp7.keep (by decide), hp8.keep (by decide)⟩
    · have p3 := hp3.get (hw 3 (by kernel_rfl))
      obtain ⟨A9, c9, hv9, hl9⟩ := p3
      refine wpOp_plain rfl rfl ?_
      go_simp
      exact ⟨⟨by simp [hsz.out], hx.out⟩, upd z 3 (.slice A9 Lb.length c9), (by unfold Hid; simp [upd, hv9]), hz.next apx hsz.out 7 (by decide) _ (fun _ h => by cases h), hp1.keep (by decide), hp3.keep (by decide), hp5.keep (by decide), hp6.keep (by decide), Whn.done (⟨A9, c9, rfl, hl9⟩), hp8.keep (by decide)⟩
    · have p5 := hp5.get (hw 5 (by kernel_rfl))
      obtain ⟨A9, c9, hv9, hl9⟩ := p5
      refine wpOp_plain rfl rfl ?_
      go_simp
      exact ⟨⟨by simp [hsz.out], hx.out⟩, upd z 4 (.slice A9 Lc.length c9), (by unfold Hid; simp [upd, hv9]), hz.next apx hsz.out 8 (by decide) _ (fun _ h => by cases h), hp1.keep (by decide), hp3.keep (by decide), hp5.keep (by decide), hp6.keep (by decide), hp7.keep (by decide), Whn.done (⟨A9, c9, rfl, hl9⟩)⟩
  · exact ⟨⟨rfl, (Below.refl _ _).drew⟩, fun xx => (#[.bool false, .pointer (some ⟨q1, 0, none⟩), undef, undef, undef, undef, undef, undef, undef, undef, undef, undef, .agg (tabV 3 (some ⟨b, 0, none⟩) 3 3), undef, undef, undef, undef, undef, undef, undef, undef, undef, undef, undef, undef, undef, undef, undef, undef, undef, undef, undef, undef, undef, undef, undef, undef, undef, undef, undef, undef, undef, undef, undef, undef, undef, undef, undef, undef, undef, undef, undef, undef, undef, undef, undef, undef, undef, undef, undef, undef, undef, undef, undef, undef, undef, undef, undef, undef, undef, undef, undef, undef, undef, undef, undef, undef, undef, undef, undef, undef, undef, undef, undef, undef, undef, undef, undef, undef, undef, undef, undef, undef, undef, undef, undef, undef, undef, undef, undef, undef, undef, undef, undef, undef, undef, undef, undef, undef, undef, undef, undef, undef, undef, undef, undef, undef, undef, undef, undef, undef, undef, undef, undef, undef, undef, undef, undef] : Array Value).getD xx undef, (by rfl), Holding.start, Whn.none (by decide), Whn.none (by decide), Whn.none (by decide), Whn.none (by decide), Whn.none (by decide), Whn.none (by decide)⟩
end Go.Proofs.YtmbcojpdigoojaaGreatDoor.Rul
