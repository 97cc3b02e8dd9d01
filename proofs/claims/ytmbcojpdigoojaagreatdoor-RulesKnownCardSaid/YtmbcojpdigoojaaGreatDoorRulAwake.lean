/- DERIVED. The statements' own parts: label, given, awake. -/
import Derived.Test.YtmbcojpdigoojaaGreatDoorRulCheckAny
import Derived.Test.YtmbcojpdigoojaaGreatDoorPthWorks
namespace Go.Proofs.YtmbcojpdigoojaaGreatDoor.Rul
open Go.RowKit Lab Pth
theorem label_any (x : Int) (y : Nat) (w : World) : Calls Tryz.prog 19 #[.int .i64 x, .int .u64 (y : Nat)] w fun e w' => e = .returned (.agg (lab x y)) ∧ Below w.heap.size w w' := by
  have h1 := Go.heap_alloc_new w (.cells (lab 0 0) 34)
  have k1 : Below w.heap.size w (w.alloc (.cells (lab 0 0) 34)) := (Below.refl _ _).alloc (Nat.le_refl _) _
  obtain ⟨W1, hW1⟩ : ∃ W1, W1 = w.alloc (.cells (lab 0 0) 34) := ⟨_, rfl⟩
  rw [← hW1] at h1 k1
  have HW1 : Hid (w.alloc (.cells #[.int .i64 0, .int .u64 0] 34) = W1) := by show _ = _; rw [hW1]; rfl
  have H1 := Lib.hid h1
  have K1 := Lib.hid k1
  clear h1 k1 hW1
  go_enter Tryz.func19, Tryz.ntmps19
  go_upto_region 1 with fail
  rw [HW1.out]
  go_wp2_with (refine wpList_store_row rfl 34 (.tmp 4) (.tmp 7) rfl w.heap.size (lab x y) rfl rfl 34 _ H1.out infoL rfl (lab_one _ _) ?_)
  exact bodyPost_ret (v := .agg (lab x y)) (results_cell_row rfl _ _ w.heap.size 34 _ (0, 0) _ rfl (setRow_at H1.out) Tryz.underlying34 rfl infoL) rfl ⟨rfl, Lab.below_setRow K1.out (Nat.le_refl _) _⟩
def givenL : List Rl := [⟨⟨#[]⟩, 1, 0⟩, ⟨⟨#[97]⟩, 2, 1⟩, ⟨⟨#[97, 47, 98]⟩, 0, 0⟩]
abbrev given9 : Array Value := #[.string ⟨#[]⟩, .int .i64 1, .int .u64 0, .string ⟨#[97]⟩, .int .i64 2, .int .u64 1, .string ⟨#[97, 47, 98]⟩, .int .i64 0, .int .u64 0]
theorem given_rows {w : World} {g : Nat} (h : w.heap[g]? = some (.cells given9 48 (0, 0))) : Ruls w (some ⟨g, 0, none⟩) 3 givenL := by
  refine ⟨Nat.le_refl _, (fun h => by cases h), fun _ => ⟨g, 0, rfl, (Array.getElem?_eq_some_iff.1 h).1, fun i x hx j v hv => ?_⟩⟩
  rw [cell_row h]
  have hi := (List.getElem?_eq_some_iff.1 hx).1
  have hj : j < 3 := by have := (List.getElem?_eq_some_iff.1 hv).1; simpa using this
  have hi3 : i < 3 := hi
  have ci : i = 0 ∨ i = 1 ∨ i = 2 := by omega
  have cj : j = 0 ∨ j = 1 ∨ j = 2 := by omega
  rcases ci with rfl | rfl | rfl <;> (obtain rfl := Option.some.inj hx; rcases cj with rfl | rfl | rfl <;> exact hv)
set_option maxRecDepth 100000 in
set_option maxHeartbeats 1000000 in
theorem given_any (w : World) : Calls Tryz.prog 17 #[] w fun e w' => ∃ b, e = .returned (.agg (tabV 3 (some ⟨b, 0, none⟩) 3 3)) ∧ Ruls w' (some ⟨b, 0, none⟩) 3 givenL ∧ Below w.heap.size w w' := by
  have h1 := Go.heap_alloc_new w (.cells (tabV 0 none 0 0) 24)
  have k1 : Below w.heap.size w (w.alloc (.cells (tabV 0 none 0 0) 24)) := (Below.refl _ _).alloc (Nat.le_refl _) _
  obtain ⟨W1, hW1⟩ : ∃ W1, W1 = w.alloc (.cells (tabV 0 none 0 0) 24) := ⟨_, rfl⟩
  rw [← hW1] at h1 k1
  have HW1 : Hid (w.alloc (.cells #[.int .i64 0, .slice none 0 0] 24) = W1) := by show _ = _; rw [hW1]
  have H1 := Lib.hid h1
  have K1 := Lib.hid k1
  clear h1 k1 hW1
  go_enter Tryz.func17, Tryz.ntmps17
  go_upto_region 1 with fail
  rw [HW1.out]
  go_wp2_with (first
    | (refine (label_any 1 0 W1).mono ?_; rintro e w2 ⟨rfl, low2⟩; have Low2 := Lib.hid low2; have H2 := Lib.hid ((low2.block _ (Array.getElem?_eq_some_iff.1 H1.out).1).trans H1.out); clear low2)
    | (refine (label_any 2 1 w2).mono ?_; rintro e w3 ⟨rfl, low3⟩; have Low3 := Lib.hid low3; have H3 := Lib.hid ((low3.block _ (Array.getElem?_eq_some_iff.1 H2.out).1).trans H2.out); clear low3)
    | (refine wpList_store_row rfl 24 (.tmp 0) (.tmp 7) rfl w.heap.size (tabV 3 (some ⟨w3.heap.size, 0, none⟩) 3 3) rfl rfl 24 _ ((Go.heap_alloc_old _ _ (Array.getElem?_eq_some_iff.1 H3.out).1).trans H3.out) infoT rfl (tab_one ..) ?_))
  have hlt : w.heap.size < w3.heap.size := (Array.getElem?_eq_some_iff.1 H3.out).1
  obtain ⟨w4, hw4⟩ : ∃ w4, w4 = w3.alloc (.cells given9 48) := ⟨_, rfl⟩
  have h4 : w4.heap[w.heap.size]? = some (.cells (tabV 0 none 0 0) 24 (0, 0)) := by rw [hw4]; exact (Go.heap_alloc_old _ _ hlt).trans H3.out
  have b4 : w4.heap[w3.heap.size]? = some (.cells given9 48 (0, 0)) := by rw [hw4]; exact Go.heap_alloc_new w3 _
  have l4 : Below w.heap.size w w4 := by
    have l3 : Below w.heap.size w w3 := K1.out.trans ((Low2.out.trans (Low3.out.mono Low2.out.size)).mono K1.out.size)
    rw [hw4]; exact l3.alloc l3.size _
  change bodyPost _ _ _ _ _ ((w3.alloc (.cells given9 48)).setRow _ _)
  rw [← hw4]
  exact bodyPost_ret (v := .agg (tabV 3 (some ⟨w3.heap.size, 0, none⟩) 3 3)) (results_cell_row rfl _ _ w.heap.size 24 _ (0, 0) _ rfl (setRow_at h4) Tryz.underlying24 rfl infoT) rfl ⟨_, rfl, given_rows (by rw [setRow_ne (by omega)]; exact b4), Lab.below_setRow l4 (Nat.le_refl _) _⟩
/-- in awake's worlds the chapter's table stands. -/
structure GW (b g : Nat) (wb W : World) : Prop where
  rows : Ruls wb (some ⟨b, 0, none⟩) 3 givenL
  low : Below wb.heap.size wb W
  laid : Laid W
  box : W.heap[g]? = some (.cells (tabV 3 (some ⟨b, 0, none⟩) 3 3) 24 (0, 0))
theorem GW.later {b g : Nat} {wb W W' : World} (h : GW b g wb W) (hb : Below W.heap.size W W') : GW b g wb W' :=
  ⟨h.rows, h.low.trans (hb.mono h.low.size), h.laid.below hb (Nat.le_refl _), (hb.block _ (Array.getElem?_eq_some_iff.1 h.box).1).trans h.box⟩
theorem GW.c0 {b g : Nat} {wb W : World} (h : GW b g wb W) : W.cell? ⟨g, 0, none⟩ = some (.int .i64 3) := cell_row h.box 0
theorem GW.c1 {b g : Nat} {wb W : World} (h : GW b g wb W) : W.cell? ⟨g, 1, none⟩ = some (.slice (some ⟨b, 0, none⟩) 3 3) := cell_row h.box 1
theorem givenZ : ∀ r ∈ givenL, r.p.size ≤ 1000 := by
  intro r hr
  simp only [givenL, List.mem_cons, List.mem_nil_iff, or_false] at hr
  rcases hr with rfl | rfl | rfl <;> decide
theorem givenOk : Okay 3 givenL := by
  refine ⟨by decide, by decide, fun i r hi hr => ?_⟩
  have hi3 : i < 3 := hi
  have ci : i = 0 ∨ i = 1 ∨ i = 2 := by omega
  rcases ci with rfl | rfl | rfl
  · obtain rfl := Option.some.inj hr
    exact ⟨by decide +kernel, fun x h => absurd h (Nat.lt_irrefl 0)⟩
  · obtain rfl := Option.some.inj hr
    exact ⟨by decide +kernel, fun x _ hx => by obtain rfl := Option.some.inj hx; decide +kernel⟩
  · obtain rfl := Option.some.inj hr
    exact ⟨by decide +kernel, fun x _ hx => by obtain rfl := Option.some.inj hx; decide +kernel⟩
theorem gfind {b g : Nat} {wb W : World} (s : ByteArray) (h : GW b g wb W) (hs : s.size ≤ 1000) : Calls Tryz.prog 10 #[.agg (tabV 3 (some ⟨b, 0, none⟩) 3 3), .string s] W fun e w' => e = .returned (.agg (lab (find s givenL).1 (find s givenL).2)) ∧ GW b g wb w' :=
  (find_any 3 _ 3 3 givenL s wb W rfl h.rows h.low h.laid givenZ hs (by decide)).mono fun _ _ ⟨he, hb⟩ => ⟨he, h.later hb⟩
theorem gcheck {b g : Nat} {wb W : World} (h : GW b g wb W) : Calls Tryz.prog 7 #[.agg (tabV 3 (some ⟨b, 0, none⟩) 3 3)] W fun e w' => e = .returned (.int .i64 0) ∧ GW b g wb w' :=
  (tcheck_any 3 _ 3 3 givenL wb W rfl h.rows h.low h.laid givenZ (by decide)).mono fun _ _ ⟨z, he, _, hz, hb⟩ => ⟨by rw [he, hz.2 givenOk], h.later hb⟩
theorem glabel {b g : Nat} {wb W : World} (x : Int) (y : Nat) (h : GW b g wb W) : Calls Tryz.prog 19 #[.int .i64 x, .int .u64 (y : Nat)] W fun e w' => e = .returned (.agg (lab x y)) ∧ GW b g wb w' :=
  (label_any x y W).mono fun _ _ ⟨he, hb⟩ => ⟨he, h.later hb⟩
theorem f1 : find ⟨#[120]⟩ givenL = (1, 0) := by decide +kernel
theorem f2 : find ⟨#[97, 98]⟩ givenL = (1, 0) := by decide +kernel
theorem f3 : find ⟨#[97, 47, 99]⟩ givenL = (2, 1) := by decide +kernel
theorem f4 : find ⟨#[97, 47, 98, 47, 99]⟩ givenL = (0, 0) := by decide +kernel
set_option maxRecDepth 100000 in
set_option maxHeartbeats 1000000 in
theorem awake_any (w : World) (hL : Laid w) : Calls Tryz.prog 6 #[] w fun e w' => e = .returned (.bool true) ∧ Below w.heap.size w w' := by
  have HL := Lib.hid hL
  clear hL
  go_enter Tryz.func6, Tryz.ntmps6
  go_upto_region 2 with (first
    | (go_at_call 17; refine (given_any w).mono ?_; rintro e w1 ⟨b, rfl, rows, low⟩; have Rows := Lib.hid rows; have Low := Lib.hid low; clear rows low)
    | (refine wpList_store_row rfl 24 (.tmp 1) (.tmp 2) rfl w1.heap.size (tabV 3 (some ⟨b, 0, none⟩) 3 3) rfl rfl 24 _ (Go.heap_alloc_new w1 _) infoT rfl (tab_one ..) ?_; rw [World.setRow_alloc_new]))
  obtain ⟨w2, hw2⟩ : ∃ w2, w2 = w1.alloc (.cells (tabV 3 (some ⟨b, 0, none⟩) 3 3) 24) := ⟨_, rfl⟩
  have hl1 : Laid w1 := HL.out.below Low.out (Nat.le_refl _)
  have k2 : Below w1.heap.size w1 w2 := by rw [hw2]; exact (Below.refl _ _).alloc (Nat.le_refl _) _
  have hg : GW b w1.heap.size w1 w2 := ⟨Rows.out, k2, hl1.below k2 (Nat.le_refl _), by rw [hw2]; exact Go.heap_alloc_new w1 _⟩
  rw [← hw2]
  have HG := Lib.hid hg
  clear hw2 hg k2 hl1
  go_wp2_with (first
    | (refine wpList_load_row rfl 24 (.tmp 1) rfl w1.heap.size rfl 24 (tabV 3 (some ⟨b, 0, none⟩) 3 3) (0, 0) _ HG.out.box Tryz.underlying24 rfl infoT ?_)
    | (go_at_call 7; refine (gcheck HG.out).mono ?_; rintro e W ⟨rfl, hg⟩; have HG := Lib.hid hg; have cT0 := hg.c0; have cT1 := hg.c1; clear hg)
    | (go_at_call 10; refine (gfind _ HG.out (by decide)).mono ?_; (first | rw [f1] | rw [f2] | rw [f3] | rw [f4]); rintro e W ⟨rfl, hg⟩; have HG := Lib.hid hg; have cT0 := hg.c0; have cT1 := hg.c1; clear hg)
    | (go_at_call 19; first | (refine (glabel 1 0 HG.out).mono ?_; rintro e W ⟨rfl, hg⟩; have HG := Lib.hid hg; have cT0 := hg.c0; have cT1 := hg.c1; clear hg) | (refine (glabel 2 1 HG.out).mono ?_; rintro e W ⟨rfl, hg⟩; have HG := Lib.hid hg; have cT0 := hg.c0; have cT1 := hg.c1; clear hg) | (refine (glabel 0 0 HG.out).mono ?_; rintro e W ⟨rfl, hg⟩; have HG := Lib.hid hg; have cT0 := hg.c0; have cT1 := hg.c1; clear hg)))
  go_ret
  exact ⟨rfl, Low.out.trans (HG.out.low.mono Low.out.size)⟩
end Go.Proofs.YtmbcojpdigoojaaGreatDoor.Rul
