/- DERIVED. The walk of LabelKnown. -/
import Derived.Test.YtlojepagolkehaaDoorLabParses
import Derived.Test.YtlojepagolkehaaDoorLabSorted
namespace Go.Proofs.YtlojepagolkehaaDoor.Lab
open Go.RowKit Str
/-- the box of the label that was read. -/
structure BoxAt (g : Nat) (w : World) : Prop where
  row : w.heap[g]? = some (.cells #[.int .i64 15, .int .u64 18446744073709551615] 24 (0, 0))
theorem BoxAt.later {g : Nat} {w w' : World} (h : BoxAt g w) (hb : Below w.heap.size w w') : BoxAt g w' :=
  ⟨(hb.block _ (Array.getElem?_eq_some_iff.1 h.row).1).trans h.row⟩
/-- the three labels in order. -/
structure LsAt (g : Nat) (w : World) : Prop where
  c0 : w.cell? ⟨g, 0, none⟩ = some (.int .i64 1)
  c1 : w.cell? ⟨g, 1, none⟩ = some (.int .u64 3)
  c2 : w.cell? ⟨g, 2, none⟩ = some (.int .i64 1)
  c3 : w.cell? ⟨g, 3, none⟩ = some (.int .u64 9)
  c4 : w.cell? ⟨g, 4, none⟩ = some (.int .i64 2)
  c5 : w.cell? ⟨g, 5, none⟩ = some (.int .u64 0)
  lt : g < w.heap.size
theorem LsAt.later {g : Nat} {w w' : World} (h : LsAt g w) (hb : Below w.heap.size w w') : LsAt g w' :=
  ⟨(hb.cell (p := ⟨g, 0, none⟩) h.lt).trans h.c0, (hb.cell (p := ⟨g, 1, none⟩) h.lt).trans h.c1, (hb.cell (p := ⟨g, 2, none⟩) h.lt).trans h.c2, (hb.cell (p := ⟨g, 3, none⟩) h.lt).trans h.c3, (hb.cell (p := ⟨g, 4, none⟩) h.lt).trans h.c4, (hb.cell (p := ⟨g, 5, none⟩) h.lt).trans h.c5, Nat.lt_of_lt_of_le h.lt hb.size⟩
/-- the law's memory. -/
structure KS (w0 w : World) : Prop where
  lk : LK w
  low : Below w0.heap.size w0 w
theorem KS.later {w0 w w' : World} (h : KS w0 w) (hb : Below w.heap.size w w') : KS w0 w' := ⟨h.lk.later hb, h.low.trans (hb.mono h.low.size)⟩
theorem rg2 {g o : Nat} {a c : Int} {w w' : World} (hb : Below w.heap.size w w') (hg : g < w.heap.size) (h0 : w.cell? ⟨g, o, none⟩ = some (.int .i64 a)) (h1 : w.cell? ⟨g, o + 1, none⟩ = some (.int .u64 c)) : w'.rangeAt g o [.int .i64 a, .int .u64 c] := fun j v hv => by
  match j with
  | 0 => cases hv; exact (hb.cell (p := ⟨g, o, none⟩) hg).trans h0
  | 1 => cases hv; exact (hb.cell (p := ⟨g, o + 1, none⟩) hg).trans h1
  | j + 2 => cases hv
def x4 : List (Int × Nat) := [(2, 0), (1, 9), (2, 0), (1, 3)]
theorem x4_ref : refL x4 = [(1, 3), (1, 9), (2, 0)] := by kernel_rfl
theorem sort4 (w : World) : Calls Tryd.prog 5 #[.slice (some ⟨w.heap.size, 0, none⟩) 4 4] (w.alloc (.cells #[.int .i64 2, .int .u64 0, .int .i64 1, .int .u64 9, .int .i64 2, .int .u64 0, .int .i64 1, .int .u64 3] 24)) fun e w' => ∃ g c, e = .returned (.slice (some ⟨g, 0, none⟩) 3 c) ∧ LsAt g w' ∧ 3 ≤ c ∧ Below w.heap.size w w' := by
  have hrow := Go.heap_alloc_new w (.cells #[.int .i64 2, .int .u64 0, .int .i64 1, .int .u64 9, .int .i64 2, .int .u64 0, .int .i64 1, .int .u64 3] 24)
  have hlow : Below w.heap.size w (w.alloc (.cells #[.int .i64 2, .int .u64 0, .int .i64 1, .int .u64 9, .int .i64 2, .int .u64 0, .int .i64 1, .int .u64 3] 24)) := (Below.refl _ _).alloc (Nat.le_refl _) _
  obtain ⟨w1, hw1⟩ : ∃ w1, w1 = w.alloc (.cells #[.int .i64 2, .int .u64 0, .int .i64 1, .int .u64 9, .int .i64 2, .int .u64 0, .int .i64 1, .int .u64 3] 24) := ⟨_, rfl⟩
  rw [← hw1] at hrow hlow ⊢
  have hX : Labs w1 (some ⟨w.heap.size, 0, none⟩) 4 x4 := by
    refine ⟨Nat.le_refl _, (fun h => by cases h), fun _ => ⟨_, 0, rfl, (Array.getElem?_eq_some_iff.1 hrow).1, fun i x hx j v hv => ?_⟩⟩
    rw [cell_row hrow]
    have hi := (List.getElem?_eq_some_iff.1 hx).1
    have hj : j < 2 := by have := (List.getElem?_eq_some_iff.1 hv).1; simpa using this
    have hi4 : i = 0 ∨ i = 1 ∨ i = 2 ∨ i = 3 := by simp [x4] at hi; omega
    have hj2 : j = 0 ∨ j = 1 := by omega
    rcases hi4 with rfl | rfl | rfl | rfl <;> (cases hx; rcases hj2 with rfl | rfl <;> (cases hv; rfl))
  refine (sorted_any _ 4 4 x4 rfl (by decide) w1 hX (.inr ⟨_, _, rfl⟩)).mono ?_
  rintro e w' ⟨v, rfl, ho, hb⟩
  rw [x4_ref] at ho
  rcases ho.2 with ⟨_, h0⟩ | ⟨g, cap, cur, hv, _, hg, hn, _, hs, ht⟩
  · cases h0
  · subst hv
    have hc : ∀ j, j < 6 → w'.cell? ⟨g, j, none⟩ = (flatP [(1, 3), (1, 9), (2, 0)])[j]? := fun j hj => by
      rw [cell_row hg, ← ht, List.getElem?_take, if_pos (by simpa using hj)]
      simp
    exact ⟨g, cap, rfl, ⟨hc 0 (by decide), hc 1 (by decide), hc 2 (by decide), hc 3 (by decide), hc 4 (by decide), hc 5 (by decide), (Array.getElem?_eq_some_iff.1 hg).1⟩, hn, hlow.trans (hb.mono hlow.size)⟩
theorem below_20 (w : World) : Calls Tryd.prog 8 #[.agg #[.int .i64 2, .int .u64 0], .agg #[.int .i64 1, .int .u64 0]] w fun e w' => e = .returned (.bool false) ∧ Below w.heap.size w w' := below_any 2 1 0 0 (by decide) (by decide) w
theorem meet_13 (w : World) : Calls Tryd.prog 9 #[.agg #[.int .i64 1, .int .u64 3], .agg #[.int .i64 2, .int .u64 5]] w fun e w' => e = .returned (.agg #[.int .i64 1, .int .u64 1]) ∧ Below w.heap.size w w' := meet_any 1 2 3 5 (by decide) (by decide) w
theorem text_16 (w : World) : Calls Tryd.prog 10 #[.agg #[.int .i64 16, .int .u64 0]] w fun e w' => e = .returned (.string ⟨#[63]⟩) ∧ Below w.heap.size w w' := text_bad 16 (by decide) 0 w
theorem text_m1 (w : World) : Calls Tryd.prog 10 #[.agg #[.int .i64 (-1), .int .u64 0]] w fun e w' => e = .returned (.string ⟨#[63]⟩) ∧ Below w.heap.size w w' := text_bad (-1) (by decide) 0 w
theorem check_16 (w : World) : Calls Tryd.prog 13 #[.agg #[.int .i64 16, .int .u64 0]] w fun e w' => e = .returned (.int .i64 2) ∧ Below w.heap.size w w' := check_any 16 0 w
theorem check_15 (w : World) : Calls Tryd.prog 13 #[.agg #[.int .i64 15, .int .u64 0]] w fun e w' => e = .returned (.int .i64 0) ∧ Below w.heap.size w w' := check_any 15 0 w
set_option maxRecDepth 100000 in
set_option maxHeartbeats 8000000 in
theorem known_walk (w : World) (hL : LK w) : Calls Tryd.prog 3 #[] w fun e w' => e = .returned (.bool true) ∧ Below w.heap.size w w' := by
  have HL := Lib.hid hL
  clear hL
  go_enter Tryd.func3, Tryd.ntmps3
  go_upto_region 2 with (go_at_call 4; refine (p_top w HL.out).mono ?_; rintro e w1 ⟨rfl, hb1⟩; have K1 : Hid (KS w w1) := ⟨HL.out.later hb1, hb1⟩; clear hb1)
  have hrow := Go.heap_alloc_new w1 (.cells #[.int .i64 15, .int .u64 18446744073709551615] 24)
  have hlow : Below w1.heap.size w1 (w1.alloc (.cells #[.int .i64 15, .int .u64 18446744073709551615] 24)) := (Below.refl _ _).alloc (Nat.le_refl _) _
  obtain ⟨w2, hw2⟩ : ∃ w2, w2 = w1.alloc (.cells #[.int .i64 15, .int .u64 18446744073709551615] 24) := ⟨_, rfl⟩
  rw [← hw2] at hrow hlow ⊢
  have HS := Lib.hid (K1.out.later hlow)
  have HB : Hid (BoxAt w1.heap.size w2) := ⟨hrow⟩
  clear hrow hlow hw2 K1 HL
  go_cut [3] from 8 to 13 (fun s3 wx => ∃ gl cl, s3 = .slice (some ⟨gl, 0, none⟩) 3 cl ∧ (3 ≤ cl ∧ KS w wx ∧ BoxAt w1.heap.size wx) ∧ LsAt gl wx)
  case first =>
    go_wp2_with (first
      | (go_at_call 6; with_reducible refine (of_any _ _ _).mono ?_; rintro e wn ⟨rfl, hb⟩; replace HS := Lib.hid (HS.out.later hb); replace HB := Lib.hid (HB.out.later hb); clear hb)
      | (go_at_call 5; refine (sort4 _).mono ?_; rintro e wl ⟨gl, cl, rfl, hl, hc, hb⟩; replace HS := Lib.hid (HS.out.later hb); replace HB := Lib.hid (HB.out.later hb); have HL := Lib.hid hl; clear hb hl))
    go_meet
    exact ⟨gl, cl, rfl, ⟨hc, HS.out, HB.out⟩, HL.out⟩
  case rest =>
    obtain ⟨gl, cl, rfl, ⟨hc, hs, hbx⟩, hl⟩ := hcut
    have HS3 := Lib.hid hs
    have HR := Lib.hid hbx.row
    have HL := Lib.hid hl
    obtain ⟨gb, hgb⟩ : ∃ gb, gb = w1.heap.size := ⟨_, rfl⟩
    rw [← hgb] at HR ⊢
    clear hs hbx hl HS HB hgb
    rename World => wl
    go_upto_region 3 with (fail)
    have apx : apartB [14, 15, 16, 17, 18, 19, 20, 21, 22, 23, 24, 25, 26, 27, 28, 29, 30, 31, 32, 33, 34, 35, 36, 37, 38, 39, 40, 41, 42, 43, 44, 45, 46, 47, 48, 49, 50, 51, 52, 53, 54, 55, 56, 57, 58, 59, 60, 61, 62, 63, 64, 65, 66, 67, 68, 69, 70, 71, 72, 73, 74, 75, 76, 77, 78, 79, 80, 81, 82, 83, 84, 85, 86, 87, 88, 89, 90, 91, 92, 93, 94, 95, 96, 97, 98, 99, 100, 101, 102, 103, 0] = true := by decide
    refine wp_region_any (by kernel_rfl) ?_
    change wpAny _ _ _ _ _ _ _ (World.drew _)
    refine wpAny_inv (fun ll aa wx => Hid (ll.size = 91 ∧ Below wl.heap.size wl wx) ∧ ∃ (z : Nat → Value), Hid (aa = ⟨#[z 0, .pointer (some ⟨gb, 0, none⟩), .int .i64 0, .slice (some ⟨gl, 0, none⟩) 3 cl, .tuple #[.agg #[.int .i64 15, .int .u64 18446744073709551615], .int .i64 0], .tuple #[.agg #[.int .i64 15, .int .u64 18446744073709551615], .int .i64 0], .agg #[.int .i64 15, .int .u64 18446744073709551615], .int .i64 0, u8, u9, u10, u11, u12, u13, z 14, z 15, z 16, z 17, z 18, z 19, z 20, z 21, z 22, z 23, z 24, z 25, z 26, z 27, z 28, z 29, z 30, z 31, z 32, z 33, z 34, z 35, z 36, z 37, z 38, z 39, z 40, z 41, z 42, z 43, z 44, z 45, z 46, z 47, z 48, z 49, z 50, z 51, z 52, z 53, z 54, z 55, z 56, z 57, z 58, z 59, z 60, z 61, z 62, z 63, z 64, z 65, z 66, z 67, z 68, z 69, z 70, z 71, z 72, z 73, z 74, z 75, z 76, z 77, z 78, z 79, z 80, z 81, z 82, z 83, z 84, z 85, z 86, z 87, z 88, z 89, z 90, z 91, z 92, z 93, z 94, z 95, z 96, z 97, z 98, z 99, z 100, z 101, z 102, z 103], []⟩) ∧ Holding [14, 15, 16, 17, 18, 19, 20, 21, 22, 23, 24, 25, 26, 27, 28, 29, 30, 31, 32, 33, 34, 35, 36, 37, 38, 39, 40, 41, 42, 43, 44, 45, 46, 47, 48, 49, 50, 51, 52, 53, 54, 55, 56, 57, 58, 59, 60, 61, 62, 63, 64, 65, 66, 67, 68, 69, 70, 71, 72, 73, 74, 75, 76, 77, 78, 79, 80, 81, 82, 83, 84, 85, 86, 87, 88, 89, 90, 91, 92, 93, 94, 95, 96, 97, 98, 99, 100, 101, 102, 103, 0] [some (.bool true), some (.bool true), some (.agg #[.int .i64 2, .int .u64 0]), some (.agg #[.int .i64 1, .int .u64 0]), some (.bool false), some (.bool true), some (.bool true), some (.bool true), some (.agg #[.int .i64 1, .int .u64 3]), some (.agg #[.int .i64 2, .int .u64 5]), some (.agg #[.int .i64 1, .int .u64 1]), some (.agg #[.int .i64 1, .int .u64 1]), some (.bool true), some (.bool true), some (.bool true), some (.agg #[.int .i64 16, .int .u64 0]), some (.string ⟨#[63]⟩), some (.bool true), some (.bool true), some (.bool true), some (.agg #[.int .i64 (-1), .int .u64 0]), some (.string ⟨#[63]⟩), some (.bool true), some (.bool true), some (.bool true), some (.int .i64 0), some (.bool true), some (.bool true), some (.bool true), some (.agg #[.int .i64 15, .int .u64 18446744073709551615]), some (.agg #[.int .i64 15, .int .u64 18446744073709551615]), some (.bool true), some (.bool true), some (.bool true), some (.bool true), some (.bool true), some (.bool true), some (.bool true), some (.bool true), some (.bool true), some (.bool true), some (.bool true), some (.bool true), some (.bool true), some (.bool true), some (.bool true), some (.bool true), some (.bool true), some (.bool true), some (.bool true), some (.bool true), some (.bool true), some (.bool true), some (.bool true), some (.bool true), some (.slice (some ⟨gl, 0, none⟩) 3 cl), some (.int .i64 3), some (.bool true), some (.bool true), some (.bool true), some (.slice (some ⟨gl, 0, none⟩) 3 cl), some (.pointer (some ⟨gl, 0, none⟩)), some (.agg #[.int .i64 1, .int .u64 3]), some (.agg #[.int .i64 1, .int .u64 3]), some (.bool true), some (.bool true), some (.bool true), some (.slice (some ⟨gl, 0, none⟩) 3 cl), some (.pointer (some ⟨gl, 2, none⟩)), some (.agg #[.int .i64 1, .int .u64 9]), some (.agg #[.int .i64 1, .int .u64 9]), some (.bool true), some (.bool true), some (.bool true), some (.slice (some ⟨gl, 0, none⟩) 3 cl), some (.pointer (some ⟨gl, 4, none⟩)), some (.agg #[.int .i64 2, .int .u64 0]), some (.agg #[.int .i64 2, .int .u64 0]), some (.bool true), some (.bool true), some (.bool true), some (.agg #[.int .i64 16, .int .u64 0]), some (.int .i64 2), some (.bool true), some (.bool true), some (.bool true), some (.agg #[.int .i64 15, .int .u64 0]), some (.int .i64 0), some (.bool true), some (.bool true), some (.bool true)] ll z) ?_ (by kernel_rfl) ?_ ?_ _ _ _ _ (unlisted_none _) ?_
    · rintro ll aa wx ⟨hI, _⟩
      exact hI.out.1
    · rintro ll aa wx ⟨hI, z, ha, hz⟩ hall
      have hx := Lib.hid hI.out.2
      have e0 : z 14 = .bool true := hz 0 _ (hall 0 (by decide)) rfl
      have e1 : z 15 = .bool true := hz 1 _ (hall 1 (by decide)) rfl
      have e2 : z 16 = .agg #[.int .i64 2, .int .u64 0] := hz 2 _ (hall 2 (by decide)) rfl
      have e3 : z 17 = .agg #[.int .i64 1, .int .u64 0] := hz 3 _ (hall 3 (by decide)) rfl
      have e4 : z 18 = .bool false := hz 4 _ (hall 4 (by decide)) rfl
      have e5 : z 19 = .bool true := hz 5 _ (hall 5 (by decide)) rfl
      have e6 : z 20 = .bool true := hz 6 _ (hall 6 (by decide)) rfl
      have e7 : z 21 = .bool true := hz 7 _ (hall 7 (by decide)) rfl
      have e8 : z 22 = .agg #[.int .i64 1, .int .u64 3] := hz 8 _ (hall 8 (by decide)) rfl
      have e9 : z 23 = .agg #[.int .i64 2, .int .u64 5] := hz 9 _ (hall 9 (by decide)) rfl
      have e10 : z 24 = .agg #[.int .i64 1, .int .u64 1] := hz 10 _ (hall 10 (by decide)) rfl
      have e11 : z 25 = .agg #[.int .i64 1, .int .u64 1] := hz 11 _ (hall 11 (by decide)) rfl
      have e12 : z 26 = .bool true := hz 12 _ (hall 12 (by decide)) rfl
      have e13 : z 27 = .bool true := hz 13 _ (hall 13 (by decide)) rfl
      have e14 : z 28 = .bool true := hz 14 _ (hall 14 (by decide)) rfl
      have e15 : z 29 = .agg #[.int .i64 16, .int .u64 0] := hz 15 _ (hall 15 (by decide)) rfl
      have e16 : z 30 = .string ⟨#[63]⟩ := hz 16 _ (hall 16 (by decide)) rfl
      have e17 : z 31 = .bool true := hz 17 _ (hall 17 (by decide)) rfl
      have e18 : z 32 = .bool true := hz 18 _ (hall 18 (by decide)) rfl
      have e19 : z 33 = .bool true := hz 19 _ (hall 19 (by decide)) rfl
      have e20 : z 34 = .agg #[.int .i64 (-1), .int .u64 0] := hz 20 _ (hall 20 (by decide)) rfl
      have e21 : z 35 = .string ⟨#[63]⟩ := hz 21 _ (hall 21 (by decide)) rfl
      have e22 : z 36 = .bool true := hz 22 _ (hall 22 (by decide)) rfl
      have e23 : z 37 = .bool true := hz 23 _ (hall 23 (by decide)) rfl
      have e24 : z 38 = .bool true := hz 24 _ (hall 24 (by decide)) rfl
      have e25 : z 39 = .int .i64 0 := hz 25 _ (hall 25 (by decide)) rfl
      have e26 : z 40 = .bool true := hz 26 _ (hall 26 (by decide)) rfl
      have e27 : z 41 = .bool true := hz 27 _ (hall 27 (by decide)) rfl
      have e28 : z 42 = .bool true := hz 28 _ (hall 28 (by decide)) rfl
      have e29 : z 43 = .agg #[.int .i64 15, .int .u64 18446744073709551615] := hz 29 _ (hall 29 (by decide)) rfl
      have e30 : z 44 = .agg #[.int .i64 15, .int .u64 18446744073709551615] := hz 30 _ (hall 30 (by decide)) rfl
      have e31 : z 45 = .bool true := hz 31 _ (hall 31 (by decide)) rfl
      have e32 : z 46 = .bool true := hz 32 _ (hall 32 (by decide)) rfl
      have e33 : z 47 = .bool true := hz 33 _ (hall 33 (by decide)) rfl
      have e34 : z 48 = .bool true := hz 34 _ (hall 34 (by decide)) rfl
      have e35 : z 49 = .bool true := hz 35 _ (hall 35 (by decide)) rfl
      have e36 : z 50 = .bool true := hz 36 _ (hall 36 (by decide)) rfl
      have e37 : z 51 = .bool true := hz 37 _ (hall 37 (by decide)) rfl
      have e38 : z 52 = .bool true := hz 38 _ (hall 38 (by decide)) rfl
      have e39 : z 53 = .bool true := hz 39 _ (hall 39 (by decide)) rfl
      have e40 : z 54 = .bool true := hz 40 _ (hall 40 (by decide)) rfl
      have e41 : z 55 = .bool true := hz 41 _ (hall 41 (by decide)) rfl
      have e42 : z 56 = .bool true := hz 42 _ (hall 42 (by decide)) rfl
      have e43 : z 57 = .bool true := hz 43 _ (hall 43 (by decide)) rfl
      have e44 : z 58 = .bool true := hz 44 _ (hall 44 (by decide)) rfl
      have e45 : z 59 = .bool true := hz 45 _ (hall 45 (by decide)) rfl
      have e46 : z 60 = .bool true := hz 46 _ (hall 46 (by decide)) rfl
      have e47 : z 61 = .bool true := hz 47 _ (hall 47 (by decide)) rfl
      have e48 : z 62 = .bool true := hz 48 _ (hall 48 (by decide)) rfl
      have e49 : z 63 = .bool true := hz 49 _ (hall 49 (by decide)) rfl
      have e50 : z 64 = .bool true := hz 50 _ (hall 50 (by decide)) rfl
      have e51 : z 65 = .bool true := hz 51 _ (hall 51 (by decide)) rfl
      have e52 : z 66 = .bool true := hz 52 _ (hall 52 (by decide)) rfl
      have e53 : z 67 = .bool true := hz 53 _ (hall 53 (by decide)) rfl
      have e54 : z 68 = .bool true := hz 54 _ (hall 54 (by decide)) rfl
      have e55 : z 69 = .slice (some ⟨gl, 0, none⟩) 3 cl := hz 55 _ (hall 55 (by decide)) rfl
      have e56 : z 70 = .int .i64 3 := hz 56 _ (hall 56 (by decide)) rfl
      have e57 : z 71 = .bool true := hz 57 _ (hall 57 (by decide)) rfl
      have e58 : z 72 = .bool true := hz 58 _ (hall 58 (by decide)) rfl
      have e59 : z 73 = .bool true := hz 59 _ (hall 59 (by decide)) rfl
      have e60 : z 74 = .slice (some ⟨gl, 0, none⟩) 3 cl := hz 60 _ (hall 60 (by decide)) rfl
      have e61 : z 75 = .pointer (some ⟨gl, 0, none⟩) := hz 61 _ (hall 61 (by decide)) rfl
      have e62 : z 76 = .agg #[.int .i64 1, .int .u64 3] := hz 62 _ (hall 62 (by decide)) rfl
      have e63 : z 77 = .agg #[.int .i64 1, .int .u64 3] := hz 63 _ (hall 63 (by decide)) rfl
      have e64 : z 78 = .bool true := hz 64 _ (hall 64 (by decide)) rfl
      have e65 : z 79 = .bool true := hz 65 _ (hall 65 (by decide)) rfl
      have e66 : z 80 = .bool true := hz 66 _ (hall 66 (by decide)) rfl
      have e67 : z 81 = .slice (some ⟨gl, 0, none⟩) 3 cl := hz 67 _ (hall 67 (by decide)) rfl
      have e68 : z 82 = .pointer (some ⟨gl, 2, none⟩) := hz 68 _ (hall 68 (by decide)) rfl
      have e69 : z 83 = .agg #[.int .i64 1, .int .u64 9] := hz 69 _ (hall 69 (by decide)) rfl
      have e70 : z 84 = .agg #[.int .i64 1, .int .u64 9] := hz 70 _ (hall 70 (by decide)) rfl
      have e71 : z 85 = .bool true := hz 71 _ (hall 71 (by decide)) rfl
      have e72 : z 86 = .bool true := hz 72 _ (hall 72 (by decide)) rfl
      have e73 : z 87 = .bool true := hz 73 _ (hall 73 (by decide)) rfl
      have e74 : z 88 = .slice (some ⟨gl, 0, none⟩) 3 cl := hz 74 _ (hall 74 (by decide)) rfl
      have e75 : z 89 = .pointer (some ⟨gl, 4, none⟩) := hz 75 _ (hall 75 (by decide)) rfl
      have e76 : z 90 = .agg #[.int .i64 2, .int .u64 0] := hz 76 _ (hall 76 (by decide)) rfl
      have e77 : z 91 = .agg #[.int .i64 2, .int .u64 0] := hz 77 _ (hall 77 (by decide)) rfl
      have e78 : z 92 = .bool true := hz 78 _ (hall 78 (by decide)) rfl
      have e79 : z 93 = .bool true := hz 79 _ (hall 79 (by decide)) rfl
      have e80 : z 94 = .bool true := hz 80 _ (hall 80 (by decide)) rfl
      have e81 : z 95 = .agg #[.int .i64 16, .int .u64 0] := hz 81 _ (hall 81 (by decide)) rfl
      have e82 : z 96 = .int .i64 2 := hz 82 _ (hall 82 (by decide)) rfl
      have e83 : z 97 = .bool true := hz 83 _ (hall 83 (by decide)) rfl
      have e84 : z 98 = .bool true := hz 84 _ (hall 84 (by decide)) rfl
      have e85 : z 99 = .bool true := hz 85 _ (hall 85 (by decide)) rfl
      have e86 : z 100 = .agg #[.int .i64 15, .int .u64 0] := hz 86 _ (hall 86 (by decide)) rfl
      have e87 : z 101 = .int .i64 0 := hz 87 _ (hall 87 (by decide)) rfl
      have e88 : z 102 = .bool true := hz 88 _ (hall 88 (by decide)) rfl
      have e89 : z 103 = .bool true := hz 89 _ (hall 89 (by decide)) rfl
      have e90 : z 0 = .bool true := hz 90 _ (hall 90 (by decide)) rfl
      clear hall hz hI 
      obtain rfl := ha.out
      clear ha
      clear apx
      have E := Lib.hid e90
      have HX := Lib.hid (HS3.out.low.trans (hx.out.mono HS3.out.low.size))
      clear e0 e1 e2 e3 e4 e5 e6 e7 e8 e9 e10 e11 e12 e13 e14 e15 e16 e17 e18 e19 e20 e21 e22 e23 e24 e25 e26 e27 e28 e29 e30 e31 e32 e33 e34 e35 e36 e37 e38 e39 e40 e41 e42 e43 e44 e45 e46 e47 e48 e49 e50 e51 e52 e53 e54 e55 e56 e57 e58 e59 e60 e61 e62 e63 e64 e65 e66 e67 e68 e69 e70 e71 e72 e73 e74 e75 e76 e77 e78 e79 e80 e81 e82 e83 e84 e85 e86 e87 e88 e89 e90 hx
      dsimp only
      rw [E.out]
      go_wp2
      go_ret
      exact ⟨rfl, HX.out⟩
    · rintro ll aa wx i ⟨hI, z, ha, hz⟩ hi hu hw
      obtain rfl := ha.out
      have hsz := Lib.hid hI.out.1
      have hx := Lib.hid hI.out.2
      clear ha hI
      have hin : i < 91 := hi
      obtain rfl | rfl | rfl | rfl | rfl | rfl | rfl | rfl | rfl | rfl | rfl | rfl | rfl | rfl | rfl | rfl | rfl | rfl | rfl | rfl | rfl | rfl | rfl | rfl | rfl | rfl | rfl | rfl | rfl | rfl | rfl | rfl | rfl | rfl | rfl | rfl | rfl | rfl | rfl | rfl | rfl | rfl | rfl | rfl | rfl | rfl | rfl | rfl | rfl | rfl | rfl | rfl | rfl | rfl | rfl | rfl | rfl | rfl | rfl | rfl | rfl | rfl | rfl | rfl | rfl | rfl | rfl | rfl | rfl | rfl | rfl | rfl | rfl | rfl | rfl | rfl | rfl | rfl | rfl | rfl | rfl | rfl | rfl | rfl | rfl | rfl | rfl | rfl | rfl | rfl | rfl : i = 0 ∨ i = 1 ∨ i = 2 ∨ i = 3 ∨ i = 4 ∨ i = 5 ∨ i = 6 ∨ i = 7 ∨ i = 8 ∨ i = 9 ∨ i = 10 ∨ i = 11 ∨ i = 12 ∨ i = 13 ∨ i = 14 ∨ i = 15 ∨ i = 16 ∨ i = 17 ∨ i = 18 ∨ i = 19 ∨ i = 20 ∨ i = 21 ∨ i = 22 ∨ i = 23 ∨ i = 24 ∨ i = 25 ∨ i = 26 ∨ i = 27 ∨ i = 28 ∨ i = 29 ∨ i = 30 ∨ i = 31 ∨ i = 32 ∨ i = 33 ∨ i = 34 ∨ i = 35 ∨ i = 36 ∨ i = 37 ∨ i = 38 ∨ i = 39 ∨ i = 40 ∨ i = 41 ∨ i = 42 ∨ i = 43 ∨ i = 44 ∨ i = 45 ∨ i = 46 ∨ i = 47 ∨ i = 48 ∨ i = 49 ∨ i = 50 ∨ i = 51 ∨ i = 52 ∨ i = 53 ∨ i = 54 ∨ i = 55 ∨ i = 56 ∨ i = 57 ∨ i = 58 ∨ i = 59 ∨ i = 60 ∨ i = 61 ∨ i = 62 ∨ i = 63 ∨ i = 64 ∨ i = 65 ∨ i = 66 ∨ i = 67 ∨ i = 68 ∨ i = 69 ∨ i = 70 ∨ i = 71 ∨ i = 72 ∨ i = 73 ∨ i = 74 ∨ i = 75 ∨ i = 76 ∨ i = 77 ∨ i = 78 ∨ i = 79 ∨ i = 80 ∨ i = 81 ∨ i = 82 ∨ i = 83 ∨ i = 84 ∨ i = 85 ∨ i = 86 ∨ i = 87 ∨ i = 88 ∨ i = 89 ∨ i = 90 := by omega
      · refine wpOp_plain rfl rfl ?_
        go_simp
        go_at_call 7
        refine (awake_any _ (HS3.out.later hx.out).lk.1).mono ?_
        rintro e w8 ⟨rfl, hb8⟩
        exact ⟨⟨by simp [hsz.out], hx.out.trans (hb8.mono hx.out.size)⟩, upd z 14 (.bool true), (by unfold Hid; simp [upd]), hz.next apx hsz.out 0 (by decide) _ (fun _ h => Option.some.inj h)⟩
      · have e0 : z 14 = .bool true := hz 0 _ (hw 0 (by kernel_rfl)) rfl
        refine wpOp_plain rfl rfl ?_
        go_simp
        exact ⟨⟨by simp [hsz.out], hx.out⟩, upd z 15 (.bool true), (by unfold Hid; simp [upd, e0]), hz.next apx hsz.out 1 (by decide) _ (fun _ h => Option.some.inj h)⟩
      · have e1 : z 15 = .bool true := hz 1 _ (hw 1 (by kernel_rfl)) rfl
        refine wpOp_want rfl (by simp [Region.wanted, yielded, e1]) ?_
        go_simp
        go_at_call 6
        refine (of_any _ _ _).mono ?_
        rintro e w8 ⟨rfl, hb8⟩
        exact ⟨⟨by simp [hsz.out], hx.out.trans (hb8.mono hx.out.size)⟩, upd z 16 (.agg #[.int .i64 2, .int .u64 0]), (by unfold Hid; simp [upd, e1]), hz.next apx hsz.out 2 (by decide) _ (fun _ h => Option.some.inj h)⟩
      · have e1 : z 15 = .bool true := hz 1 _ (hw 1 (by kernel_rfl)) rfl
        refine wpOp_want rfl (by simp [Region.wanted, yielded, e1]) ?_
        go_simp
        go_at_call 6
        refine (of_any _ _ _).mono ?_
        rintro e w8 ⟨rfl, hb8⟩
        exact ⟨⟨by simp [hsz.out], hx.out.trans (hb8.mono hx.out.size)⟩, upd z 17 (.agg #[.int .i64 1, .int .u64 0]), (by unfold Hid; simp [upd, e1]), hz.next apx hsz.out 3 (by decide) _ (fun _ h => Option.some.inj h)⟩
      · have e1 : z 15 = .bool true := hz 1 _ (hw 1 (by kernel_rfl)) rfl
        have e2 : z 16 = .agg #[.int .i64 2, .int .u64 0] := hz 2 _ (hw 2 (by kernel_rfl)) rfl
        have e3 : z 17 = .agg #[.int .i64 1, .int .u64 0] := hz 3 _ (hw 3 (by kernel_rfl)) rfl
        refine wpOp_want rfl (by simp [Region.wanted, yielded, e1]) ?_
        go_simp
        go_at_call 8
        refine (below_20 _).mono ?_
        rintro e w8 ⟨rfl, hb8⟩
        exact ⟨⟨by simp [hsz.out], hx.out.trans (hb8.mono hx.out.size)⟩, upd z 18 (.bool false), (by unfold Hid; simp [upd, e1, e2, e3]), hz.next apx hsz.out 4 (by decide) _ (fun _ h => Option.some.inj h)⟩
      · have e1 : z 15 = .bool true := hz 1 _ (hw 1 (by kernel_rfl)) rfl
        have e4 : z 18 = .bool false := hz 4 _ (hw 4 (by kernel_rfl)) rfl
        refine wpOp_want rfl (by simp [Region.wanted, yielded, e1]) ?_
        go_simp
        exact ⟨⟨by simp [hsz.out], hx.out⟩, upd z 19 (.bool true), (by unfold Hid; simp [upd, e1, e4]), hz.next apx hsz.out 5 (by decide) _ (fun _ h => Option.some.inj h)⟩
      · have e1 : z 15 = .bool true := hz 1 _ (hw 1 (by kernel_rfl)) rfl
        have e5 : z 19 = .bool true := hz 5 _ (hw 5 (by kernel_rfl)) rfl
        refine wpOp_plain rfl rfl ?_
        go_simp
        exact ⟨⟨by simp [hsz.out], hx.out⟩, upd z 20 (.bool true), (by unfold Hid; simp [upd, e1, e5]), hz.next apx hsz.out 6 (by decide) _ (fun _ h => Option.some.inj h)⟩
      · have e6 : z 20 = .bool true := hz 6 _ (hw 6 (by kernel_rfl)) rfl
        refine wpOp_plain rfl rfl ?_
        go_simp
        exact ⟨⟨by simp [hsz.out], hx.out⟩, upd z 21 (.bool true), (by unfold Hid; simp [upd, e6]), hz.next apx hsz.out 7 (by decide) _ (fun _ h => Option.some.inj h)⟩
      · have e7 : z 21 = .bool true := hz 7 _ (hw 7 (by kernel_rfl)) rfl
        refine wpOp_want rfl (by simp [Region.wanted, yielded, e7]) ?_
        go_simp
        go_at_call 6
        refine (of_any _ _ _).mono ?_
        rintro e w8 ⟨rfl, hb8⟩
        exact ⟨⟨by simp [hsz.out], hx.out.trans (hb8.mono hx.out.size)⟩, upd z 22 (.agg #[.int .i64 1, .int .u64 3]), (by unfold Hid; simp [upd, e7]), hz.next apx hsz.out 8 (by decide) _ (fun _ h => Option.some.inj h)⟩
      · have e7 : z 21 = .bool true := hz 7 _ (hw 7 (by kernel_rfl)) rfl
        refine wpOp_want rfl (by simp [Region.wanted, yielded, e7]) ?_
        go_simp
        go_at_call 6
        refine (of_any _ _ _).mono ?_
        rintro e w8 ⟨rfl, hb8⟩
        exact ⟨⟨by simp [hsz.out], hx.out.trans (hb8.mono hx.out.size)⟩, upd z 23 (.agg #[.int .i64 2, .int .u64 5]), (by unfold Hid; simp [upd, e7]), hz.next apx hsz.out 9 (by decide) _ (fun _ h => Option.some.inj h)⟩
      · have e7 : z 21 = .bool true := hz 7 _ (hw 7 (by kernel_rfl)) rfl
        have e8 : z 22 = .agg #[.int .i64 1, .int .u64 3] := hz 8 _ (hw 8 (by kernel_rfl)) rfl
        have e9 : z 23 = .agg #[.int .i64 2, .int .u64 5] := hz 9 _ (hw 9 (by kernel_rfl)) rfl
        refine wpOp_want rfl (by simp [Region.wanted, yielded, e7]) ?_
        go_simp
        go_at_call 9
        refine (meet_13 _).mono ?_
        rintro e w8 ⟨rfl, hb8⟩
        exact ⟨⟨by simp [hsz.out], hx.out.trans (hb8.mono hx.out.size)⟩, upd z 24 (.agg #[.int .i64 1, .int .u64 1]), (by unfold Hid; simp [upd, e7, e8, e9]), hz.next apx hsz.out 10 (by decide) _ (fun _ h => Option.some.inj h)⟩
      · have e7 : z 21 = .bool true := hz 7 _ (hw 7 (by kernel_rfl)) rfl
        refine wpOp_want rfl (by simp [Region.wanted, yielded, e7]) ?_
        go_simp
        go_at_call 6
        refine (of_any _ _ _).mono ?_
        rintro e w8 ⟨rfl, hb8⟩
        exact ⟨⟨by simp [hsz.out], hx.out.trans (hb8.mono hx.out.size)⟩, upd z 25 (.agg #[.int .i64 1, .int .u64 1]), (by unfold Hid; simp [upd, e7]), hz.next apx hsz.out 11 (by decide) _ (fun _ h => Option.some.inj h)⟩
      · have e7 : z 21 = .bool true := hz 7 _ (hw 7 (by kernel_rfl)) rfl
        have e10 : z 24 = .agg #[.int .i64 1, .int .u64 1] := hz 10 _ (hw 10 (by kernel_rfl)) rfl
        have e11 : z 25 = .agg #[.int .i64 1, .int .u64 1] := hz 11 _ (hw 11 (by kernel_rfl)) rfl
        refine wpOp_want rfl (by simp [Region.wanted, yielded, e7]) ?_
        go_simp
        exact ⟨⟨by simp [hsz.out], hx.out⟩, upd z 26 (.bool true), (by unfold Hid; simp [upd, e7, e10, e11]), hz.next apx hsz.out 12 (by decide) _ (fun _ h => Option.some.inj h)⟩
      · have e7 : z 21 = .bool true := hz 7 _ (hw 7 (by kernel_rfl)) rfl
        have e12 : z 26 = .bool true := hz 12 _ (hw 12 (by kernel_rfl)) rfl
        refine wpOp_plain rfl rfl ?_
        go_simp
        exact ⟨⟨by simp [hsz.out], hx.out⟩, upd z 27 (.bool true), (by unfold Hid; simp [upd, e7, e12]), hz.next apx hsz.out 13 (by decide) _ (fun _ h => Option.some.inj h)⟩
      · have e13 : z 27 = .bool true := hz 13 _ (hw 13 (by kernel_rfl)) rfl
        refine wpOp_plain rfl rfl ?_
        go_simp
        exact ⟨⟨by simp [hsz.out], hx.out⟩, upd z 28 (.bool true), (by unfold Hid; simp [upd, e13]), hz.next apx hsz.out 14 (by decide) _ (fun _ h => Option.some.inj h)⟩
      · have e14 : z 28 = .bool true := hz 14 _ (hw 14 (by kernel_rfl)) rfl
        refine wpOp_want rfl (by simp [Region.wanted, yielded, e14]) ?_
        go_simp
        go_at_call 6
        refine (of_any _ _ _).mono ?_
        rintro e w8 ⟨rfl, hb8⟩
        exact ⟨⟨by simp [hsz.out], hx.out.trans (hb8.mono hx.out.size)⟩, upd z 29 (.agg #[.int .i64 16, .int .u64 0]), (by unfold Hid; simp [upd, e14]), hz.next apx hsz.out 15 (by decide) _ (fun _ h => Option.some.inj h)⟩
      · have e14 : z 28 = .bool true := hz 14 _ (hw 14 (by kernel_rfl)) rfl
        have e15 : z 29 = .agg #[.int .i64 16, .int .u64 0] := hz 15 _ (hw 15 (by kernel_rfl)) rfl
        refine wpOp_want rfl (by simp [Region.wanted, yielded, e14]) ?_
        go_simp
        go_at_call 10
        refine (text_16 _).mono ?_
        rintro e w8 ⟨rfl, hb8⟩
        exact ⟨⟨by simp [hsz.out], hx.out.trans (hb8.mono hx.out.size)⟩, upd z 30 (.string ⟨#[63]⟩), (by unfold Hid; simp [upd, e14, e15]), hz.next apx hsz.out 16 (by decide) _ (fun _ h => Option.some.inj h)⟩
      · have e14 : z 28 = .bool true := hz 14 _ (hw 14 (by kernel_rfl)) rfl
        have e16 : z 30 = .string ⟨#[63]⟩ := hz 16 _ (hw 16 (by kernel_rfl)) rfl
        refine wpOp_want rfl (by simp [Region.wanted, yielded, e14]) ?_
        go_simp
        exact ⟨⟨by simp [hsz.out], hx.out⟩, upd z 31 (.bool true), (by unfold Hid; simp [upd, e14, e16]), hz.next apx hsz.out 17 (by decide) _ (fun _ h => Option.some.inj h)⟩
      · have e14 : z 28 = .bool true := hz 14 _ (hw 14 (by kernel_rfl)) rfl
        have e17 : z 31 = .bool true := hz 17 _ (hw 17 (by kernel_rfl)) rfl
        refine wpOp_plain rfl rfl ?_
        go_simp
        exact ⟨⟨by simp [hsz.out], hx.out⟩, upd z 32 (.bool true), (by unfold Hid; simp [upd, e14, e17]), hz.next apx hsz.out 18 (by decide) _ (fun _ h => Option.some.inj h)⟩
      · have e18 : z 32 = .bool true := hz 18 _ (hw 18 (by kernel_rfl)) rfl
        refine wpOp_plain rfl rfl ?_
        go_simp
        exact ⟨⟨by simp [hsz.out], hx.out⟩, upd z 33 (.bool true), (by unfold Hid; simp [upd, e18]), hz.next apx hsz.out 19 (by decide) _ (fun _ h => Option.some.inj h)⟩
      · have e19 : z 33 = .bool true := hz 19 _ (hw 19 (by kernel_rfl)) rfl
        refine wpOp_want rfl (by simp [Region.wanted, yielded, e19]) ?_
        go_simp
        go_at_call 6
        refine (of_any _ _ _).mono ?_
        rintro e w8 ⟨rfl, hb8⟩
        exact ⟨⟨by simp [hsz.out], hx.out.trans (hb8.mono hx.out.size)⟩, upd z 34 (.agg #[.int .i64 (-1), .int .u64 0]), (by unfold Hid; simp [upd, e19]), hz.next apx hsz.out 20 (by decide) _ (fun _ h => Option.some.inj h)⟩
      · have e19 : z 33 = .bool true := hz 19 _ (hw 19 (by kernel_rfl)) rfl
        have e20 : z 34 = .agg #[.int .i64 (-1), .int .u64 0] := hz 20 _ (hw 20 (by kernel_rfl)) rfl
        refine wpOp_want rfl (by simp [Region.wanted, yielded, e19]) ?_
        go_simp
        go_at_call 10
        refine (text_m1 _).mono ?_
        rintro e w8 ⟨rfl, hb8⟩
        exact ⟨⟨by simp [hsz.out], hx.out.trans (hb8.mono hx.out.size)⟩, upd z 35 (.string ⟨#[63]⟩), (by unfold Hid; simp [upd, e19, e20]), hz.next apx hsz.out 21 (by decide) _ (fun _ h => Option.some.inj h)⟩
      · have e19 : z 33 = .bool true := hz 19 _ (hw 19 (by kernel_rfl)) rfl
        have e21 : z 35 = .string ⟨#[63]⟩ := hz 21 _ (hw 21 (by kernel_rfl)) rfl
        refine wpOp_want rfl (by simp [Region.wanted, yielded, e19]) ?_
        go_simp
        exact ⟨⟨by simp [hsz.out], hx.out⟩, upd z 36 (.bool true), (by unfold Hid; simp [upd, e19, e21]), hz.next apx hsz.out 22 (by decide) _ (fun _ h => Option.some.inj h)⟩
      · have e19 : z 33 = .bool true := hz 19 _ (hw 19 (by kernel_rfl)) rfl
        have e22 : z 36 = .bool true := hz 22 _ (hw 22 (by kernel_rfl)) rfl
        refine wpOp_plain rfl rfl ?_
        go_simp
        exact ⟨⟨by simp [hsz.out], hx.out⟩, upd z 37 (.bool true), (by unfold Hid; simp [upd, e19, e22]), hz.next apx hsz.out 23 (by decide) _ (fun _ h => Option.some.inj h)⟩
      · have e23 : z 37 = .bool true := hz 23 _ (hw 23 (by kernel_rfl)) rfl
        refine wpOp_plain rfl rfl ?_
        go_simp
        exact ⟨⟨by simp [hsz.out], hx.out⟩, upd z 38 (.bool true), (by unfold Hid; simp [upd, e23]), hz.next apx hsz.out 24 (by decide) _ (fun _ h => Option.some.inj h)⟩
      · have e24 : z 38 = .bool true := hz 24 _ (hw 24 (by kernel_rfl)) rfl
        refine wpOp_want rfl (by simp [Region.wanted, yielded, e24]) ?_
        go_simp
        exact ⟨⟨by simp [hsz.out], hx.out⟩, upd z 39 (.int .i64 0), (by unfold Hid; simp [upd, e24]), hz.next apx hsz.out 25 (by decide) _ (fun _ h => Option.some.inj h)⟩
      · have e24 : z 38 = .bool true := hz 24 _ (hw 24 (by kernel_rfl)) rfl
        have e25 : z 39 = .int .i64 0 := hz 25 _ (hw 25 (by kernel_rfl)) rfl
        refine wpOp_want rfl (by simp [Region.wanted, yielded, e24]) ?_
        go_simp
        exact ⟨⟨by simp [hsz.out], hx.out⟩, upd z 40 (.bool true), (by unfold Hid; simp [upd, e24, e25]), hz.next apx hsz.out 26 (by decide) _ (fun _ h => Option.some.inj h)⟩
      · have e24 : z 38 = .bool true := hz 24 _ (hw 24 (by kernel_rfl)) rfl
        have e26 : z 40 = .bool true := hz 26 _ (hw 26 (by kernel_rfl)) rfl
        refine wpOp_plain rfl rfl ?_
        go_simp
        exact ⟨⟨by simp [hsz.out], hx.out⟩, upd z 41 (.bool true), (by unfold Hid; simp [upd, e24, e26]), hz.next apx hsz.out 27 (by decide) _ (fun _ h => Option.some.inj h)⟩
      · have e27 : z 41 = .bool true := hz 27 _ (hw 27 (by kernel_rfl)) rfl
        refine wpOp_plain rfl rfl ?_
        go_simp
        exact ⟨⟨by simp [hsz.out], hx.out⟩, upd z 42 (.bool true), (by unfold Hid; simp [upd, e27]), hz.next apx hsz.out 28 (by decide) _ (fun _ h => Option.some.inj h)⟩
      · have e28 : z 42 = .bool true := hz 28 _ (hw 28 (by kernel_rfl)) rfl
        have cl := (hx.out.block _ (Array.getElem?_eq_some_iff.1 HR.out).1).trans HR.out
        refine wpOp_want rfl (by simp [Region.wanted, yielded, e28]) (wp_load_row 24 (.tmp 1) rfl (gb) rfl 24 #[.int .i64 15, .int .u64 18446744073709551615] (0, 0) _ cl Tryd.underlying24 rfl infoL2 ?_)
        go_simp
        exact ⟨⟨by simp [hsz.out], hx.out⟩, upd z 43 (.agg #[.int .i64 15, .int .u64 18446744073709551615]), (by unfold Hid; simp [upd, e28]), hz.next apx hsz.out 29 (by decide) _ (fun _ h => Option.some.inj h)⟩
      · have e28 : z 42 = .bool true := hz 28 _ (hw 28 (by kernel_rfl)) rfl
        refine wpOp_want rfl (by simp [Region.wanted, yielded, e28]) ?_
        go_simp
        go_at_call 11
        refine (top_any _).mono ?_
        rintro e w8 ⟨rfl, hb8⟩
        exact ⟨⟨by simp [hsz.out], hx.out.trans (hb8.mono hx.out.size)⟩, upd z 44 (.agg #[.int .i64 15, .int .u64 18446744073709551615]), (by unfold Hid; simp [upd, e28]), hz.next apx hsz.out 30 (by decide) _ (fun _ h => Option.some.inj h)⟩
      · have e28 : z 42 = .bool true := hz 28 _ (hw 28 (by kernel_rfl)) rfl
        have e29 : z 43 = .agg #[.int .i64 15, .int .u64 18446744073709551615] := hz 29 _ (hw 29 (by kernel_rfl)) rfl
        have e30 : z 44 = .agg #[.int .i64 15, .int .u64 18446744073709551615] := hz 30 _ (hw 30 (by kernel_rfl)) rfl
        refine wpOp_want rfl (by simp [Region.wanted, yielded, e28]) ?_
        go_simp
        exact ⟨⟨by simp [hsz.out], hx.out⟩, upd z 45 (.bool true), (by unfold Hid; simp [upd, e28, e29, e30]), hz.next apx hsz.out 31 (by decide) _ (fun _ h => Option.some.inj h)⟩
      · have e28 : z 42 = .bool true := hz 28 _ (hw 28 (by kernel_rfl)) rfl
        have e31 : z 45 = .bool true := hz 31 _ (hw 31 (by kernel_rfl)) rfl
        refine wpOp_plain rfl rfl ?_
        go_simp
        exact ⟨⟨by simp [hsz.out], hx.out⟩, upd z 46 (.bool true), (by unfold Hid; simp [upd, e28, e31]), hz.next apx hsz.out 32 (by decide) _ (fun _ h => Option.some.inj h)⟩
      · have e32 : z 46 = .bool true := hz 32 _ (hw 32 (by kernel_rfl)) rfl
        refine wpOp_plain rfl rfl ?_
        go_simp
        exact ⟨⟨by simp [hsz.out], hx.out⟩, upd z 47 (.bool true), (by unfold Hid; simp [upd, e32]), hz.next apx hsz.out 33 (by decide) _ (fun _ h => Option.some.inj h)⟩
      · have e33 : z 47 = .bool true := hz 33 _ (hw 33 (by kernel_rfl)) rfl
        refine wpOp_want rfl (by simp [Region.wanted, yielded, e33]) ?_
        go_simp
        go_at_call 12
        refine (no_any ⟨#[51, 58, 48, 49]⟩ _ (p_301 _ (HS3.out.later hx.out).lk)).mono ?_
        rintro e w8 ⟨rfl, hb8⟩
        exact ⟨⟨by simp [hsz.out], hx.out.trans (hb8.mono hx.out.size)⟩, upd z 48 (.bool true), (by unfold Hid; simp [upd, e33]), hz.next apx hsz.out 34 (by decide) _ (fun _ h => Option.some.inj h)⟩
      · have e33 : z 47 = .bool true := hz 33 _ (hw 33 (by kernel_rfl)) rfl
        have e34 : z 48 = .bool true := hz 34 _ (hw 34 (by kernel_rfl)) rfl
        refine wpOp_plain rfl rfl ?_
        go_simp
        exact ⟨⟨by simp [hsz.out], hx.out⟩, upd z 49 (.bool true), (by unfold Hid; simp [upd, e33, e34]), hz.next apx hsz.out 35 (by decide) _ (fun _ h => Option.some.inj h)⟩
      · have e35 : z 49 = .bool true := hz 35 _ (hw 35 (by kernel_rfl)) rfl
        refine wpOp_plain rfl rfl ?_
        go_simp
        exact ⟨⟨by simp [hsz.out], hx.out⟩, upd z 50 (.bool true), (by unfold Hid; simp [upd, e35]), hz.next apx hsz.out 36 (by decide) _ (fun _ h => Option.some.inj h)⟩
      · have e36 : z 50 = .bool true := hz 36 _ (hw 36 (by kernel_rfl)) rfl
        refine wpOp_want rfl (by simp [Region.wanted, yielded, e36]) ?_
        go_simp
        go_at_call 12
        refine (no_any ⟨#[49, 54, 58, 48]⟩ _ (p_160 _ (HS3.out.later hx.out).lk)).mono ?_
        rintro e w8 ⟨rfl, hb8⟩
        exact ⟨⟨by simp [hsz.out], hx.out.trans (hb8.mono hx.out.size)⟩, upd z 51 (.bool true), (by unfold Hid; simp [upd, e36]), hz.next apx hsz.out 37 (by decide) _ (fun _ h => Option.some.inj h)⟩
      · have e36 : z 50 = .bool true := hz 36 _ (hw 36 (by kernel_rfl)) rfl
        have e37 : z 51 = .bool true := hz 37 _ (hw 37 (by kernel_rfl)) rfl
        refine wpOp_plain rfl rfl ?_
        go_simp
        exact ⟨⟨by simp [hsz.out], hx.out⟩, upd z 52 (.bool true), (by unfold Hid; simp [upd, e36, e37]), hz.next apx hsz.out 38 (by decide) _ (fun _ h => Option.some.inj h)⟩
      · have e38 : z 52 = .bool true := hz 38 _ (hw 38 (by kernel_rfl)) rfl
        refine wpOp_plain rfl rfl ?_
        go_simp
        exact ⟨⟨by simp [hsz.out], hx.out⟩, upd z 53 (.bool true), (by unfold Hid; simp [upd, e38]), hz.next apx hsz.out 39 (by decide) _ (fun _ h => Option.some.inj h)⟩
      · have e39 : z 53 = .bool true := hz 39 _ (hw 39 (by kernel_rfl)) rfl
        refine wpOp_want rfl (by simp [Region.wanted, yielded, e39]) ?_
        go_simp
        go_at_call 12
        refine (no_any ⟨#[58, 48]⟩ _ (p_c0 _ (HS3.out.later hx.out).lk)).mono ?_
        rintro e w8 ⟨rfl, hb8⟩
        exact ⟨⟨by simp [hsz.out], hx.out.trans (hb8.mono hx.out.size)⟩, upd z 54 (.bool true), (by unfold Hid; simp [upd, e39]), hz.next apx hsz.out 40 (by decide) _ (fun _ h => Option.some.inj h)⟩
      · have e39 : z 53 = .bool true := hz 39 _ (hw 39 (by kernel_rfl)) rfl
        have e40 : z 54 = .bool true := hz 40 _ (hw 40 (by kernel_rfl)) rfl
        refine wpOp_plain rfl rfl ?_
        go_simp
        exact ⟨⟨by simp [hsz.out], hx.out⟩, upd z 55 (.bool true), (by unfold Hid; simp [upd, e39, e40]), hz.next apx hsz.out 41 (by decide) _ (fun _ h => Option.some.inj h)⟩
      · have e41 : z 55 = .bool true := hz 41 _ (hw 41 (by kernel_rfl)) rfl
        refine wpOp_plain rfl rfl ?_
        go_simp
        exact ⟨⟨by simp [hsz.out], hx.out⟩, upd z 56 (.bool true), (by unfold Hid; simp [upd, e41]), hz.next apx hsz.out 42 (by decide) _ (fun _ h => Option.some.inj h)⟩
      · have e42 : z 56 = .bool true := hz 42 _ (hw 42 (by kernel_rfl)) rfl
        refine wpOp_want rfl (by simp [Region.wanted, yielded, e42]) ?_
        go_simp
        go_at_call 12
        refine (no_any ⟨#[]⟩ _ (p_e _ (HS3.out.later hx.out).lk)).mono ?_
        rintro e w8 ⟨rfl, hb8⟩
        exact ⟨⟨by simp [hsz.out], hx.out.trans (hb8.mono hx.out.size)⟩, upd z 57 (.bool true), (by unfold Hid; simp [upd, e42]), hz.next apx hsz.out 43 (by decide) _ (fun _ h => Option.some.inj h)⟩
      · have e42 : z 56 = .bool true := hz 42 _ (hw 42 (by kernel_rfl)) rfl
        have e43 : z 57 = .bool true := hz 43 _ (hw 43 (by kernel_rfl)) rfl
        refine wpOp_plain rfl rfl ?_
        go_simp
        exact ⟨⟨by simp [hsz.out], hx.out⟩, upd z 58 (.bool true), (by unfold Hid; simp [upd, e42, e43]), hz.next apx hsz.out 44 (by decide) _ (fun _ h => Option.some.inj h)⟩
      · have e44 : z 58 = .bool true := hz 44 _ (hw 44 (by kernel_rfl)) rfl
        refine wpOp_plain rfl rfl ?_
        go_simp
        exact ⟨⟨by simp [hsz.out], hx.out⟩, upd z 59 (.bool true), (by unfold Hid; simp [upd, e44]), hz.next apx hsz.out 45 (by decide) _ (fun _ h => Option.some.inj h)⟩
      · have e45 : z 59 = .bool true := hz 45 _ (hw 45 (by kernel_rfl)) rfl
        refine wpOp_want rfl (by simp [Region.wanted, yielded, e45]) ?_
        go_simp
        go_at_call 12
        refine (no_any ⟨#[49]⟩ _ (p_1 _ (HS3.out.later hx.out).lk)).mono ?_
        rintro e w8 ⟨rfl, hb8⟩
        exact ⟨⟨by simp [hsz.out], hx.out.trans (hb8.mono hx.out.size)⟩, upd z 60 (.bool true), (by unfold Hid; simp [upd, e45]), hz.next apx hsz.out 46 (by decide) _ (fun _ h => Option.some.inj h)⟩
      · have e45 : z 59 = .bool true := hz 45 _ (hw 45 (by kernel_rfl)) rfl
        have e46 : z 60 = .bool true := hz 46 _ (hw 46 (by kernel_rfl)) rfl
        refine wpOp_plain rfl rfl ?_
        go_simp
        exact ⟨⟨by simp [hsz.out], hx.out⟩, upd z 61 (.bool true), (by unfold Hid; simp [upd, e45, e46]), hz.next apx hsz.out 47 (by decide) _ (fun _ h => Option.some.inj h)⟩
      · have e47 : z 61 = .bool true := hz 47 _ (hw 47 (by kernel_rfl)) rfl
        refine wpOp_plain rfl rfl ?_
        go_simp
        exact ⟨⟨by simp [hsz.out], hx.out⟩, upd z 62 (.bool true), (by unfold Hid; simp [upd, e47]), hz.next apx hsz.out 48 (by decide) _ (fun _ h => Option.some.inj h)⟩
      · have e48 : z 62 = .bool true := hz 48 _ (hw 48 (by kernel_rfl)) rfl
        refine wpOp_want rfl (by simp [Region.wanted, yielded, e48]) ?_
        go_simp
        go_at_call 12
        refine (no_any ⟨#[49, 58]⟩ _ (p_1c _ (HS3.out.later hx.out).lk)).mono ?_
        rintro e w8 ⟨rfl, hb8⟩
        exact ⟨⟨by simp [hsz.out], hx.out.trans (hb8.mono hx.out.size)⟩, upd z 63 (.bool true), (by unfold Hid; simp [upd, e48]), hz.next apx hsz.out 49 (by decide) _ (fun _ h => Option.some.inj h)⟩
      · have e48 : z 62 = .bool true := hz 48 _ (hw 48 (by kernel_rfl)) rfl
        have e49 : z 63 = .bool true := hz 49 _ (hw 49 (by kernel_rfl)) rfl
        refine wpOp_plain rfl rfl ?_
        go_simp
        exact ⟨⟨by simp [hsz.out], hx.out⟩, upd z 64 (.bool true), (by unfold Hid; simp [upd, e48, e49]), hz.next apx hsz.out 50 (by decide) _ (fun _ h => Option.some.inj h)⟩
      · have e50 : z 64 = .bool true := hz 50 _ (hw 50 (by kernel_rfl)) rfl
        refine wpOp_plain rfl rfl ?_
        go_simp
        exact ⟨⟨by simp [hsz.out], hx.out⟩, upd z 65 (.bool true), (by unfold Hid; simp [upd, e50]), hz.next apx hsz.out 51 (by decide) _ (fun _ h => Option.some.inj h)⟩
      · have e51 : z 65 = .bool true := hz 51 _ (hw 51 (by kernel_rfl)) rfl
        refine wpOp_want rfl (by simp [Region.wanted, yielded, e51]) ?_
        go_simp
        go_at_call 12
        refine (no_any ⟨#[43, 49, 58, 48]⟩ _ (p_p10 _ (HS3.out.later hx.out).lk)).mono ?_
        rintro e w8 ⟨rfl, hb8⟩
        exact ⟨⟨by simp [hsz.out], hx.out.trans (hb8.mono hx.out.size)⟩, upd z 66 (.bool true), (by unfold Hid; simp [upd, e51]), hz.next apx hsz.out 52 (by decide) _ (fun _ h => Option.some.inj h)⟩
      · have e51 : z 65 = .bool true := hz 51 _ (hw 51 (by kernel_rfl)) rfl
        have e52 : z 66 = .bool true := hz 52 _ (hw 52 (by kernel_rfl)) rfl
        refine wpOp_plain rfl rfl ?_
        go_simp
        exact ⟨⟨by simp [hsz.out], hx.out⟩, upd z 67 (.bool true), (by unfold Hid; simp [upd, e51, e52]), hz.next apx hsz.out 53 (by decide) _ (fun _ h => Option.some.inj h)⟩
      · have e53 : z 67 = .bool true := hz 53 _ (hw 53 (by kernel_rfl)) rfl
        refine wpOp_plain rfl rfl ?_
        go_simp
        exact ⟨⟨by simp [hsz.out], hx.out⟩, upd z 68 (.bool true), (by unfold Hid; simp [upd, e53]), hz.next apx hsz.out 54 (by decide) _ (fun _ h => Option.some.inj h)⟩
      · have e54 : z 68 = .bool true := hz 54 _ (hw 54 (by kernel_rfl)) rfl
        refine wpOp_want rfl (by simp [Region.wanted, yielded, e54]) ?_
        go_simp
        exact ⟨⟨by simp [hsz.out], hx.out⟩, upd z 69 (.slice (some ⟨gl, 0, none⟩) 3 cl), (by unfold Hid; simp [upd, e54]), hz.next apx hsz.out 55 (by decide) _ (fun _ h => Option.some.inj h)⟩
      · have e54 : z 68 = .bool true := hz 54 _ (hw 54 (by kernel_rfl)) rfl
        have e55 : z 69 = .slice (some ⟨gl, 0, none⟩) 3 cl := hz 55 _ (hw 55 (by kernel_rfl)) rfl
        refine wpOp_want rfl (by simp [Region.wanted, yielded, e54]) ?_
        go_simp
        exact ⟨⟨by simp [hsz.out], hx.out⟩, upd z 70 (.int .i64 3), (by unfold Hid; simp [upd, e54, e55]), hz.next apx hsz.out 56 (by decide) _ (fun _ h => Option.some.inj h)⟩
      · have e54 : z 68 = .bool true := hz 54 _ (hw 54 (by kernel_rfl)) rfl
        have e56 : z 70 = .int .i64 3 := hz 56 _ (hw 56 (by kernel_rfl)) rfl
        refine wpOp_want rfl (by simp [Region.wanted, yielded, e54]) ?_
        go_simp
        exact ⟨⟨by simp [hsz.out], hx.out⟩, upd z 71 (.bool true), (by unfold Hid; simp [upd, e54, e56]), hz.next apx hsz.out 57 (by decide) _ (fun _ h => Option.some.inj h)⟩
      · have e54 : z 68 = .bool true := hz 54 _ (hw 54 (by kernel_rfl)) rfl
        have e57 : z 71 = .bool true := hz 57 _ (hw 57 (by kernel_rfl)) rfl
        refine wpOp_plain rfl rfl ?_
        go_simp
        exact ⟨⟨by simp [hsz.out], hx.out⟩, upd z 72 (.bool true), (by unfold Hid; simp [upd, e54, e57]), hz.next apx hsz.out 58 (by decide) _ (fun _ h => Option.some.inj h)⟩
      · have e58 : z 72 = .bool true := hz 58 _ (hw 58 (by kernel_rfl)) rfl
        refine wpOp_plain rfl rfl ?_
        go_simp
        exact ⟨⟨by simp [hsz.out], hx.out⟩, upd z 73 (.bool true), (by unfold Hid; simp [upd, e58]), hz.next apx hsz.out 59 (by decide) _ (fun _ h => Option.some.inj h)⟩
      · have e59 : z 73 = .bool true := hz 59 _ (hw 59 (by kernel_rfl)) rfl
        refine wpOp_want rfl (by simp [Region.wanted, yielded, e59]) ?_
        go_simp
        exact ⟨⟨by simp [hsz.out], hx.out⟩, upd z 74 (.slice (some ⟨gl, 0, none⟩) 3 cl), (by unfold Hid; simp [upd, e59]), hz.next apx hsz.out 60 (by decide) _ (fun _ h => Option.some.inj h)⟩
      · have e59 : z 73 = .bool true := hz 59 _ (hw 59 (by kernel_rfl)) rfl
        have e60 : z 74 = .slice (some ⟨gl, 0, none⟩) 3 cl := hz 60 _ (hw 60 (by kernel_rfl)) rfl
        refine wpOp_want rfl (by simp [Region.wanted, yielded, e59]) ?_
        go_simp
        exact ⟨⟨by simp [hsz.out], hx.out⟩, upd z 75 (.pointer (some ⟨gl, 0, none⟩)), (by unfold Hid; simp [upd, e59, e60]), hz.next apx hsz.out 61 (by decide) _ (fun _ h => Option.some.inj h)⟩
      · have e59 : z 73 = .bool true := hz 59 _ (hw 59 (by kernel_rfl)) rfl
        have e61 : z 75 = .pointer (some ⟨gl, 0, none⟩) := hz 61 _ (hw 61 (by kernel_rfl)) rfl
        have rg := rg2 (hx.out) HL.out.lt HL.out.c0 HL.out.c1
        refine wpOp_want rfl (by simp [Region.wanted, yielded, e59]) (wp_load_mid 24 (.tmp 75) rfl gl 0 (e61) [.int .i64 1, .int .u64 3] _ rg Tryd.underlying24 rfl infoL2 ?_)
        go_simp
        exact ⟨⟨by simp [hsz.out], hx.out⟩, upd z 76 (.agg #[.int .i64 1, .int .u64 3]), (by unfold Hid; simp [upd, e59, e61]), hz.next apx hsz.out 62 (by decide) _ (fun _ h => Option.some.inj h)⟩
      · have e59 : z 73 = .bool true := hz 59 _ (hw 59 (by kernel_rfl)) rfl
        refine wpOp_want rfl (by simp [Region.wanted, yielded, e59]) ?_
        go_simp
        go_at_call 6
        refine (of_any _ _ _).mono ?_
        rintro e w8 ⟨rfl, hb8⟩
        exact ⟨⟨by simp [hsz.out], hx.out.trans (hb8.mono hx.out.size)⟩, upd z 77 (.agg #[.int .i64 1, .int .u64 3]), (by unfold Hid; simp [upd, e59]), hz.next apx hsz.out 63 (by decide) _ (fun _ h => Option.some.inj h)⟩
      · have e59 : z 73 = .bool true := hz 59 _ (hw 59 (by kernel_rfl)) rfl
        have e62 : z 76 = .agg #[.int .i64 1, .int .u64 3] := hz 62 _ (hw 62 (by kernel_rfl)) rfl
        have e63 : z 77 = .agg #[.int .i64 1, .int .u64 3] := hz 63 _ (hw 63 (by kernel_rfl)) rfl
        refine wpOp_want rfl (by simp [Region.wanted, yielded, e59]) ?_
        go_simp
        exact ⟨⟨by simp [hsz.out], hx.out⟩, upd z 78 (.bool true), (by unfold Hid; simp [upd, e59, e62, e63]), hz.next apx hsz.out 64 (by decide) _ (fun _ h => Option.some.inj h)⟩
      · have e59 : z 73 = .bool true := hz 59 _ (hw 59 (by kernel_rfl)) rfl
        have e64 : z 78 = .bool true := hz 64 _ (hw 64 (by kernel_rfl)) rfl
        refine wpOp_plain rfl rfl ?_
        go_simp
        exact ⟨⟨by simp [hsz.out], hx.out⟩, upd z 79 (.bool true), (by unfold Hid; simp [upd, e59, e64]), hz.next apx hsz.out 65 (by decide) _ (fun _ h => Option.some.inj h)⟩
      · have e65 : z 79 = .bool true := hz 65 _ (hw 65 (by kernel_rfl)) rfl
        refine wpOp_plain rfl rfl ?_
        go_simp
        exact ⟨⟨by simp [hsz.out], hx.out⟩, upd z 80 (.bool true), (by unfold Hid; simp [upd, e65]), hz.next apx hsz.out 66 (by decide) _ (fun _ h => Option.some.inj h)⟩
      · have e66 : z 80 = .bool true := hz 66 _ (hw 66 (by kernel_rfl)) rfl
        refine wpOp_want rfl (by simp [Region.wanted, yielded, e66]) ?_
        go_simp
        exact ⟨⟨by simp [hsz.out], hx.out⟩, upd z 81 (.slice (some ⟨gl, 0, none⟩) 3 cl), (by unfold Hid; simp [upd, e66]), hz.next apx hsz.out 67 (by decide) _ (fun _ h => Option.some.inj h)⟩
      · have e66 : z 80 = .bool true := hz 66 _ (hw 66 (by kernel_rfl)) rfl
        have e67 : z 81 = .slice (some ⟨gl, 0, none⟩) 3 cl := hz 67 _ (hw 67 (by kernel_rfl)) rfl
        refine wpOp_want rfl (by simp [Region.wanted, yielded, e66]) ?_
        go_simp
        exact ⟨⟨by simp [hsz.out], hx.out⟩, upd z 82 (.pointer (some ⟨gl, 2, none⟩)), (by unfold Hid; simp [upd, e66, e67]), hz.next apx hsz.out 68 (by decide) _ (fun _ h => Option.some.inj h)⟩
      · have e66 : z 80 = .bool true := hz 66 _ (hw 66 (by kernel_rfl)) rfl
        have e68 : z 82 = .pointer (some ⟨gl, 2, none⟩) := hz 68 _ (hw 68 (by kernel_rfl)) rfl
        have rg := rg2 (hx.out) HL.out.lt HL.out.c2 HL.out.c3
        refine wpOp_want rfl (by simp [Region.wanted, yielded, e66]) (wp_load_mid 24 (.tmp 82) rfl gl 2 (e68) [.int .i64 1, .int .u64 9] _ rg Tryd.underlying24 rfl infoL2 ?_)
        go_simp
        exact ⟨⟨by simp [hsz.out], hx.out⟩, upd z 83 (.agg #[.int .i64 1, .int .u64 9]), (by unfold Hid; simp [upd, e66, e68]), hz.next apx hsz.out 69 (by decide) _ (fun _ h => Option.some.inj h)⟩
      · have e66 : z 80 = .bool true := hz 66 _ (hw 66 (by kernel_rfl)) rfl
        refine wpOp_want rfl (by simp [Region.wanted, yielded, e66]) ?_
        go_simp
        go_at_call 6
        refine (of_any _ _ _).mono ?_
        rintro e w8 ⟨rfl, hb8⟩
        exact ⟨⟨by simp [hsz.out], hx.out.trans (hb8.mono hx.out.size)⟩, upd z 84 (.agg #[.int .i64 1, .int .u64 9]), (by unfold Hid; simp [upd, e66]), hz.next apx hsz.out 70 (by decide) _ (fun _ h => Option.some.inj h)⟩
      · have e66 : z 80 = .bool true := hz 66 _ (hw 66 (by kernel_rfl)) rfl
        have e69 : z 83 = .agg #[.int .i64 1, .int .u64 9] := hz 69 _ (hw 69 (by kernel_rfl)) rfl
        have e70 : z 84 = .agg #[.int .i64 1, .int .u64 9] := hz 70 _ (hw 70 (by kernel_rfl)) rfl
        refine wpOp_want rfl (by simp [Region.wanted, yielded, e66]) ?_
        go_simp
        exact ⟨⟨by simp [hsz.out], hx.out⟩, upd z 85 (.bool true), (by unfold Hid; simp [upd, e66, e69, e70]), hz.next apx hsz.out 71 (by decide) _ (fun _ h => Option.some.inj h)⟩
      · have e66 : z 80 = .bool true := hz 66 _ (hw 66 (by kernel_rfl)) rfl
        have e71 : z 85 = .bool true := hz 71 _ (hw 71 (by kernel_rfl)) rfl
        refine wpOp_plain rfl rfl ?_
        go_simp
        exact ⟨⟨by simp [hsz.out], hx.out⟩, upd z 86 (.bool true), (by unfold Hid; simp [upd, e66, e71]), hz.next apx hsz.out 72 (by decide) _ (fun _ h => Option.some.inj h)⟩
      · have e72 : z 86 = .bool true := hz 72 _ (hw 72 (by kernel_rfl)) rfl
        refine wpOp_plain rfl rfl ?_
        go_simp
        exact ⟨⟨by simp [hsz.out], hx.out⟩, upd z 87 (.bool true), (by unfold Hid; simp [upd, e72]), hz.next apx hsz.out 73 (by decide) _ (fun _ h => Option.some.inj h)⟩
      · have e73 : z 87 = .bool true := hz 73 _ (hw 73 (by kernel_rfl)) rfl
        refine wpOp_want rfl (by simp [Region.wanted, yielded, e73]) ?_
        go_simp
        exact ⟨⟨by simp [hsz.out], hx.out⟩, upd z 88 (.slice (some ⟨gl, 0, none⟩) 3 cl), (by unfold Hid; simp [upd, e73]), hz.next apx hsz.out 74 (by decide) _ (fun _ h => Option.some.inj h)⟩
      · have e73 : z 87 = .bool true := hz 73 _ (hw 73 (by kernel_rfl)) rfl
        have e74 : z 88 = .slice (some ⟨gl, 0, none⟩) 3 cl := hz 74 _ (hw 74 (by kernel_rfl)) rfl
        refine wpOp_want rfl (by simp [Region.wanted, yielded, e73]) ?_
        go_simp
        exact ⟨⟨by simp [hsz.out], hx.out⟩, upd z 89 (.pointer (some ⟨gl, 4, none⟩)), (by unfold Hid; simp [upd, e73, e74]), hz.next apx hsz.out 75 (by decide) _ (fun _ h => Option.some.inj h)⟩
      · have e73 : z 87 = .bool true := hz 73 _ (hw 73 (by kernel_rfl)) rfl
        have e75 : z 89 = .pointer (some ⟨gl, 4, none⟩) := hz 75 _ (hw 75 (by kernel_rfl)) rfl
        have rg := rg2 (hx.out) HL.out.lt HL.out.c4 HL.out.c5
        refine wpOp_want rfl (by simp [Region.wanted, yielded, e73]) (wp_load_mid 24 (.tmp 89) rfl gl 4 (e75) [.int .i64 2, .int .u64 0] _ rg Tryd.underlying24 rfl infoL2 ?_)
        go_simp
        exact ⟨⟨by simp [hsz.out], hx.out⟩, upd z 90 (.agg #[.int .i64 2, .int .u64 0]), (by unfold Hid; simp [upd, e73, e75]), hz.next apx hsz.out 76 (by decide) _ (fun _ h => Option.some.inj h)⟩
      · have e73 : z 87 = .bool true := hz 73 _ (hw 73 (by kernel_rfl)) rfl
        refine wpOp_want rfl (by simp [Region.wanted, yielded, e73]) ?_
        go_simp
        go_at_call 6
        refine (of_any _ _ _).mono ?_
        rintro e w8 ⟨rfl, hb8⟩
        exact ⟨⟨by simp [hsz.out], hx.out.trans (hb8.mono hx.out.size)⟩, upd z 91 (.agg #[.int .i64 2, .int .u64 0]), (by unfold Hid; simp [upd, e73]), hz.next apx hsz.out 77 (by decide) _ (fun _ h => Option.some.inj h)⟩
      · have e73 : z 87 = .bool true := hz 73 _ (hw 73 (by kernel_rfl)) rfl
        have e76 : z 90 = .agg #[.int .i64 2, .int .u64 0] := hz 76 _ (hw 76 (by kernel_rfl)) rfl
        have e77 : z 91 = .agg #[.int .i64 2, .int .u64 0] := hz 77 _ (hw 77 (by kernel_rfl)) rfl
        refine wpOp_want rfl (by simp [Region.wanted, yielded, e73]) ?_
        go_simp
        exact ⟨⟨by simp [hsz.out], hx.out⟩, upd z 92 (.bool true), (by unfold Hid; simp [upd, e73, e76, e77]), hz.next apx hsz.out 78 (by decide) _ (fun _ h => Option.some.inj h)⟩
      · have e73 : z 87 = .bool true := hz 73 _ (hw 73 (by kernel_rfl)) rfl
        have e78 : z 92 = .bool true := hz 78 _ (hw 78 (by kernel_rfl)) rfl
        refine wpOp_plain rfl rfl ?_
        go_simp
        exact ⟨⟨by simp [hsz.out], hx.out⟩, upd z 93 (.bool true), (by unfold Hid; simp [upd, e73, e78]), hz.next apx hsz.out 79 (by decide) _ (fun _ h => Option.some.inj h)⟩
      · have e79 : z 93 = .bool true := hz 79 _ (hw 79 (by kernel_rfl)) rfl
        refine wpOp_plain rfl rfl ?_
        go_simp
        exact ⟨⟨by simp [hsz.out], hx.out⟩, upd z 94 (.bool true), (by unfold Hid; simp [upd, e79]), hz.next apx hsz.out 80 (by decide) _ (fun _ h => Option.some.inj h)⟩
      · have e80 : z 94 = .bool true := hz 80 _ (hw 80 (by kernel_rfl)) rfl
        refine wpOp_want rfl (by simp [Region.wanted, yielded, e80]) ?_
        go_simp
        go_at_call 6
        refine (of_any _ _ _).mono ?_
        rintro e w8 ⟨rfl, hb8⟩
        exact ⟨⟨by simp [hsz.out], hx.out.trans (hb8.mono hx.out.size)⟩, upd z 95 (.agg #[.int .i64 16, .int .u64 0]), (by unfold Hid; simp [upd, e80]), hz.next apx hsz.out 81 (by decide) _ (fun _ h => Option.some.inj h)⟩
      · have e80 : z 94 = .bool true := hz 80 _ (hw 80 (by kernel_rfl)) rfl
        have e81 : z 95 = .agg #[.int .i64 16, .int .u64 0] := hz 81 _ (hw 81 (by kernel_rfl)) rfl
        refine wpOp_want rfl (by simp [Region.wanted, yielded, e80]) ?_
        go_simp
        go_at_call 13
        refine (check_16 _).mono ?_
        rintro e w8 ⟨rfl, hb8⟩
        exact ⟨⟨by simp [hsz.out], hx.out.trans (hb8.mono hx.out.size)⟩, upd z 96 (.int .i64 2), (by unfold Hid; simp [upd, e80, e81]), hz.next apx hsz.out 82 (by decide) _ (fun _ h => Option.some.inj h)⟩
      · have e80 : z 94 = .bool true := hz 80 _ (hw 80 (by kernel_rfl)) rfl
        have e82 : z 96 = .int .i64 2 := hz 82 _ (hw 82 (by kernel_rfl)) rfl
        refine wpOp_want rfl (by simp [Region.wanted, yielded, e80]) ?_
        go_simp
        exact ⟨⟨by simp [hsz.out], hx.out⟩, upd z 97 (.bool true), (by unfold Hid; simp [upd, e80, e82]), hz.next apx hsz.out 83 (by decide) _ (fun _ h => Option.some.inj h)⟩
      · have e80 : z 94 = .bool true := hz 80 _ (hw 80 (by kernel_rfl)) rfl
        have e83 : z 97 = .bool true := hz 83 _ (hw 83 (by kernel_rfl)) rfl
        refine wpOp_plain rfl rfl ?_
        go_simp
        exact ⟨⟨by simp [hsz.out], hx.out⟩, upd z 98 (.bool true), (by unfold Hid; simp [upd, e80, e83]), hz.next apx hsz.out 84 (by decide) _ (fun _ h => Option.some.inj h)⟩
      · have e84 : z 98 = .bool true := hz 84 _ (hw 84 (by kernel_rfl)) rfl
        refine wpOp_plain rfl rfl ?_
        go_simp
        exact ⟨⟨by simp [hsz.out], hx.out⟩, upd z 99 (.bool true), (by unfold Hid; simp [upd, e84]), hz.next apx hsz.out 85 (by decide) _ (fun _ h => Option.some.inj h)⟩
      · have e85 : z 99 = .bool true := hz 85 _ (hw 85 (by kernel_rfl)) rfl
        refine wpOp_want rfl (by simp [Region.wanted, yielded, e85]) ?_
        go_simp
        go_at_call 6
        refine (of_any _ _ _).mono ?_
        rintro e w8 ⟨rfl, hb8⟩
        exact ⟨⟨by simp [hsz.out], hx.out.trans (hb8.mono hx.out.size)⟩, upd z 100 (.agg #[.int .i64 15, .int .u64 0]), (by unfold Hid; simp [upd, e85]), hz.next apx hsz.out 86 (by decide) _ (fun _ h => Option.some.inj h)⟩
      · have e85 : z 99 = .bool true := hz 85 _ (hw 85 (by kernel_rfl)) rfl
        have e86 : z 100 = .agg #[.int .i64 15, .int .u64 0] := hz 86 _ (hw 86 (by kernel_rfl)) rfl
        refine wpOp_want rfl (by simp [Region.wanted, yielded, e85]) ?_
        go_simp
        go_at_call 13
        refine (check_15 _).mono ?_
        rintro e w8 ⟨rfl, hb8⟩
        exact ⟨⟨by simp [hsz.out], hx.out.trans (hb8.mono hx.out.size)⟩, upd z 101 (.int .i64 0), (by unfold Hid; simp [upd, e85, e86]), hz.next apx hsz.out 87 (by decide) _ (fun _ h => Option.some.inj h)⟩
      · have e85 : z 99 = .bool true := hz 85 _ (hw 85 (by kernel_rfl)) rfl
        have e87 : z 101 = .int .i64 0 := hz 87 _ (hw 87 (by kernel_rfl)) rfl
        refine wpOp_want rfl (by simp [Region.wanted, yielded, e85]) ?_
        go_simp
        exact ⟨⟨by simp [hsz.out], hx.out⟩, upd z 102 (.bool true), (by unfold Hid; simp [upd, e85, e87]), hz.next apx hsz.out 88 (by decide) _ (fun _ h => Option.some.inj h)⟩
      · have e85 : z 99 = .bool true := hz 85 _ (hw 85 (by kernel_rfl)) rfl
        have e88 : z 102 = .bool true := hz 88 _ (hw 88 (by kernel_rfl)) rfl
        refine wpOp_plain rfl rfl ?_
        go_simp
        exact ⟨⟨by simp [hsz.out], hx.out⟩, upd z 103 (.bool true), (by unfold Hid; simp [upd, e85, e88]), hz.next apx hsz.out 89 (by decide) _ (fun _ h => Option.some.inj h)⟩
      · have e89 : z 103 = .bool true := hz 89 _ (hw 89 (by kernel_rfl)) rfl
        refine wpOp_plain rfl rfl ?_
        go_simp
        exact ⟨⟨by simp [hsz.out], hx.out⟩, upd z 0 (.bool true), (by unfold Hid; simp [upd, e89]), hz.next apx hsz.out 90 (by decide) _ (fun _ h => Option.some.inj h)⟩
    · exact ⟨⟨rfl, (Below.refl _ _).drew⟩, fun xx => (#[.bool false, .pointer (some ⟨gb, 0, none⟩), .int .i64 0, .slice (some ⟨gl, 0, none⟩) 3 cl, .tuple #[.agg #[.int .i64 15, .int .u64 18446744073709551615], .int .i64 0], .tuple #[.agg #[.int .i64 15, .int .u64 18446744073709551615], .int .i64 0], .agg #[.int .i64 15, .int .u64 18446744073709551615], .int .i64 0, u8, u9, u10, u11, u12, u13, undef, undef, undef, undef, undef, undef, undef, undef, undef, undef, undef, undef, undef, undef, undef, undef, undef, undef, undef, undef, undef, undef, undef, undef, undef, undef, undef, undef, undef, undef, undef, undef, undef, undef, undef, undef, undef, undef, undef, undef, undef, undef, undef, undef, undef, undef, undef, undef, undef, undef, undef, undef, undef, undef, undef, undef, undef, undef, undef, undef, undef, undef, undef, undef, undef, undef, undef, undef, undef, undef, undef, undef, undef, undef, undef, undef, undef, undef, undef, undef, undef, undef, undef, undef, undef, undef, undef, undef, undef, undef] : Array Value).getD xx undef, (by rfl), Holding.start⟩
end Go.Proofs.YtlojepagolkehaaDoor.Lab
