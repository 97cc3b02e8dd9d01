/- DERIVED. The contracts of strconv.ParseUint, labelOf at the texts of LabelKnown. -/
import Derived.Test.YtlojepagolkehaaDoorLabHexParse
import Derived.Test.YtlojepagolkehaaDoorShelf
namespace Go.Proofs.YtlojepagolkehaaDoor.Lab
open Go.RowKit Str
/-- what the walks want of the world besides the tables: bytealg.MaxLen holds a number, strconv.ErrSyntax an error. -/
structure LS (w : World) : Prop where
  max : ∃ m : Int, w.cell? ⟨0, 0, none⟩ = some (.int .i64 m)
  syn : ∃ ev, w.cell? ⟨2, 0, none⟩ = some ev ∧ (ev = .nilIface ∨ ∃ te pe, ev = .iface te pe)
theorem LS.below {w w' : World} {B : Nat} (h : LS w) (hb : Below B w w') (hB : w.heap.size ≤ B) : LS w' := by
  obtain ⟨⟨m, hm⟩, ev, he, h2⟩ := h
  have h1 := World.block_lt_of_cell? _ _ hm
  have h3 := World.block_lt_of_cell? _ _ he
  exact ⟨⟨m, (hb.cell (p := ⟨0, 0, none⟩) (Nat.lt_of_lt_of_le h1 hB)).trans hm⟩, ev, (hb.cell (p := ⟨2, 0, none⟩) (Nat.lt_of_lt_of_le h3 hB)).trans he, h2⟩
theorem LS.later {w w' : World} (h : LS w) (hb : Below w.heap.size w w') : LS w' := h.below hb (Nat.le_refl _)
/-- what reads a number: the number and no error, or an error. -/
def NumQ (v : Value) (w : World) (e : Ending) (w' : World) : Prop := e = .returned (.tuple #[v, .nilIface]) ∧ Below w.heap.size w w'
def ErrQ (z : Value) (w : World) (e : Ending) (w' : World) : Prop := (∃ t p, e = .returned (.tuple #[z, .iface t p])) ∧ Below w.heap.size w w'
theorem atoi_yes (s : ByteArray) (n : Int) (hl : s.size ≤ 18) (h : Lib.atoi s.data.toList = some n) (w : World) : Calls Tryd.prog 24 #[.string s] w (NumQ (.int .i64 n) w) := by
  refine (Tryd.strconv_Atoi s n hl h w).mono ?_
  rintro e w' ⟨rfl, t, rfl⟩
  exact ⟨rfl, below_string w t⟩
theorem atoi_no (s : ByteArray) (hl : s.size ≤ 18) (h : Lib.atoi s.data.toList = none) (w : World) (hL : LS w) : Calls Tryd.prog 24 #[.string s] w (ErrQ (.int .i64 0) w) := by
  obtain ⟨ev, he, h2⟩ := hL.syn
  refine (Tryd.strconv_Atoi_err s hl h ev w he h2).mono ?_
  rintro e w' ⟨N, rfl, _, _, hb⟩
  exact ⟨⟨_, _, rfl⟩, hb⟩
theorem puP_of (s : ByteArray) (v : Int) (h : ∀ w, Calls Tryd.prog 35 #[.string s, .int .i64 16, .int .i64 64] w fun e w' => e = .returned (.tuple #[.int .u64 v, .nilIface]) ∧ Below w.heap.size w w') (w : World) : Calls Tryd.prog 25 #[.string s, .int .i64 16, .int .i64 64] w (NumQ (.int .u64 v) w) := by
  have H := Lib.hid (h w)
  unfold NumQ
  clear h
  go_enter Tryd.func25, Tryd.ntmps25
  go_wp2_with (go_at_call 35; refine H.out.mono ?_; rintro e w1 ⟨rfl, hb⟩; have Hb := Lib.hid hb; clear hb)
  go_ret2
  exact ⟨rfl, Hb.out⟩
theorem puP_empty (w : World) (hL : LS w) : Calls Tryd.prog 25 #[.string ⟨#[]⟩, .int .i64 16, .int .i64 64] w (ErrQ (.int .u64 0) w) := by
  obtain ⟨ev, he, h2⟩ := hL.syn
  have HT := Lib.hid (Tryd.strconv_toError_syntax ⟨#[80, 97, 114, 115, 101, 85, 105, 110, 116]⟩ ⟨#[]⟩ 16 64 ev w (by decide) he h2)
  unfold ErrQ
  clear hL he h2
  go_enter Tryd.func25, Tryd.ntmps25
  go_wp2_with (first
    | (go_at_call 35; refine (pu_empty w).mono ?_; rintro e w' ⟨⟨v, rfl, rfl⟩, rfl⟩)
    | (go_at_call 34; refine HT.out.mono ?_; rintro e w1 ⟨N, rfl, _, _, hb⟩; have Hb := Lib.hid hb; clear hb))
  go_ret2
  exact ⟨⟨_, _, rfl⟩, Hb.out⟩
set_option maxRecDepth 100000 in
set_option maxHeartbeats 1000000 in
theorem lof_ok (s t : ByteArray) (n c : Int) (w : World) (h1 : Calls Tryd.prog 24 #[.string s] (w.alloc (.cells #[.int .i64 0, .int .u64 0] 24)) (NumQ (.int .i64 n) (w.alloc (.cells #[.int .i64 0, .int .u64 0] 24)))) (h2 : ∀ w, Calls Tryd.prog 25 #[.string t, .int .i64 16, .int .i64 64] w (NumQ (.int .u64 c) w)) :
    Calls Tryd.prog 15 #[.string s, .string t] w fun e w' => e = .returned (.tuple #[.agg #[.int .i64 n, .int .u64 c], .bool true]) ∧ Below w.heap.size w w' := by
  have hrow := Go.heap_alloc_new w (.cells #[.int .i64 0, .int .u64 0] 24)
  have hb0 : Below w.heap.size w (w.alloc (.cells #[.int .i64 0, .int .u64 0] 24)) := (Below.refl _ _).alloc (Nat.le_refl _) _
  have hs0 : w.heap.size < (w.alloc (.cells #[.int .i64 0, .int .u64 0] 24)).heap.size := by rw [World.size_alloc]; omega
  obtain ⟨w1, hw1⟩ : ∃ w1, w1 = w.alloc (.cells #[.int .i64 0, .int .u64 0] 24) := ⟨_, rfl⟩
  rw [← hw1] at hrow hb0 hs0 h1
  unfold NumQ at h1 h2
  have H1 := Lib.hid h1
  have H2 := Lib.hid h2
  have Hrow := Lib.hid hrow
  have Hb0 := Lib.hid hb0
  have Hs0 := Lib.hid hs0
  have Hw1 := Lib.hid hw1
  clear h1 h2 hrow hb0 hs0 hw1
  go_enter Tryd.func15, Tryd.ntmps15
  go_upto_region 1 with (fail)
  rw [← Hw1.out]
  go_wp2_with (first
    | (go_at_call 24; refine H1.out.mono ?_; rintro e w2 ⟨rfl, hb2⟩; have Hb2 := Lib.hid hb2; clear hb2)
    | (go_at_call 25; refine (H2.out w2).mono ?_; rintro e w3 ⟨rfl, hb3⟩; have hr3 := ((Hb2.out.trans (hb3.mono Hb2.out.size)).block _ Hs0.out).trans Hrow.out; have d0 := cell_row hr3 0; have d1 := cell_row hr3 1; have f0 := free_row hr3 0; have f1 := free_row hr3 1; simp only [List.getElem?_toArray, List.getElem?_cons_zero, List.getElem?_cons_succ] at d0 d1; have Hr3 := Lib.hid hr3; have Hb3 := Lib.hid (Hb0.out.trans ((Hb2.out.trans (hb3.mono Hb2.out.size)).mono Hb0.out.size)); clear hb3 hr3))
  have r4 := heap_setCell_same _ w.heap.size 0 _ _ (.int .i64 n) Hr3.out
  have r5 := heap_setCell_same _ w.heap.size 1 _ _ (.int .u64 c) r4
  exact bodyPost_ret (v := .tuple #[.agg #[.int .i64 n, .int .u64 c], .bool true]) (results_row_tmp rfl _ _ w.heap.size 24 _ (0, 0) _ _ rfl rfl r5 Tryd.underlying24 rfl (by kernel_rfl)) rfl ⟨rfl, (Hb3.out.setCell (Nat.le_refl _) _).setCell (Nat.le_refl _) _⟩
set_option maxRecDepth 100000 in
set_option maxHeartbeats 1000000 in
theorem lof_no1 (s t : ByteArray) (w : World) (h1 : Calls Tryd.prog 24 #[.string s] (w.alloc (.cells #[.int .i64 0, .int .u64 0] 24)) (ErrQ (.int .i64 0) (w.alloc (.cells #[.int .i64 0, .int .u64 0] 24)))) :
    Calls Tryd.prog 15 #[.string s, .string t] w fun e w' => e = .returned (.tuple #[.agg #[.int .i64 0, .int .u64 0], .bool false]) ∧ Below w.heap.size w w' := by
  have hrow := Go.heap_alloc_new w (.cells #[.int .i64 0, .int .u64 0] 24)
  have hb0 : Below w.heap.size w (w.alloc (.cells #[.int .i64 0, .int .u64 0] 24)) := (Below.refl _ _).alloc (Nat.le_refl _) _
  have hs0 : w.heap.size < (w.alloc (.cells #[.int .i64 0, .int .u64 0] 24)).heap.size := by rw [World.size_alloc]; omega
  obtain ⟨w1, hw1⟩ : ∃ w1, w1 = w.alloc (.cells #[.int .i64 0, .int .u64 0] 24) := ⟨_, rfl⟩
  rw [← hw1] at hrow hb0 hs0 h1
  unfold ErrQ at h1
  have H1 := Lib.hid h1
  have Hrow := Lib.hid hrow
  have Hb0 := Lib.hid hb0
  have Hs0 := Lib.hid hs0
  have Hw1 := Lib.hid hw1
  clear h1 hrow hb0 hs0 hw1
  go_enter Tryd.func15, Tryd.ntmps15
  go_upto_region 1 with (fail)
  rw [← Hw1.out]
  go_wp2_with (go_at_call 24; refine H1.out.mono ?_; rintro e w3 ⟨⟨te, pe, rfl⟩, hb3⟩; have hr3 := (hb3.block _ Hs0.out).trans Hrow.out; have d0 := cell_row hr3 0; have d1 := cell_row hr3 1; have f0 := free_row hr3 0; have f1 := free_row hr3 1; simp only [List.getElem?_toArray, List.getElem?_cons_zero, List.getElem?_cons_succ] at d0 d1; have Hr3 := Lib.hid hr3; have Hb3 := Lib.hid (Hb0.out.trans (hb3.mono Hb0.out.size)); clear hb3 hr3)
  have r4 := heap_setCell_same _ w.heap.size 0 _ _ (.int .i64 0) Hr3.out
  have r5 := heap_setCell_same _ w.heap.size 1 _ _ (.int .u64 0) r4
  exact bodyPost_ret (v := .tuple #[.agg #[.int .i64 0, .int .u64 0], .bool false]) (results_row_tmp rfl _ _ w.heap.size 24 _ (0, 0) _ _ rfl rfl r5 Tryd.underlying24 rfl (by kernel_rfl)) rfl ⟨rfl, (Hb3.out.setCell (Nat.le_refl _) _).setCell (Nat.le_refl _) _⟩
set_option maxRecDepth 100000 in
set_option maxHeartbeats 1000000 in
theorem lof_no2 (s t : ByteArray) (n : Int) (w : World) (hL : LS w) (h1 : Calls Tryd.prog 24 #[.string s] (w.alloc (.cells #[.int .i64 0, .int .u64 0] 24)) (NumQ (.int .i64 n) (w.alloc (.cells #[.int .i64 0, .int .u64 0] 24)))) (h2 : ∀ w, LS w → Calls Tryd.prog 25 #[.string t, .int .i64 16, .int .i64 64] w (ErrQ (.int .u64 0) w)) :
    Calls Tryd.prog 15 #[.string s, .string t] w fun e w' => e = .returned (.tuple #[.agg #[.int .i64 0, .int .u64 0], .bool false]) ∧ Below w.heap.size w w' := by
  have hrow := Go.heap_alloc_new w (.cells #[.int .i64 0, .int .u64 0] 24)
  have hb0 : Below w.heap.size w (w.alloc (.cells #[.int .i64 0, .int .u64 0] 24)) := (Below.refl _ _).alloc (Nat.le_refl _) _
  have hs0 : w.heap.size < (w.alloc (.cells #[.int .i64 0, .int .u64 0] 24)).heap.size := by rw [World.size_alloc]; omega
  obtain ⟨w1, hw1⟩ : ∃ w1, w1 = w.alloc (.cells #[.int .i64 0, .int .u64 0] 24) := ⟨_, rfl⟩
  rw [← hw1] at hrow hb0 hs0 h1
  have HL := Lib.hid (hL.later hb0)
  unfold NumQ at h1
  unfold ErrQ at h2
  have H1 := Lib.hid h1
  have H2 := Lib.hid h2
  have Hrow := Lib.hid hrow
  have Hb0 := Lib.hid hb0
  have Hs0 := Lib.hid hs0
  have Hw1 := Lib.hid hw1
  clear h1 h2 hrow hb0 hs0 hw1 hL
  go_enter Tryd.func15, Tryd.ntmps15
  go_upto_region 1 with (fail)
  rw [← Hw1.out]
  go_wp2_with (first
    | (go_at_call 24; refine H1.out.mono ?_; rintro e w2 ⟨rfl, hb2⟩; have HL2 := Lib.hid (HL.out.later hb2); have Hb2 := Lib.hid hb2; clear hb2)
    | (go_at_call 25; refine (H2.out w2 HL2.out).mono ?_; rintro e w3 ⟨⟨te, pe, rfl⟩, hb3⟩; have hr3 := ((Hb2.out.trans (hb3.mono Hb2.out.size)).block _ Hs0.out).trans Hrow.out; have d0 := cell_row hr3 0; have d1 := cell_row hr3 1; have f0 := free_row hr3 0; have f1 := free_row hr3 1; simp only [List.getElem?_toArray, List.getElem?_cons_zero, List.getElem?_cons_succ] at d0 d1; have Hr3 := Lib.hid hr3; have Hb3 := Lib.hid (Hb0.out.trans ((Hb2.out.trans (hb3.mono Hb2.out.size)).mono Hb0.out.size)); clear hb3 hr3))
  have r4 := heap_setCell_same _ w.heap.size 0 _ _ (.int .i64 0) Hr3.out
  have r5 := heap_setCell_same _ w.heap.size 1 _ _ (.int .u64 0) r4
  exact bodyPost_ret (v := .tuple #[.agg #[.int .i64 0, .int .u64 0], .bool false]) (results_row_tmp rfl _ _ w.heap.size 24 _ (0, 0) _ _ rfl rfl r5 Tryd.underlying24 rfl (by kernel_rfl)) rfl ⟨rfl, (Hb3.out.setCell (Nat.le_refl _) _).setCell (Nat.le_refl _) _⟩
end Go.Proofs.YtlojepagolkehaaDoor.Lab
