/- DERIVED. The contract of label.Parse, given those of what it calls. Written by mkparse.py. -/
import Derived.Test.YtlojepagolkehaaDoorLabParse
namespace Go.Proofs.YtlojepagolkehaaDoor.Lab
open Go.RowKit Str
def LK (w : World) : Prop := Laid w ∧ LS w
theorem LK.later {w w' : World} (h : LK w) (hb : Below w.heap.size w w') : LK w' := ⟨h.1.below hb, h.2.later hb⟩
/-- a text cut at its first colon. -/
theorem cut_is (s a b : ByteArray) (ok : Bool) (h : Lib.cut s.data.toList [58] = (a.data.toList, b.data.toList, ok)) (hs : s.size < 4294967281) (w : World) (hL : LS w) : Calls Tryd.prog 14 #[.string s, .string ⟨#[58]⟩] w fun e w' => e = .returned (.tuple #[.string a, .string b, .bool ok]) ∧ Below w.heap.size w w' := by
  obtain ⟨m, hm⟩ := hL.max
  refine (Tryd.strings_Cut s ⟨#[58]⟩ m w hs hm).mono ?_
  rintro e w' ⟨rfl, n, rfl⟩
  refine ⟨?_, Below.drewN (Below.refl _ _) n⟩
  rw [show (⟨#[58]⟩ : ByteArray).data.toList = [58] from rfl, h]
set_option maxRecDepth 100000 in
set_option maxHeartbeats 1000000 in
theorem parse_ok (s a b : ByteArray) (n c : Int) (w : World) (hL : LK w) (hcut : ∀ w, LS w → Calls Tryd.prog 14 #[.string s, .string ⟨#[58]⟩] w fun e w' => (∃ ok, e = .returned (.tuple #[.string a, .string b, .bool ok])) ∧ Below w.heap.size w w') (hlof : ∀ w, LK w → Calls Tryd.prog 15 #[.string a, .string b] w fun e w' => e = .returned (.tuple #[.agg #[.int .i64 n, .int .u64 c], .bool true]) ∧ Below w.heap.size w w') (htext : ∀ w, LK w → Calls Tryd.prog 10 #[.agg #[.int .i64 n, .int .u64 c]] w fun e w' => e = .returned (.string s) ∧ Below w.heap.size w w') :
    Calls Tryd.prog 4 #[.string s] w fun e w' => e = .returned (.tuple #[.agg #[.int .i64 n, .int .u64 c], .int .i64 0]) ∧ Below w.heap.size w w' := by
  have hrow := Go.heap_alloc_new w (.cells #[.int .i64 0, .int .u64 0] 24)
  have hb0 : Below w.heap.size w (w.alloc (.cells #[.int .i64 0, .int .u64 0] 24)) := (Below.refl _ _).alloc (Nat.le_refl _) _
  have hs0 : w.heap.size < (w.alloc (.cells #[.int .i64 0, .int .u64 0] 24)).heap.size := by rw [World.size_alloc]; omega
  obtain ⟨w1, hw1⟩ : ∃ w1, w1 = w.alloc (.cells #[.int .i64 0, .int .u64 0] 24) := ⟨_, rfl⟩
  rw [← hw1] at hrow hb0 hs0
  have HL := Lib.hid (hL.later hb0)
  have HC := Lib.hid hcut
  have HF := Lib.hid hlof
  have HT := Lib.hid htext
  clear htext
  have Hrow := Lib.hid hrow
  have Hb0 := Lib.hid hb0
  have Hs0 := Lib.hid hs0
  have Hw1 := Lib.hid hw1
  clear hcut hlof hrow hb0 hs0 hw1 hL
  go_enter Tryd.func4, Tryd.ntmps4
  go_upto_region 1 with (fail)
  rw [← Hw1.out]
  go_upto_region 3 with (first
    | (go_at_call 14; refine (HC.out w1 HL.out.2).mono ?_; rintro e w2 ⟨⟨ok, rfl⟩, hb2⟩; have Hb2 := Lib.hid hb2; have HL2 := Lib.hid (HL.out.later hb2); clear hb2)
    | (go_at_call 15; refine (HF.out w2 HL2.out).mono ?_; rintro e w3 ⟨rfl, hb3⟩; have Hb3 := Lib.hid (Hb2.out.trans (hb3.mono Hb2.out.size)); have HL3 := Lib.hid (HL2.out.later hb3); clear hb3))
  have hr4 := Go.heap_alloc_new w3 (.cells #[.int .i64 n, .int .u64 c] 24)
  have hb4 : Below w3.heap.size w3 (w3.alloc (.cells #[.int .i64 n, .int .u64 c] 24)) := (Below.refl _ _).alloc (Nat.le_refl _) _
  have hs4 : w3.heap.size < (w3.alloc (.cells #[.int .i64 n, .int .u64 c] 24)).heap.size := by rw [World.size_alloc]; omega
  obtain ⟨w4, hw4⟩ : ∃ w4, w4 = w3.alloc (.cells #[.int .i64 n, .int .u64 c] 24) := ⟨_, rfl⟩
  rw [← hw4] at hr4 hb4 hs4 ⊢
  have L4 := Lib.hid (HL3.out.later hb4)
  have hrow4 := ((Hb3.out.trans (hb4.mono Hb3.out.size)).block _ Hs0.out).trans Hrow.out
  have low4 := Hb0.out.trans ((Hb3.out.trans (hb4.mono Hb3.out.size)).mono Hb0.out.size)
  have Low4 := Lib.hid low4
  have Hr4 := Lib.hid hr4
  have Hs4 := Lib.hid hs4
  have Hrow4 := Lib.hid hrow4
  have d0 := cell_row hr4 0
  have d1 := cell_row hr4 1
  simp only [List.getElem?_toArray, List.getElem?_cons_zero, List.getElem?_cons_succ] at d0 d1
  clear hr4 hb4 hs4 hw4 hrow4 low4
  go_wp2_with (go_at_call 10; refine (HT.out w4 L4.out).mono ?_; rintro e w5 ⟨rfl, hb5⟩; have hr5 := (hb5.block _ Hs4.out).trans Hr4.out; have hrow5 := (hb5.block _ (Array.getElem?_eq_some_iff.1 Hrow4.out).1).trans Hrow4.out; have d0 := cell_row (w := w5) hr5 0; have d1 := cell_row (w := w5) hr5 1; have fd0 := free_row (w := w5) hr5 0; have fd1 := free_row (w := w5) hr5 1; simp only [List.getElem?_toArray, List.getElem?_cons_zero, List.getElem?_cons_succ] at d0 d1; have k0 := cell_row (w := w5) hrow5 0; have k1 := cell_row (w := w5) hrow5 1; have fk0 := free_row (w := w5) hrow5 0; have fk1 := free_row (w := w5) hrow5 1; simp only [List.getElem?_toArray, List.getElem?_cons_zero, List.getElem?_cons_succ] at k0 k1; have Hrow5 := Lib.hid hrow5; have Low5 := Lib.hid (Low4.out.trans (hb5.mono Low4.out.size)); clear hb5 hr5 hrow5)
  have r8 := heap_setCell_same _ w.heap.size 0 _ _ (.int .i64 n) Hrow5.out
  have r9 := heap_setCell_same _ w.heap.size 1 _ _ (.int .u64 c) r8
  exact bodyPost_ret (v := .tuple #[.agg #[.int .i64 n, .int .u64 c], .int .i64 0]) (results_row_tmp rfl _ _ w.heap.size 24 _ (0, 0) _ _ rfl rfl r9 Tryd.underlying24 rfl (by kernel_rfl)) rfl ⟨rfl, (Low5.out.setCell (Nat.le_refl _) _).setCell (Nat.le_refl _) _⟩
set_option maxRecDepth 100000 in
set_option maxHeartbeats 1000000 in
theorem parse_no2 (s a b : ByteArray) (n c : Int) (T : ByteArray) (hne : (T.toList == s.toList) = false) (w : World) (hL : LK w) (hcut : ∀ w, LS w → Calls Tryd.prog 14 #[.string s, .string ⟨#[58]⟩] w fun e w' => (∃ ok, e = .returned (.tuple #[.string a, .string b, .bool ok])) ∧ Below w.heap.size w w') (hlof : ∀ w, LK w → Calls Tryd.prog 15 #[.string a, .string b] w fun e w' => e = .returned (.tuple #[.agg #[.int .i64 n, .int .u64 c], .bool true]) ∧ Below w.heap.size w w') (htext : ∀ w, LK w → Calls Tryd.prog 10 #[.agg #[.int .i64 n, .int .u64 c]] w fun e w' => e = .returned (.string T) ∧ Below w.heap.size w w') :
    Calls Tryd.prog 4 #[.string s] w fun e w' => e = .returned (.tuple #[.agg #[.int .i64 0, .int .u64 0], .int .i64 4]) ∧ Below w.heap.size w w' := by
  have hrow := Go.heap_alloc_new w (.cells #[.int .i64 0, .int .u64 0] 24)
  have hb0 : Below w.heap.size w (w.alloc (.cells #[.int .i64 0, .int .u64 0] 24)) := (Below.refl _ _).alloc (Nat.le_refl _) _
  have hs0 : w.heap.size < (w.alloc (.cells #[.int .i64 0, .int .u64 0] 24)).heap.size := by rw [World.size_alloc]; omega
  obtain ⟨w1, hw1⟩ : ∃ w1, w1 = w.alloc (.cells #[.int .i64 0, .int .u64 0] 24) := ⟨_, rfl⟩
  rw [← hw1] at hrow hb0 hs0
  have HL := Lib.hid (hL.later hb0)
  have HC := Lib.hid hcut
  have HF := Lib.hid hlof
  have HT := Lib.hid htext
  clear htext
  have Hrow := Lib.hid hrow
  have Hb0 := Lib.hid hb0
  have Hs0 := Lib.hid hs0
  have Hw1 := Lib.hid hw1
  clear hcut hlof hrow hb0 hs0 hw1 hL
  go_enter Tryd.func4, Tryd.ntmps4
  go_upto_region 1 with (fail)
  rw [← Hw1.out]
  go_upto_region 3 with (first
    | (go_at_call 14; refine (HC.out w1 HL.out.2).mono ?_; rintro e w2 ⟨⟨ok, rfl⟩, hb2⟩; have Hb2 := Lib.hid hb2; have HL2 := Lib.hid (HL.out.later hb2); clear hb2)
    | (go_at_call 15; refine (HF.out w2 HL2.out).mono ?_; rintro e w3 ⟨rfl, hb3⟩; have Hb3 := Lib.hid (Hb2.out.trans (hb3.mono Hb2.out.size)); have HL3 := Lib.hid (HL2.out.later hb3); clear hb3))
  have hr4 := Go.heap_alloc_new w3 (.cells #[.int .i64 n, .int .u64 c] 24)
  have hb4 : Below w3.heap.size w3 (w3.alloc (.cells #[.int .i64 n, .int .u64 c] 24)) := (Below.refl _ _).alloc (Nat.le_refl _) _
  have hs4 : w3.heap.size < (w3.alloc (.cells #[.int .i64 n, .int .u64 c] 24)).heap.size := by rw [World.size_alloc]; omega
  obtain ⟨w4, hw4⟩ : ∃ w4, w4 = w3.alloc (.cells #[.int .i64 n, .int .u64 c] 24) := ⟨_, rfl⟩
  rw [← hw4] at hr4 hb4 hs4 ⊢
  have L4 := Lib.hid (HL3.out.later hb4)
  have hrow4 := ((Hb3.out.trans (hb4.mono Hb3.out.size)).block _ Hs0.out).trans Hrow.out
  have low4 := Hb0.out.trans ((Hb3.out.trans (hb4.mono Hb3.out.size)).mono Hb0.out.size)
  have Low4 := Lib.hid low4
  have Hr4 := Lib.hid hr4
  have Hs4 := Lib.hid hs4
  have Hrow4 := Lib.hid hrow4
  have d0 := cell_row hr4 0
  have d1 := cell_row hr4 1
  simp only [List.getElem?_toArray, List.getElem?_cons_zero, List.getElem?_cons_succ] at d0 d1
  clear hr4 hb4 hs4 hw4 hrow4 low4
  go_wp2_with (go_at_call 10; refine (HT.out w4 L4.out).mono ?_; rintro e w5 ⟨rfl, hb5⟩; have hr5 := (hb5.block _ Hs4.out).trans Hr4.out; have hrow5 := (hb5.block _ (Array.getElem?_eq_some_iff.1 Hrow4.out).1).trans Hrow4.out; have d0 := cell_row (w := w5) hr5 0; have d1 := cell_row (w := w5) hr5 1; have fd0 := free_row (w := w5) hr5 0; have fd1 := free_row (w := w5) hr5 1; simp only [List.getElem?_toArray, List.getElem?_cons_zero, List.getElem?_cons_succ] at d0 d1; have k0 := cell_row (w := w5) hrow5 0; have k1 := cell_row (w := w5) hrow5 1; have fk0 := free_row (w := w5) hrow5 0; have fk1 := free_row (w := w5) hrow5 1; simp only [List.getElem?_toArray, List.getElem?_cons_zero, List.getElem?_cons_succ] at k0 k1; have Hrow5 := Lib.hid hrow5; have Low5 := Lib.hid (Low4.out.trans (hb5.mono Low4.out.size)); clear hb5 hr5 hrow5)
  have r8 := heap_setCell_same _ w.heap.size 0 _ _ (.int .i64 0) Hrow5.out
  have r9 := heap_setCell_same _ w.heap.size 1 _ _ (.int .u64 0) r8
  exact bodyPost_ret (v := .tuple #[.agg #[.int .i64 0, .int .u64 0], .int .i64 4]) (results_row_tmp rfl _ _ w.heap.size 24 _ (0, 0) _ _ rfl rfl r9 Tryd.underlying24 rfl (by kernel_rfl)) rfl ⟨rfl, (Low5.out.setCell (Nat.le_refl _) _).setCell (Nat.le_refl _) _⟩
set_option maxRecDepth 100000 in
set_option maxHeartbeats 1000000 in
theorem parse_no1 (s a b : ByteArray) (w : World) (hL : LK w) (hcut : ∀ w, LS w → Calls Tryd.prog 14 #[.string s, .string ⟨#[58]⟩] w fun e w' => (∃ ok, e = .returned (.tuple #[.string a, .string b, .bool ok])) ∧ Below w.heap.size w w') (hlof : ∀ w, LK w → Calls Tryd.prog 15 #[.string a, .string b] w fun e w' => e = .returned (.tuple #[.agg #[.int .i64 0, .int .u64 0], .bool false]) ∧ Below w.heap.size w w') :
    Calls Tryd.prog 4 #[.string s] w fun e w' => e = .returned (.tuple #[.agg #[.int .i64 0, .int .u64 0], .int .i64 4]) ∧ Below w.heap.size w w' := by
  have hrow := Go.heap_alloc_new w (.cells #[.int .i64 0, .int .u64 0] 24)
  have hb0 : Below w.heap.size w (w.alloc (.cells #[.int .i64 0, .int .u64 0] 24)) := (Below.refl _ _).alloc (Nat.le_refl _) _
  have hs0 : w.heap.size < (w.alloc (.cells #[.int .i64 0, .int .u64 0] 24)).heap.size := by rw [World.size_alloc]; omega
  obtain ⟨w1, hw1⟩ : ∃ w1, w1 = w.alloc (.cells #[.int .i64 0, .int .u64 0] 24) := ⟨_, rfl⟩
  rw [← hw1] at hrow hb0 hs0
  have HL := Lib.hid (hL.later hb0)
  have HC := Lib.hid hcut
  have HF := Lib.hid hlof
  have Hrow := Lib.hid hrow
  have Hb0 := Lib.hid hb0
  have Hs0 := Lib.hid hs0
  have Hw1 := Lib.hid hw1
  clear hcut hlof hrow hb0 hs0 hw1 hL
  go_enter Tryd.func4, Tryd.ntmps4
  go_upto_region 1 with (fail)
  rw [← Hw1.out]
  go_upto_region 3 with (first
    | (go_at_call 14; refine (HC.out w1 HL.out.2).mono ?_; rintro e w2 ⟨⟨ok, rfl⟩, hb2⟩; have Hb2 := Lib.hid hb2; have HL2 := Lib.hid (HL.out.later hb2); clear hb2)
    | (go_at_call 15; refine (HF.out w2 HL2.out).mono ?_; rintro e w3 ⟨rfl, hb3⟩; have Hb3 := Lib.hid (Hb2.out.trans (hb3.mono Hb2.out.size)); have HL3 := Lib.hid (HL2.out.later hb3); clear hb3))
  have hr4 := Go.heap_alloc_new w3 (.cells #[.int .i64 0, .int .u64 0] 24)
  have hb4 : Below w3.heap.size w3 (w3.alloc (.cells #[.int .i64 0, .int .u64 0] 24)) := (Below.refl _ _).alloc (Nat.le_refl _) _
  have hs4 : w3.heap.size < (w3.alloc (.cells #[.int .i64 0, .int .u64 0] 24)).heap.size := by rw [World.size_alloc]; omega
  obtain ⟨w4, hw4⟩ : ∃ w4, w4 = w3.alloc (.cells #[.int .i64 0, .int .u64 0] 24) := ⟨_, rfl⟩
  rw [← hw4] at hr4 hb4 hs4 ⊢
  have L4 := Lib.hid (HL3.out.later hb4)
  have hrow4 := ((Hb3.out.trans (hb4.mono Hb3.out.size)).block _ Hs0.out).trans Hrow.out
  have low4 := Hb0.out.trans ((Hb3.out.trans (hb4.mono Hb3.out.size)).mono Hb0.out.size)
  have Low4 := Lib.hid low4
  have Hr4 := Lib.hid hr4
  have Hs4 := Lib.hid hs4
  have Hrow4 := Lib.hid hrow4
  have k0 := cell_row hrow4 0
  have k1 := cell_row hrow4 1
  have fk0 := free_row hrow4 0
  have fk1 := free_row hrow4 1
  simp only [List.getElem?_toArray, List.getElem?_cons_zero, List.getElem?_cons_succ] at k0 k1
  clear hr4 hb4 hs4 hw4 hrow4 low4
  go_wp2
  have r8 := heap_setCell_same _ w.heap.size 0 _ _ (.int .i64 0) Hrow4.out
  have r9 := heap_setCell_same _ w.heap.size 1 _ _ (.int .u64 0) r8
  exact bodyPost_ret (v := .tuple #[.agg #[.int .i64 0, .int .u64 0], .int .i64 4]) (results_row_tmp rfl _ _ w.heap.size 24 _ (0, 0) _ _ rfl rfl r9 Tryd.underlying24 rfl (by kernel_rfl)) rfl ⟨rfl, (Low4.out.setCell (Nat.le_refl _) _).setCell (Nat.le_refl _) _⟩
end Go.Proofs.YtlojepagolkehaaDoor.Lab
