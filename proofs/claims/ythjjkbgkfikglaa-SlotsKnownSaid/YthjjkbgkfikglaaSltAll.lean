/- DERIVED. The contract of slots.Log.All. -/
import Derived.Test.YthjjkbgkfikglaaSltKeep
import Derived.Deep.DeepCutAuto
namespace Go.Proofs.Ythjjkbgkfikglaa.Slt
open Go.RowKit Dsk
/-- a row of new slices: its first k read as texts. -/
structure Rows (B : Nat) (L : List (List Int)) (n k : Nat) (g : Nat) (w : World) : Prop where
  row : ∃ C, w.heap[g]? = some (.cells C 33 (0, 0)) ∧ C.size = n ∧ ∀ i, i < k → ∃ v, C[i]? = some v ∧ SlB (L.getD i []) v w ∧ ∀ q, v.ownBlock = some q → B ≤ q ∧ q ≠ g
  ge : B ≤ g
theorem _root_.Go.Proofs.Ythjjkbgkfikglaa.SlB.chg {T : List Nat} {w w' : World} {L : List Int} {v : Value} (h : SlB L v w) (hc : Chg T w w') (hT : ∀ q, v.ownBlock = some q → q ∉ T) : SlB L v w' := by
  obtain ⟨A, c, rfl, hB⟩ := h
  exact ⟨A, c, rfl, hB.chg hc (fun a ha => hT _ (by rw [ha]; rfl))⟩
theorem Rows.chg {T : List Nat} {B n k g : Nat} {L : List (List Int)} {w w' : World} (h : Rows B L n k g w) (hc : Chg T w w') (hT : ∀ q ∈ T, q < B) : Rows B L n k g w' := by
  obtain ⟨⟨C, h1, h2, h3⟩, h4⟩ := h
  refine ⟨⟨C, hc.at h1 (fun hm => by have := hT _ hm; omega), h2, fun i hi => ?_⟩, h4⟩
  obtain ⟨v, a, b, d⟩ := h3 i hi
  exact ⟨v, a, b.chg hc (fun q hq hm => by have := hT _ hm; have := d q hq; omega), d⟩
theorem Rows.later {B n k g : Nat} {L : List (List Int)} {w w' : World} (h : Rows B L n k g w) (hb : Below w.heap.size w w') : Rows B L n k g w' := h.chg (T := []) (Chg.of_below hb) (by simp)
theorem Rows.lt {B n k g : Nat} {L : List (List Int)} {w : World} (h : Rows B L n k g w) : g < w.heap.size := by obtain ⟨⟨C, h1, _⟩, _⟩ := h; exact (Array.getElem?_eq_some_iff.1 h1).1
/-- one more. -/
theorem Rows.next {B n k g : Nat} {L : List (List Int)} {w : World} {v : Value} (h : Rows B L n k g w) (hk : k < n) (hv : SlB (L.getD k []) v w) (ho : ∀ q, v.ownBlock = some q → B ≤ q ∧ q ≠ g) : Rows B L n (k + 1) g (w.setCell ⟨g, k, none⟩ v) := by
  obtain ⟨⟨C, h1, h2, h3⟩, h4⟩ := h
  have hc : Chg [g] w (w.setCell ⟨g, k, none⟩ v) := (Chg.refl _ _).setCell (by simp) _
  refine ⟨⟨C.setIfInBounds k v, heap_setCell_same _ _ _ _ _ _ h1, by simp [h2], fun i hi => ?_⟩, h4⟩
  rw [Array.getElem?_setIfInBounds]
  by_cases e : k = i
  · subst e
    rw [if_pos rfl, if_pos (by omega)]
    exact ⟨v, rfl, hv.chg hc (fun q hq => by simp; exact (ho q hq).2), ho⟩
  · rw [if_neg e]
    obtain ⟨u, a, b, d⟩ := h3 i (by omega)
    exact ⟨u, a, b.chg hc (fun q hq => by simp; exact (d q hq).2), d⟩
theorem made_slots (n : Nat) : ∃ C : Array Value, madeCells (Value.cells (.slice none 0 0)) n = C ∧ C.size = n := ⟨_, rfl, by simp [madeCells, Value.cells]⟩
theorem mk_slots (n : Nat) (hn : n ≤ 1000000) (w : World) : ∃ C : Array Value, C.size = n ∧ (Instr.makeSlice 46 (.int .i64 n) (.int .i64 n)).run Try.prog w = .ok (.slice (some ⟨w.heap.size, 0, none⟩) n n) (w.alloc (.cells C 33)) := by
  obtain ⟨i0, hi, hz0, hz1, hz2⟩ := info_parts info_slz
  have h := run_make (P := Try.prog) w 46 33 i0 (.slice none 0 0) Try.underlying46 hi hz0 .i64 .i64 n n (by omega) (by omega) (by rw [hz2]; omega) (by omega)
  rw [hz1] at h
  rw [Int.toNat_natCast, Nat.mul_one] at h
  obtain ⟨C, hC, hs⟩ := made_slots n
  rw [hC] at h
  exact ⟨C, hs, h⟩
theorem own_cellS {w : World} {base n : Nat} {A : Option Addr} {c : Nat} {ts : List Value} (h : w.ownsRow base 33 1 (.slice A n c) n ts) (i : Nat) (hi : i < n) : ∃ g, A = some ⟨g, 0, none⟩ ∧ n ≤ c ∧ g < w.heap.size ∧ w.cell? ⟨g, i, none⟩ = some (ts.getD i undef) := by
  rcases h.2 with ⟨_, h0⟩ | ⟨g, cap, cur, hv, _, hh, hcap, _, hs, ht⟩
  · omega
  · cases hv
    refine ⟨g, rfl, hcap, (Array.getElem?_eq_some_iff.1 hh).1, ?_⟩
    rw [cell_row hh]
    have h2 : cur[i]? = cur.toList[i]? := by simp
    have h3 : (cur.toList.take (n * 1))[i]? = cur.toList[i]? := by rw [List.getElem?_take, if_pos (by omega)]
    rw [h2, ← h3, ht]
    have hl : ts.length = n := by have := h.1; omega
    simp [List.getD_eq_getElem?_getD, show i < ts.length by omega]
set_option maxHeartbeats 1000000 in
theorem all_any {w : World} {K : DK} {J : LK} {S : LS} (h : Lg w K J S) : Calls Try.prog 13 #[J.ptr] w fun e w' => ∃ g, e = .returned (.slice (some ⟨g, 0, none⟩) S.texts.length S.texts.length) ∧ Rows w.heap.size S.texts S.texts.length S.texts.length g w' ∧ Below w.heap.size w w' := by
  have Hm := Lib.hid (lmade_any h)
  obtain ⟨_, _, _, _, _, c5, _⟩ := h.cells
  have hn : S.texts.length ≤ 16384 := by have := h.cnt; have := h.fit; have := h.end_; omega
  have H := Lib.hid h
  obtain ⟨A, c, hv⟩ := own_nilK h.own
  have hown := h.own
  rw [hv] at c5 hown
  unfold LK.ptr at *
  obtain ⟨n, hn'⟩ : ∃ n, n = S.texts.length := ⟨_, rfl⟩
  rw [← hn'] at hn c5 hown ⊢
  have HN := Lib.hid hn'
  have Hown := Lib.hid hown
  obtain ⟨Cz, hCz, hmk⟩ := mk_slots n (by omega) w
  have hz : Rows w.heap.size S.texts n 0 w.heap.size (w.alloc (.cells Cz 33)) := ⟨⟨Cz, Go.heap_alloc_new _ _, hCz, fun i hi => by omega⟩, Nat.le_refl _⟩
  have hb0 : Below w.heap.size w (w.alloc (.cells Cz 33)) := (Below.refl _ _).alloc (Nat.le_refl _) _
  have hgl := h.glt
  have c52 := (hb0.cell (p := ⟨J.g, 5, none⟩) hgl).trans c5
  have Hz := Lib.hid hz
  have Hb0 := Lib.hid hb0
  clear h hn' hv hown hCz hz hgl hb0
  obtain ⟨w1, hw1⟩ : ∃ w1, w1 = w.alloc (.cells Cz 33) := ⟨_, rfl⟩
  rw [← hw1] at hmk c52 Hz Hb0
  clear hw1
  go_enter Try.func13, Try.ntmps13
  go_wp2_with (first
    | (go_at_call 29; refine Hm.out.mono ?_; rintro e w' ⟨rfl, rfl⟩))
  go_loopw [20] (fun v wr => ∃ i : Nat, i ≤ n ∧ v = .int .i64 i ∧ Hid (Rows w.heap.size S.texts n i w.heap.size wr ∧ Below w.heap.size w wr)) (fun v _ => n - (intOf v).toNat)
  case atStart => exact ⟨0, Nat.zero_le _, rfl, Hz.out, Hb0.out⟩
  case round =>
    obtain ⟨i, hi, rfl, hr⟩ := hrel
    by_cases hlt : i < n
    · have hltI : (i : Int) < (n : Int) := by omega
      obtain ⟨g, rfl, hcap, hg, hc⟩ := own_cellS Hown.out i hlt
      obtain ⟨A2, c2, e2, hB2⟩ := H.out.txt i (by rw [← HN.out]; exact hlt)
      rw [e2] at hc
      have hcr := (hr.out.2.cell (p := ⟨g, i, none⟩) hg).trans hc
      have hcl := clone_sl (L := S.texts.getD i []) ⟨A2, c2, rfl, hB2.below hr.out.2 (Nat.le_refl _)⟩ (by
        have hm : S.texts.getD i [] ∈ S.texts := by
          rw [List.getD_eq_getElem?_getD, List.getElem?_eq_getElem (by rw [← HN.out]; exact hlt), Option.getD_some]
          exact List.getElem_mem _
        have := (H.out.inb _ hm).2
        omega)
      have Hcl := Lib.hid hcl
      obtain ⟨m2, hm2⟩ : ∃ m2, m2 = (S.texts.getD i []).length := ⟨_, rfl⟩
      rw [← hm2] at hcr Hcl
      have Hm2 := Lib.hid hm2
      clear hcl hc hB2 hm2 e2
      go_upto_region 7 with (fail)
      have Hr := Lib.hid (hr.out)
      clear hr
      go_wp2_with (go_at_call 28; refine Hcl.out.mono ?_; rintro e w2 ⟨v2, rfl, ho, hb⟩; obtain ⟨A3, c3, rfl⟩ := own_nilK ho; have Ho := Lib.hid ho; have Hb := Lib.hid hb; have hr2 := Hr.out.1.later hb; obtain ⟨⟨C2, hC2, _⟩, _⟩ := id hr2; have f2 := free_row hC2 i; have cc := cell_row hC2 i; have Hr2 := Lib.hid hr2; clear ho hb hr2 hC2)
      have hlt2 := Hr.out.1.lt
      have ho2 := Ho.out
      rw [Hm2.out] at ho2 ⊢
      refine ⟨⟨i + 1, by omega, by go_num, Hr2.out.next hlt (own_sl ho2 rfl) (fun q hq => by have := (ho2.lt q hq).1; have := Hr.out.2.size; omega), (Hr.out.2.trans (Hb.out.mono Hr.out.2.size)).setCell (Nat.le_refl _) _⟩, by simp [intOf]; omega⟩
    · have hltI : ¬ (i : Int) < (n : Int) := by omega
      obtain rfl : i = n := by omega
      go_wp2
      go_ret
      exact ⟨_, rfl, hr.out.1, hr.out.2⟩
end Go.Proofs.Ythjjkbgkfikglaa.Slt
