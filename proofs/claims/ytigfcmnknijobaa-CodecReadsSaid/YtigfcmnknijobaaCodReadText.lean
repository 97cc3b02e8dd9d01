/- DERIVED. The contracts of Reader.Text and its closure. Written by mkreads.py. -/
import Derived.Test.YtigfcmnknijobaaCodOpen
namespace Go.Proofs.Ytigfcmnknijobaa.Cod
open Go.RowKit Str
/-- what a closure leaves: what it read, the failure, and its box. -/
def QBox (R : List Int) (E : Int) (bx T : Nat) (C : Array Value) (w : World) (v' : Value) (e1 : Int) (w' : World) : Prop :=
  e1 = E ∧ SlB R v' w' ∧ w'.heap[bx]? = some (.cells C T (0, 0)) ∧ Chg [bx] w w'
/-- the same, of what lay in an earlier world. -/
def QBo (R : List Int) (E : Int) (bx T : Nat) (C : Array Value) (w0 w : World) (v' : Value) (e1 : Int) (w' : World) : Prop :=
  e1 = E ∧ SlB R v' w0 ∧ w'.heap[bx]? = some (.cells C T (0, 0)) ∧ Chg [bx] w w'
/-- a read, by the reader's error: what it tells, what is left, the error. -/
def rdOf {α : Type} (z : α) (L : List Int) (e : Int) (r : α × List Int × Int) : α × List Int × Int :=
  if e = 0 then (r.1, (if r.2.2 = 0 then r.2.1 else L), r.2.2) else (z, L, e)
def mostN (most : Int) : Nat := if most < 0 then 0 else most.toNat
def textR (L : List Int) (most : Int) : List Int × List Int × Int :=
  if (cutL L (mostN most)).2.2 ≠ 0 then ([], [], (cutL L (mostN most)).2.2)
  else if (cutL L (mostN most)).2.1.length < (cutL L (mostN most)).1 then ([], [], 4)
  else ((cutL L (mostN most)).2.1.take (cutL L (mostN most)).1, (cutL L (mostN most)).2.1.drop (cutL L (mostN most)).1, 0)
theorem cutL_len (L : List Int) (m : Nat) : (cutL L m).2.1.length ≤ L.length := by
  unfold cutL
  split
  · simp
  · split
    · simp
    · simp
theorem cutL_in {L : List Int} (h : InB L) (m : Nat) : InB (cutL L m).2.1 := by
  unfold cutL
  split
  · exact fun j => by simp
  · split
    · exact fun j => by simp
    · exact h.drop _
theorem after_read0 {rb : Nat} {L R : List Int} {v' : Value} {e1 : Int} {w0 w1 w' : World} (h : Rdr rb L 0 w0) (hc : Below w0.heap.size w0 w1) (hv : SlB R v' w1)
    (hw : (e1 = 0 ∧ w' = w1.setCell ⟨rb, 1, none⟩ v') ∨ (e1 ≠ 0 ∧ w' = w1.setCell ⟨rb, 2, none⟩ (.int .i64 e1))) : Rdr rb (if e1 = 0 then R else L) e1 w' ∧ Chg [rb] w1 w' :=
  after_read (S := []) (h.later hc) (Chg.refl _ _) (by simp) (by intro k hk; cases hk) hv hw
set_option maxHeartbeats 1000000 in
theorem read_one {rb : Nat} {L : List Int} {w0 w : World} (K : Nat) (hK : ∀ x w, (callFunc K x).run Try.prog w = .ok (.enter K x) w) (p : Value) (Q : Value → Int → World → Prop) (h0 : Rdr rb L 0 w0) (hb0 : Below w0.heap.size w0 w)
    (hl : ∀ v, SlB L v w0 → Calls Try.prog K #[v, p] w fun e w' => ∃ v' e1, e = .returned (.tuple #[v', .int .i64 e1]) ∧ Q v' e1 w')
    (hQ : ∀ v' e1 w', Q v' e1 w' → w'.heap[rb]? = w.heap[rb]?) (hQs : ∀ v' e1 w', Q v' e1 w' → ∃ A n c, v' = .slice A n c) :
    Calls Try.prog 35 #[.pointer (some ⟨rb, 0, none⟩), .func (.func K) #[] #[p]] w fun e w' => e = .returned (.tuple #[]) ∧
      ∃ v' e1 w1, Q v' e1 w1 ∧ ((e1 = 0 ∧ w' = w1.setCell ⟨rb, 1, none⟩ v') ∨ (e1 ≠ 0 ∧ w' = w1.setCell ⟨rb, 2, none⟩ (.int .i64 e1))) := by
  have Herr := Lib.hid (err_any (h0.later hb0))
  obtain ⟨v, hr0, hv⟩ := h0
  have hr := (hb0.block _ (Array.getElem?_eq_some_iff.1 hr0).1).trans hr0
  have Hl := Lib.hid (hl v hv)
  have HQ := Lib.hid hQ
  have HQs := Lib.hid hQs
  have Hr := Lib.hid hr
  have c1 := cell_row hr 1
  simp only [List.getElem?_toArray, List.getElem?_cons_zero, List.getElem?_cons_succ] at c1
  clear hl hQ hv hr hQs hr0 hb0
  go_enter Try.func35, Try.ntmps35
  go_wp2_with (first
    | (go_at_call 13; refine Herr.out.mono ?_; rintro e w' ⟨rfl, rfl⟩)
    | (refine Hl.out.mono ?_; rintro e w1 ⟨v1, e1, rfl, hq⟩; obtain ⟨A1, n1, q1, rfl⟩ := HQs.out _ _ _ hq; have hr1 := (HQ.out _ _ _ hq).trans Hr.out; have d1 := cell_row hr1 1; have d2 := cell_row hr1 2; simp only [List.getElem?_toArray, List.getElem?_cons_zero, List.getElem?_cons_succ] at d1 d2; have f1 := free_row hr1 1; have f2 := free_row hr1 2; have HQ1 := Lib.hid hq; clear hq hr1))
  · have he0 : (e1 != 0) = true := by assumption
    have he : e1 ≠ 0 := by simpa using he0
    exact bodyPost_ret (results_none rfl _ _ _) rfl ⟨rfl, _, _, _, HQ1.out, .inr ⟨he, rfl⟩⟩
  · have he0 : (e1 != 0) = false := by assumption
    have he : e1 = 0 := by simpa using he0
    go_end0
    exact ⟨rfl, _, _, _, HQ1.out, .inl ⟨he, rfl⟩⟩
set_option maxHeartbeats 1000000 in
theorem read_two0 {rb : Nat} {L : List Int} {w0 w : World} (K : Nat) (hK : ∀ x w, (callFunc K x).run Try.prog w = .ok (.enter K x) w) (p q : Value) (Q : Value → Int → World → Prop) (h0 : Rdr rb L 0 w0) (hb0 : Below w0.heap.size w0 w)
    (hl : ∀ v, SlB L v w0 → Calls Try.prog K #[v, p, q] w fun e w' => ∃ v' e1, e = .returned (.tuple #[v', .int .i64 e1]) ∧ Q v' e1 w')
    (hQ : ∀ v' e1 w', Q v' e1 w' → w'.heap[rb]? = w.heap[rb]?) (hQs : ∀ v' e1 w', Q v' e1 w' → ∃ A n c, v' = .slice A n c) :
    Calls Try.prog 35 #[.pointer (some ⟨rb, 0, none⟩), .func (.func K) #[] #[p, q]] w fun e w' => e = .returned (.tuple #[]) ∧
      ∃ v' e1 w1, Q v' e1 w1 ∧ ((e1 = 0 ∧ w' = w1.setCell ⟨rb, 1, none⟩ v') ∨ (e1 ≠ 0 ∧ w' = w1.setCell ⟨rb, 2, none⟩ (.int .i64 e1))) := by
  have Herr := Lib.hid (err_any (h0.later hb0))
  obtain ⟨v, hr0, hv⟩ := h0
  have hr := (hb0.block _ (Array.getElem?_eq_some_iff.1 hr0).1).trans hr0
  have Hl := Lib.hid (hl v hv)
  have HQ := Lib.hid hQ
  have HQs := Lib.hid hQs
  have Hr := Lib.hid hr
  have c1 := cell_row hr 1
  simp only [List.getElem?_toArray, List.getElem?_cons_zero, List.getElem?_cons_succ] at c1
  clear hl hQ hv hr hQs hr0 hb0
  go_enter Try.func35, Try.ntmps35
  go_wp2_with (first
    | (go_at_call 13; refine Herr.out.mono ?_; rintro e w' ⟨rfl, rfl⟩)
    | (refine Hl.out.mono ?_; rintro e w1 ⟨v1, e1, rfl, hq⟩; obtain ⟨A1, n1, q1, rfl⟩ := HQs.out _ _ _ hq; have hr1 := (HQ.out _ _ _ hq).trans Hr.out; have d1 := cell_row hr1 1; have d2 := cell_row hr1 2; simp only [List.getElem?_toArray, List.getElem?_cons_zero, List.getElem?_cons_succ] at d1 d2; have f1 := free_row hr1 1; have f2 := free_row hr1 2; have HQ1 := Lib.hid hq; clear hq hr1))
  · have he0 : (e1 != 0) = true := by assumption
    have he : e1 ≠ 0 := by simpa using he0
    exact bodyPost_ret (results_none rfl _ _ _) rfl ⟨rfl, _, _, _, HQ1.out, .inr ⟨he, rfl⟩⟩
  · have he0 : (e1 != 0) = false := by assumption
    have he : e1 = 0 := by simpa using he0
    go_end0
    exact ⟨rfl, _, _, _, HQ1.out, .inl ⟨he, rfl⟩⟩
theorem cutL_lt (L : List Int) (m : Nat) : (cutL L m).1 < 18446744073709551616 := by
  unfold cutL
  split
  · decide
  · split
    · decide
    · exact numAt_lt (s := (numAt L).2) rfl
set_option maxRecDepth 100000 in
set_option maxHeartbeats 4000000 in
theorem text1_any {L : List Int} {v : Value} {w : World} {bm bn : Nat} (most : Int) (b0 : most ≤ 9223372036854775807) (hv : SlB L v w) (hle : L.length ≤ 100000) (hb : InB L) (hm : w.heap[bm]? = some (.cells #[.int .i64 most] 3 (0, 0))) (hn : w.heap[bn]? = some (.cells #[.string ⟨#[]⟩] 9 (0, 0))) :
    Calls Try.prog 39 #[v, .pointer (some ⟨bm, 0, none⟩), .pointer (some ⟨bn, 0, none⟩)] w fun e w' => ∃ v' e1, e = .returned (.tuple #[v', .int .i64 e1]) ∧ QBox (textR L most).2.1 (textR L most).2.2 bn 9 #[.string (strOfNums (textR L most).1)] w v' e1 w' := by
  have Hcut := Lib.hid (cut_any L v (mostN most) hle hb w hv)
  have hRl := cutL_len L (mostN most)
  have hNl := cutL_lt L (mostN most)
  obtain ⟨N, R, E, hNRE⟩ : ∃ N R E, cutL L (mostN most) = (N, R, E) := ⟨_, _, _, rfl⟩
  unfold QBox textR
  rw [hNRE] at Hcut hRl hNl ⊢
  simp only at Hcut hRl hNl ⊢
  have cm := cell_row hm 0
  simp only [List.getElem?_toArray, List.getElem?_cons_zero] at cm
  have Hn := Lib.hid hn
  obtain ⟨m, hmm⟩ : ∃ m, m = mostN most := ⟨_, rfl⟩
  rw [← hmm] at Hcut
  have hw1 : IntKind.u64.wrap (m : Int) = (m : Nat) := IntWalk.u64_in _ (by rw [hmm]; unfold mostN; split <;> omega)
  have hw2 : ∀ k : Nat, k ≤ 100000 → IntKind.u64.wrap (k : Int) = (k : Nat) := fun k hk => IntWalk.u64_in _ (by omega)
  have hmo : (0 ≤ most ∧ most = (m : Nat)) ∨ (most < 0 ∧ m = 0) := by rw [hmm]; unfold mostN; split <;> omega
  have HN := Lib.hid hNl
  clear hv hm hn hNRE hmm hNl b0
  by_cases hE : E = 0
  · subst hE
    rw [if_neg (by simp)]
    by_cases hN : R.length < N
    · rw [if_pos hN]
      have hN' : (R.length : Int) < (N : Int) := by omega
      have hwr := hw2 R.length (by omega)
      clear hw2
      rcases hmo with ⟨hm0, rfl⟩ | ⟨hm0, rfl⟩
      · have hm1 : ¬ ((m : Nat) : Int) < 0 := by omega
        go_enter Try.func39, Try.ntmps39
        go_wp2_with (go_at_call 37; refine Hcut.out.mono ?_; rintro e w1 ⟨v1, rfl, hs1, low1⟩; obtain ⟨A1, c1, rfl, hb1⟩ := hs1; have hn1 := (low1.block _ (Array.getElem?_eq_some_iff.1 Hn.out).1).trans Hn.out; have dn := cell_row hn1 0; simp only [List.getElem?_toArray, List.getElem?_cons_zero] at dn; have fn := free_row hn1 0; have hcap := hb1.1; have Hb1 := Lib.hid hb1; have Low1 := Lib.hid low1; have Hn1 := Lib.hid hn1; clear low1 hn1 hb1)
        go_ret2
        exact ⟨_, _, rfl, rfl, slb_nil _, Hn1.out, Chg.of_below Low1.out⟩
      · have hm1 : most ≤ 0 := by omega
        go_enter Try.func39, Try.ntmps39
        go_wp2_with (go_at_call 37; refine Hcut.out.mono ?_; rintro e w1 ⟨v1, rfl, hs1, low1⟩; obtain ⟨A1, c1, rfl, hb1⟩ := hs1; have hn1 := (low1.block _ (Array.getElem?_eq_some_iff.1 Hn.out).1).trans Hn.out; have dn := cell_row hn1 0; simp only [List.getElem?_toArray, List.getElem?_cons_zero] at dn; have fn := free_row hn1 0; have hcap := hb1.1; have Hb1 := Lib.hid hb1; have Low1 := Lib.hid low1; have Hn1 := Lib.hid hn1; clear low1 hn1 hb1)
        go_ret2
        exact ⟨_, _, rfl, rfl, slb_nil _, Hn1.out, Chg.of_below Low1.out⟩
    · rw [if_neg hN]
      have hN' : ¬ (R.length : Int) < (N : Int) := by omega
      have hNi : (N : Int) ≤ (R.length : Int) := by omega
      have hNn : N ≤ R.length := by omega
      have hwr := hw2 R.length (by omega)
      clear hw2 hN
      rcases hmo with ⟨hm0, rfl⟩ | ⟨hm0, rfl⟩
      · have hm1 : ¬ ((m : Nat) : Int) < 0 := by omega
        go_enter Try.func39, Try.ntmps39
        go_wp2_with (go_at_call 37; refine Hcut.out.mono ?_; rintro e w1 ⟨v1, rfl, hs1, low1⟩; obtain ⟨A1, c1, rfl, hb1⟩ := hs1; have hn1 := (low1.block _ (Array.getElem?_eq_some_iff.1 Hn.out).1).trans Hn.out; have dn := cell_row hn1 0; simp only [List.getElem?_toArray, List.getElem?_cons_zero] at dn; have fn := free_row hn1 0; have hcap := hb1.1; have hNc : (N : Int) ≤ (c1 : Int) := (by omega); have cv := conv_any (byt_take hb1 N) (show (R.take N).length = N by rw [List.length_take]; omega); have hcut := Lib.hid (slb_cut hb1 rfl hNn); obtain ⟨A2, hA2⟩ : ∃ B, (if c1 = N then A1 else A1.map (·.add N)) = B := ⟨_, rfl⟩; rw [hA2] at hcut; have Hb1 := Lib.hid hb1; have Low1 := Lib.hid low1; have Hn1 := Lib.hid hn1; clear low1 hn1 hb1)
        go_ret2
        have hg : Chg [bn] w1 (w1.setCell ⟨bn, 0, none⟩ (.string (strOfNums (R.take N)))) := chg_one _ _ _ _
        have no8 : ∀ k ∈ [bn], ∀ o x, w1.cell? ⟨k, o, none⟩ ≠ some (.int .u8 x) := by
          intro k hk
          obtain rfl := List.mem_singleton.1 hk
          exact one_no8 Hn1.out (by simp)
        exact ⟨_, _, rfl, rfl, slb_chg hcut.out hg no8, by rw [heap_setCell_same _ _ _ _ _ _ Hn1.out]; rfl, (Chg.of_below Low1.out).trans hg⟩
      · have hm1 : most ≤ 0 := by omega
        go_enter Try.func39, Try.ntmps39
        go_wp2_with (go_at_call 37; refine Hcut.out.mono ?_; rintro e w1 ⟨v1, rfl, hs1, low1⟩; obtain ⟨A1, c1, rfl, hb1⟩ := hs1; have hn1 := (low1.block _ (Array.getElem?_eq_some_iff.1 Hn.out).1).trans Hn.out; have dn := cell_row hn1 0; simp only [List.getElem?_toArray, List.getElem?_cons_zero] at dn; have fn := free_row hn1 0; have hcap := hb1.1; have hNc : (N : Int) ≤ (c1 : Int) := (by omega); have cv := conv_any (byt_take hb1 N) (show (R.take N).length = N by rw [List.length_take]; omega); have hcut := Lib.hid (slb_cut hb1 rfl hNn); obtain ⟨A2, hA2⟩ : ∃ B, (if c1 = N then A1 else A1.map (·.add N)) = B := ⟨_, rfl⟩; rw [hA2] at hcut; have Hb1 := Lib.hid hb1; have Low1 := Lib.hid low1; have Hn1 := Lib.hid hn1; clear low1 hn1 hb1)
        go_ret2
        have hg : Chg [bn] w1 (w1.setCell ⟨bn, 0, none⟩ (.string (strOfNums (R.take N)))) := chg_one _ _ _ _
        have no8 : ∀ k ∈ [bn], ∀ o x, w1.cell? ⟨k, o, none⟩ ≠ some (.int .u8 x) := by
          intro k hk
          obtain rfl := List.mem_singleton.1 hk
          exact one_no8 Hn1.out (by simp)
        exact ⟨_, _, rfl, rfl, slb_chg hcut.out hg no8, by rw [heap_setCell_same _ _ _ _ _ _ Hn1.out]; rfl, (Chg.of_below Low1.out).trans hg⟩
  · rw [if_pos hE]
    have hE' : (E != 0) = true := by simpa using hE
    clear hw2
    rcases hmo with ⟨hm0, rfl⟩ | ⟨hm0, rfl⟩
    · have hm1 : ¬ ((m : Nat) : Int) < 0 := by omega
      go_enter Try.func39, Try.ntmps39
      go_wp2_with (go_at_call 37; refine Hcut.out.mono ?_; rintro e w1 ⟨v1, rfl, hs1, low1⟩; obtain ⟨A1, c1, rfl, hb1⟩ := hs1; have hn1 := (low1.block _ (Array.getElem?_eq_some_iff.1 Hn.out).1).trans Hn.out; have dn := cell_row hn1 0; simp only [List.getElem?_toArray, List.getElem?_cons_zero] at dn; have fn := free_row hn1 0; have hcap := hb1.1; have Hb1 := Lib.hid hb1; have Low1 := Lib.hid low1; have Hn1 := Lib.hid hn1; clear low1 hn1 hb1)
      go_ret2
      exact ⟨_, _, rfl, rfl, slb_nil _, Hn1.out, Chg.of_below Low1.out⟩
    · have hm1 : most ≤ 0 := by omega
      go_enter Try.func39, Try.ntmps39
      go_wp2_with (go_at_call 37; refine Hcut.out.mono ?_; rintro e w1 ⟨v1, rfl, hs1, low1⟩; obtain ⟨A1, c1, rfl, hb1⟩ := hs1; have hn1 := (low1.block _ (Array.getElem?_eq_some_iff.1 Hn.out).1).trans Hn.out; have dn := cell_row hn1 0; simp only [List.getElem?_toArray, List.getElem?_cons_zero] at dn; have fn := free_row hn1 0; have hcap := hb1.1; have Hb1 := Lib.hid hb1; have Low1 := Lib.hid low1; have Hn1 := Lib.hid hn1; clear low1 hn1 hb1)
      go_ret2
      exact ⟨_, _, rfl, rfl, slb_nil _, Hn1.out, Chg.of_below Low1.out⟩
end Go.Proofs.Ytigfcmnknijobaa.Cod
