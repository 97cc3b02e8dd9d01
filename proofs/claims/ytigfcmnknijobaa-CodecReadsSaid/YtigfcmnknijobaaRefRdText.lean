/- DERIVED. The contracts of the reference's Form and Text. -/
import Derived.Test.YtigfcmnknijobaaRefRdNum
namespace Go.Proofs.Ytigfcmnknijobaa.Cod
open Go.RowKit Str
/-- the reader behind a read: its error, and what is left if there is none. -/
def QE (B g : Nat) (L : List Int) (e : Int) (w : World) : Prop := ∃ M, QR B g M e w ∧ (e = 0 → M = L)
theorem QR.e {B g : Nat} {L : List Int} {e : Int} {w : World} (h : QR B g L e w) : QE B g L e w := ⟨L, h, fun _ => rfl⟩
theorem QR.e2 {B g : Nat} {L M : List Int} {e : Int} {w : World} (h : QR B g M e w) (he : e ≠ 0) : QE B g L e w := ⟨M, h, fun h0 => absurd h0 he⟩
theorem cutL_e (L : List Int) (most : Nat) : ((cutL L most).2.2 = 0 ∧ (cutL L most).1 ≤ most) ∨ ((cutL L most).2.2 ≠ 0 ∧ (cutL L most).1 = 0) := by
  unfold cutL
  split
  · exact .inr ⟨by decide, rfl⟩
  · split
    · exact .inr ⟨by decide, rfl⟩
    · exact .inl ⟨rfl, by show (numAt L).1 ≤ most; omega⟩
theorem form_off {B g : Nat} {L : List Int} {er : Int} {w : World} (h : QR B g L er w) (he : er ≠ 0) (most : Nat) :
    Calls Try.prog 44 #[.pointer (some ⟨g, 0, none⟩), .int .u64 (most : Nat)] w fun e w' => e = .returned (.int .u64 0) ∧ w = w' := by
  have HN := Lib.hid (rnum_off h he most)
  obtain ⟨v, h1, h2, _⟩ := h
  have c1 : w.cell? ⟨g, 1, none⟩ = some (.int .i64 er) := cell_row h1 1
  clear h1 h2
  go_enter Try.func44, Try.ntmps44
  go_wp2_with (go_at_call 16; refine HN.out.mono ?_; rintro e w2 ⟨rfl, rfl⟩)
  go_ret
  exact ⟨rfl, rfl⟩
set_option maxHeartbeats 2000000 in
theorem form_on {B g : Nat} {L : List Int} {w : World} (h : QR B g L 0 w) (hb : InB L) (hle : L.length ≤ 100000) (most : Nat) (hmo : most < 18446744073709551616) :
    Calls Try.prog 44 #[.pointer (some ⟨g, 0, none⟩), .int .u64 (most : Nat)] w fun e w' => e = .returned (.int .u64 ((cutL L most).1 : Nat)) ∧ QR B g (if (cutL L most).2.2 = 0 then (cutL L most).2.1 else L) (if (cutL L most).2.2 = 0 then 0 else 4) w' ∧ Chg [g] w w' := by
  have HN := Lib.hid (rnum_on h hb hle most hmo)
  rw [readN_on] at HN
  have h34 : (cutL L most).2.2 = 0 ∨ (cutL L most).2.2 = 3 ∨ (cutL L most).2.2 = 4 := by
    unfold cutL
    split
    · exact .inr (.inr rfl)
    · split
      · exact .inr (.inl rfl)
      · exact .inl rfl
  obtain ⟨v, h1, h2, _⟩ := h
  have c1 : w.cell? ⟨g, 1, none⟩ = some (.int .i64 0) := cell_row h1 1
  obtain ⟨n, hn⟩ : ∃ n, n = (cutL L most).1 := ⟨_, rfl⟩
  obtain ⟨er, her⟩ : ∃ er, er = (cutL L most).2.2 := ⟨_, rfl⟩
  obtain ⟨R, hR⟩ : ∃ R, R = (cutL L most).2.1 := ⟨_, rfl⟩
  rw [← hn, ← her, ← hR] at HN
  rw [← her] at h34
  rw [← hn, ← her, ← hR]
  clear h1 h2 hn her hR hb hle hmo
  have tac : True := trivial
  rcases h34 with e0 | e0 | e0
  · subst e0
    go_enter Try.func44, Try.ntmps44
    go_wp2_with (go_at_call 16; refine HN.out.mono ?_; rintro e w2 ⟨rfl, hq, hc⟩; have c2 : w2.cell? ⟨g, 1, none⟩ = some (.int .i64 0) := (by obtain ⟨u, k, _, _⟩ := hq; exact cell_row k 1); have HQ2 := Lib.hid hq; have HC2 := Lib.hid hc; clear hq hc)
    go_ret
    exact ⟨rfl, HQ2.out, HC2.out⟩
  · subst e0
    go_enter Try.func44, Try.ntmps44
    go_wp2_with (go_at_call 16; refine HN.out.mono ?_; rintro e w2 ⟨rfl, hq, hc⟩; have c2 : w2.cell? ⟨g, 1, none⟩ = some (.int .i64 3) := (by obtain ⟨u, k, _, _⟩ := hq; exact cell_row k 1); have f2 : w2.frozen? ⟨g, 1, none⟩ = false := (by obtain ⟨u, k, _, _⟩ := hq; exact free_row k 1); have HQ2 := Lib.hid hq; have HC2 := Lib.hid hc; clear hq hc)
    go_ret
    exact ⟨rfl, HQ2.out.setE 4, HC2.out.trans (chg_one _ _ _ _)⟩
  · subst e0
    go_enter Try.func44, Try.ntmps44
    go_wp2_with (go_at_call 16; refine HN.out.mono ?_; rintro e w2 ⟨rfl, hq, hc⟩; have c2 : w2.cell? ⟨g, 1, none⟩ = some (.int .i64 4) := (by obtain ⟨u, k, _, _⟩ := hq; exact cell_row k 1); have HQ2 := Lib.hid hq; have HC2 := Lib.hid hc; clear hq hc)
    go_ret
    exact ⟨rfl, HQ2.out, HC2.out⟩
theorem conv_nil (w : World) : (convert 22 9 (.slice none 0 0)).run Try.prog w = .ok (.string ⟨#[]⟩) w := by
  obtain ⟨A, c, e, b⟩ := slb_nil w
  have h := conv_any b rfl
  rw [← e] at h
  exact h
theorem most_facts (most : Int) (b0 : most ≤ 9223372036854775807) : mostN most ≤ 9223372036854775807 ∧ ((0 ≤ most ∧ most = (mostN most : Nat)) ∨ (most < 0 ∧ mostN most = 0)) := by
  unfold mostN
  split <;> omega
set_option maxHeartbeats 1000000 in
theorem rtext_off {B g : Nat} {L : List Int} {er : Int} {w : World} (h : QR B g L er w) (he : er ≠ 0) (most : Int) (b0 : most ≤ 9223372036854775807) :
    Calls Try.prog 18 #[.pointer (some ⟨g, 0, none⟩), .int .i64 most] w fun e w' => e = .returned (.string ⟨#[]⟩) ∧ w = w' := by
  have HN := Lib.hid (fun m => rnum_off h he m)
  have HT := Lib.hid (fun n => take_off h he n)
  have hmf := most_facts most b0
  obtain ⟨m, hmm⟩ : ∃ m, m = mostN most := ⟨_, rfl⟩
  rw [← hmm] at hmf
  have hw1 : IntKind.u64.wrap (m : Int) = (m : Nat) := IntWalk.u64_in _ (by omega)
  have hmo := hmf.2
  clear h he hmf hmm b0
  rcases hmo with ⟨hm0, rfl⟩ | ⟨hm0, rfl⟩
  · have hm1 : ¬ ((m : Nat) : Int) < 0 := by omega
    go_enter Try.func18, Try.ntmps18
    go_wp2_with (first
      | (go_at_call 40; refine (HT.out _).mono ?_; rintro e w2 ⟨rfl, rfl⟩; have cv := conv_nil w)
      | (go_at_call 16; refine (HN.out _).mono ?_; rintro e w2 ⟨rfl, rfl⟩))
    go_ret
    exact ⟨rfl, rfl⟩
  · have hm1 : most ≤ 0 := by omega
    go_enter Try.func18, Try.ntmps18
    go_wp2_with (first
      | (go_at_call 40; refine (HT.out _).mono ?_; rintro e w2 ⟨rfl, rfl⟩; have cv := conv_nil w)
      | (go_at_call 16; refine (HN.out _).mono ?_; rintro e w2 ⟨rfl, rfl⟩))
    go_ret
    exact ⟨rfl, rfl⟩
set_option maxHeartbeats 2000000 in
theorem rtext_on {B g : Nat} {L : List Int} {w : World} (h : QR B g L 0 w) (hb : InB L) (hle : L.length ≤ 100000) (most : Int) (b0 : most ≤ 9223372036854775807) :
    Calls Try.prog 18 #[.pointer (some ⟨g, 0, none⟩), .int .i64 most] w fun e w' => e = .returned (.string (strOfNums (textR L most).1)) ∧ QE B g (if (textR L most).2.2 = 0 then (textR L most).2.1 else L) (textR L most).2.2 w' ∧ Chg [g] w w' := by
  have hmf := most_facts most b0
  obtain ⟨m, hmm⟩ : ∃ m, m = mostN most := ⟨_, rfl⟩
  rw [← hmm] at hmf
  have hw1 : IntKind.u64.wrap (m : Int) = (m : Nat) := IntWalk.u64_in _ (by omega)
  have hmo := hmf.2
  have HN := Lib.hid (rnum_on h hb hle m (by omega))
  rw [readN_on] at HN
  have hce := cutL_e L m
  have hRl := cutL_len L m
  unfold textR
  rw [← hmm]
  obtain ⟨N, R, E, hNRE⟩ : ∃ N R E, cutL L m = (N, R, E) := ⟨_, _, _, rfl⟩
  rw [hNRE] at HN hce hRl ⊢
  simp only at HN hce hRl ⊢
  have hm2 := hmf.1
  clear h hb hNRE hmm b0 hmf
  rcases hce with ⟨rfl, hNm⟩ | ⟨hE, rfl⟩
  · rw [if_neg (by simp)]
    rw [if_pos rfl] at HN
    have hw3 : IntKind.i64.wrap (N : Int) = (N : Nat) := by rw [IntKind.wrap_i64]; omega
    by_cases hN : R.length < N
    · rw [if_pos hN]
      have HS := Lib.hid hN
      clear hN hNm hm2
      rcases hmo with ⟨hm0, rfl⟩ | ⟨hm0, rfl⟩
      · have hm1 : ¬ ((m : Nat) : Int) < 0 := by omega
        go_enter Try.func18, Try.ntmps18
        go_wp2_with (first
          | (go_at_call 40; refine (take_short HQ2.out _ HS.out).mono ?_; rintro e w3 ⟨rfl, hq, hc⟩; have cv := conv_nil w3; have HQ3 := Lib.hid hq; have HC3 := Lib.hid hc; clear hq hc)
          | (go_at_call 16; refine HN.out.mono ?_; rintro e w2 ⟨rfl, hq, hc⟩; have HQ2 := Lib.hid hq; have HC2 := Lib.hid hc; clear hq hc))
        go_ret
        exact ⟨rfl, HQ3.out.e2 (by decide), HC2.out.trans HC3.out⟩
      · have hm1 : most ≤ 0 := by omega
        go_enter Try.func18, Try.ntmps18
        go_wp2_with (first
          | (go_at_call 40; refine (take_short HQ2.out _ HS.out).mono ?_; rintro e w3 ⟨rfl, hq, hc⟩; have cv := conv_nil w3; have HQ3 := Lib.hid hq; have HC3 := Lib.hid hc; clear hq hc)
          | (go_at_call 16; refine HN.out.mono ?_; rintro e w2 ⟨rfl, hq, hc⟩; have HQ2 := Lib.hid hq; have HC2 := Lib.hid hc; clear hq hc))
        go_ret
        exact ⟨rfl, HQ3.out.e2 (by decide), HC2.out.trans HC3.out⟩
    · rw [if_neg hN]
      have HS : Hid (N ≤ R.length) := by show N ≤ R.length; omega
      have HTl : Hid ((R.take N).length = N) := by show _ = _; rw [List.length_take]; omega
      clear hN hNm hm2
      rcases hmo with ⟨hm0, rfl⟩ | ⟨hm0, rfl⟩
      · have hm1 : ¬ ((m : Nat) : Int) < 0 := by omega
        go_enter Try.func18, Try.ntmps18
        go_wp2_with (first
          | (go_at_call 40; refine (take_ok HQ2.out _ HS.out).mono ?_; rintro e w3 ⟨vt, rfl, ht, _, hq, hc⟩; obtain ⟨A3, c3, rfl, b3⟩ := ht; have cv := conv_any b3 rfl; rw [HTl.out] at cv ⊢; have HQ3 := Lib.hid hq; have HC3 := Lib.hid hc; clear hq hc b3)
          | (go_at_call 16; refine HN.out.mono ?_; rintro e w2 ⟨rfl, hq, hc⟩; have HQ2 := Lib.hid hq; have HC2 := Lib.hid hc; clear hq hc))
        go_ret
        exact ⟨rfl, HQ3.out.e, HC2.out.trans HC3.out⟩
      · have hm1 : most ≤ 0 := by omega
        go_enter Try.func18, Try.ntmps18
        go_wp2_with (first
          | (go_at_call 40; refine (take_ok HQ2.out _ HS.out).mono ?_; rintro e w3 ⟨vt, rfl, ht, _, hq, hc⟩; obtain ⟨A3, c3, rfl, b3⟩ := ht; have cv := conv_any b3 rfl; rw [HTl.out] at cv ⊢; have HQ3 := Lib.hid hq; have HC3 := Lib.hid hc; clear hq hc b3)
          | (go_at_call 16; refine HN.out.mono ?_; rintro e w2 ⟨rfl, hq, hc⟩; have HQ2 := Lib.hid hq; have HC2 := Lib.hid hc; clear hq hc))
        go_ret
        exact ⟨rfl, HQ3.out.e, HC2.out.trans HC3.out⟩
  · rw [if_pos hE]
    rw [if_neg hE] at HN
    rw [if_neg hE]
    have HE := Lib.hid hE
    clear hE hm2
    rcases hmo with ⟨hm0, rfl⟩ | ⟨hm0, rfl⟩
    · have hm1 : ¬ ((m : Nat) : Int) < 0 := by omega
      go_enter Try.func18, Try.ntmps18
      go_wp2_with (first
        | (go_at_call 40; refine (take_off HQ2.out HE.out _).mono ?_; rintro e w3 ⟨rfl, rfl⟩; have cv := conv_nil w2)
        | (go_at_call 16; refine HN.out.mono ?_; rintro e w2 ⟨rfl, hq, hc⟩; have HQ2 := Lib.hid hq; have HC2 := Lib.hid hc; clear hq hc))
      go_ret
      exact ⟨rfl, HQ2.out.e2 HE.out, HC2.out⟩
    · have hm1 : most ≤ 0 := by omega
      go_enter Try.func18, Try.ntmps18
      go_wp2_with (first
        | (go_at_call 40; refine (take_off HQ2.out HE.out _).mono ?_; rintro e w3 ⟨rfl, rfl⟩; have cv := conv_nil w2)
        | (go_at_call 16; refine HN.out.mono ?_; rintro e w2 ⟨rfl, hq, hc⟩; have HQ2 := Lib.hid hq; have HC2 := Lib.hid hc; clear hq hc))
      go_ret
      exact ⟨rfl, HQ2.out.e2 HE.out, HC2.out⟩
end Go.Proofs.Ytigfcmnknijobaa.Cod
