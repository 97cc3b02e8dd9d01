/- DERIVED. Texts of ours, merged: XRef9App XRef9Open XRef9Steps. -/
import Derived.Test.YtpeioogkbcejmaaMplays13
import Derived.Test.YtpeioogkbcejmaaMplays10
import Derived.BigQuiet
/- DERIVED. Layer 9's reference: Append, over any log on its disk. -/
namespace Go.Proofs.Ytpeioogkbcejmaa.Slt
open Go.RowKit Dsk
theorem appD_go {D : DS} {S : LS} {t : List Int} {F : Nat} {W : DS × Int} (h1 : ¬ (S.lost = true ∨ D.off = true)) (h2 : ¬ 262144 < t.length) (h3 : ¬ S.secs - S.used < tk t.length) (hF : F = firstK t.length (S.secs - S.used)) (hW : W = writD D (S.from_ + S.used) t F) :
    appD D S t = (W.1, if W.2 = 0 then { S with used := S.used + tk t.length, texts := S.texts ++ [t] } else { S with lost := true }, W.2) := by
  unfold appD
  rw [if_neg h1, if_neg h2, if_neg h3, ← hF, ← hW]
  by_cases e : W.2 = 0
  · rw [if_pos e, if_pos e, e]
  · rw [if_neg e, if_neg e]
section
variable {w : World} {M : MK} {D : DS} {J : LK} {S : LS}
theorem rappend_any (hd : RD w M D) (h : RL w M J S) (A : Option Addr) (n c : Nat) (t : List Int) (htl : t.length = n) (hB : Byt w A c t) (hA : 0 < t.length → ∀ a, A = some a → a.block ∉ M.bl) (ht : InB t) (hend : (S.from_ + S.secs) * 128 ≤ D.data.length) (hmost : D.data.length ≤ 2097152) :
    Calls Try.prog 25 #[.pointer (some ⟨J.g, 0, none⟩), .slice A n c] w fun e w' => ∃ J', e = .returned (.int .i64 (appD D S t).2.2) ∧ RAppQ w w' M J J' (appD D S t).1 (appD D S t).2.1 := by
  by_cases h1 : S.lost = true ∨ D.off = true
  · have e : appD D S t = (D, S, 12) := by unfold appD; rw [if_pos h1]
    rw [e]
    refine (rappend_off hd h _ h1).mono ?_
    rintro e w' ⟨rfl, rfl⟩
    exact ⟨J, rfl, .same hd h (Below.refl _ _)⟩
  · have hl : S.lost = false := by cases e : S.lost; rfl; exact absurd (.inl e) h1
    have ho : D.off = false := by cases e : D.off; rfl; exact absurd (.inr e) h1
    by_cases h2 : 262144 < n
    · have e : appD D S t = (D, S, 3) := by unfold appD; rw [if_neg h1, htl, if_pos h2]
      rw [e]
      refine (rappend_long hd h A n c hl ho h2).mono ?_
      rintro e w' ⟨rfl, rfl⟩
      exact ⟨J, rfl, .same hd h (Below.refl _ _)⟩
    · by_cases h3 : S.secs - S.used < tk n
      · have e : appD D S t = (D, S, 7) := by unfold appD; rw [if_neg h1, htl, if_neg h2, if_pos h3]
        rw [e]
        refine (rappend_full hd h A n c hl ho (by omega) h3).mono ?_
        rintro e w' ⟨rfl, hb⟩
        exact ⟨J, rfl, .same hd h hb⟩
      · have hfit := h.fit
        have hpos := tk_pos n
        have hf5 := tk_fit n
        by_cases h4 : S.used + tk n = S.secs
        · have hF : tk n = firstK t.length (S.secs - S.used) := by rw [htl, firstK]; omega
          have hg := appD_go (W := writD D (S.from_ + S.used) t (tk n)) h1 (by rw [htl]; exact h2) (by rw [htl]; exact h3) hF rfl
          rw [hg]
          by_cases e0 : (runD D (S.from_ + S.used) (slotB 0 t (tk n)) 0 (tk n)).2 = 0
          · rw [writD_yes e0, htl]
            exact rappend_go_tight hd h A n c t htl hB hA ht hl ho (by omega) h4 hend hmost e0
          · rw [writD_no e0, if_neg e0]
            exact (rappend_cut_tight hd h A n c t htl hB ht hl ho (by omega) h4 hend hmost e0).mono fun _ _ ⟨e, q⟩ => ⟨J, e, q⟩
        · have hF : tk n + 1 = firstK t.length (S.secs - S.used) := by rw [htl, firstK]; omega
          have hg := appD_go (W := writD D (S.from_ + S.used) t (tk n + 1)) h1 (by rw [htl]; exact h2) (by rw [htl]; exact h3) hF rfl
          rw [hg]
          by_cases e0 : (runD D (S.from_ + S.used) (slotB 0 t (tk n + 1)) 0 (tk n + 1)).2 = 0
          · rw [writD_yes e0, htl, slotB_take 1 t (tk n) hpos (by rw [htl]; exact hf5)]
            exact rappend_go_room hd h A n c t htl hB hA ht hl ho (by omega) (by omega) hend hmost e0
          · rw [writD_no e0, if_neg e0]
            exact (rappend_cut_room hd h A n c t htl hB ht hl ho (by omega) (by omega) hend hmost e0).mono fun _ _ ⟨e, q⟩ => ⟨J, e, q⟩
end
end Go.Proofs.Ytpeioogkbcejmaa.Slt
/- DERIVED. Layer 9's reference: Open. -/
namespace Go.Proofs.Ytpeioogkbcejmaa.Slt
open Go.RowKit Dsk
/-- what the reference's Open returns of bytes that read so: the error, or a log. -/
def ROpenR (w : World) (M : MK) (a b : Nat) (cs : List (List Int)) (e : Bool) (v : Ending) (w' : World) : Prop :=
  (e = true ∧ v = .returned (.tuple #[.pointer none, .int .i64 9])) ∨
  (e = false ∧ ∃ J : LK, v = .returned (.tuple #[.pointer (some ⟨J.g, 0, none⟩), .int .i64 0]) ∧ RL w' M J ⟨a, b, useR cs (List.range cs.length), cs.map textC, false⟩ ∧ (∀ q ∈ J.bl, w.heap.size ≤ q) ∧ (∀ q ∈ J.tx, w.heap.size ≤ q))
set_option maxRecDepth 100000 in
theorem ropen_arg {w : World} {M : MK} {D : DS} (h : RD w M D) (hok : D.Ok) (x y : Int) (hx : -1000 ≤ x ∧ x ≤ 1000) (hy : -9223372036854775808 ≤ y ∧ y ≤ 1000) (hbad : x < 0 ∨ y < 1 ∨ (D.secs : Int) < x + y) : Calls Try.prog 24 #[.pointer (some ⟨M.g, 0, none⟩), .int .i64 x, .int .i64 y] w fun e w' => e = .returned (.tuple #[.pointer none, .int .i64 2]) ∧ w = w' := by
  obtain ⟨wh, m, hrow, _⟩ := h.row
  have c0 := (rowR_cells hrow).1
  have hlen := hok.whole128
  have hmost := hok.most
  obtain ⟨s, hs⟩ : ∃ s, s = D.secs := ⟨_, rfl⟩
  rw [hlen, ← hs] at c0
  rw [← hs] at hbad hmost
  clear h hok hrow hlen hs
  by_cases h1 : x < 0
  · go_enter Try.func24, Try.ntmps24
    go_wp2
    go_ret2
    exact ⟨rfl, rfl⟩
  · by_cases h2 : y < 1
    · go_enter Try.func24, Try.ntmps24
      go_wp2
      go_ret2
      exact ⟨rfl, rfl⟩
    · have h3 : ((s * 128 : Nat) : Int) < 128 * (x + y) := by omega
      have hw1 : IntKind.i64.wrap (x + y) = x + y := by rw [IntKind.wrap_i64]; omega
      have hw2 : IntKind.i64.wrap (128 * (x + y)) = 128 * (x + y) := by rw [IntKind.wrap_i64]; omega
      go_enter Try.func24, Try.ntmps24
      go_wp2
      go_ret2
      exact ⟨rfl, rfl⟩
set_option maxRecDepth 100000 in
theorem ropen_off {w : World} {M : MK} {D : DS} (h : RD w M D) (hok : D.Ok) (a b : Nat) (hab : a + b ≤ D.secs) (hb1 : 1 ≤ b) (ho : D.off = true) : Calls Try.prog 24 #[.pointer (some ⟨M.g, 0, none⟩), .int .i64 a, .int .i64 b] w fun e w' => e = .returned (.tuple #[.pointer none, .int .i64 12]) ∧ w = w' := by
  obtain ⟨wh, m, hrow, _⟩ := h.row
  have c0 := (rowR_cells hrow).1
  have c1 := (rowR_cells hrow).2.1
  have hlen := hok.whole128
  have hmost := hok.most
  obtain ⟨s, hs⟩ : ∃ s, s = D.secs := ⟨_, rfl⟩
  rw [hlen, ← hs] at c0
  rw [ho] at c1
  rw [← hs] at hab hmost
  clear h hok hrow hlen hs
  have h1 : ¬ (a : Int) < 0 := by omega
  have h2 : ¬ (b : Int) < 1 := by omega
  have h3 : ¬ ((s * 128 : Nat) : Int) < 128 * ((a : Int) + (b : Int)) := by omega
  have hw1 : IntKind.i64.wrap ((a : Int) + (b : Int)) = (a : Int) + (b : Int) := by rw [IntKind.wrap_i64]; omega
  have hw2 : IntKind.i64.wrap (128 * ((a : Int) + (b : Int))) = 128 * ((a : Int) + (b : Int)) := by rw [IntKind.wrap_i64]; omega
  go_enter Try.func24, Try.ntmps24
  go_wp2
  go_ret2
  exact ⟨rfl, rfl⟩
end Go.Proofs.Ytpeioogkbcejmaa.Slt
/- DERIVED. What Open meets, step by step, on lists. No program. -/
namespace Go.Proofs.Ytpeioogkbcejmaa.Slt
open Go.RowKit Dsk
/-- the length's bytes, one after the other. -/
def nvB (B : List Int) : Nat → Int
  | 0 => 0
  | 1 => 0
  | k + 2 => 256 * nvB B (k + 1) + B.getD (k + 1) 0
theorem nvB_next (B : List Int) (k : Nat) (h : 1 ≤ k) : nvB B (k + 1) = 256 * nvB B k + B.getD k 0 := by
  obtain ⟨j, rfl⟩ : ∃ j, k = j + 1 := ⟨k - 1, by omega⟩
  rfl
theorem nvB_five {B : List Int} (h : InB B) : nvB B 5 = (lenB B : Nat) := by
  have h1 := h 1
  have h2 := h 2
  have h3 := h 3
  have h4 := h 4
  show 256 * (256 * (256 * (256 * 0 + B.getD 1 0) + B.getD 2 0) + B.getD 3 0) + B.getD 4 0 = _
  unfold lenB
  omega
theorem nvB_bound {B : List Int} (h : InB B) (k : Nat) (hk : k ≤ 5) : 0 ≤ nvB B k ∧ nvB B k ≤ 4294967295 := by
  have h1 := h 1
  have h2 := h 2
  have h3 := h 3
  have h4 := h 4
  match k, hk with
  | 0, _ => show (0 : Int) ≤ 0 ∧ (0 : Int) ≤ 4294967295; omega
  | 1, _ => show (0 : Int) ≤ 0 ∧ (0 : Int) ≤ 4294967295; omega
  | 2, _ => show 0 ≤ 256 * 0 + B.getD 1 0 ∧ 256 * 0 + B.getD 1 0 ≤ _; omega
  | 3, _ => show 0 ≤ 256 * (256 * 0 + B.getD 1 0) + B.getD 2 0 ∧ 256 * (256 * 0 + B.getD 1 0) + B.getD 2 0 ≤ _; omega
  | 4, _ => show 0 ≤ 256 * (256 * (256 * 0 + B.getD 1 0) + B.getD 2 0) + B.getD 3 0 ∧ 256 * (256 * (256 * 0 + B.getD 1 0) + B.getD 2 0) + B.getD 3 0 ≤ _; omega
  | 5, _ => show 0 ≤ 256 * (256 * (256 * (256 * 0 + B.getD 1 0) + B.getD 2 0) + B.getD 3 0) + B.getD 4 0 ∧ 256 * (256 * (256 * (256 * 0 + B.getD 1 0) + B.getD 2 0) + B.getD 3 0) + B.getD 4 0 ≤ _; omega
theorem drop_end {L R : List Int} {cs : List (List Int)} {e : Bool} (hr : Reads L cs R e) : L.drop (posC cs cs.length) = R := by
  unfold posC
  rw [List.take_length, hr.eq, List.drop_left]
/-- a right slot. -/
structure StepG (b u n : Nat) (X c : List Int) : Prop where
  one : X.getD 0 0 = 1
  len : lenB X = n
  most : n ≤ 262144
  fits : tk n ≤ b - u
  good : Good c
  lenC : lenB c = n
  get : ∀ j, j < c.length → X.getD j 0 = c.getD j 0
theorem step_good {L R : List Int} {cs : List (List Int)} {e : Bool} (hr : Reads L cs R e) {b i u : Nat} (hn : L.length = b * 128) (hu : u * 128 = posC cs i) (hi : i < cs.length) : u < b ∧ StepG b u (lenB (cs.getD i [])) (L.drop (posC cs i)) (cs.getD i []) := by
  have hg := hr.good _ (getD_mem hi)
  have hd := drop_cons hr hi
  have hl := hg.len
  have hlen := congrArg List.length hd
  rw [List.length_drop, List.length_append, hn] at hlen
  have hp := tk_pos (lenB (cs.getD i []))
  have hc := hg.2.2
  refine ⟨by omega, ?_, ?_, hg.2.1, by omega, hg, rfl, fun j hj => ?_⟩
  · rw [hd, getD_append_lt (by omega)]; exact hg.1
  · rw [hd]; exact lenB_app (by omega) _
  · rw [hd, getD_append_lt hj]
theorem step_end {L R : List Int} {cs : List (List Int)} {e : Bool} (hr : Reads L cs R e) {b u : Nat} (hn : L.length = b * 128) (hu : u * 128 = posC cs cs.length) : (L.drop (posC cs cs.length)).length = (b - u) * 128 ∧ (u = b → e = false) ∧ (u < b → e = false → (L.drop (posC cs cs.length)).getD 0 0 = 0) ∧ (e = true → (L.drop (posC cs cs.length)).getD 0 0 ≠ 0 ∧ ¬ ((L.drop (posC cs cs.length)).getD 0 0 = 1 ∧ lenB (L.drop (posC cs cs.length)) ≤ 262144 ∧ tk (lenB (L.drop (posC cs cs.length))) ≤ b - u)) := by
  have hl : (L.drop (posC cs cs.length)).length = (b - u) * 128 := by rw [List.length_drop, hn, ← hu]; omega
  refine ⟨hl, fun h => ?_, fun h1 h2 => ?_, fun h => ?_⟩
  · cases e with
    | false => rfl
    | true =>
      have ht : BadB R := hr.tail
      have := drop_end hr
      rw [this] at hl
      exact absurd (List.eq_nil_of_length_eq_zero (by rw [hl]; omega)) ht.1
  · subst h2
    have ht : Done R := hr.tail
    rw [drop_end hr] at hl ⊢
    rcases ht with h | h
    · rw [h] at hl; simp at hl; omega
    · exact h
  · subst h
    have ht : BadB R := hr.tail
    rw [drop_end hr] at hl ⊢
    exact ⟨ht.2.1, fun h => ht.2.2 ⟨h.1, h.2.1, by rw [hl]; have := h.2.2; omega⟩⟩
end Go.Proofs.Ytpeioogkbcejmaa.Slt
