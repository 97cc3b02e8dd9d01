/- DERIVED. A log in memory; the contracts of its small methods. -/
import Derived.Test.YthjjkbgkfikglaaSltOf
import Derived.BigQuiet
namespace Go.Proofs.Ythjjkbgkfikglaa.Slt
open Go.RowKit Dsk
/-- where a log lies: its struct, the slice of its records, and their slices. -/
structure LK where
  g : Nat
  v : Value
  ts : List Value
/-- what a log is. -/
structure LS where
  from_ : Nat
  secs : Nat
  used : Nat
  texts : List (List Int)
  lost : Bool
def LK.ptr (J : LK) : Value := .pointer (some ⟨J.g, 0, none⟩)
/-- the blocks that its calls may turn; those of its texts. -/
def LK.bl (J : LK) : List Nat := J.g :: J.v.ownBlock.toList
def LK.tx (J : LK) : List Nat := J.ts.flatMap fun v => v.ownBlock.toList
def rowL (K : DK) (J : LK) (S : LS) : Array Value := #[J.ptr, K.ptr, .int .i64 S.from_, .int .i64 S.secs, .int .i64 S.used, J.v, .bool S.lost]
structure Lg0 (w : World) (K : DK) (J : LK) (S : LS) : Prop where
  row : w.heap[J.g]? = some (.cells (rowL K J S) 61 (0, 0))
  own : w.ownsRow 0 33 1 J.v S.texts.length J.ts
  gv : ∀ q, J.v.ownBlock = some q → q ≠ J.g
  txt : ∀ i, i < S.texts.length → SlB (S.texts.getD i []) (J.ts.getD i undef) w
  tlt : ∀ q ∈ J.tx, q < w.heap.size
  tap : ∀ q ∈ J.tx, q ∉ K.bl ∧ q ∉ J.bl
  kap : ∀ q ∈ J.bl, q ∉ K.bl
  inb : ∀ t ∈ S.texts, InB t ∧ t.length ≤ 262144
/-- and its numbers fit. -/
structure Lg (w : World) (K : DK) (J : LK) (S : LS) : Prop extends Lg0 w K J S where
  fit : S.used ≤ S.secs
  end_ : S.from_ + S.secs ≤ 16384
  cnt : S.texts.length ≤ S.used
theorem Lg0.glt {w : World} {K : DK} {J : LK} {S : LS} (h : Lg0 w K J S) : J.g < w.heap.size := (Array.getElem?_eq_some_iff.1 h.row).1
theorem Lg0.len {w : World} {K : DK} {J : LK} {S : LS} (h : Lg0 w K J S) : J.ts.length = S.texts.length := by have := h.own.1; omega
/-- a row of the call's own stays where its block does not turn. -/
theorem own_chg {S : List Nat} {w w' : World} {base n s : Nat} {t : TypeId} {v : Value} {L : List Value} (h : w.ownsRow base t s v n L) (hc : Chg S w w') (hS : ∀ q, v.ownBlock = some q → q ∉ S) : w'.ownsRow base t s v n L := by
  obtain ⟨h1, h⟩ := h
  refine ⟨h1, ?_⟩
  rcases h with h | ⟨g, cap, cur, h1, h2, h3, h4, h5, h6, h7⟩
  · exact .inl h
  · exact .inr ⟨g, cap, cur, h1, h2, hc.at h3 (hS g (by rw [h1]; rfl)), h4, h5, h6, h7⟩
theorem mem_tx {J : LK} {i : Nat} {a : Addr} {n c : Nat} (hi : J.ts.getD i undef = .slice (some a) n c) (hl : i < J.ts.length) : a.block ∈ J.tx := by
  unfold LK.tx
  rw [List.mem_flatMap]
  refine ⟨J.ts.getD i undef, ?_, by rw [hi]; simp [Value.ownBlock]⟩
  rw [List.getD_eq_getElem?_getD, List.getElem?_eq_getElem hl, Option.getD_some]
  exact List.getElem_mem hl
theorem Lg0.chg {T : List Nat} {w w' : World} {K : DK} {J : LK} {S : LS} (h : Lg0 w K J S) (hc : Chg T w w') (h1 : ∀ q ∈ J.bl, q ∉ T) (h2 : ∀ q ∈ J.tx, q ∉ T) : Lg0 w' K J S where
  row := hc.at h.row (h1 _ (by simp [LK.bl]))
  own := own_chg h.own hc (fun q hq => h1 q (by simp [LK.bl, hq]))
  gv := h.gv
  txt i hi := by
    obtain ⟨A, c, e, hB⟩ := h.txt i hi
    refine ⟨A, c, e, hB.chg hc (fun a ha => h2 _ (mem_tx (by rw [e, ha]) (by rw [h.len]; exact hi)))⟩
  tlt q hq := Nat.lt_of_lt_of_le (h.tlt q hq) hc.size
  tap := h.tap
  kap := h.kap
  inb := h.inb
theorem Lg.chg {T : List Nat} {w w' : World} {K : DK} {J : LK} {S : LS} (h : Lg w K J S) (hc : Chg T w w') (h1 : ∀ q ∈ J.bl, q ∉ T) (h2 : ∀ q ∈ J.tx, q ∉ T) : Lg w' K J S :=
  ⟨h.toLg0.chg hc h1 h2, h.fit, h.end_, h.cnt⟩
theorem Lg.later {w w' : World} {K : DK} {J : LK} {S : LS} (h : Lg w K J S) (hb : Below w.heap.size w w') : Lg w' K J S :=
  h.chg (T := []) (Chg.of_below hb) (by simp) (by simp)
/-- the disk changed alone. -/
theorem Lg.disk {w w' : World} {K : DK} {J : LK} {S : LS} (h : Lg w K J S) (hc : Chg K.bl w w') : Lg w' K J S :=
  h.chg hc h.kap (fun q hq => (h.tap q hq).1)
theorem Lg0.cells {w : World} {K : DK} {J : LK} {S : LS} (h : Lg0 w K J S) : w.cell? ⟨J.g, 0, none⟩ = some (.pointer (some ⟨J.g, 0, none⟩)) ∧ w.cell? ⟨J.g, 1, none⟩ = some (.pointer (some ⟨K.g, 0, none⟩)) ∧ w.cell? ⟨J.g, 2, none⟩ = some (.int .i64 S.from_) ∧ w.cell? ⟨J.g, 3, none⟩ = some (.int .i64 S.secs) ∧ w.cell? ⟨J.g, 4, none⟩ = some (.int .i64 S.used) ∧ w.cell? ⟨J.g, 5, none⟩ = some J.v ∧ w.cell? ⟨J.g, 6, none⟩ = some (.bool S.lost) := by
  refine ⟨?_, ?_, ?_, ?_, ?_, ?_, ?_⟩ <;> rw [cell_row h.row] <;> rfl
theorem leq_same (a : Addr) (w : World) : (binOp .eql 37 (.pointer (some a)) (.pointer (some a))).run Try.prog w = .ok (.bool true) w := by
  obtain ⟨j, hj⟩ : ∃ j, Try.prog.info? 61 = some j := Option.isSome_iff_exists.1 (by kernel_rfl)
  exact Go.run_eql_ptr_same w a (te := 61) Try.underlying37 hj
theorem lmade_any {w : World} {K : DK} {J : LK} {S : LS} (h : Lg w K J S) : Calls Try.prog 29 #[J.ptr] w fun e w' => e = .returned (.bool true) ∧ w = w' := by
  obtain ⟨c0, _⟩ := h.cells
  have he := leq_same ⟨J.g, 0, none⟩
  unfold LK.ptr
  clear h
  go_enter Try.func29, Try.ntmps29
  go_wp2
  go_ret
  exact ⟨rfl, rfl⟩
theorem free_any {w : World} {K : DK} {J : LK} {S : LS} (h : Lg w K J S) : Calls Try.prog 32 #[J.ptr] w fun e w' => e = .returned (.int .i64 (S.secs - S.used : Nat)) ∧ Below w.heap.size w w' := by
  obtain ⟨_, _, _, c3, c4, _⟩ := h.cells
  have h1 := h.fit
  have h2 := h.end_
  have h3 : S.secs ≤ 16384 := by omega
  have hr : Hid (((S.secs - S.used : Nat) : Int) = (S.secs : Int) - (S.used : Int)) := by show _ = _; omega
  unfold LK.ptr
  clear h h2
  obtain ⟨s, hs⟩ : ∃ s, s = S.secs := ⟨_, rfl⟩
  obtain ⟨u, hu⟩ : ∃ u, u = S.used := ⟨_, rfl⟩
  rw [← hs] at c3 h1 h3 hr ⊢
  rw [← hu] at c4 h1 hr ⊢
  clear hs hu
  go_enter Try.func32, Try.ntmps32
  go_upto_region 1 with (fail)
  go_quiet (fail)
  go_wp2
  go_ret
  exact ⟨ret_i64 hr.out.symm, Below.drewN (Below.refl _ _) _⟩
theorem used_any {w : World} {K : DK} {J : LK} {S : LS} (h : Lg w K J S) : Calls Try.prog 22 #[J.ptr] w fun e w' => e = .returned (.int .i64 S.used) ∧ w = w' := by
  have Hm := Lib.hid (lmade_any h)
  obtain ⟨_, _, _, _, c4, _⟩ := h.cells
  unfold LK.ptr at *
  clear h
  go_enter Try.func22, Try.ntmps22
  go_wp2_with (go_at_call 29; refine Hm.out.mono ?_; rintro e w' ⟨rfl, rfl⟩)
  go_ret
  exact ⟨rfl, rfl⟩
/-- how long a record may be that still fits. -/
def roomI (F : Nat) : Int := if F = 0 then -1 else if F * 128 - 5 < 262144 then ((F * 128 - 5 : Nat) : Int) else 262144
theorem room_any {w : World} {K : DK} {J : LK} {S : LS} (h : Lg w K J S) : Calls Try.prog 16 #[J.ptr] w fun e w' => e = .returned (.int .i64 (roomI (S.secs - S.used))) ∧ Below w.heap.size w w' := by
  have Hm := Lib.hid (lmade_any h)
  have Hf := Lib.hid (free_any h)
  have Hf2 := Lib.hid (fun w' hb => free_any (w := w') (h.later hb))
  have hF : S.secs - S.used ≤ 16384 := by have := h.end_; omega
  obtain ⟨F, hFe⟩ : ∃ F, F = S.secs - S.used := ⟨_, rfl⟩
  rw [← hFe] at Hf Hf2 hF ⊢
  unfold LK.ptr at *
  clear h hFe
  by_cases h0 : F = 0
  · subst h0
    rw [show roomI 0 = -1 by rfl]
    go_enter Try.func16, Try.ntmps16
    go_wp2_with (first
      | (go_at_call 29; refine Hm.out.mono ?_; rintro e w' ⟨rfl, rfl⟩)
      | (go_at_call 32; refine Hf.out.mono ?_; rintro e w1 ⟨rfl, hb1⟩; have Hb1 := Lib.hid hb1; clear hb1))
    go_ret
    exact ⟨rfl, Hb1.out⟩
  · have h0' : ¬ (F : Int) = 0 := by omega
    have hr : Hid (roomI F = if (F : Int) * 128 - 5 < 262144 then (F : Int) * 128 - 5 else 262144) := by
      show _ = _
      unfold roomI
      rw [if_neg h0]
      split
      · rw [if_pos (by omega)]; omega
      · rw [if_neg (by omega)]
    by_cases h1 : (262144 : Int) < (F : Int) * 128 - 5
    all_goals
      go_enter Try.func16, Try.ntmps16
      go_wp2_with (first
        | (go_at_call 29; refine Hm.out.mono ?_; rintro e w' ⟨rfl, rfl⟩)
        | (go_at_call 32; refine (Hf2.out _ Hb1.out).mono ?_; rintro e w2 ⟨rfl, hb2⟩; have Hb2 := Lib.hid hb2; clear hb2)
        | (go_at_call 32; refine Hf.out.mono ?_; rintro e w1 ⟨rfl, hb1⟩; have Hb1 := Lib.hid hb1; clear hb1))
      go_ret
      have hq := hr.out
      first | rw [if_neg (by omega)] at hq | (split at hq)
      all_goals exact ⟨ret_i64 (by show _ = _; omega), Hb1.out.trans (Hb2.out.mono Hb1.out.size)⟩
end Go.Proofs.Ythjjkbgkfikglaa.Slt
