/- DERIVED. The contracts of slots' methods at logs that are none; layer 9's is, where it says yes. -/
import Derived.Test.YthjjkbgkfikglaaSltPlay
namespace Go.Proofs.Ythjjkbgkfikglaa.Slt
open Go.RowKit Dsk
def zeroL : Array Value := #[.pointer none, .pointer none, .int .i64 0, .int .i64 0, .int .i64 0, .slice none 0 0, .bool false]
/-- nil, or a zero log. -/
def BadL (v : Value) (w : World) : Prop := v = .pointer none ∨ ∃ g, v = .pointer (some ⟨g, 0, none⟩) ∧ w.heap[g]? = some (.cells zeroL 61 (0, 0))
theorem BadL.later {v : Value} {w w' : World} (h : BadL v w) (hb : Below w.heap.size w w') : BadL v w' := by
  rcases h with h | ⟨g, h, hg⟩
  · exact .inl h
  · exact .inr ⟨g, h, (hb.block _ (Array.getElem?_eq_some_iff.1 hg).1).trans hg⟩
theorem leq_nil (a : Addr) (w : World) : (binOp .eql 37 (.pointer none) (.pointer (some a))).run Try.prog w = .ok (.bool false) w := by
  obtain ⟨j, hj⟩ : ∃ j, Try.prog.info? 61 = some j := Option.isSome_iff_exists.1 (by kernel_rfl)
  have h : ∀ d : Nat, (Op.equalIn (d + 1) 37 (.pointer none) (.pointer (some a))).run Try.prog w = .ok false w := fun d => by
    simp [Op.equalIn, run_underlying Try.underlying37]
  simp only [binOp]
  simp [Op.equal, Op.maxDepth, h 9999]
theorem badl_made {v : Value} {w : World} (h : BadL v w) : Calls Try.prog 29 #[v] w fun e w' => e = .returned (.bool false) ∧ w = w' := by
  rcases h with rfl | ⟨g, rfl, hg⟩
  · go_enter Try.func29, Try.ntmps29
    go_wp2
    go_ret
    exact ⟨rfl, rfl⟩
  · have c0 := cell_row hg 0
    rw [show zeroL[0]? = some (.pointer none) by rfl] at c0
    have he := leq_nil ⟨g, 0, none⟩
    clear hg
    go_enter Try.func29, Try.ntmps29
    go_wp2
    go_ret
    exact ⟨rfl, rfl⟩
theorem badl_append {v : Value} {w : World} (h : BadL v w) (x : Value) : Calls Try.prog 15 #[v, x] w fun e w' => e = .returned (.int .i64 1) ∧ w = w' := by
  have Hm := Lib.hid (badl_made h)
  clear h
  go_enter Try.func15, Try.ntmps15
  go_wp2_with (go_at_call 29; refine Hm.out.mono ?_; rintro e w' ⟨rfl, rfl⟩)
  go_ret
  exact ⟨rfl, rfl⟩
theorem badl_all {v : Value} {w : World} (h : BadL v w) : Calls Try.prog 13 #[v] w fun e w' => e = .returned (.slice none 0 0) ∧ w = w' := by
  have Hm := Lib.hid (badl_made h)
  clear h
  go_enter Try.func13, Try.ntmps13
  go_wp2_with (go_at_call 29; refine Hm.out.mono ?_; rintro e w' ⟨rfl, rfl⟩)
  go_ret
  exact ⟨rfl, rfl⟩
theorem badl_room {v : Value} {w : World} (h : BadL v w) : Calls Try.prog 16 #[v] w fun e w' => e = .returned (.int .i64 0) ∧ w = w' := by
  have Hm := Lib.hid (badl_made h)
  clear h
  go_enter Try.func16, Try.ntmps16
  go_wp2_with (go_at_call 29; refine Hm.out.mono ?_; rintro e w' ⟨rfl, rfl⟩)
  go_ret
  exact ⟨rfl, rfl⟩
theorem badl_used {v : Value} {w : World} (h : BadL v w) : Calls Try.prog 22 #[v] w fun e w' => e = .returned (.int .i64 0) ∧ w = w' := by
  have Hm := Lib.hid (badl_made h)
  clear h
  go_enter Try.func22, Try.ntmps22
  go_wp2_with (go_at_call 29; refine Hm.out.mono ?_; rintro e w' ⟨rfl, rfl⟩)
  go_ret
  exact ⟨rfl, rfl⟩
/-- a slice of strings, the texts' own. -/
def StrsAt (w : World) (A : Option Addr) (L : List (List Int)) : Prop := ∀ i, i < L.length → ∃ g off, A = some ⟨g, off, none⟩ ∧ g < w.heap.size ∧ w.cell? ⟨g, off + i, none⟩ = some (.string (strOfNums (L.getD i [])))
set_option maxHeartbeats 1000000 in
theorem is_yes {w : World} {K : DK} {J : LK} {S : LS} (h : Lg w K J S) (A : Option Addr) (n c : Nat) (hn : S.texts.length = n) (hs : StrsAt w A S.texts) :
    Calls Try.prog 21 #[.pointer (some ⟨J.g, 0, none⟩), .slice A n c] w fun e w' => e = .returned (.bool true) ∧ Below w.heap.size w w' := by
  have hn1 : n ≤ 16384 := by have := h.cnt; have := h.fit; have := h.end_; omega
  have Hall : Hid (Calls Try.prog 13 #[.pointer (some ⟨J.g, 0, none⟩)] w fun e w' => ∃ g, e = .returned (.slice (some ⟨g, 0, none⟩) n n) ∧ TxAt w' (some ⟨g, 0, none⟩) S.texts ∧ Below w.heap.size w w') := (all_any h).mono (by
    rintro e w' ⟨g, rfl, hr, hb⟩
    exact ⟨g, by rw [hn], hr.tx rfl (fun t ht => (h.inb t ht).1), hb⟩)
  have Hs := Lib.hid hs
  have Hn := Lib.hid hn
  clear h hs hn
  go_enter Try.func21, Try.ntmps21
  go_wp2_with (go_at_call 13; refine Hall.out.mono ?_; rintro e w1 ⟨g1, rfl, ht1, hb1⟩; have T1 := Lib.hid ht1; have B1 := Lib.hid hb1; clear ht1 hb1)
  go_loopw [6] (fun v wr => ∃ i : Nat, i ≤ n ∧ v = .int .i64 i ∧ Hid (Below w1.heap.size w1 wr)) (fun v _ => n - (intOf v).toNat)
  case atStart => exact ⟨0, Nat.zero_le _, rfl, Below.refl _ _⟩
  case round =>
    obtain ⟨i, hi, rfl, hr⟩ := hrel
    by_cases hlt : i < n
    · have hltI : (i : Int) < (n : Int) := by omega
      obtain ⟨g, off, B, cb, e1, hg, hc, hB, _⟩ := T1.out.at_ i (by rw [Hn.out]; exact hlt)
      cases e1
      obtain ⟨g2, off2, rfl, hg2, hc2⟩ := Hs.out i (by rw [Hn.out]; exact hlt)
      have hcr := (hr.out.cell (p := ⟨g1, 0 + i, none⟩) hg).trans hc
      rw [Nat.zero_add] at hcr
      have hcr2 := ((B1.out.trans (hr.out.mono B1.out.size)).cell (p := ⟨g2, off2 + i, none⟩) hg2).trans hc2
      have k1 := fun a => Str.conv_any (w := wr.drewN a) ((hB.below hr.out (Nat.le_refl _)).below (Below.drewN (Below.refl _ _) a) (Nat.le_refl _)) rfl
      obtain ⟨T, hT⟩ : ∃ T, T = strOfNums (S.texts.getD i []) := ⟨_, rfl⟩
      obtain ⟨l1, hl1⟩ : ∃ l, l = (S.texts.getD i []).length := ⟨_, rfl⟩
      rw [← hT, ← hl1] at k1
      rw [← hl1] at hcr
      rw [← hT] at hcr2
      clear hc hc2 hB hT hl1
      go_upto_region 7 with (fail)
      go_quiet (fail)
      go_wp2
      exact ⟨⟨i + 1, by omega, by go_num, Below.drewN hr.out _⟩, by simp [intOf]; omega⟩
    · have hltI : ¬ (i : Int) < (n : Int) := by omega
      obtain rfl : i = n := by omega
      go_wp2
      go_ret
      exact ⟨rfl, B1.out.trans (hr.out.mono B1.out.size)⟩
end Go.Proofs.Ythjjkbgkfikglaa.Slt
