/- DERIVED. The contracts of disk's methods at disks that are none. -/
import Derived.Test.YtlofnpebknfmkaaDskNew
namespace Go.Proofs.Ytlofnpebknfmkaa.Dsk
open Go.RowKit
def zeroC : Array Value := (.pointer none :: .slice none 0 0 :: .int .i64 0 :: .bool false :: cutC false 0 z16).toArray
/-- nil, or a zero disk. -/
def BadD (v : Value) (w : World) : Prop := v = .pointer none ∨ ∃ g, v = .pointer (some ⟨g, 0, none⟩) ∧ w.heap[g]? = some (.cells zeroC 53 (0, 0))
theorem BadD.later {v : Value} {w w' : World} (h : BadD v w) (hb : Below w.heap.size w w') : BadD v w' := by
  rcases h with h | ⟨g, h, hg⟩
  · exact .inl h
  · exact .inr ⟨g, h, (hb.block _ (Array.getElem?_eq_some_iff.1 hg).1).trans hg⟩
theorem eq_nil (a : Addr) (w : World) : (binOp .eql 23 (.pointer none) (.pointer (some a))).run Try.prog w = .ok (.bool false) w := by
  obtain ⟨j, hj⟩ : ∃ j, Try.prog.info? 53 = some j := Option.isSome_iff_exists.1 (by kernel_rfl)
  have h : ∀ d : Nat, (Op.equalIn (d + 1) 23 (.pointer none) (.pointer (some a))).run Try.prog w = .ok false w := fun d => by
    simp [Op.equalIn, run_underlying Try.underlying23]
  simp only [binOp]
  simp [Op.equal, Op.maxDepth, h 9999]
theorem bad_made {v : Value} {w : World} (h : BadD v w) : Calls Try.prog 20 #[v] w fun e w' => e = .returned (.bool false) ∧ w = w' := by
  rcases h with rfl | ⟨g, rfl, hg⟩
  · go_enter Try.func20, Try.ntmps20
    go_wp2
    go_ret
    exact ⟨rfl, rfl⟩
  · have c0 := cell_row hg 0
    rw [show zeroC[0]? = some (.pointer none) by rfl] at c0
    have he := eq_nil ⟨g, 0, none⟩
    clear hg
    go_enter Try.func20, Try.ntmps20
    go_wp2
    go_ret
    exact ⟨rfl, rfl⟩
theorem bad_refuses {v : Value} {w : World} (h : BadD v w) (b : Bool) : Calls Try.prog 22 #[v, .bool b] w fun e w' => e = .returned (.int .i64 1) ∧ w = w' := by
  have Hm := Lib.hid (bad_made h)
  clear h
  go_enter Try.func22, Try.ntmps22
  go_wp2_with (go_at_call 20; refine Hm.out.mono ?_; rintro e w' ⟨rfl, rfl⟩)
  go_ret
  exact ⟨rfl, rfl⟩
theorem bad_sectors {v : Value} {w : World} (h : BadD v w) : Calls Try.prog 23 #[v] w fun e w' => e = .returned (.int .i64 0) ∧ w = w' := by
  have Hm := Lib.hid (bad_made h)
  clear h
  go_enter Try.func23, Try.ntmps23
  go_wp2_with (go_at_call 20; refine Hm.out.mono ?_; rintro e w' ⟨rfl, rfl⟩)
  go_ret
  exact ⟨rfl, rfl⟩
theorem bad_bytes {v : Value} {w : World} (h : BadD v w) : Calls Try.prog 17 #[v] w fun e w' => e = .returned (.slice none 0 0) ∧ w = w' := by
  have Hm := Lib.hid (bad_made h)
  clear h
  go_enter Try.func17, Try.ntmps17
  go_wp2_with (go_at_call 20; refine Hm.out.mono ?_; rintro e w' ⟨rfl, rfl⟩)
  go_ret
  exact ⟨rfl, rfl⟩
theorem bad_restart {v : Value} {w : World} (h : BadD v w) : Calls Try.prog 19 #[v] w fun e w' => e = .returned (.int .i64 1) ∧ w = w' := by
  have Hm := Lib.hid (bad_made h)
  clear h
  go_enter Try.func19, Try.ntmps19
  go_wp2_with (go_at_call 20; refine Hm.out.mono ?_; rintro e w' ⟨rfl, rfl⟩)
  go_ret
  exact ⟨rfl, rfl⟩
theorem bad_put {v : Value} {w : World} (h : BadD v w) (k : Int) (A : Option Addr) (m c : Nat) : Calls Try.prog 9 #[v, .int .i64 k, .slice A m c] w fun e w' => e = .returned (.int .i64 1) ∧ w = w' := by
  have Hm := Lib.hid (bad_made h)
  clear h
  go_enter Try.func9, Try.ntmps9
  go_wp2_with (go_at_call 20; refine Hm.out.mono ?_; rintro e w' ⟨rfl, rfl⟩)
  go_ret
  exact ⟨rfl, rfl⟩
theorem bad_read {v : Value} {w : World} (h : BadD v w) : Calls Try.prog 10 #[v, .int .i64 0, .int .i64 0] w fun e w' => e = .returned (.tuple #[.slice none 0 0, .int .i64 1]) ∧ w = w' := by
  have Hs := Lib.hid (bad_sectors h)
  have Hw := Lib.hid (within_any 0 0 0 w (by decide) (by decide) (by decide))
  rw [show withinI 0 0 0 = true by decide] at Hw
  have Hr := Lib.hid (bad_refuses h true)
  clear h
  go_enter Try.func10, Try.ntmps10
  go_wp2_with (first
    | (go_at_call 23; refine Hs.out.mono ?_; rintro e w' ⟨rfl, rfl⟩)
    | (go_at_call 21; refine Hw.out.mono ?_; rintro e w' ⟨rfl, rfl⟩)
    | (go_at_call 22; refine Hr.out.mono ?_; rintro e w' ⟨rfl, rfl⟩))
  go_ret2
  exact ⟨rfl, rfl⟩
theorem bad_write {v : Value} {w : World} (h : BadD v w) : Calls Try.prog 31 #[v, .int .i64 0, .slice none 0 0] w fun e w' => e = .returned (.int .i64 1) ∧ w = w' := by
  have Hs := Lib.hid (bad_sectors h)
  have Hw := Lib.hid (within_any 0 0 0 w (by decide) (by decide) (by decide))
  rw [show withinI 0 0 0 = true by decide] at Hw
  have Hr := Lib.hid (bad_refuses h true)
  clear h
  go_enter Try.func31, Try.ntmps31
  go_wp2_with (first
    | (go_at_call 23; refine Hs.out.mono ?_; rintro e w' ⟨rfl, rfl⟩)
    | (go_at_call 21; refine Hw.out.mono ?_; rintro e w' ⟨rfl, rfl⟩)
    | (go_at_call 22; refine Hr.out.mono ?_; rintro e w' ⟨rfl, rfl⟩))
  go_ret
  exact ⟨rfl, rfl⟩
theorem bad_cut {v : Value} {w : World} (h : BadD v w) (C : Array Value) : Calls Try.prog 18 #[v, .int .i64 0, .agg C] w fun e w' => e = .returned (.int .i64 1) ∧ Below w.heap.size w w' := by
  have hb : Below w.heap.size w (w.alloc (.cells C 45)) := (Below.refl _ _).alloc (Nat.le_refl _) _
  have Hr := Lib.hid (bad_refuses (h.later hb) true)
  have Hb := Lib.hid hb
  clear h hb
  go_enter Try.func18, Try.ntmps18
  go_wp2_with (go_at_call 22; refine Hr.out.mono ?_; rintro e w' ⟨rfl, rfl⟩)
  go_ret
  exact ⟨rfl, Hb.out⟩
end Go.Proofs.Ytlofnpebknfmkaa.Dsk
