/- DERIVED. A new log on a disk of its own; layer 9's given. -/
import Derived.Test.YthjjkbgkfikglaaSltOpened
import Derived.Test.YthjjkbgkfikglaaSltApp
namespace Go.Proofs.Ythjjkbgkfikglaa.Slt
open Go.RowKit Dsk
/-- a disk and a log that came behind w0. -/
structure St (w0 w : World) (K : DK) (J : LK) (D : DS) (S : LS) : Prop where
  dsk : Dsk w K D
  lg : Lg w K J S
  low : Below w0.heap.size w0 w
  kn : ∀ q ∈ K.bl, w0.heap.size ≤ q
  jn : ∀ q ∈ J.bl, w0.heap.size ≤ q
  tn : ∀ q ∈ J.tx, w0.heap.size ≤ q
theorem St.later {w0 w w' : World} {K : DK} {J : LK} {D : DS} {S : LS} (h : St w0 w K J D S) (hb : Below w.heap.size w w') : St w0 w' K J D S :=
  ⟨h.dsk.later hb, h.lg.later hb, h.low.trans (hb.mono h.low.size), h.kn, h.jn, h.tn⟩
theorem St.app {w0 w w' : World} {K : DK} {J J' : LK} {D D' : DS} {S S' : LS} (h : St w0 w K J D S) (q : AppQ w w' K J J' D' S') : St w0 w' K J' D' S' where
  dsk := q.dsk
  lg := q.lg
  low := q.chg.below h.low h.low.size (fun k hk => by
    rcases List.mem_append.1 hk with hk | hk
    · exact h.kn k hk
    · exact h.jn k hk)
  kn := h.kn
  jn k hk := by
    rcases q.bl k hk with h1 | h1
    · exact h.jn k h1
    · have := h.low.size; omega
  tn k hk := by
    rcases q.tx k hk with h1 | h1
    · exact h.tn k h1
    · have := h.low.size; omega
theorem newD_reads (n : Nat) : Reads (List.replicate (n * 128) 0) [] (List.replicate (n * 128) 0) false := by
  refine ⟨rfl, by simp, ?_⟩
  cases n with
  | zero => exact .inl rfl
  | succ n => right; rw [show (n + 1) * 128 = n * 128 + 127 + 1 by omega, List.replicate_succ]; rfl
theorem newD_secs (n : Nat) : (newD n).secs = n := by simp [newD, DS.secs]
/-- a log that has just been opened on a new disk. -/
def newS (n : Nat) : LS := ⟨0, n, 0, [], false⟩
theorem open_new {w : World} {K : DK} (n : Nat) (h1 : 1 ≤ n) (hd : Dsk w K (newD n)) :
    Calls Try.prog 18 #[.pointer (some ⟨K.g, 0, none⟩), .int .i64 0, .int .i64 n] w fun e w' => ∃ J : LK, e = .returned (.tuple #[.pointer (some ⟨J.g, 0, none⟩), .int .i64 0]) ∧ Lg w' K J (newS n) ∧ (∀ q ∈ J.bl, w.heap.size ≤ q) ∧ (∀ q ∈ J.tx, w.heap.size ≤ q) ∧ Below w.heap.size w w' := by
  refine (open_walk hd 0 n (by rw [newD_secs]; omega) h1 rfl (L := List.replicate (n * 128) 0) (by simp [newD]) (newD_reads n)).mono ?_
  rintro e w' ⟨hr, hb⟩
  rcases hr with ⟨h, _⟩ | ⟨_, J, rfl, hl, hj, ht⟩
  · cases h
  · exact ⟨J, rfl, hl, hj, ht, hb⟩
theorem pne (a : Addr) (w : World) : (binOp .eql 37 (.pointer (some a)) (.pointer none)).run Try.prog w = .ok (.bool false) w := by
  obtain ⟨j, hj⟩ : ∃ j, Try.prog.info? 61 = some j := Option.isSome_iff_exists.1 (by kernel_rfl)
  have h : ∀ d : Nat, (Op.equalIn (d + 1) 37 (.pointer (some a)) (.pointer none)).run Try.prog w = .ok false w := fun d => by
    simp [Op.equalIn, run_underlying Try.underlying37]
  simp only [binOp]
  simp [Op.equal, Op.maxDepth, h 9999]
theorem given_any (w : World) (n : Nat) (h1 : 1 ≤ n) (h2 : n ≤ 16384) :
    Calls Try.prog 14 #[.int .i64 n] w fun e w' => ∃ K J, e = .returned (.tuple #[.pointer (some ⟨K.g, 0, none⟩), .pointer (some ⟨J.g, 0, none⟩)]) ∧ St w w' K J (newD n) (newS n) := by
  have Hn := Lib.hid (new_ok n w h1 h2)
  have Ho := Lib.hid (fun (w' : World) (K : DK) (hd : Dsk w' K (newD n)) => open_new n h1 hd)
  have hp := pne
  go_enter Try.func14, Try.ntmps14
  go_wp2_with (first
    | (go_at_call 8; refine Hn.out.mono ?_; rintro e w1 ⟨K, rfl, hd1, hb1, hg1, hh1⟩; have Hd1 := Lib.hid hd1; have Hb1 := Lib.hid hb1; have Hg1 := Lib.hid hg1; have Hh1 := Lib.hid hh1; clear hd1 hb1 hg1 hh1)
    | (go_at_call 18; refine (Ho.out _ _ Hd1.out).mono ?_; rintro e w2 ⟨J, rfl, hl2, hj2, ht2, hb2⟩; have Hl2 := Lib.hid hl2; have Hj2 := Lib.hid hj2; have Ht2 := Lib.hid ht2; have Hb2 := Lib.hid hb2; clear hl2 hj2 ht2 hb2))
  go_ret2
  have hs := Hb1.out.size
  refine ⟨K, J, rfl, Hd1.out.later Hb2.out, Hl2.out, Hb1.out.trans (Hb2.out.mono hs), ?_, fun q hq => Nat.le_trans hs (Hj2.out q hq), fun q hq => Nat.le_trans hs (Ht2.out q hq)⟩
  intro q hq
  have h3 := Hg1.out
  have h4 := Hh1.out
  simp [DK.bl] at hq
  omega
end Go.Proofs.Ythjjkbgkfikglaa.Slt
