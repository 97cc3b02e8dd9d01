/- DERIVED. The contracts of lines.parts and of the iterator that it makes. -/
import Derived.Test.YtpaolndgagedkaaLnsCheck
import Derived.RangeFuncNested
import Derived.RangeFuncBound
import Derived.RangeFuncCalls
import Derived.RangeFuncLeaves
import Derived.RangeFuncBox
import Derived.Shelf.Abstract
import Derived.WalkKit
import Derived.OwnWalkIn
import Derived.TacticsInMore
import Derived.LoopNIn
import Derived.LoopIn
namespace Go.Proofs.Ytpaolndgagedkaa.Lns
open Go.RowKit
attribute [local go_sem] Oper.semAt_some
theorem parts_any (s : ByteArray) (w : World) :
    Calls Try.prog 25 #[.string s] w fun e w' => e = .returned (.func (.func 33) #[] #[.pointer (some ⟨w.heap.size, 0, none⟩)]) ∧ w' = w.alloc (.cells #[.string s] 9) := by
  go_enter Try.func25, Try.ntmps25
  go_wp2
  go_ret
  exact ⟨rfl, rfl⟩
/-- what a round keeps: the cell of MaxLen. -/
def KpL (W W' : World) : Prop := W'.heap[0]? = W.heap[0]?
theorem KpL.trans {A B C : World} (h : KpL A B) (k : KpL B C) : KpL A C := Eq.trans k h
theorem KpL.laid {A B : World} (h : KpL A B) (hL : Laid A) : Laid B := by
  obtain ⟨m, hm⟩ := hL
  exact ⟨m, (World.cell?_of_block (a := ⟨0, 0, none⟩) h).trans hm⟩
def sizV : Value → Nat
  | .string s => s.size
  | _ => 0
set_option maxRecDepth 100000 in
set_option maxHeartbeats 4000000 in
theorem parts1_in (m l Bb : Nat) (hm : 2 ≤ m) (s : ByteArray) (hs : s.size ≤ 100000) (J Jx : List ByteArray → World → Prop)
    (hJ : ∀ pre W W', J pre W → Below W.heap.size W W' → J pre W')
    (hY : ∀ pre x W, J pre W → pre.length < (prtB s).length → YieldAt Fence.wide (m - 1) Try.prog l #[.string x] W fun e W' =>
      (e = .returned (.bool true) ∧ J (pre ++ [x]) W' ∧ KpL W W') ∨ (e = .returned (.bool false) ∧ Jx (pre ++ [x]) W'))
    (W : World) (hb : Boxed W Bb 9 (.string s)) (hL : Laid W) (h0 : J [] W) :
    CallsIn Fence.wide m Try.prog 33 #[.func (.yield l) #[] #[], .pointer (some ⟨Bb, 0, none⟩)] W fun e' W' => (∃ v, e' = .returned v) ∧
      ((∃ ys, ys = prtB s ∧ J ys W') ∨ (∃ pre, (∃ t, prtB s = pre ++ t) ∧ Jx pre W')) := by
  have hcb := hb.cell
  have HJ := Lib.hid hJ
  have HY := Lib.hid hY
  have HL := Lib.hid hL
  have H0 := Lib.hid h0
  clear hb hJ hY hL h0
  refine callsIn_of_wp Try.func33 rfl trivial ?_ rfl
  simp only [Try.ntmps33, List.size_toArray, List.length_cons, List.length_nil, Nat.reduceAdd, Nat.reduceSub, Array.replicate_succ, Array.replicate_zero, List.push_toArray, List.append_toArray, List.nil_append, List.cons_append]
  gi_wp2
  gi_loopw [3] (fun v wr => ∃ pre rest, v = .string rest ∧ rest.size ≤ s.size ∧ Hid (prtB s = pre ++ prtB rest ∧ J pre wr ∧ Laid wr)) (fun v _ => sizV v)
  case atStart => exact ⟨[], s, rfl, Nat.le_refl _, rfl, H0.out, HL.out⟩
  case round =>
    obtain ⟨pre, rest, rfl, hle, HI⟩ := hrel
    clear H0 HL hcb
    rcases cutB_cases rest with ⟨h1, h2⟩ | ⟨x, r, h1, h2, h3⟩
    · have Hcut := Lib.hid (cut_is wr rest rest ⟨#[]⟩ false HI.out.2.2 (by omega) h1)
      have H2 := Lib.hid h2
      clear h1 h2
      gi_wp2_with (refine ⟨trivial, (fun _ => by omega), ?_⟩; gi_at_call 34; refine (callsIn_wide.2 Hcut.out).mono ?_; rintro e1 w1 ⟨rfl, hb1⟩; have Hb1 := Lib.hid hb1; clear hb1)
      refine ⟨fun _ h => (by cases h), ?_⟩
      gi_wp2
      refine bodyPost_ret (results_none rfl _ _ _) rfl ?_
      exact ⟨⟨_, rfl⟩, .inl ⟨pre, by rw [HI.out.1, H2.out, List.append_nil], HJ.out _ _ _ HI.out.2.1 Hb1.out⟩⟩
    · have Hcut := Lib.hid (cut_is wr rest x r true HI.out.2.2 (by omega) h1)
      have H2 := Lib.hid h2
      clear h1 h2
      have hlen : pre.length < (prtB s).length := by rw [HI.out.1, H2.out]; simp
      have Hlen := Lib.hid hlen
      clear hlen
      gi_wp2_with (refine ⟨trivial, (fun _ => by omega), ?_⟩; gi_at_call 34; refine (callsIn_wide.2 Hcut.out).mono ?_; rintro e1 w1 ⟨rfl, hb1⟩; obtain ⟨fn, tmps, assign, body, hy, hR⟩ := HY.out pre x w1 (HJ.out _ _ _ HI.out.2.1 hb1) Hlen.out; have HR := Lib.hid hR; have Hb1 := Lib.hid hb1; clear hb1 hR)
      refine ⟨fun _ => by omega, HR.out.mono ?_⟩
      rintro e2 W3 (⟨rfl, hJ3, hk3⟩ | ⟨rfl, hJx3⟩)
      · have HJ3 := Lib.hid hJ3
        have HL3 := Lib.hid (hk3.laid (HI.out.2.2.below Hb1.out (Nat.le_refl _)))
        clear hJ3 hk3 hy HR
        gi_wp2
        go_roundw
        case rel => exact ⟨pre ++ [x], r, rfl, by omega, by rw [HI.out.1, H2.out]; simp, HJ3.out, HL3.out⟩
        case measure => simp only [sizV]; omega
      · have HJx3 := Lib.hid hJx3
        clear hJx3 hy HR
        gi_wp2
        all_goals
          refine bodyPost_ret (results_none rfl _ _ _) rfl ?_
          exact ⟨⟨_, rfl⟩, .inr ⟨_, ⟨prtB r, by rw [HI.out.1, H2.out]; simp⟩, HJx3.out⟩⟩
theorem parts_stops (m Bb : Nat) (hm : 2 ≤ m) (s : ByteArray) (hs : s.size ≤ 100000) (w : World) (hb : Boxed w Bb 9 (.string s)) (hL : Laid w) :
    SeqStopsK Fence.wide m Try.prog 33 #[.pointer (some ⟨Bb, 0, none⟩)] (fun x : ByteArray => #[.string x]) KpL (fun ys => ys = prtB s) (fun pre => ∃ t, prtB s = pre ++ t) (prtB s).length w := fun l J Jx W hW hJ _ hY h0 =>
  parts1_in m l Bb hm s hs J Jx (fun pre W1 W2 h hb => hJ pre W1 W2 none h ⟨hb.os, hb.tape, hb.output, hb.size, fun k hk _ => hb.block k hk⟩ (fun r e => by cases e)) hY W ((hW.block _ hb.lt).trans hb) (hL.below hW (Nat.le_refl _)) h0
end Go.Proofs.Ytpaolndgagedkaa.Lns
