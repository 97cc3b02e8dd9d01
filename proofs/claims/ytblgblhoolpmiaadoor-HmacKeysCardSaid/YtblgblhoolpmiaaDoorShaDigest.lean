/- DERIVED. The contract of sha.Sum: the digest of some bytes. -/
import Derived.Test.YtblgblhoolpmiaaDoorShaSum
namespace Go.Proofs.YtblgblhoolpmiaaDoor
open Go.RowKit
/-- the digest of the bytes L. -/
def sumL (L : List Int) : List Int := fin S0 L L.length
set_option maxRecDepth 100000 in
set_option maxHeartbeats 1000000 in
theorem sum_any (L : List Int) (A : Option Addr) (c m : Nat) (w : World) (hm : L.length = m) (hb : InB L) (hB : Byt w A c L) (hL : Laid w) (hn : m < 2305843009213693952) :
    Calls Tryd.prog 15 #[.slice A m c] w fun e' w' => e' = .returned (.agg (u8s (sumL L))) ∧ Below w.heap.size w w' := by
  have Hm := Lib.hid hm
  have Hb := Lib.hid hb
  have HB := Lib.hid hB
  have HL := Lib.hid hL
  have Hn := Lib.hid hn
  have hsz := hL.sz
  have hw : (IntKind.u64.wrap (m : Int)) = m := by rw [show IntKind.u64.wrap (m : Int) = (m : Int) % 18446744073709551616 by simp [IntKind.wrap, IntKind.bits, IntKind.signed]]; omega
  have Hw := Lib.hid hw
  have low0 := Lib.hid ((Below.refl w.heap.size w).alloc (Nat.le_refl _) (.cells zero32 35))
  have new0 := Lib.hid (Go.heap_alloc_new w (.cells zero32 35))
  unfold zero32 at low0 new0
  clear hm hb hB hL hn hw
  have Hs : Hid (fin S0 L m = sumL L) := by show _ = _; unfold sumL; rw [Hm.out]
  go_enter Tryd.func15, Tryd.ntmps15
  have H35 : Hid ((Tryd.prog.info? 35).map (·.size) = some (u8s (fin S0 L m)).size) := by show _ = _; rw [u8s_size, fin, hashL_length]; exact info35
  go_wp2_with (first
    | (go_at_call 8; refine (start_any _ (HL.out.below low0.out hsz)).mono ?_; rintro e w1 ⟨rfl, low1⟩)
    | (go_at_call 34; rw [Hw.out]; refine (finish_any S0 L A c m m w1 Hm.out Hb.out (HB.out.below (low0.out.trans (low1.mono low0.out.size)) (Nat.le_refl _)) (HL.out.below (low0.out.trans (low1.mono low0.out.size)) hsz) Hn.out).mono ?_; rintro e w2 ⟨rfl, low2⟩; have hz := (low2.block _ (Nat.lt_of_lt_of_le (Array.getElem?_eq_some_iff.1 new0.out).1 low1.size)).trans ((low1.block _ (Array.getElem?_eq_some_iff.1 new0.out).1).trans new0.out); have Hz := Lib.hid hz; clear hz)
    | (refine wpList_store_row rfl 35 (.tmp 2) (.tmp 8) rfl w.heap.size (u8s (fin S0 L m)) rfl rfl 35 _ Hz.out H35.out (by rw [u8s_size, fin, hashL_length]; rfl) (u8s_one _) ?_))
  refine bodyPost_ret (v := .agg (u8s (fin S0 L m))) (results_cell_row rfl _ _ w.heap.size 35 _ (0, 0) _ rfl (setRow_heap w2 _ _ _ _ _ Hz.out) Tryd.underlying35 rfl H35.out) rfl ?_
  rw [Hs.out]
  exact ⟨rfl, below_setRow ((low0.out.trans (low1.mono low0.out.size)).trans (low2.mono (Nat.le_trans low0.out.size low1.size))) (Nat.le_refl _) _⟩
end Go.Proofs.YtblgblhoolpmiaaDoor
