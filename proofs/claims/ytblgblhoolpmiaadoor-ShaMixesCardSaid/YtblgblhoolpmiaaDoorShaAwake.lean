/- DERIVED. The contracts of the statements' own helpers: word and awake. -/
import Derived.Test.YtblgblhoolpmiaaDoorShaBehind
import Derived.Test.YtblgblhoolpmiaaDoorShaBytes
import Derived.Test.YtblgblhoolpmiaaDoorShaEval
import Derived.Lib.ConvBytes
namespace Go.Proofs.YtblgblhoolpmiaaDoor
open Go.RowKit
set_option maxRecDepth 100000 in
set_option maxHeartbeats 1000000 in
theorem word_ex (s : ByteArray) (hs : s.size < 2305843009213693952) (w : World) (hL : Laid w) :
    Calls Tryd.prog 33 #[.string s] w fun e' w' => e' = .returned (.string (strOfNums (textL (sumL (bytesOf s))))) ∧ Below w.heap.size w w' := by
  have HL := Lib.hid hL
  have Hs := Lib.hid hs
  have hsz := hL.sz
  have hsz2 := Lib.bytesWorld_size w 5 s
  have Hsz2 := Lib.hid hsz2
  have kc := Lib.run_convert_string_bytes (P := Tryd.prog) w 9 26 5 s Tryd.underlying9 Tryd.underlying26 Tryd.underlying5
  obtain ⟨c, hc⟩ : ∃ c, c = grownCap w s.size 0 5 := ⟨_, rfl⟩
  have hb := byt_string w s
  have low0 := below_string w s
  rw [← hc] at kc hb
  obtain ⟨w1, hw1⟩ : ∃ w1, w1 = Lib.bytesWorld w 5 s := ⟨_, rfl⟩
  rw [← hw1] at kc hb low0 hsz2
  have Hb := Lib.hid hb
  have Low0 := Lib.hid low0
  clear hc hw1 hL hs Hsz2 hb low0
  go_enter Tryd.func33, Tryd.ntmps33
  go_wp2_with (first
    | (go_at_call 15; refine (sum_any (bytesOf s) (some ⟨w.heap.size, 0, none⟩) c s.size w1 (bytesOf_length s) (bytesOf_in s) Hb.out (HL.out.below Low0.out hsz) Hs.out).mono ?_; rintro e w2 ⟨rfl, low2⟩)
    | (go_at_call 50; refine (text_any (sumL (bytesOf s)) (sumL_length _) (sumL_in _) w2).mono ?_; rintro e w3 ⟨rfl, low3⟩))
  go_ret
  exact ⟨rfl, (Low0.out.trans (low2.mono Low0.out.size)).trans (low3.mono (Nat.le_trans Low0.out.size low2.size))⟩
theorem start_first (w : World) : (Instr.index 24 (.agg (u32s S0.list)) (.int .i64 0)).run Tryd.prog w = .ok (.int .u32 1779033703) w := index24 S0.list rfl 0 (by omega) w
theorem pad55 : padLen 55 = 9 := by decide
theorem word_abc (w : World) (hL : Laid w) :
    Calls Tryd.prog 33 #[.string ⟨#[97, 98, 99]⟩] w fun e' w' => e' = .returned (.string abcText) ∧ Below w.heap.size w w' := by
  have h := word_ex ⟨#[97, 98, 99]⟩ (by decide) w hL
  rw [show bytesOf ⟨#[97, 98, 99]⟩ = [97, 98, 99] from rfl, text_abc] at h
  exact h
theorem word_empty (w : World) (hL : Laid w) :
    Calls Tryd.prog 33 #[.string ⟨#[]⟩] w fun e' w' => e' = .returned (.string emptyText) ∧ Below w.heap.size w w' := by
  have h := word_ex ⟨#[]⟩ (by decide) w hL
  rw [show bytesOf ⟨#[]⟩ = [] from rfl, text_empty] at h
  exact h
set_option maxRecDepth 100000 in
set_option maxHeartbeats 1000000 in
theorem awake_any (w : World) (hL : Laid w) :
    Calls Tryd.prog 14 #[] w fun e' w' => e' = .returned (.bool true) ∧ Below w.heap.size w w' := by
  have HL := Lib.hid hL
  have hsz := hL.sz
  clear hL
  have hix := start_first
  go_enter Tryd.func14, Tryd.ntmps14
  go_wp2_with (first
    | (go_at_call 33; refine (word_abc _ HL.out).mono ?_; rintro e w1 ⟨rfl, low1⟩; unfold abcText)
    | (go_at_call 8; refine (start_any _ (HL.out.below low1 hsz)).mono ?_; rintro e w2 ⟨rfl, low2⟩)
    | (go_at_call 12; refine (behind_any 55 (by omega) _).mono ?_; rintro e w3 ⟨rfl, hp3, low3⟩; clear hp3; rw [pad55]))
  go_ret
  exact ⟨rfl, (low1.trans (low2.mono low1.size)).trans (low3.mono (Nat.le_trans low1.size low2.size))⟩
end Go.Proofs.YtblgblhoolpmiaaDoor
