/- DERIVED. The contracts of the statements' own helpers: word and awake. -/
import Derived.Test.YtbondffjghanlaaDoorShaEval
import Derived.Lib.ConvBytes
namespace Go.Proofs.YtbondffjghanlaaDoor
open Go.RowKit
def bytesOf (s : ByteArray) : List Int := s.data.toList.map fun b => (b.toNat : Int)
theorem bytesOf_length (s : ByteArray) : (bytesOf s).length = s.size := by rw [bytesOf, List.length_map, Array.length_toList]; rfl
theorem bytesOf_in (s : ByteArray) : InB (bytesOf s) := by
  intro j
  by_cases h : j < (bytesOf s).length
  · have h' : j < s.data.toList.length := by simpa [bytesOf] using h
    have e : (bytesOf s).getD j 0 = ((s.data.toList[j]).toNat : Int) := by simp [bytesOf, List.getD_eq_getElem?_getD, List.getElem?_map, List.getElem?_eq_getElem h']
    rw [e]
    have := (s.data.toList[j]).toNat_lt
    omega
  · rw [getD_out _ _ (Nat.le_of_not_lt h)]; omega
theorem hashL_in (l : List Int) : InB (hashL l) := by
  intro j
  by_cases h : j < 32
  · rw [← hashL_getD l j h]
    have hf := hashF_at l (j / 4)
    have h4 : j % 4 = 0 ∨ j % 4 = 1 ∨ j % 4 = 2 ∨ j % 4 = 3 := by omega
    rcases h4 with e | e | e | e
    · rw [show j = 4 * (j / 4) by omega, hf.1]; omega
    · rw [show j = 4 * (j / 4) + 1 by omega, hf.2.1]; omega
    · rw [show j = 4 * (j / 4) + 2 by omega, hf.2.2.1]; omega
    · rw [show j = 4 * (j / 4) + 3 by omega, hf.2.2.2]; omega
  · rw [getD_out _ _ (by rw [hashL_length]; omega)]; omega
theorem fin_in (s : W8) (L : List Int) (n : Nat) : InB (fin s L n) := hashL_in _
theorem sumL_in (L : List Int) : InB (sumL L) := fin_in _ _ _
theorem sumL_length (L : List Int) : (sumL L).length = 32 := hashL_length _
theorem byt_string (w : World) (s : ByteArray) : Byt (Lib.bytesWorld w 5 s) (some ⟨w.heap.size, 0, none⟩) (grownCap w s.size 0 5) (bytesOf s) := by
  refine ⟨by rw [bytesOf_length]; exact grownCap_ge _ _ _ _, (fun h => by cases h), fun _ => ⟨w.heap.size, 0, rfl, by rw [Lib.bytesWorld_size]; omega, fun j hj => ?_⟩⟩
  rw [bytesOf_length] at hj
  rw [Nat.zero_add, Lib.bytesWorld_cell w 5 s j hj]
  have h' : j < s.data.toList.length := by simpa using hj
  simp [bytesOf, List.getD_eq_getElem?_getD, List.getElem?_map, List.getElem?_eq_getElem h']
theorem below_string (w : World) (s : ByteArray) : Below w.heap.size w (Lib.bytesWorld w 5 s) := by
  refine ⟨?_, ?_, ?_, by rw [Lib.bytesWorld_size]; omega, fun k hk => Lib.bytesWorld_at_old w 5 s k hk⟩
  all_goals (simp only [Lib.bytesWorld, World.freeze]; rfl)
set_option maxRecDepth 100000 in
set_option maxHeartbeats 1000000 in
theorem word_ex (s : ByteArray) (hs : s.size < 2305843009213693952) (w : World) (hL : Laid w) :
    Calls Tryd.prog 32 #[.string s] w fun e' w' => e' = .returned (.string (strOfNums (textL (sumL (bytesOf s))))) ∧ Below w.heap.size w w' := by
  have HL := Lib.hid hL
  have Hs := Lib.hid hs
  have hsz := hL.sz
  have hsz2 := Lib.bytesWorld_size w 5 s
  have Hsz2 := Lib.hid hsz2
  have kc := Lib.run_convert_string_bytes (P := Tryd.prog) w 9 26 5 s Tryd.underlying9 Tryd.underlying26 Tryd.underlying5
  obtain ⟨c, hc⟩ : ∃ c, c = grownCap w s.size 0 5 := ⟨_, rfl⟩
  have hb := byt_string w s
  have low0 := below_string w s
  rw [← hc] at kc hb
  obtain ⟨w1, hw1⟩ : ∃ w1, w1 = Lib.bytesWorld w 5 s := ⟨_, rfl⟩
  rw [← hw1] at kc hb low0 hsz2
  have Hb := Lib.hid hb
  have Low0 := Lib.hid low0
  clear hc hw1 hL hs Hsz2 hb low0
  go_enter Tryd.func32, Tryd.ntmps32
  go_wp2_with (first
    | (go_at_call 24; refine (sum_any (bytesOf s) (some ⟨w.heap.size, 0, none⟩) c s.size w1 (bytesOf_length s) (bytesOf_in s) Hb.out (HL.out.below Low0.out hsz) Hs.out).mono ?_; rintro e w2 ⟨rfl, low2⟩)
    | (go_at_call 30; refine (text_any (sumL (bytesOf s)) (sumL_length _) (sumL_in _) w2).mono ?_; rintro e w3 ⟨rfl, low3⟩))
  go_ret
  exact ⟨rfl, (Low0.out.trans (low2.mono Low0.out.size)).trans (low3.mono (Nat.le_trans Low0.out.size low2.size))⟩
theorem start_first (w : World) : (Instr.index 24 (.agg (u32s S0.list)) (.int .i64 0)).run Tryd.prog w = .ok (.int .u32 1779033703) w := index24 S0.list rfl 0 (by omega) w
theorem pad55 : padLen 55 = 9 := by decide
theorem word_abc (w : World) (hL : Laid w) :
    Calls Tryd.prog 32 #[.string ⟨#[97, 98, 99]⟩] w fun e' w' => e' = .returned (.string abcText) ∧ Below w.heap.size w w' := by
  have h := word_ex ⟨#[97, 98, 99]⟩ (by decide) w hL
  rw [show bytesOf ⟨#[97, 98, 99]⟩ = [97, 98, 99] from rfl, text_abc] at h
  exact h
theorem word_empty (w : World) (hL : Laid w) :
    Calls Tryd.prog 32 #[.string ⟨#[]⟩] w fun e' w' => e' = .returned (.string emptyText) ∧ Below w.heap.size w w' := by
  have h := word_ex ⟨#[]⟩ (by decide) w hL
  rw [show bytesOf ⟨#[]⟩ = [] from rfl, text_empty] at h
  exact h
set_option maxRecDepth 100000 in
set_option maxHeartbeats 1000000 in
theorem awake_any (w : World) (hL : Laid w) :
    Calls Tryd.prog 23 #[] w fun e' w' => e' = .returned (.bool true) ∧ Below w.heap.size w w' := by
  have HL := Lib.hid hL
  have hsz := hL.sz
  clear hL
  have hix := start_first
  go_enter Tryd.func23, Tryd.ntmps23
  go_wp2_with (first
    | (go_at_call 32; refine (word_abc _ HL.out).mono ?_; rintro e w1 ⟨rfl, low1⟩; unfold abcText)
    | (go_at_call 17; refine (start_any _ (HL.out.below low1 hsz)).mono ?_; rintro e w2 ⟨rfl, low2⟩)
    | (go_at_call 21; refine (behind_any 55 (by omega) _).mono ?_; rintro e w3 ⟨rfl, hp3, low3⟩; clear hp3; rw [pad55]))
  go_ret
  exact ⟨rfl, (low1.trans (low2.mono low1.size)).trans (low3.mono (Nat.le_trans low1.size low2.size))⟩
end Go.Proofs.YtbondffjghanlaaDoor
