/- DERIVED. Which bytes begin which. -/
import Derived.Test.YtigfcmnknijobaaCodWorks
namespace Go.Proofs.Ytigfcmnknijobaa.Cod
open Go.RowKit Str
theorem take_min {L M : List Int} (h : L.take (min L.length M.length) = M.take (min L.length M.length)) : ∃ R S, L ++ R = M ++ S := by
  by_cases hl : L.length ≤ M.length
  · rw [Nat.min_eq_left hl, List.take_length] at h
    exact ⟨M.drop L.length, [], by rw [List.append_nil]; conv => lhs; lhs; rw [h]
                                   exact List.take_append_drop _ _⟩
  · rw [Nat.min_eq_right (by omega), List.take_length] at h
    exact ⟨[], L.drop M.length, by rw [List.append_nil]; conv => rhs; lhs; rw [← h]
                                   exact (List.take_append_drop _ _).symm⟩
/-- whether one of two begins the other. -/
def begB (L M : List Int) : Bool := decide (L.take (min L.length M.length) = M.take (min L.length M.length))
theorem beg_of {L M : List Int} {p : Prop} [Decidable p] (h : L = M ↔ p) (h2 : ∀ R S, L ++ R = M ++ S → p) : begB L M = decide p := by
  unfold begB
  by_cases hp : p
  · have e := h.2 hp
    rw [decide_eq_true hp, e, decide_eq_true rfl]
  · rw [decide_eq_false hp, decide_eq_false]
    intro he
    obtain ⟨R, S, hRS⟩ := take_min he
    exact hp (h2 R S hRS)
theorem beg_num {n m : Nat} (hn : n < 18446744073709551616) (hm : m < 18446744073709551616) : begB (encN n) (encN m) = decide (n = m) :=
  beg_of ⟨fun h => encN_apart hn hm (R := []) (S := []) (by rw [h]), fun h => by rw [h]⟩ fun _ _ h => encN_apart hn hm h
def textL (s : ByteArray) : List Int := encN s.size ++ bOf s
theorem text_apart {s t : ByteArray} (hs : s.size < 18446744073709551616) (ht : t.size < 18446744073709551616) {R S : List Int} (h : textL s ++ R = textL t ++ S) : s = t := by
  unfold textL at h
  rw [List.append_assoc, List.append_assoc] at h
  have e := encN_apart hs ht h
  rw [e] at h
  have h2 := List.append_cancel_left h
  have h3 := congrArg (List.take (bOf s).length) h2
  rw [List.take_left, show (bOf s).length = (bOf t).length by rw [bOf_length, bOf_length, e], List.take_left] at h3
  exact bOf_inj h3
theorem beg_text {s t : ByteArray} (hs : s.size ≤ 300) (ht : t.size ≤ 300) : begB (textL s) (textL t) = decide (s = t) :=
  beg_of ⟨fun h => text_apart (by omega) (by omega) (R := []) (S := []) (by rw [h]), fun h => by rw [h]⟩ fun _ _ h => text_apart (by omega) (by omega) h
def labelL (lv : Int) (cp : Nat) : List Int := encN (uN lv) ++ compL cp
theorem label_apart {a b : Int} {c d : Nat} (ha : 0 ≤ a ∧ a < 16) (hb : 0 ≤ b ∧ b < 16) (hc : c < 18446744073709551616) (hd : d < 18446744073709551616) {R S : List Int} (h : labelL a c ++ R = labelL b d ++ S) : a = b ∧ c = d := by
  unfold labelL at h
  rw [List.append_assoc, List.append_assoc] at h
  have e := encN_apart (uN_lt a) (uN_lt b) h
  rw [e] at h
  have h2 := List.append_cancel_left h
  have h3 := congrArg (List.take 8) h2
  rw [show (8 : Nat) = (compL c).length from rfl, List.take_left, show (compL c).length = (compL d).length from rfl, List.take_left] at h3
  refine ⟨?_, by rw [← compOf_L hc, h3, compOf_L hd]⟩
  have h4 := uN_cast a
  have h5 := uN_cast b
  rw [Int.emod_eq_of_lt ha.1 (by omega)] at h4
  rw [Int.emod_eq_of_lt hb.1 (by omega)] at h5
  omega
theorem beg_label {a b : Int} {c d : Nat} (ha : 0 ≤ a ∧ a < 16) (hb : 0 ≤ b ∧ b < 16) (hc : c < 18446744073709551616) (hd : d < 18446744073709551616) : begB (labelL a c) (labelL b d) = decide (a = b ∧ c = d) :=
  beg_of ⟨fun h => label_apart ha hb hc hd (R := []) (S := []) (by rw [h]), fun h => by rw [h.1, h.2]⟩ fun _ _ h => label_apart ha hb hc hd h
end Go.Proofs.Ytigfcmnknijobaa.Cod
