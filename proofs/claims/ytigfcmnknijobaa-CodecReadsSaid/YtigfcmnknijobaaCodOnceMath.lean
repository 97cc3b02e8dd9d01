/- DERIVED. What is read is written as just those bytes: on lists; the writers over slices; the law's contracts. -/
import Derived.Test.YtigfcmnknijobaaCodMeth
import Derived.Test.YtigfcmnknijobaaCodBegMath
namespace Go.Proofs.Ytigfcmnknijobaa.Cod
open Go.RowKit Str
theorem cutL_ok {L : List Int} {m : Nat} (h : (cutL L m).2.2 = 0) : L = encN (cutL L m).1 ++ (cutL L m).2.1 := by
  unfold cutL at h ⊢
  by_cases hs : (numAt L).2 = 0
  · rw [if_pos hs] at h; exact absurd h (by decide)
  · rw [if_neg hs] at h ⊢
    by_cases hm : m < (numAt L).1
    · rw [if_pos hm] at h; exact absurd h (by decide)
    · rw [if_neg hm]
      obtain ⟨he, _⟩ := numAt_yes (n := (numAt L).1) (s := (numAt L).2) rfl hs
      rw [he]
      exact (List.take_append_drop _ L).symm
/-- what a read leaves: a failure, or just those bytes ahead of the rest. -/
def Split (L D R : List Int) (E : Int) : Prop := E = 0 → L = D ++ R
theorem split_num (L : List Int) (m : Nat) : Split L (encN (cutL L m).1) (if (cutL L m).2.2 = 0 then (cutL L m).2.1 else L) (cutL L m).2.2 := fun h => by
  rw [if_pos h]; exact cutL_ok h
theorem split_text {L : List Int} (hb : InB L) (m : Int) : Split L (textL (strOfNums (textR L m).1)) (if (textR L m).2.2 = 0 then (textR L m).2.1 else L) (textR L m).2.2 := fun h => by
  rw [if_pos h]
  unfold textR at h ⊢
  by_cases h1 : (cutL L (mostN m)).2.2 ≠ 0
  · rw [if_pos h1] at h; exact absurd h h1
  · rw [if_neg h1] at h ⊢
    have h0 : (cutL L (mostN m)).2.2 = 0 := by simpa using h1
    by_cases h2 : (cutL L (mostN m)).2.1.length < (cutL L (mostN m)).1
    · rw [if_pos h2] at h; exact absurd h (by decide)
    · rw [if_neg h2]
      have e := cutL_ok h0
      have hi := cutL_in hb (mostN m)
      unfold textL
      rw [bOf_str (hi.take _), strOfNums_size, List.length_take, Nat.min_eq_left (by omega), List.append_assoc, List.take_append_drop]
      exact e
theorem split_hash (L : List Int) : Split L (hashR L).1 (if (hashR L).2.2 = 0 then (hashR L).2.1 else L) (hashR L).2.2 := fun h => by
  rw [if_pos h]
  unfold hashR at h ⊢
  by_cases h1 : L.length < 32
  · rw [if_pos h1] at h; exact absurd h (by decide)
  · rw [if_neg h1]; exact (List.take_append_drop _ L).symm
theorem split_label {L : List Int} (hb : InB L) : Split L (labelL ((labelR L).1.1 : Nat) (labelR L).1.2) (if (labelR L).2.2 = 0 then (labelR L).2.1 else L) (labelR L).2.2 := fun h => by
  rw [if_pos h]
  unfold labelR at h ⊢
  by_cases h1 : (cutL L 15).2.2 ≠ 0
  · rw [if_pos h1] at h; exact absurd h (by decide)
  · rw [if_neg h1] at h ⊢
    have h0 : (cutL L 15).2.2 = 0 := by simpa using h1
    by_cases h2 : (cutL L 15).2.1.length < 8
    · rw [if_pos h2] at h; exact absurd h (by decide)
    · rw [if_neg h2]
      have e := cutL_ok h0
      have hi := cutL_in hb 15
      unfold labelL
      simp only
      rw [uN_nat _ (cutL_lt _ _), compL_of (by rw [List.length_take]; omega) (hi.take 8), List.append_assoc, List.take_append_drop]
      exact e
def vertexL (h : List Int) (n : Int) : List Int := h ++ encN (uN (n + 2))
theorem split_vertex (L : List Int) : Split L (vertexL (vertexR L).1.1 (vertexR L).1.2) (if (vertexR L).2.2 = 0 then (vertexR L).2.1 else L) (vertexR L).2.2 := fun h => by
  rw [if_pos h]
  unfold vertexR at h ⊢
  by_cases h1 : L.length < 32
  · rw [if_pos h1] at h; exact absurd h (by decide)
  · rw [if_neg h1] at h ⊢
    by_cases h2 : (cutL (L.drop 32) 4294967296).2.2 ≠ 0
    · rw [if_pos h2] at h; exact absurd h (by decide)
    · rw [if_neg h2]
      have h0 : (cutL (L.drop 32) 4294967296).2.2 = 0 := by simpa using h2
      have e := cutL_ok h0
      unfold vertexL
      simp only
      rw [show ((cutL (L.drop 32) 4294967296).1 : Int) - 2 + 2 = ((cutL (L.drop 32) 4294967296).1 : Nat) by omega, uN_nat _ (cutL_lt _ _), List.append_assoc, ← e, List.take_append_drop]
/-! the writers, over slices that read so -/
theorem num_w {C : List Int} {v : Value} {w : World} (n : Nat) (hn : n < 18446744073709551616) (hv : SlB C v w) (hle : C.length ≤ 40000) :
    Calls Try.prog 25 #[v, .int .u64 (n : Nat)] w fun e w' => ∃ v', e = .returned v' ∧ SlB (C ++ encN n) v' w' ∧ Below w.heap.size w w' := by
  obtain ⟨A, c, rfl, hB⟩ := hv
  exact (num_any A _ c n C hn rfl hle w hB).mono (by rintro e w' ⟨v', he, own, low⟩; exact ⟨v', he, NewB.sl (B := w.heap.size) own, low⟩)
theorem text_w {C : List Int} {v : Value} {w : World} (s : ByteArray) (hs : s.size ≤ 5000) (hv : SlB C v w) (hle : C.length ≤ 40000) :
    Calls Try.prog 27 #[v, .string s] w fun e w' => ∃ v', e = .returned v' ∧ SlB (C ++ textL s) v' w' ∧ Below w.heap.size w w' := by
  obtain ⟨A, c, rfl, hB⟩ := hv
  exact (text_any A _ c s C hs rfl hle w hB).mono (by rintro e w' ⟨v', he, own, low⟩; exact ⟨v', he, NewB.sl (B := w.heap.size) own, low⟩)
theorem hash_w {C h : List Int} {v : Value} {w : World} (hh : h.length = 32) (hv : SlB C v w) (hle : C.length ≤ 40000) :
    Calls Try.prog 29 #[v, .agg (u8s h)] w fun e w' => ∃ v', e = .returned v' ∧ SlB (C ++ h) v' w' ∧ Below w.heap.size w w' := by
  obtain ⟨A, c, rfl, hB⟩ := hv
  exact (hash_any A _ c h C hh rfl hle w hB).mono (by rintro e w' ⟨v', he, own, low⟩; exact ⟨v', he, NewB.sl (B := w.heap.size) own, low⟩)
theorem label_w {C : List Int} {v : Value} {w : World} (p : Nat × Nat) (hv : SlB C v w) (hle : C.length ≤ 40000) :
    Calls Try.prog 31 #[v, .agg (labC p)] w fun e w' => ∃ v', e = .returned v' ∧ SlB (C ++ labelL (p.1 : Nat) p.2) v' w' ∧ Below w.heap.size w w' := by
  obtain ⟨A, c, rfl, hB⟩ := hv
  exact (label_any A _ c (p.1 : Nat) p.2 C rfl hle w hB).mono (by rintro e w' ⟨v', he, own, low⟩; exact ⟨v', he, NewB.sl own, low⟩)
theorem vertex_w {C : List Int} {v : Value} {w : World} (p : List Int × Int) (hh : p.1.length = 32) (hv : SlB C v w) (hle : C.length ≤ 40000) :
    Calls Try.prog 33 #[v, .agg (vtxP p)] w fun e w' => ∃ v', e = .returned v' ∧ SlB (C ++ vertexL p.1 p.2) v' w' ∧ Below w.heap.size w w' := by
  obtain ⟨A, c, rfl, hB⟩ := hv
  exact (vertex_any A _ c p.1 p.2 C hh rfl hle w hB).mono (by rintro e w' ⟨v', he, own, low⟩; exact ⟨v', he, NewB.sl own, low⟩)
end Go.Proofs.Ytigfcmnknijobaa.Cod
