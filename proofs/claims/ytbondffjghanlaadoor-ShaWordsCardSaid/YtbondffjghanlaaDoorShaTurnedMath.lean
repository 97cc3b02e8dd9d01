/- DERIVED. PLAIN MATHEMATICS: a digest's text tells the digest; what a text tells has that text. -/
import Derived.Test.YtbondffjghanlaaDoorShaOf
namespace Go.Proofs.YtbondffjghanlaaDoor
theorem getD_past (l : List Int) (j : Nat) (h : l.length ≤ j) : l.getD j 0 = 0 := by rw [List.getD_eq_getElem?_getD, List.getElem?_eq_none h]; rfl
theorem hexv_dig_all : ∀ v : Fin 16, hexv (dig ((v.val : Nat) : Int)) = ((v.val : Nat) : Int) := by unfold dig; exact of_decide_eq_true (by kernel_rfl)
theorem hexv_dig (v : Int) (h : 0 ≤ v ∧ v < 16) : hexv (dig v) = v := by
  obtain ⟨k, rfl⟩ := Int.eq_ofNat_of_zero_le h.1
  exact hexv_dig_all ⟨k, by omega⟩
theorem dig_in (v : Int) (h : 0 ≤ v ∧ v < 16) : 0 ≤ dig v ∧ dig v < 256 := by unfold dig; split <;> omega
theorem dig_hexv (c : Int) (h : 0 ≤ c ∧ c < 256) (hg : 0 ≤ hexv c) : dig (hexv c) = c := by
  rw [hexv_eq c h] at hg ⊢
  unfold hexq at hg ⊢
  unfold dig
  split at hg
  · rename_i h1
    rw [if_pos h1, if_pos (by omega)]; omega
  · rename_i h1
    split at hg
    · rename_i h2
      rw [if_neg h1, if_pos h2, if_neg (by omega)]; omega
    · omega
theorem textL_in {l : List Int} (hb : InB l) : InB (textL l) := by
  intro j
  by_cases hj : j < 64
  · rw [← textL_getD l j hj]
    have hf := textF_at l (j / 2)
    have hx := hb (j / 2)
    rcases Nat.mod_two_eq_zero_or_one j with h | h
    · rw [show j = 2 * (j / 2) by omega, hf.1]; exact dig_in _ (by omega)
    · rw [show j = 2 * (j / 2) + 1 by omega, hf.2]; exact dig_in _ (by omega)
  · rw [getD_past _ _ (by rw [textL_length]; omega)]; omega
theorem text_hex {l : List Int} (hb : InB l) (j : Nat) (hj : j < 32) : hexv ((textL l).getD (2 * j) 0) = l.getD j 0 / 16 ∧ hexv ((textL l).getD (2 * j + 1) 0) = l.getD j 0 % 16 := by
  have hf := textF_at l j
  have hx := hb j
  rw [← textL_getD l _ (by omega), ← textL_getD l _ (by omega), hf.1, hf.2]
  exact ⟨hexv_dig _ (by omega), hexv_dig _ (by omega)⟩
theorem ofOk_text {l : List Int} (hb : InB l) : ofOk (textL l) = true := ofOk_good (textL_length l) fun j hj => by
  have h := text_hex hb j hj
  have hx := hb j
  unfold good
  rw [h.1, h.2]
  generalize l.getD j 0 = x at hx
  simp
  omega
theorem ofX_getD {B : List Int} (h : ofOk B = true) (j : Nat) (hj : j < 32) : (ofX B).getD j 0 = ofF B j := by unfold ofX; rw [h]; simp [hj]
theorem list_same {a b : List Int} (n : Nat) (ha : a.length = n) (hb : b.length = n) (h : ∀ j, j < n → a.getD j 0 = b.getD j 0) : a = b := by
  refine List.ext_getElem (by omega) fun i h1 h2 => ?_
  have := h i (by omega)
  rw [List.getD_eq_getElem?_getD, List.getD_eq_getElem?_getD, List.getElem?_eq_getElem h1, List.getElem?_eq_getElem h2] at this
  exact this
theorem ofX_text {l : List Int} (hl : l.length = 32) (hb : InB l) : ofX (textL l) = l :=
  list_same 32 (ofX_length _) hl fun j hj => by
    have h := text_hex hb j hj
    have hx := hb j
    rw [ofX_getD (ofOk_text hb) j hj]
    unfold ofF
    rw [h.1, h.2]
    omega
theorem ofOk_parts {B : List Int} (h : ofOk B = true) : B.length = 64 ∧ ∀ j, j < 32 → 0 ≤ hexv (B.getD (2 * j) 0) ∧ 0 ≤ hexv (B.getD (2 * j + 1) 0) := by
  unfold ofOk at h
  rw [Bool.and_eq_true] at h
  refine ⟨by simpa using h.1, fun j hj => ?_⟩
  have := List.all_eq_true.1 h.2 j (List.mem_range.2 hj)
  unfold good at this
  simpa using this
theorem ofX_in {B : List Int} (hb : InB B) : InB (ofX B) := by
  intro j
  by_cases hj : j < 32
  · cases h : ofOk B with
    | true =>
      have hp := (ofOk_parts h).2 j hj
      have h1 := hexv_in _ (hb (2 * j))
      have h2 := hexv_in _ (hb (2 * j + 1))
      rw [ofX_getD h j hj]
      unfold ofF
      omega
    | false => rw [ofX_bad h, List.getD_eq_getElem?_getD, List.getElem?_replicate, if_pos hj]; simp
  · rw [getD_past _ _ (by rw [ofX_length]; omega)]; omega
theorem textL_of {B : List Int} (hb : InB B) (h : ofOk B = true) : textL (ofX B) = B := by
  obtain ⟨hl, hg⟩ := ofOk_parts h
  refine list_same 64 (textL_length _) hl fun j hj => ?_
  rw [← textL_getD _ j hj]
  have hf := textF_at (ofX B) (j / 2)
  have hp := hg (j / 2) (by omega)
  have h1 := hexv_in _ (hb (2 * (j / 2)))
  have h2 := hexv_in _ (hb (2 * (j / 2) + 1))
  rw [ofX_getD h (j / 2) (by omega)] at hf
  unfold ofF at hf
  rcases Nat.mod_two_eq_zero_or_one j with e | e
  · have ej : j = 2 * (j / 2) := by omega
    generalize j / 2 = q at *
    subst ej
    rw [hf.1, show (hexv (B.getD (2 * q) 0) * 16 + hexv (B.getD (2 * q + 1) 0)) / 16 = hexv (B.getD (2 * q) 0) by omega]
    exact dig_hexv _ (hb _) hp.1
  · have ej : j = 2 * (j / 2) + 1 := by omega
    generalize j / 2 = q at *
    subst ej
    rw [hf.2, show (hexv (B.getD (2 * q) 0) * 16 + hexv (B.getD (2 * q + 1) 0)) % 16 = hexv (B.getD (2 * q + 1) 0) by omega]
    exact dig_hexv _ (hb _) hp.2
theorem bytesOf_str {L : List Int} (hb : InB L) : bytesOf (strOfNums L) = L := by
  unfold bytesOf
  rw [strOfNums_data, List.map_map]
  refine List.ext_getElem (by simp) fun i h1 h2 => ?_
  have hx := hb i
  rw [List.getD_eq_getElem?_getD, List.getElem?_eq_getElem h2, Option.getD_some] at hx
  simp only [List.getElem_map, Function.comp_apply]
  rw [UInt8.toNat_ofNat']
  omega
theorem str_bytesOf (s : ByteArray) : strOfNums (bytesOf s) = s := by
  unfold strOfNums bytesOf
  rw [List.map_map]
  have : (fun n : Int => UInt8.ofNat n.toNat) ∘ (fun b : UInt8 => (b.toNat : Int)) = id := by funext b; simp
  rw [this, List.map_id, Array.toArray_toList]
/-- Of tells yes where the text of what it tells is the text. -/
theorem of_is (s : ByteArray) : (strOfNums (textL (ofX (bytesOf s))) = s) ↔ ofOk (bytesOf s) = true := by
  have hb := bytesOf_in s
  constructor
  · intro h
    have h2 : bytesOf s = textL (ofX (bytesOf s)) := by
      rw [← bytesOf_str (textL_in (ofX_in hb)), h]
    rw [h2]
    exact ofOk_text (ofX_in hb)
  · intro h
    rw [textL_of hb h, str_bytesOf]
end Go.Proofs.YtbondffjghanlaaDoor
