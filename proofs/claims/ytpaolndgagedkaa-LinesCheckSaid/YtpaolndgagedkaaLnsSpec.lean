/- DERIVED. Lines, markers, what a text's newlines end: as plain functions of bytes; no program. -/
import Derived.Lib.CutLaws
import Derived.Lib.IndexBytes
import Derived.Lib.IndexLaws
import Derived.Lib.Strings
namespace Go.Proofs.Ytpaolndgagedkaa.Lns
/-- may a rune stand in a line? -/
def alw (r : Int) : Bool := r == 9 || (decide (32 ≤ r) && decide (r ≤ 126))
def allL (l : List UInt8) : Bool := l.all fun c => alw (c.toNat : Int)
def mkL (l : List UInt8) : Bool := l == List.replicate 7 62 || (l == List.replicate 7 61 || l == List.replicate 7 60)
def plainL (l : List UInt8) : Bool := decide (l.length ≤ 80) && allL l
def isL (l : List UInt8) : Bool := plainL l && !mkL l
theorem plain_mk {l : List UInt8} (h : mkL l = true) : plainL l = true := by
  simp only [mkL, Bool.or_eq_true, beq_iff_eq] at h
  rcases h with rfl | rfl | rfl <;> decide
theorem is_or_mk (l : List UInt8) : (isL l || mkL l) = plainL l := by
  unfold isL
  cases h : mkL l
  · simp
  · simp [plain_mk h]
theorem is_free {l : List UInt8} (h : isL l = true) : (10 : UInt8) ∉ l := by
  simp only [isL, plainL, Bool.and_eq_true, allL, List.all_eq_true] at h
  intro hm
  have := h.1.2 10 hm
  revert this
  decide
/-- the strings that newlines end; behind a. -/
def prtG : List UInt8 → List UInt8 → List (List UInt8)
  | _, [] => []
  | a, c :: l => if c = 10 then a :: prtG [] l else prtG (a ++ [c]) l
def prt (l : List UInt8) : List (List UInt8) := prtG [] l
def joinN : List (List UInt8) → List UInt8
  | [] => []
  | x :: t => x ++ 10 :: joinN t
theorem prtG_none : ∀ {x : List UInt8} (a : List UInt8), (10 : UInt8) ∉ x → prtG a x = []
  | [], _, _ => rfl
  | c :: x, a, h => by
    simp only [List.mem_cons, not_or] at h
    rw [prtG, if_neg (Ne.symm h.1)]
    exact prtG_none _ h.2
theorem prtG_cut : ∀ {x : List UInt8} (a r : List UInt8), (10 : UInt8) ∉ x → prtG a (x ++ 10 :: r) = (a ++ x) :: prtG [] r
  | [], a, r, _ => by simp [prtG]
  | c :: x, a, r, h => by
    simp only [List.mem_cons, not_or] at h
    rw [List.cons_append, prtG, if_neg (Ne.symm h.1), prtG_cut _ _ h.2]
    simp
theorem prt_cut {x r : List UInt8} (h : (10 : UInt8) ∉ x) : prt (x ++ 10 :: r) = x :: prt r := by
  unfold prt; rw [prtG_cut _ _ h]; rfl
theorem prt_none {x : List UInt8} (h : (10 : UInt8) ∉ x) : prt x = [] := prtG_none _ h
theorem prt_join : ∀ {L : List (List UInt8)}, (∀ x ∈ L, (10 : UInt8) ∉ x) → prt (joinN L) = L
  | [], _ => rfl
  | x :: t, h => by
    rw [joinN, prt_cut (h x (by simp)), prt_join (fun y hy => h y (by simp [hy]))]
theorem prtG_len : ∀ (l a : List UInt8), (prtG a l).length = l.count 10
  | [], _ => rfl
  | c :: l, a => by
    rw [prtG]
    by_cases h : c = 10
    · subst h; rw [if_pos rfl, List.length_cons, prtG_len l, List.count_cons_self]
    · rw [if_neg h, prtG_len l, List.count_cons_of_ne (by simpa using h)]
theorem prt_len (l : List UInt8) : (prt l).length = l.count 10 := prtG_len l []
theorem prtG_free : ∀ (l a : List UInt8), (10 : UInt8) ∉ a → ∀ x ∈ prtG a l, (10 : UInt8) ∉ x
  | [], _, _, x, hx => by simp [prtG] at hx
  | c :: l, a, ha, x, hx => by
    rw [prtG] at hx
    by_cases h : c = 10
    · rw [if_pos h, List.mem_cons] at hx
      rcases hx with rfl | hx
      · exact ha
      · exact prtG_free l [] (by simp) x hx
    · rw [if_neg h] at hx
      exact prtG_free l _ (by simp only [List.mem_append, List.mem_singleton, not_or]; exact ⟨ha, Ne.symm h⟩) x hx
theorem prt_free (l : List UInt8) : ∀ x ∈ prt l, (10 : UInt8) ∉ x := prtG_free l [] (by simp)
theorem join_prtG : ∀ (l a : List UInt8), l.getLast? = some 10 → joinN (prtG a l) = a ++ l
  | [], _, h => by simp at h
  | c :: l, a, h => by
    rw [prtG]
    by_cases hl : l = []
    · subst hl
      simp only [List.getLast?_singleton, Option.some.injEq] at h
      subst h
      rw [if_pos rfl]
      rfl
    · have h' : l.getLast? = some 10 := by
        rw [List.getLast?_cons] at h
        cases e : l.getLast? with
        | none => exact absurd (List.getLast?_eq_none_iff.1 e) hl
        | some y => rw [e] at h; simpa using h
      by_cases hc : c = 10
      · subst hc
        rw [if_pos rfl, joinN, join_prtG l [] h']
        rfl
      · rw [if_neg hc, join_prtG l _ h']
        simp
theorem join_prt {l : List UInt8} (h : l = [] ∨ l.getLast? = some 10) : joinN (prt l) = l := by
  rcases h with rfl | h
  · rfl
  · exact join_prtG l [] h
theorem join_end : ∀ (L : List (List UInt8)), joinN L = [] ∨ (joinN L).getLast? = some 10
  | [] => .inl rfl
  | x :: t => by
    right
    rw [joinN, List.getLast?_append, List.getLast?_cons]
    rcases join_end t with h | h
    · rw [h]; rfl
    · rw [h]; rfl
theorem joinN_app : ∀ (L M : List (List UInt8)), joinN (L ++ M) = joinN L ++ joinN M
  | [], _ => rfl
  | x :: t, M => by rw [List.cons_append, joinN, joinN, joinN_app t M]; simp
/-- texts. -/
def mkB (l : List UInt8) : ByteArray := ⟨l.toArray⟩
theorem mkB_data (l : List UInt8) : (mkB l).data.toList = l := rfl
theorem mkB_of (s : ByteArray) : mkB s.data.toList = s := rfl
theorem mkB_size (l : List UInt8) : (mkB l).size = l.length := rfl
def prtB (s : ByteArray) : List ByteArray := (prt s.data.toList).map mkB
theorem prtB_map (s : ByteArray) : (prtB s).map (·.data.toList) = prt s.data.toList := by
  rw [prtB, List.map_map]
  exact List.map_id _
theorem prtB_len (s : ByteArray) : (prtB s).length = s.data.toList.count 10 := by rw [prtB, List.length_map, prt_len]
theorem prtB_le (s : ByteArray) : (prtB s).length ≤ s.size := by
  rw [prtB_len, Lib.size_eq]; exact List.count_le_length
theorem prtG_size : ∀ (l a : List UInt8), ∀ x ∈ prtG a l, x.length ≤ a.length + l.length
  | [], _, x, hx => by simp [prtG] at hx
  | c :: l, a, x, hx => by
    rw [prtG] at hx
    by_cases h : c = 10
    · rw [if_pos h, List.mem_cons] at hx
      rcases hx with rfl | hx
      · simp
      · have := prtG_size l [] x hx
        simp only [List.length_nil, List.length_cons] at *
        omega
    · rw [if_neg h] at hx
      have := prtG_size l _ x hx
      simp only [List.length_append, List.length_cons, List.length_nil] at *
      omega
theorem prtB_size {s x : ByteArray} (h : x ∈ prtB s) : x.size ≤ s.size := by
  obtain ⟨y, hy, rfl⟩ := List.mem_map.1 h
  have := prtG_size _ _ y hy
  rw [mkB_size, Lib.size_eq]
  simpa using this
theorem cut_cases (s : List UInt8) : (Lib.cut s [10] = (s, [], false) ∧ (10 : UInt8) ∉ s) ∨ (∃ x r, Lib.cut s [10] = (x, r, true) ∧ s = x ++ 10 :: r ∧ (10 : UInt8) ∉ x) := by
  unfold Lib.cut
  by_cases h : 0 ≤ Lib.index s [10]
  · right
    obtain ⟨i, hi⟩ : ∃ i : Nat, Lib.index s [10] = i := ⟨(Lib.index s [10]).toNat, by omega⟩
    have hb := hi
    rw [Lib.index_one] at hb
    obtain ⟨h1, h2⟩ := Lib.indexByte_some hb
    obtain ⟨hlt, h1'⟩ := List.getElem?_eq_some_iff.1 h1
    refine ⟨s.take i, s.drop (i + 1), by rw [if_pos h, hi]; rfl, ?_, ?_⟩
    · conv => lhs; rw [← List.take_append_drop i s]
      rw [List.drop_eq_getElem_cons hlt, h1']
    · intro hm
      obtain ⟨k, hk, hk'⟩ := List.mem_iff_getElem.1 hm
      rw [List.length_take] at hk
      rw [List.getElem_take] at hk'
      exact h2 k (by omega) (by rw [List.getElem?_eq_getElem (by omega), hk'])
  · left
    rw [if_neg h]
    refine ⟨rfl, fun hm => ?_⟩
    have hge := Lib.index_ge s [10]
    have e : Lib.indexByte s 10 = -1 := by rw [← Lib.index_one]; omega
    obtain ⟨k, hk, hk'⟩ := List.mem_iff_getElem.1 hm
    exact Lib.indexByte_none e k (by rw [List.getElem?_eq_getElem hk, hk'])
theorem cutB_cases (s : ByteArray) : (Lib.cut s.data.toList [10] = (s.data.toList, [], false) ∧ prtB s = []) ∨ (∃ x r : ByteArray, Lib.cut s.data.toList [10] = (x.data.toList, r.data.toList, true) ∧ prtB s = x :: prtB r ∧ x.size + 1 + r.size = s.size) := by
  rcases cut_cases s.data.toList with ⟨h1, h2⟩ | ⟨x, r, h1, h2, h3⟩
  · exact .inl ⟨h1, by rw [prtB, prt_none h2]; rfl⟩
  · refine .inr ⟨mkB x, mkB r, h1, ?_, ?_⟩
    · show (prt s.data.toList).map mkB = _
      rw [h2, prt_cut h3]; rfl
    · rw [mkB_size, mkB_size, Lib.size_eq, h2, List.length_append, List.length_cons]; omega
def isB (s : ByteArray) : Bool := isL s.data.toList
def mkrB (s : ByteArray) : Bool := mkL s.data.toList
def plainB (s : ByteArray) : Bool := plainL s.data.toList
theorem isB_or (s : ByteArray) : (isB s || mkrB s) = plainB s := is_or_mk _
def chk (L : List ByteArray) : Int := if 256 < L.length then 3 else if L.all isB then 0 else 4
/-- is a text empty, or ended by a newline? -/
def endB (s : ByteArray) : Bool := s.data.toList == [] || Lib.hasSuffix s.data.toList [10]
theorem suffix_last (l : List UInt8) : Lib.hasSuffix l [10] = true ↔ l.getLast? = some 10 := by
  unfold Lib.hasSuffix
  rw [List.isSuffixOf_iff_suffix, List.getLast?_eq_some_iff]
  exact ⟨fun ⟨t, h⟩ => ⟨t, h.symm⟩, fun ⟨t, h⟩ => ⟨t, h.symm⟩⟩
theorem endB_iff (s : ByteArray) : endB s = true ↔ s.data.toList = [] ∨ s.data.toList.getLast? = some 10 := by
  simp only [endB, Bool.or_eq_true, beq_iff_eq, suffix_last]
def joinB (L : List ByteArray) : ByteArray := mkB (joinN (L.map (·.data.toList)))
theorem joinB_data (L : List ByteArray) : (joinB L).data.toList = joinN (L.map (·.data.toList)) := rfl
theorem joinB_prt {s : ByteArray} (h : endB s = true) : joinB (prtB s) = s := by
  unfold joinB
  rw [prtB_map, join_prt ((endB_iff s).1 h), mkB_of]
theorem joinB_end (L : List ByteArray) : endB (joinB L) = true := (endB_iff _).2 (join_end _)
theorem prtB_join {L : List ByteArray} (h : L.all isB = true) : prtB (joinB L) = L := by
  rw [prtB, joinB_data, prt_join (fun x hx => by
    obtain ⟨y, hy, rfl⟩ := List.mem_map.1 hx
    exact is_free (List.all_eq_true.1 h y hy)), List.map_map]
  exact List.map_id _
/-- Split, Told. -/
def spl (s : ByteArray) : List ByteArray × Int := if endB s = true then (if chk (prtB s) = 0 then (prtB s, 0) else ([], chk (prtB s))) else ([], 4)
def tld (s : ByteArray) : List ByteArray × Int := if endB s = true then (if (prtB s).all plainB = true then (prtB s, 0) else ([], 4)) else ([], 4)
theorem chk_in (L : List ByteArray) : chk L = 0 ∨ chk L = 3 ∨ chk L = 4 := by
  unfold chk; split
  · exact .inr (.inl rfl)
  · split
    · exact .inl rfl
    · exact .inr (.inr rfl)
theorem chk_zero {L : List ByteArray} (h : chk L = 0) : L.length ≤ 256 ∧ L.all isB = true := by
  unfold chk at h
  split at h
  · cases h
  · split at h
    · exact ⟨by omega, by assumption⟩
    · cases h
theorem is_plain {s : ByteArray} (h : isB s = true) : plainB s = true := by rw [← isB_or, h]; rfl
end Go.Proofs.Ytpaolndgagedkaa.Lns
