/- DERIVED. The reference's Split, Is, Check, Prefix. -/
import Derived.Test.YtmbcojpdigoojaaGreatDoorPthRef
import Derived.Test.YtmbcojpdigoojaaGreatDoorPthWorks
namespace Go.Proofs.YtmbcojpdigoojaaGreatDoor.Pth
open Go.RowKit
theorem map_data_inj : ∀ {L M : List ByteArray}, L.map (·.data.toList) = M.map (·.data.toList) → L = M
  | [], [], _ => rfl
  | [], _ :: _, h => by simp at h
  | _ :: _, [], h => by simp at h
  | a :: L, b :: M, h => by
    simp only [List.map_cons, List.cons.injEq] at h
    rw [bytes_eq h.1, map_data_inj h.2]
/-- how far the reference's Split has come: texts L, from f on, no slash up to i. -/
def At (s : ByteArray) (L : List ByteArray) (f i : Nat) : Prop :=
  f ≤ i ∧ i ≤ s.size ∧ L.length ≤ i ∧ pcs s.data.toList = L.map (·.data.toList) ++ pcs (s.data.toList.drop f) ∧ 47 ∉ (s.data.toList.drop f).take (i - f)
theorem pcs_one : ∀ {l : List UInt8}, 47 ∉ l → pcs l = [l]
  | [], _ => rfl
  | c :: l, h => by
    simp only [List.mem_cons, not_or] at h
    have ih := pcs_one h.2
    simp [pcs, Ne.symm h.1, ih]
theorem At.zero (s : ByteArray) : At s [] 0 0 := ⟨Nat.le_refl _, Nat.zero_le _, Nat.le_refl _, by simp, by simp⟩
theorem take_next {s : ByteArray} {f i : Nat} (hf : f ≤ i) (h : i < s.size) : (s.data.toList.drop f).take (i + 1 - f) = (s.data.toList.drop f).take (i - f) ++ [s[i]] := by
  have e : i + 1 - f = (i - f) + 1 := by omega
  have hl : i - f < (s.data.toList.drop f).length := by rw [List.length_drop, ← Lib.size_eq]; omega
  rw [e, List.take_succ_eq_append_getElem hl, List.getElem_drop]
  have e2 : f + (i - f) = i := by omega
  congr 2
  simp only [e2]
  rfl
theorem At.step {s : ByteArray} {L : List ByteArray} {f i : Nat} (h : At s L f i) (hi : i < s.size) (hc : s[i] ≠ 47) : At s L f (i + 1) := by
  obtain ⟨h1, h2, h3, h4, h5⟩ := h
  refine ⟨by omega, by omega, by omega, h4, ?_⟩
  rw [take_next h1 hi, List.mem_append, not_or]
  exact ⟨h5, by simpa using Ne.symm hc⟩
theorem At.cut {s : ByteArray} {L : List ByteArray} {f i : Nat} (h : At s L f i) (hi : i < s.size) (hc : s[i] = 47) : At s (L ++ [s.extract f i]) (i + 1) (i + 1) := by
  obtain ⟨h1, h2, h3, h4, h5⟩ := h
  refine ⟨by omega, by omega, by rw [List.length_append, List.length_singleton]; omega, ?_, by simp⟩
  have e : s.data.toList.drop f = (s.data.toList.drop f).take (i - f) ++ 47 :: s.data.toList.drop (i + 1) := by
    have k := List.take_append_drop (i - f) (s.data.toList.drop f)
    rw [List.drop_drop, show f + (i - f) = i by omega, drop_at s i hi, hc] at k
    exact k.symm
  rw [h4, List.map_append, List.append_assoc, List.map_cons, List.map_nil, Lib.extract_data]
  congr 1
  conv => lhs; rw [e]
  rw [pcs_app, pcs_one h5]
theorem At.done {s : ByteArray} {L : List ByteArray} {f : Nat} (h : At s L f s.size) : L ++ [s.extract f s.size] = pcB s := by
  obtain ⟨h1, h2, h3, h4, h5⟩ := h
  refine map_data_inj ?_
  rw [pcB_map, h4, List.map_append, List.map_cons, List.map_nil, Lib.extract_data]
  have e : (s.data.toList.drop f).take (s.size - f) = s.data.toList.drop f := by rw [List.take_of_length_le]; rw [List.length_drop, ← Lib.size_eq]; omega
  rw [e] at h5 ⊢
  rw [pcs_one h5]
set_option maxHeartbeats 1000000 in
theorem rsplit_any (s : ByteArray) (w : World) (hs : s.size ≤ 1000) : Calls Tryz.prog 81 #[.string s] w fun e w' => ∃ v, e = .returned v ∧ OwnT w.heap.size (pcB s) v w' ∧ Below w.heap.size w w' := by
  go_enter Tryz.func81, Tryz.ntmps81
  go_wp2
  go_loopw [3, 4, 5] (fun v f i wr => ∃ (L : List ByteArray) (a k : Nat), f = .int .i64 a ∧ i = .int .i64 k ∧ a ≤ k ∧ k ≤ s.size ∧ Hid (At s L a k) ∧ Hid (OwnT w.heap.size L v wr) ∧ Below w.heap.size w wr) (fun _ _ i _ => s.size - (intOf i).toNat)
  case atStart => exact ⟨[], 0, 0, rfl, rfl, Nat.le_refl _, Nat.zero_le _, At.zero s, OwnT.nil _ _, Below.refl _ _⟩
  case round =>
    obtain ⟨L, a, k, rfl, rfl, hak, hk, HA, HO, hb⟩ := hrel
    have hlen := HA.out.2.2.1
    have hsize := hb.size
    by_cases hp : k < s.size
    · by_cases h47 : s[k] = 47
      · have HC := Lib.hid (HA.out.cut hp h47)
        have e47 : (((s[k]'hp).toNat : Int) == 47) = true := by rw [h47]; rfl
        clear h47
        go_wp2_with (at_builtin; refine wpList_append_txt rfl (.tmp 16) (.tmp 21) rfl w.heap.size _ L (s.extract a k) rfl HO.out rfl (by omega) (by omega) ?_; intro v' w1 O1 g1; have hO1 := Lib.hid O1; have hb1 := g1 _ _ hb (Nat.le_refl _); clear g1 O1)
        go_roundw
        case rel => exact ⟨L ++ [s.extract a k], k + 1, k + 1, by go_num, by go_num, Nat.le_refl _, by omega, HC, hO1, hb1⟩
        case measure => simp [intOf]; omega
      · have HC := Lib.hid (HA.out.step hp h47)
        have e47 : (((s[k]'hp).toNat : Int) == 47) = false := by
          rw [beq_eq_false_iff_ne]
          intro e
          exact h47 (UInt8.toNat_inj.1 (by show (s[k]'hp).toNat = 47; omega))
        clear h47
        go_wp2
        go_roundw
        case rel => exact ⟨L, a, k + 1, rfl, by go_num, by omega, by omega, HC, HO, hb⟩
        case measure => simp [intOf]; omega
    · obtain rfl : k = s.size := by omega
      have HC := Lib.hid HA.out.done
      go_wp2_with (at_builtin; refine wpList_append_txt rfl (.tmp 25) (.tmp 29) rfl w.heap.size _ L (s.extract a s.size) rfl HO.out rfl (by omega) (by omega) ?_; intro v' w1 O1 g1; have hO1 := Lib.hid O1; have hb1 := g1 _ _ hb (Nat.le_refl _); clear g1 O1)
      go_ret
      exact ⟨_, rfl, by rw [← HC.out]; exact hO1.out, hb1⟩
theorem isP_few {s : ByteArray} (h : (pcB s).all partS = true) : isP s.data.toList = (decide ((pcB s).length ≤ 8) && decide (s.size ≤ 60)) := by
  rw [isP, ← parts_all, h, Bool.and_true, ← pcB_length, Bool.and_comm, ← Lib.size_eq]
theorem isP_bad {s : ByteArray} (h : (pcB s).all partS = false) : isP s.data.toList = false := by
  rw [isP, ← parts_all, h, Bool.and_false, Bool.and_false]
theorem pcB_pos (s : ByteArray) : 0 < (pcB s).length := by rw [pcB_len]; omega
theorem all_nth {L : List ByteArray} : (L.all partS = true) ↔ ∀ k, k < L.length → partS (nth L k) = true := by
  rw [List.all_eq_true]
  constructor
  · intro h k hk
    have := h L[k] (List.getElem_mem hk)
    simpa [nth, hk] using this
  · intro h x hx
    obtain ⟨k, hk, rfl⟩ := List.getElem_of_mem hx
    have := h k hk
    simpa [nth, hk] using this
def isB (s : ByteArray) : Bool := isP s.data.toList
theorem nth_size {s : ByteArray} {k : Nat} (h : k < (pcB s).length) : (nth (pcB s) k).size ≤ s.size := by
  rw [Lib.size_eq, Lib.size_eq, nth_data]
  have hm : (pcs s.data.toList).getD k [] ∈ pcs s.data.toList := by
    rw [pcB_length] at h
    rw [List.getD_eq_getElem?_getD, List.getElem?_eq_getElem h]
    exact List.getElem_mem h
  have key : ∀ (l : List UInt8) (x : List UInt8), x ∈ pcs l → x.length ≤ l.length := by
    intro l
    induction l with
    | nil => intro x hx; simp [pcs] at hx; subst hx; simp
    | cons c l ih =>
      intro x hx
      by_cases hc : c = 47
      · subst hc
        rw [pcs_cons_eq, List.mem_cons] at hx
        rcases hx with rfl | hx
        · simp
        · have := ih x hx; simp; omega
      · obtain ⟨y, t, e1, e2⟩ := pcs_cons c l hc
        rw [e2, List.mem_cons] at hx
        rw [e1] at ih
        rcases hx with rfl | hx
        · have := ih y (List.mem_cons_self ..); simp; omega
        · have := ih x (List.mem_cons_of_mem _ hx); simp; omega
  exact key _ _ hm
set_option maxHeartbeats 1000000 in
theorem ris_any (s : ByteArray) (w : World) (hs : s.size ≤ 1000) : Calls Tryz.prog 59 #[.string s] w fun e w' => e = .returned (.bool (isB s)) ∧ Below w.heap.size w w' := by
  have hle : (pcB s).length ≤ 1001 := by
    rw [pcB_length, pcs_len]
    have := List.count_le_length (a := (47 : UInt8)) (l := s.data.toList)
    rw [← Lib.size_eq] at this
    omega
  have hpos := pcB_pos s
  go_enter Tryz.func59, Tryz.ntmps59
  go_wp2_with fail
  refine (rsplit_any s w hs).mono ?_
  rintro e w1 ⟨v, rfl, hO, hb⟩
  obtain ⟨g, cap, rfl, hcap, hg0, hg1, hcell⟩ := hO.row hpos
  have HC := Lib.hid hcell
  clear hO hcell
  go_wp2
  go_loop [4] (fun i => ∃ k : Nat, k ≤ (pcB s).length ∧ i = .int .i64 k ∧ Hid (∀ j, j < k → partS (nth (pcB s) j) = true)) (fun i => (pcB s).length - (intOf i).toNat)
  case atStart => exact ⟨0, Nat.zero_le _, rfl, Lib.hid (fun j hj => absurd hj (Nat.not_lt_zero _))⟩
  case round =>
    obtain ⟨k, hk, rfl, HS⟩ := hrel
    by_cases hp : k < (pcB s).length
    · have hc := HC.out k hp
      have hz := nth_size hp
      cases hpt : partS (nth (pcB s) k)
      · have hpl : partL (nth (pcB s) k).data.toList = false := hpt
        have HR : Hid (isB s = false) := isP_bad (by
          cases e : (pcB s).all partS with
          | false => rfl
          | true => rw [all_nth.1 e k hp] at hpt; cases hpt)
        go_wp2_with (go_at_call 82; refine (rpart_any _ _ (by omega)).mono ?_; rw [hpl]; rintro e w' ⟨rfl, rfl⟩)
        go_ret
        exact ⟨ret_b HR.out.symm, hb⟩
      · have hpl : partL (nth (pcB s) k).data.toList = true := hpt
        have HN := Lib.hid hpt
        clear hpt
        go_wp2_with (go_at_call 82; refine (rpart_any _ _ (by omega)).mono ?_; rw [hpl]; rintro e w' ⟨rfl, rfl⟩)
        go_round
        case rel => exact ⟨k + 1, by omega, by go_num, Lib.hid (fun j hj => by
          by_cases e : j = k
          · rw [e]; exact HN.out
          · exact HS.out j (by omega))⟩
        case measure => simp [intOf]; omega
    · obtain rfl : k = (pcB s).length := by omega
      have HR : Hid (isB s = (decide ((pcB s).length ≤ 8) && decide (s.size ≤ 60))) := isP_few (all_nth.2 HS.out)
      clear HS
      by_cases h8 : (pcB s).length ≤ 8
      · go_wp2
        go_ret
        exact ⟨ret_b (by rw [HR.out, decide_eq_true h8]; simp; omega), hb⟩
      · go_wp2
        go_ret
        exact ⟨ret_b (by rw [HR.out, decide_eq_false h8]; simp), hb⟩
theorem isB_yes {s : ByteArray} (h : isB s = true) : chk s = 0 := by rw [chk, show isP s.data.toList = true from h]; rfl
theorem isB_no {s : ByteArray} (h : isB s = false) : chk s = 15 := by rw [chk, show isP s.data.toList = false from h]; rfl
theorem rcheck_any (s : ByteArray) (w : World) (hs : s.size ≤ 1000) : Calls Tryz.prog 41 #[.string s] w fun e w' => e = .returned (.int .i64 (chk s)) ∧ Below w.heap.size w w' := by
  cases h : isB s
  · have HR := Lib.hid (isB_no h)
    go_enter Tryz.func41, Tryz.ntmps41
    go_wp2_with (go_at_call 59; refine (ris_any _ _ hs).mono ?_; rintro e w' ⟨rfl, hb⟩)
    go_ret
    exact ⟨ret_z HR.out.symm, hb⟩
  · have HR := Lib.hid (isB_yes h)
    go_enter Tryz.func41, Tryz.ntmps41
    go_wp2_with (go_at_call 59; refine (ris_any _ _ hs).mono ?_; rintro e w' ⟨rfl, hb⟩)
    go_ret
    exact ⟨ret_z HR.out.symm, hb⟩
end Go.Proofs.YtmbcojpdigoojaaGreatDoor.Pth
