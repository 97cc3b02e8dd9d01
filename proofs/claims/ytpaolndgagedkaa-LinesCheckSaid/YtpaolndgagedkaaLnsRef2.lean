/- DERIVED. The reference: Is, Check, parts, Split, Told, Same, Join of any texts. -/
import Derived.Test.YtpaolndgagedkaaLnsRef
namespace Go.Proofs.Ytpaolndgagedkaa.Lns
open Go.RowKit
theorem isB_parts (s : ByteArray) : isB s = (plainB s && !mkrB s) := rfl
theorem ris_any (s : ByteArray) (w : World) (hs : s.size ≤ 1000000) : Calls Try.prog 15 #[.string s] w fun e w' => e = .returned (.bool (isB s)) ∧ Below w.heap.size w w' := by
  have hp := isB_parts s
  cases h : plainB s
  · rw [h] at hp
    have HR := Lib.hid hp
    have H := Lib.hid h
    clear h hp
    go_enter Try.func15, Try.ntmps15
    go_wp2_with (go_at_call 28; refine (rplain_any _ _ hs).mono ?_; rw [H.out]; rintro e w' ⟨rfl, rfl⟩)
    go_ret
    exact ⟨ret_b (by rw [HR.out]; rfl), Below.refl _ _⟩
  · cases hm : mkrB s
    all_goals
      rw [h, hm] at hp
      have HR := Lib.hid hp
      have H := Lib.hid h
      have HM := Lib.hid hm
      clear h hp hm
      go_enter Try.func15, Try.ntmps15
      go_wp2_with (first
        | (go_at_call 28; refine (rplain_any _ _ hs).mono ?_; rw [H.out]; rintro e w' ⟨rfl, rfl⟩)
        | (go_at_call 17; refine (rmark_any _ _).mono ?_; rw [HM.out]; rintro e w1 ⟨rfl, hb1⟩; have Hb1 := Lib.hid hb1; clear hb1))
      go_ret
      exact ⟨ret_b (by rw [HR.out]; rfl), Hb1.out⟩
set_option maxHeartbeats 1000000 in
theorem rcheck_any (L : List ByteArray) (v : Value) (w : World) (hR : RdT L v w) (hz : ∀ x ∈ L, x.size ≤ 1000000) : Calls Try.prog 19 #[v] w fun e w' => e = .returned (.int .i64 (chk L)) ∧ Below w.heap.size w w' := by
  obtain ⟨A, c, rfl, hc, hk⟩ := hR
  obtain ⟨n, hn⟩ : ∃ n, n = L.length := ⟨_, rfl⟩
  by_cases h : 256 < L.length
  · have HR := Lib.hid (chk_many h)
    rw [← hn] at h ⊢
    have hI : (256 : Int) < n := by omega
    clear hk
    go_enter Try.func19, Try.ntmps19
    go_wp2
    go_ret
    exact ⟨ret_i HR.out.symm, Below.refl _ _⟩
  · have HY := Lib.hid (chk_yes h)
    have HN := Lib.hid (chk_no h)
    rw [← hn] at h ⊢
    have hI : ¬ (256 : Int) < n := by omega
    have Hk := Lib.hid hk
    have Hn := Lib.hid hn
    have Hz := Lib.hid hz
    clear hk hn hc hz
    go_enter Try.func19, Try.ntmps19
    go_wp2
    go_loopw [3] (fun i wr => ∃ (k : Nat), i = .int .i64 k ∧ k ≤ n ∧ Below w.heap.size w wr ∧ Hid ((L.drop k).all isB = L.all isB)) (fun i _ => n - (intOf i).toNat)
    case atStart => exact ⟨0, rfl, Nat.zero_le _, Below.refl _ _, rfl⟩
    case round =>
      obtain ⟨k, rfl, hk, hb, HS⟩ := hrel
      by_cases hp : k < n
      · have hpI : (k : Int) < n := by omega
        have hpl : k < L.length := by rw [← Hn.out]; exact hp
        obtain ⟨g, off, rfl, hg, hcell⟩ := Hk.out (by omega)
        have hc := (hb.cell (p := ⟨g, off + k, none⟩) hg).trans (hcell k hpl)
        have Hsz := Lib.hid (Hz.out _ (nth_mem hpl))
        clear hcell
        cases hal : isB (nth L k)
        · have hr := HS.out
          rw [adrop_no hpl hal] at hr
          have HR := Lib.hid (HN.out hr.symm)
          have HL := Lib.hid hal
          clear hr HS HY HN hal
          go_wp2_with (go_at_call 15; refine (ris_any _ _ Hsz.out).mono ?_; rw [HL.out]; rintro e w1 ⟨rfl, hb1⟩; have Hb1 := Lib.hid hb1; clear hb1)
          go_ret
          exact ⟨ret_i HR.out.symm, hb.trans (Hb1.out.mono hb.size)⟩
        · have hr := HS.out
          rw [adrop_yes hpl hal] at hr
          have HR := Lib.hid hr
          have HL := Lib.hid hal
          clear hr HS hal
          go_wp2_with (go_at_call 15; refine (ris_any _ _ Hsz.out).mono ?_; rw [HL.out]; rintro e w1 ⟨rfl, hb1⟩; have Hb1 := Lib.hid hb1; clear hb1)
          go_roundw
          case rel => exact ⟨k + 1, by go_num, by omega, hb.trans (Hb1.out.mono hb.size), HR⟩
          case measure => simp [intOf]; omega
      · have hpI : ¬ (k : Int) < n := by omega
        have hr := HS.out
        rw [adrop_end (by rw [← Hn.out]; exact hp)] at hr
        have HR := Lib.hid (HY.out hr.symm)
        clear hr HS HY HN
        go_wp2
        go_ret
        exact ⟨ret_i HR.out.symm, hb⟩
/-- how far the reference's parts has come: texts L, from f on, no newline up to i. -/
def At (s : ByteArray) (L : List ByteArray) (f i : Nat) : Prop :=
  f ≤ i ∧ i ≤ s.size ∧ L.length ≤ i ∧ prt s.data.toList = L.map (·.data.toList) ++ prtG ((s.data.toList.drop f).take (i - f)) (s.data.toList.drop i)
theorem At.zero (s : ByteArray) : At s [] 0 0 := ⟨Nat.le_refl _, Nat.zero_le _, Nat.le_refl _, by simp [prt]⟩
theorem take_next {s : ByteArray} {f i : Nat} (hf : f ≤ i) (h : i < s.size) : (s.data.toList.drop f).take (i + 1 - f) = (s.data.toList.drop f).take (i - f) ++ [s[i]] := by
  have e : i + 1 - f = (i - f) + 1 := by omega
  have hl : i - f < (s.data.toList.drop f).length := by rw [List.length_drop, ← Lib.size_eq]; omega
  rw [e, List.take_succ_eq_append_getElem hl, List.getElem_drop]
  have e2 : f + (i - f) = i := by omega
  congr 2
  simp only [e2]
  rfl
theorem At.step {s : ByteArray} {L : List ByteArray} {f i : Nat} (h : At s L f i) (hi : i < s.size) (hc : s[i] ≠ 10) : At s L f (i + 1) := by
  obtain ⟨h1, h2, h3, h4⟩ := h
  refine ⟨by omega, by omega, by omega, ?_⟩
  rw [take_next h1 hi, h4, drop_at s i hi, prtG, if_neg hc]
theorem At.cut {s : ByteArray} {L : List ByteArray} {f i : Nat} (h : At s L f i) (hi : i < s.size) (hc : s[i] = 10) : At s (L ++ [s.extract f i]) (i + 1) (i + 1) := by
  obtain ⟨h1, h2, h3, h4⟩ := h
  refine ⟨by omega, by omega, by rw [List.length_append, List.length_singleton]; omega, ?_⟩
  rw [h4, drop_at s i hi, prtG, if_pos hc, List.map_append, List.append_assoc, List.map_cons, List.map_nil, Lib.extract_data]
  simp
theorem map_data_inj : ∀ {L M : List ByteArray}, L.map (·.data.toList) = M.map (·.data.toList) → L = M
  | [], [], _ => rfl
  | [], _ :: _, h => by simp at h
  | _ :: _, [], h => by simp at h
  | a :: L, b :: M, h => by
    simp only [List.map_cons, List.cons.injEq] at h
    rw [bytes_eq h.1, map_data_inj h.2]
theorem At.done {s : ByteArray} {L : List ByteArray} {f : Nat} (h : At s L f s.size) : L = prtB s := by
  obtain ⟨h1, h2, h3, h4⟩ := h
  refine map_data_inj ?_
  rw [prtB_map, h4, drop_end s s.size (Nat.lt_irrefl _), prtG, List.append_nil]
theorem end_last {s : ByteArray} (h : 0 < s.size) : endB s = true ↔ s[s.size - 1]'(by omega) = 10 := by
  rw [endB_iff]
  have hne : s.data.toList ≠ [] := fun e => by rw [Lib.size_eq, e] at h; exact absurd h (by decide)
  have hl : s.data.toList.getLast? = some (s[s.size - 1]'(by omega)) := by
    rw [List.getLast?_eq_getElem?, ← Lib.size_eq]
    exact get_list s _ (by omega)
  rw [hl]
  simp [hne]
theorem end_none {s : ByteArray} (h : ¬ 0 < s.size) : endB s = true := by
  refine (endB_iff s).2 (.inl ?_)
  rw [Lib.size_eq] at h
  exact List.length_eq_zero_iff.1 (by omega)
set_option maxHeartbeats 1000000 in
theorem rparts_no (s : ByteArray) (w : World) (he : endB s = false) (hs : s.size ≤ 100000) : Calls Try.prog 27 #[.string s] w fun e w' => e = .returned (.tuple #[.slice none 0 0, .bool false]) ∧ w = w' := by
  have h0 : 0 < s.size := by
    rcases Nat.lt_or_ge 0 s.size with h | h
    · exact h
    · rw [end_none (by omega)] at he; cases he
  have hne : ¬ s[s.size - 1]'(by omega) = 10 := fun h => by rw [(end_last h0).2 h] at he; cases he
  obtain ⟨m, hm⟩ : ∃ m, s.size = m + 1 := ⟨s.size - 1, by omega⟩
  have hmI : (s.size : Int) = (m : Int) + 1 := by omega
  have hml : m < s.size := by omega
  have hne2 : ¬ ((s[m]'hml).toNat : Int) = 10 := fun h => hne (by
    have e : s.size - 1 = m := by omega
    simp only [e]
    exact UInt8.toNat_inj.1 (Int.ofNat.inj h))
  have hnb : (((s[m]'hml).toNat : Int) != 10) = true := by simpa using hne2
  have hm9 : (m : Int) ≤ 100000 := by omega
  clear hne he
  go_enter Try.func27, Try.ntmps27
  go_wp2
  go_ret2
  exact ⟨rfl, rfl⟩
set_option maxHeartbeats 2000000 in
theorem rparts_yes (s : ByteArray) (w : World) (he : endB s = true) (hs : s.size ≤ 100000) : Calls Try.prog 27 #[.string s] w fun e w' => ∃ v, e = .returned (.tuple #[v, .bool true]) ∧ OwnT w.heap.size (prtB s) v w' ∧ Below w.heap.size w w' := by
  have hlast : Hid (∀ (m : Nat) (h : m < s.size), s.size = m + 1 → ((s[m]'h).toNat : Int) = 10) := fun m h e => by
    have := (end_last (s := s) (by omega)).1 he
    have e2 : s.size - 1 = m := by omega
    simp only [e2] at this
    rw [this]; rfl
  clear he
  by_cases h0 : 0 < s.size
  · obtain ⟨m, hm⟩ : ∃ m, s.size = m + 1 := ⟨s.size - 1, by omega⟩
    have h0I : (0 : Int) < s.size := by omega
    have hml : m < s.size := by omega
    have hmS : (s.size : Int) - 1 = (m : Int) := by omega
    have hm9 : (m : Int) ≤ 100000 := by omega
    have hmb : (((s[m]'hml).toNat : Int) != 10) = false := by simpa using hlast.out m hml hm
    clear hm hlast
    go_enter Try.func27, Try.ntmps27
    go_wp2
    go_loopw [4, 5, 6] (fun v f i wr => ∃ (L : List ByteArray) (a k : Nat), f = .int .i64 a ∧ i = .int .i64 k ∧ a ≤ k ∧ k ≤ s.size ∧ Hid (At s L a k) ∧ Hid (OwnT w.heap.size L v wr) ∧ Below w.heap.size w wr) (fun _ _ i _ => s.size - (intOf i).toNat)
    case atStart => exact ⟨[], 0, 0, rfl, rfl, Nat.le_refl _, Nat.zero_le _, At.zero s, OwnT.nil _ _, Below.refl _ _⟩
    case round =>
      obtain ⟨L, a, k, rfl, rfl, hak, hk, HA, HO, hb⟩ := hrel
      have hlen := HA.out.2.2.1
      have hsize := hb.size
      by_cases hp : k < s.size
      · have hpI : (k : Int) < s.size := by omega
        by_cases h47 : s[k] = 10
        · have HC := Lib.hid (HA.out.cut hp h47)
          have e47 : (((s[k]'hp).toNat : Int) == 10) = true := by rw [h47]; rfl
          clear h47
          go_wp2_with (at_builtin; refine wpList_append_txt rfl (.tmp 28) (.tmp 33) rfl w.heap.size _ L (s.extract a k) rfl HO.out rfl (by omega) (by omega) ?_; intro v' w1 O1 g1; have hO1 := Lib.hid O1; have hb1 := g1 _ _ hb (Nat.le_refl _); clear g1 O1)
          go_roundw
          case rel => exact ⟨L ++ [s.extract a k], k + 1, k + 1, by go_num, by go_num, Nat.le_refl _, by omega, HC, hO1, hb1⟩
          case measure => simp [intOf]; omega
        · have HC := Lib.hid (HA.out.step hp h47)
          have e47 : (((s[k]'hp).toNat : Int) == 10) = false := by
            rw [beq_eq_false_iff_ne]
            intro e
            exact h47 (UInt8.toNat_inj.1 (Int.ofNat.inj e))
          clear h47
          go_wp2
          go_roundw
          case rel => exact ⟨L, a, k + 1, rfl, by go_num, by omega, by omega, HC, HO, hb⟩
          case measure => simp [intOf]; omega
      · have hpI : ¬ (k : Int) < s.size := by omega
        obtain rfl : k = s.size := by omega
        have HC := Lib.hid HA.out.done
        go_wp2
        go_ret2
        exact ⟨_, rfl, by rw [← HC.out]; exact HO.out, hb⟩
  · have h0I : ¬ (0 : Int) < s.size := by omega
    clear hlast
    go_enter Try.func27, Try.ntmps27
    go_wp2
    go_loopw [4, 5, 6] (fun v f i wr => ∃ (L : List ByteArray) (a k : Nat), f = .int .i64 a ∧ i = .int .i64 k ∧ a ≤ k ∧ k ≤ s.size ∧ Hid (At s L a k) ∧ Hid (OwnT w.heap.size L v wr) ∧ Below w.heap.size w wr) (fun _ _ i _ => s.size - (intOf i).toNat)
    case atStart => exact ⟨[], 0, 0, rfl, rfl, Nat.le_refl _, Nat.zero_le _, At.zero s, OwnT.nil _ _, Below.refl _ _⟩
    case round =>
      obtain ⟨L, a, k, rfl, rfl, hak, hk, HA, HO, hb⟩ := hrel
      have hlen := HA.out.2.2.1
      have hsize := hb.size
      by_cases hp : k < s.size
      · exact absurd hp (by omega)
      · have hpI : ¬ (k : Int) < s.size := by omega
        obtain rfl : k = s.size := by omega
        have HC := Lib.hid HA.out.done
        go_wp2
        go_ret2
        exact ⟨_, rfl, by rw [← HC.out]; exact HO.out, hb⟩
theorem rsplit_any (s : ByteArray) (w : World) (hs : s.size ≤ 100000) : Calls Try.prog 9 #[.string s] w fun e w' => ∃ v, e = .returned (.tuple #[v, .int .i64 (spl s).2]) ∧ OwnT w.heap.size (spl s).1 v w' ∧ Below w.heap.size w w' := by
  cases he : endB s
  · have HR := Lib.hid (show spl s = ([], 4) by unfold spl; rw [if_neg (by rw [he]; decide)])
    have HE := Lib.hid he
    clear he
    go_enter Try.func9, Try.ntmps9
    go_wp2_with (go_at_call 27; refine (rparts_no _ _ HE.out hs).mono ?_; rintro e w' ⟨rfl, rfl⟩)
    go_ret2
    exact ⟨.slice none 0 0, by rw [HR.out]; rfl, by rw [HR.out]; exact OwnT.nil _ _, Below.refl _ _⟩
  · have HS := Lib.hid (show spl s = if chk (prtB s) = 0 then (prtB s, 0) else ([], chk (prtB s)) by unfold spl; rw [if_pos he])
    have HE := Lib.hid he
    clear he
    by_cases hz : chk (prtB s) = 0
    · have Hz := Lib.hid hz
      have HR : Hid (spl s = (prtB s, 0)) := by rw [Hid, HS.out, if_pos hz]
      clear hz
      go_enter Try.func9, Try.ntmps9
      go_wp2_with (first
        | (go_at_call 27; refine (rparts_yes _ _ HE.out hs).mono ?_; rintro e w1 ⟨v, rfl, ho, hb1⟩; have HO := Lib.hid ho; have Hb1 := Lib.hid hb1; clear ho hb1)
        | (go_at_call 19; refine (rcheck_any _ _ _ HO.out.rd (fun x hx => by have := prtB_size hx; omega)).mono ?_; rw [Hz.out]; rintro e w2 ⟨rfl, hb2⟩; have Hb2 := Lib.hid hb2; clear hb2))
      go_ret2
      exact ⟨v, by rw [HR.out]; rfl, by rw [HR.out]; exact HO.out.below Hb2.out, Hb1.out.trans (Hb2.out.mono Hb1.out.size)⟩
    · have hz2 : (chk (prtB s) == 0) = false := by simpa using hz
      obtain ⟨ee, hee⟩ : ∃ ee, ee = chk (prtB s) := ⟨_, rfl⟩
      have HR : Hid (spl s = ([], ee)) := by rw [Hid, HS.out, if_neg hz, hee]
      rw [← hee] at hz hz2
      have Hee := Lib.hid hee
      clear hee
      go_enter Try.func9, Try.ntmps9
      go_wp2_with (first
        | (go_at_call 27; refine (rparts_yes _ _ HE.out hs).mono ?_; rintro e w1 ⟨v, rfl, ho, hb1⟩; have HO := Lib.hid ho; have Hb1 := Lib.hid hb1; clear ho hb1)
        | (go_at_call 19; refine (rcheck_any _ _ _ HO.out.rd (fun x hx => by have := prtB_size hx; omega)).mono ?_; rw [← Hee.out]; rintro e w2 ⟨rfl, hb2⟩; have Hb2 := Lib.hid hb2; clear hb2))
      go_ret2
      exact ⟨.slice none 0 0, by rw [HR.out]; rfl, by rw [HR.out]; exact OwnT.nil _ _, Hb1.out.trans (Hb2.out.mono Hb1.out.size)⟩
set_option maxHeartbeats 2000000 in
theorem rtold_any (s : ByteArray) (w : World) (hs : s.size ≤ 100000) : Calls Try.prog 11 #[.string s] w fun e w' => ∃ v, e = .returned (.tuple #[v, .int .i64 (tld s).2]) ∧ OwnT w.heap.size (tld s).1 v w' ∧ Below w.heap.size w w' := by
  cases he : endB s
  · have HR := Lib.hid (show tld s = ([], 4) by unfold tld; rw [if_neg (by rw [he]; decide)])
    have HE := Lib.hid he
    clear he
    go_enter Try.func11, Try.ntmps11
    go_wp2_with (go_at_call 27; refine (rparts_no _ _ HE.out hs).mono ?_; rintro e w' ⟨rfl, rfl⟩)
    go_loopw [5, 6] (fun f i wr => f = .bool false ∧ i = .int .i64 0 ∧ wr = w) (fun _ _ _ => 0)
    case atStart => exact ⟨rfl, rfl, rfl⟩
    case round =>
      obtain ⟨rfl, rfl, rfl⟩ := hrel
      go_wp2
      go_ret2
      exact ⟨.slice none 0 0, by rw [HR.out]; rfl, by rw [HR.out]; exact OwnT.nil _ _, Below.refl _ _⟩
  · have HS := Lib.hid (show tld s = if (prtB s).all plainB = true then (prtB s, 0) else ([], 4) by unfold tld; rw [if_pos he])
    have HE := Lib.hid he
    have hle := prtB_le s
    obtain ⟨n, hn⟩ : ∃ n, n = (prtB s).length := ⟨_, rfl⟩
    rw [← hn] at hle
    have Hn := Lib.hid hn
    clear he hn
    go_enter Try.func11, Try.ntmps11
    go_wp2_with (go_at_call 27; refine (rparts_yes _ _ HE.out hs).mono ?_; rintro e w1 ⟨v, rfl, ho, hb1⟩; obtain ⟨A, c, rfl, hc, hk⟩ := ho.rd; rw [← Hn.out]; have HO := Lib.hid ho; have Hb1 := Lib.hid hb1; have Hk := Lib.hid hk; clear ho hb1 hk hc)
    go_loopw [5, 6] (fun f i wr => ∃ (k : Nat) (b : Bool), f = .bool b ∧ i = .int .i64 k ∧ k ≤ n ∧ wr = w1 ∧ Hid ((b && ((prtB s).drop k).all plainB) = (prtB s).all plainB)) (fun _ i _ => n - (intOf i).toNat)
    case atStart => exact ⟨0, true, rfl, rfl, Nat.zero_le _, rfl, rfl⟩
    case round =>
      obtain ⟨k, b, rfl, rfl, hk, rfl, HB⟩ := hrel
      by_cases hp : k < n
      · have hpI : (k : Int) < n := by omega
        have hpl : k < (prtB s).length := by rw [← Hn.out]; exact hp
        obtain ⟨g, off, rfl, hg, hcell⟩ := Hk.out (by omega)
        have hc := hcell k hpl
        have hsz : (nth (prtB s) k).size ≤ 1000000 := by have := prtB_size (nth_mem hpl); omega
        clear hcell
        cases b
        · have HB2 : Hid ((false && ((prtB s).drop (k + 1)).all plainB) = (prtB s).all plainB) := HB.out
          go_wp2
          go_roundw
          case rel => exact ⟨k + 1, false, rfl, by go_num, by omega, trivial, HB2⟩
          case measure => simp [intOf]; omega
        · cases hpl2 : plainB (nth (prtB s) k)
          · have HB2 : Hid ((false && ((prtB s).drop (k + 1)).all plainB) = (prtB s).all plainB) := by
              have := HB.out
              rw [adrop_no hpl hpl2] at this
              exact this
            have HP := Lib.hid hpl2
            clear hpl2 HB
            go_wp2_with (go_at_call 28; refine (rplain_any _ _ hsz).mono ?_; rw [HP.out]; rintro e w2 ⟨rfl, rfl⟩)
            go_roundw
            case rel => exact ⟨k + 1, false, rfl, by go_num, by omega, trivial, HB2⟩
            case measure => simp [intOf]; omega
          · have HB2 : Hid ((true && ((prtB s).drop (k + 1)).all plainB) = (prtB s).all plainB) := by
              have := HB.out
              rw [adrop_yes hpl hpl2] at this
              exact this
            have HP := Lib.hid hpl2
            clear hpl2 HB
            go_wp2_with (go_at_call 28; refine (rplain_any _ _ hsz).mono ?_; rw [HP.out]; rintro e w2 ⟨rfl, rfl⟩)
            go_roundw
            case rel => exact ⟨k + 1, true, rfl, by go_num, by omega, trivial, HB2⟩
            case measure => simp [intOf]; omega
      · have hpI : ¬ (k : Int) < n := by omega
        have hr := HB.out
        rw [adrop_end (by rw [← Hn.out]; exact hp), Bool.and_true] at hr
        cases b
        · have HR : Hid (tld s = ([], 4)) := by rw [Hid, HS.out, if_neg (by rw [← hr]; decide)]
          clear hr HB
          go_wp2
          go_ret2
          exact ⟨.slice none 0 0, by rw [HR.out]; rfl, by rw [HR.out]; exact OwnT.nil _ _, Hb1.out⟩
        · have HR : Hid (tld s = (prtB s, 0)) := by rw [Hid, HS.out, if_pos hr.symm]
          clear hr HB
          go_wp2
          go_ret2
          exact ⟨_, by rw [HR.out]; rfl, by rw [HR.out]; have := HO.out; rw [← Hn.out] at this; exact this, Hb1.out⟩
theorem lists_eq {L M : List ByteArray} (hl : L.length = M.length) (h : ∀ j, j < L.length → nth L j = nth M j) : L = M := by
  apply List.ext_getElem hl
  intro i h1 h2
  have := h i h1
  rwa [nth_lt h1, nth_lt h2] at this
set_option maxHeartbeats 2000000 in
theorem rsame_any (L M : List ByteArray) (u v : Value) (w : World) (hR : RdT L u w) (hR2 : RdT M v w) (hn9 : L.length ≤ 1000000) : Calls Try.prog 12 #[u, v] w fun e w' => e = .returned (.bool (decide (L = M))) ∧ Below w.heap.size w w' := by
  obtain ⟨A, c, rfl, _, hk⟩ := hR
  obtain ⟨B, d, rfl, _, hk2⟩ := hR2
  obtain ⟨n, hn⟩ : ∃ n, n = L.length := ⟨_, rfl⟩
  obtain ⟨m, hm⟩ : ∃ m, m = M.length := ⟨_, rfl⟩
  have HK := Lib.hid hk
  have HK2 := Lib.hid hk2
  have Hn := Lib.hid hn
  have Hm := Lib.hid hm
  rw [← hn] at hn9 ⊢
  rw [← hm]
  by_cases hnm : n = m
  · subst hnm
    clear hk hk2 hn hm
    go_enter Try.func12, Try.ntmps12
    go_wp2
    go_loopw [5] (fun i wr => ∃ k : Nat, i = .int .i64 k ∧ k ≤ n ∧ Below w.heap.size w wr ∧ Hid (∀ j, j < k → nth L j = nth M j)) (fun i _ => n - (intOf i).toNat)
    case atStart => exact ⟨0, rfl, Nat.zero_le _, Below.refl _ _, fun j hj => absurd hj (Nat.not_lt_zero _)⟩
    case round =>
      obtain ⟨k, rfl, hk, hb, HS⟩ := hrel
      by_cases hp : k < n
      · have hpI : (k : Int) < n := by omega
        obtain ⟨g, off, rfl, hg, hc⟩ := HK.out (by rw [← Hn.out]; omega)
        obtain ⟨g2, off2, rfl, hg2, hc2⟩ := HK2.out (by rw [← Hm.out]; omega)
        have e1 := (hb.cell (p := ⟨g, off + k, none⟩) hg).trans (hc k (by rw [← Hn.out]; exact hp))
        have e2 := (hb.cell (p := ⟨g2, off2 + k, none⟩) hg2).trans (hc2 k (by rw [← Hm.out]; exact hp))
        clear hc hc2
        by_cases he : nth L k = nth M k
        · have HS2 : Hid (∀ j, j < k + 1 → nth L j = nth M j) := fun j hj => by
            by_cases hjk : j < k
            · exact HS.out j hjk
            · obtain rfl : j = k := by omega
              exact he
          have hte : (nth L k).toList = (nth M k).toList := by rw [he]
          clear he HS
          go_wp2
          go_quiet (fail)
          go_wp2
          go_roundw
          case rel => exact ⟨k + 1, by go_num, by omega, Below.drewN hb _, HS2⟩
          case measure => simp [intOf]; omega
        · have hte := ne_lists (a := nth L k) (b := nth M k) (fun h => he (bytes_eq h))
          have HR : Hid (decide (L = M) = false) := decide_eq_false (fun h => he (by rw [h]))
          clear he HS
          go_wp2
          go_quiet (fail)
          go_wp2
          go_ret
          exact ⟨ret_b HR.out.symm, Below.drewN hb _⟩
      · have hpI : ¬ (k : Int) < n := by omega
        have HR : Hid (decide (L = M) = true) := decide_eq_true (lists_eq (Hn.out.symm.trans Hm.out) (fun j hj => HS.out j (by have := Hn.out; omega)))
        clear HS
        go_wp2
        go_ret
        exact ⟨ret_b HR.out.symm, hb⟩
  · have hI : ¬ (n : Int) = m := by omega
    have HR : Hid (decide (L = M) = false) := decide_eq_false (fun h => hnm (by rw [hn, hm, h]))
    clear hk hk2 hn hm
    go_enter Try.func12, Try.ntmps12
    go_wp2
    go_ret
    exact ⟨ret_b HR.out.symm, Below.refl _ _⟩
end Go.Proofs.Ytpaolndgagedkaa.Lns
