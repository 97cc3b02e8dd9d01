/- DERIVED. Texts of ours, merged: XRef9Same XSltApp XSltGiven XRef9PSt XRef9PlNew. -/
import Derived.Test.YtpeioogkbcejmaaMplays8
import Derived.BigQuiet
import Derived.Test.YtpeioogkbcejmaaMplays10
import Derived.Test.YtpeioogkbcejmaaMplays15
import Derived.StillTailTactics
import Derived.Test.YtpeioogkbcejmaaMplays4
/- DERIVED. Layer 9's reference: Same. -/
namespace Go.Proofs.Ytpeioogkbcejmaa.Slt
open Go.RowKit Dsk
set_option maxHeartbeats 1000000 in
theorem rsame_any {w : World} (A A2 : Option Addr) (n m c c2 : Nat) (L M : List (List Int)) (hn : L.length = n) (hm : M.length = m) (h1 : TxAt w A L) (h2 : TxAt w A2 M) (hn1 : n ≤ 9223372036854775807) (hm1 : m ≤ 9223372036854775807) :
    Calls Try.prog 12 #[.slice A n c, .slice A2 m c2] w fun e w' => e = .returned (.bool (decide (L = M))) ∧ Below w.heap.size w w' := by
  have H1 := Lib.hid h1
  have H2 := Lib.hid h2
  have Hn := Lib.hid hn
  have Hm := Lib.hid hm
  by_cases hnm : n = m
  · subst hnm
    clear h1 h2 hn hm hm1
    go_enter Try.func12, Try.ntmps12
    go_wp2
    go_loopw [5] (fun v wr => ∃ i : Nat, i ≤ n ∧ v = .int .i64 i ∧ Hid (∀ j, j < i → L.getD j [] = M.getD j []) ∧ Hid (Below w.heap.size w wr)) (fun v _ => n - (intOf v).toNat)
    case atStart => exact ⟨0, Nat.zero_le _, rfl, fun j hj => absurd hj (Nat.not_lt_zero _), Below.refl _ _⟩
    case round =>
      obtain ⟨i, hi, rfl, hj, hr⟩ := hrel
      by_cases hlt : i < n
      · have hltI : (i : Int) < (n : Int) := by omega
        obtain ⟨g, off, B, cb, rfl, hg, hc, hB, hi1⟩ := H1.out.at_ i (by rw [Hn.out]; exact hlt)
        obtain ⟨g2, off2, B2, cb2, rfl, hg2, hc2, hB2, hi2⟩ := H2.out.at_ i (by rw [Hm.out]; exact hlt)
        have hcr := (hr.out.cell (p := ⟨g, off + i, none⟩) hg).trans hc
        have hcr2 := (hr.out.cell (p := ⟨g2, off2 + i, none⟩) hg2).trans hc2
        have k1 := fun a => Str.conv_any (w := wr.drewN a) ((hB.below hr.out (Nat.le_refl _)).below (Below.drewN (Below.refl _ _) a) (Nat.le_refl _)) rfl
        have k2 := fun a => Str.conv_any (w := wr.drewN a) ((hB2.below hr.out (Nat.le_refl _)).below (Below.drewN (Below.refl _ _) a) (Nat.le_refl _)) rfl
        have Hne := Lib.hid (texts_ne hi1 hi2)
        obtain ⟨T1, hT1⟩ : ∃ T, T = strOfNums (L.getD i []) := ⟨_, rfl⟩
        obtain ⟨T2, hT2⟩ : ∃ T, T = strOfNums (M.getD i []) := ⟨_, rfl⟩
        obtain ⟨l1, hl1⟩ : ∃ l, l = (L.getD i []).length := ⟨_, rfl⟩
        obtain ⟨l2, hl2⟩ : ∃ l, l = (M.getD i []).length := ⟨_, rfl⟩
        rw [← hT1, ← hl1] at k1
        rw [← hT2, ← hl2] at k2
        rw [← hl1] at hcr
        rw [← hl2] at hcr2
        rw [← hT1, ← hT2] at Hne
        have HT1 := Lib.hid hT1
        have HT2 := Lib.hid hT2
        clear hc hc2 hB hB2 hi1 hi2 hT1 hT2 hl1 hl2
        by_cases he : L.getD i [] = M.getD i []
        · have hT : T1 = T2 := by rw [HT1.out, HT2.out, he]
          subst hT
          go_upto_region 6 with (fail)
          go_quiet (fail)
          go_wp2
          refine ⟨⟨i + 1, by omega, by go_num, ?_, ?_⟩, by simp [intOf]; omega⟩
          · intro j hj1
            by_cases hji : j = i
            · subst hji; exact he
            · exact hj.out j (by omega)
          · exact Below.drewN hr.out _
        · have hT := Hne.out he
          go_upto_region 6 with (fail)
          go_quiet (fail)
          go_wp2
          go_ret
          refine ⟨by rw [decide_eq_false (lists_ne he)]; rfl, Below.drewN hr.out _⟩
      · have hltI : ¬ (i : Int) < (n : Int) := by omega
        obtain rfl : i = n := by omega
        go_wp2
        go_ret
        refine ⟨by rw [decide_eq_true (lists_eq (by rw [Hn.out, Hm.out]) (fun j hj' => hj.out j (by rw [← Hn.out]; exact hj')))]; rfl, hr.out⟩
  · have hnI : ¬ (n : Int) = (m : Int) := by omega
    clear h1 h2 hn hm
    go_enter Try.func12, Try.ntmps12
    go_wp2
    go_ret
    refine ⟨?_, Below.refl _ _⟩
    have e : decide (L = M) = false := decide_eq_false (fun e => hnm (by rw [← Hn.out, ← Hm.out, e]))
    rw [e]
    rfl
end Go.Proofs.Ytpeioogkbcejmaa.Slt
/- DERIVED. What an append leaves is read as the texts of before, and perhaps the new one, whole. No program. -/
namespace Go.Proofs.Ytpeioogkbcejmaa.Slt
open Go.RowKit Dsk
theorem step_weak (D : DS) (k : Nat) (b : List Int) (hfit : k * 128 + 128 ≤ D.data.length) (hb : b.length = 128) :
    (∀ j, j < k * 128 ∨ k * 128 + 128 ≤ j → (stepD D k b).data.getD j 0 = D.data.getD j 0) ∧
    (∀ j, k * 128 ≤ j → j < k * 128 + 128 → (stepD D k b).data.getD j 0 = b.getD (j - k * 128) 0 ∨ (stepD D k b).data.getD j 0 = D.data.getD j 0) ∧
    ((stepD D k b).off = false → ∀ j, k * 128 ≤ j → j < k * 128 + 128 → (stepD D k b).data.getD j 0 = b.getD (j - k * 128) 0) := by
  unfold stepD
  by_cases h : D.due = true
  · rw [if_pos h]
    have hl := torn_len D.mask (secL D.data k) b
    refine ⟨fun j hj => ?_, fun j h1 h2 => ?_, fun ho => by cases ho⟩
    · simp only
      rw [splice_getD _ _ _ (by omega), hl]
      by_cases h1 : j < k * 128
      · rw [if_pos h1]
      · rw [if_neg h1, if_neg (by omega)]
    · simp only
      rw [splice_getD _ _ _ (by omega), hl, if_neg (by omega), if_pos h2, torn_get _ _ _ _ (by omega)]
      by_cases hb : bitM D.mask (j - k * 128) = true
      · rw [if_pos hb]; exact .inl rfl
      · rw [if_neg hb, secL_get _ _ _ (by omega)]
        right
        rw [show k * 128 + (j - k * 128) = j by omega]
  · rw [if_neg h]
    refine ⟨fun j hj => ?_, fun j h1 h2 => .inl ?_, fun _ j h1 h2 => ?_⟩
    · simp only
      rw [splice_getD _ _ _ (by omega), hb]
      by_cases h1 : j < k * 128
      · rw [if_pos h1]
      · rw [if_neg h1, if_neg (by omega)]
    all_goals
      simp only
      rw [splice_getD _ _ _ (by omega), hb, if_neg (by omega), if_pos h2]
structure WeakQ (D : DS) (k : Nat) (b : List Int) (i n : Nat) (R : DS × Int) : Prop where
  out : ∀ j, j < (k + i) * 128 ∨ (k + i + n) * 128 ≤ j → R.1.data.getD j 0 = D.data.getD j 0
  ins : ∀ j, (k + i) * 128 ≤ j → j < (k + i + n) * 128 → R.1.data.getD j 0 = b.getD (j - k * 128) 0 ∨ R.1.data.getD j 0 = D.data.getD j 0
  ok : R.2 = 0 → ∀ j, (k + i) * 128 ≤ j → j < (k + i + n) * 128 → R.1.data.getD j 0 = b.getD (j - k * 128) 0
theorem weak_run (k : Nat) (b : List Int) : ∀ (n i : Nat) (D : DS), D.off = false → (k + i + n) * 128 ≤ D.data.length → (i + n) * 128 ≤ b.length → WeakQ D k b i n (runD D k b i n) := by
  intro n
  induction n with
  | zero =>
    intro i D _ _ _
    exact ⟨fun _ _ => rfl, fun j h1 h2 => by omega, fun _ j h1 h2 => by omega⟩
  | succ n ih =>
    intro i D ho hd hb
    have hsl := secL_len b i (by omega)
    have hl := step_len D (k + i) (secL b i) (by omega) hsl
    obtain ⟨s1, s2, s3⟩ := step_weak D (k + i) (secL b i) (by omega) hsl
    have hsg : ∀ j, (k + i) * 128 ≤ j → j < (k + i) * 128 + 128 → (secL b i).getD (j - (k + i) * 128) 0 = b.getD (j - k * 128) 0 := fun j h1 h2 => by
      rw [secL_get _ _ _ (by omega), show i * 128 + (j - (k + i) * 128) = j - k * 128 by omega]
    cases e : (stepD D (k + i) (secL b i)).off
    · rw [run_on e]
      have h := ih (i + 1) _ e (by rw [hl]; omega) (by omega)
      refine ⟨fun j hj => ?_, fun j h1 h2 => ?_, fun hz j h1 h2 => ?_⟩
      · rw [h.out j (by omega), s1 j (by omega)]
      · by_cases h3 : j < (k + i) * 128 + 128
        · left
          rw [h.out j (by omega), s3 e j h1 h3, hsg j h1 h3]
        · rcases h.ins j (by omega) (by omega) with h4 | h4
          · exact .inl h4
          · exact .inr (h4.trans (s1 j (by omega)))
      · by_cases h3 : j < (k + i) * 128 + 128
        · rw [h.out j (by omega), s3 e j h1 h3, hsg j h1 h3]
        · exact h.ok hz j (by omega) (by omega)
    · rw [run_off e]
      refine ⟨fun j hj => s1 j (by omega), fun j h1 h2 => ?_, fun hz => by cases hz⟩
      by_cases h3 : j < (k + i) * 128 + 128
      · rcases s2 j h1 h3 with h4 | h4
        · exact .inl (h4.trans (hsg j h1 h3))
        · exact .inr h4
      · exact .inr (s1 j (by omega))
/-- a byte of a slot. -/
def slotG (m : Int) (t : List Int) (j : Nat) : Int := (m :: (be4 t.length ++ t)).getD j 0
theorem slotB_getD (m : Int) (t : List Int) (k j : Nat) : (slotB m t k).getD j 0 = slotG m t j := by
  have e : slotB m t k = (m :: (be4 t.length ++ t)) ++ List.replicate (k * 128 - 5 - t.length) 0 := by
    simp [slotB]
  rw [e, slotG]
  by_cases h : j < (m :: (be4 t.length ++ t)).length
  · rw [getD_append_lt h]
  · rw [getD_append_ge (by omega), List.getD_eq_getElem?_getD, List.getD_eq_getElem?_getD, List.getElem?_eq_none (l := m :: _) (by omega), List.getElem?_replicate]
    split <;> rfl
theorem slotG_zero (m : Int) (t : List Int) : slotG m t 0 = m := rfl
theorem slotG_same (m m' : Int) (t : List Int) (j : Nat) (h : j ≠ 0) : slotG m t j = slotG m' t j := by
  cases j with
  | zero => exact absurd rfl h
  | succ j => rfl
theorem slotG_past (m : Int) (t : List Int) (j : Nat) (h : tk t.length * 128 ≤ j) : slotG m t j = 0 := by
  have h1 := tk_fit t.length
  unfold slotG
  rw [List.getD_eq_getElem?_getD, List.getElem?_eq_none (by simp [be4]; omega)]
  rfl
/-- the bytes of a region. -/
def reg (D : DS) (a b : Nat) : List Int := (D.data.drop (a * 128)).take (b * 128)
theorem reg_len {D : DS} {a b : Nat} (h : (a + b) * 128 ≤ D.data.length) : (reg D a b).length = b * 128 := by
  unfold reg; rw [List.length_take, List.length_drop]; omega
theorem reg_get {D : DS} {a b j : Nat} (h : j < b * 128) : (reg D a b).getD j 0 = D.data.getD (a * 128 + j) 0 := by
  unfold reg; rw [getD_take' h, getD_drop']
/-- bytes that are read as these texts, with so many sectors. -/
def LogAt (L : List Int) (ts : List (List Int)) (u : Nat) : Prop := ∃ cs R, Reads L cs R false ∧ cs.map textC = ts ∧ cs.flatten.length = u * 128
theorem list_eq {L M : List Int} (h : L.length = M.length) (hg : ∀ j, j < L.length → L.getD j 0 = M.getD j 0) : L = M := by
  apply List.ext_getElem h
  intro j h1 h2
  have := hg j h1
  simpa [List.getD_eq_getElem?_getD, h1, h2] using this
theorem log_same {L L' : List Int} {ts : List (List Int)} {u : Nat} (h : LogAt L ts u) (hl : L'.length = L.length) (hb : ∀ j, j < u * 128 → L'.getD j 0 = L.getD j 0) (hz : L'.getD (u * 128) 0 = 0) : LogAt L' ts u := by
  obtain ⟨cs, R, hr, ht, hu⟩ := h
  have hle := congrArg List.length hr.eq
  rw [List.length_append] at hle
  refine ⟨cs, L'.drop (u * 128), ⟨?_, hr.good, .inr ?_⟩, ht, hu⟩
  · have e : L'.take (u * 128) = cs.flatten := by
      refine list_eq (by rw [List.length_take]; omega) (fun j hj => ?_)
      rw [List.length_take] at hj
      rw [getD_take' (by omega), hb j (by omega), hr.eq, getD_append_lt (by omega)]
    rw [← e, List.take_append_drop]
  · rw [getD_drop', Nat.add_zero]
    exact hz
theorem log_more {L L' t : List Int} {ts : List (List Int)} {u : Nat} (h : LogAt L ts u) (hl : L'.length = L.length) (ht : t.length ≤ 262144) (hf : (u + tk t.length) * 128 ≤ L.length) (hb : ∀ j, j < u * 128 → L'.getD j 0 = L.getD j 0)
    (hs : ∀ j, j < tk t.length * 128 → L'.getD (u * 128 + j) 0 = slotG 1 t j) (hz : (u + tk t.length) * 128 = L.length ∨ L'.getD ((u + tk t.length) * 128) 0 = 0) : LogAt L' (ts ++ [t]) (u + tk t.length) := by
  obtain ⟨cs, R, hr, hts, hu⟩ := h
  have hle := congrArg List.length hr.eq
  rw [List.length_append] at hle
  have hsl := slotB_len 1 t (tk t.length) (tk_fit t.length)
  refine ⟨cs ++ [slotB 1 t (tk t.length)], L'.drop ((u + tk t.length) * 128), ⟨?_, ?_, ?_⟩, ?_, ?_⟩
  · have e : L'.take ((u + tk t.length) * 128) = (cs ++ [slotB 1 t (tk t.length)]).flatten := by
      rw [List.flatten_append, List.flatten_cons, List.flatten_nil, List.append_nil]
      refine list_eq (by rw [List.length_take, List.length_append]; omega) (fun j hj => ?_)
      rw [List.length_take] at hj
      rw [getD_take' (by omega)]
      by_cases h1 : j < u * 128
      · rw [hb j h1, hr.eq, getD_append_lt (by omega), getD_append_lt (by omega)]
      · rw [getD_append_ge (by omega), slotB_getD, hu, ← hs _ (by omega), show u * 128 + (j - u * 128) = j by omega]
    rw [← e, List.take_append_drop]
  · intro c hc
    rcases List.mem_append.1 hc with hc | hc
    · exact hr.good c hc
    · rw [List.mem_singleton] at hc
      subst hc
      exact slotB_good t ht
  · rcases hz with hz | hz
    · left; rw [List.drop_eq_nil_iff]; omega
    · right; rw [getD_drop', Nat.add_zero]; exact hz
  · rw [List.map_append, hts, List.map_cons, List.map_nil, slotB_text t ht]
  · rw [List.flatten_append, List.length_append, hu, List.flatten_cons, List.flatten_nil, List.append_nil, hsl]
    omega
/-- an append that fits: told OK, the log has the text; told that the power went, it has, or has not. -/
structure AppG (D : DS) (S : LS) (t : List Int) : Prop where
  len : (appD D S t).1.data.length = D.data.length
  wr : (appD D S t).1.writes ≤ D.writes + (tk t.length + 2)
  get : ((appD D S t).2.2 = 0 ∧ (appD D S t).1.off = false ∧ (appD D S t).2.1 = { S with used := S.used + tk t.length, texts := S.texts ++ [t] } ∧ LogAt (reg (appD D S t).1 S.from_ S.secs) (S.texts ++ [t]) (S.used + tk t.length)) ∨
    ((appD D S t).2.2 = 12 ∧ (appD D S t).1.off = true ∧ (appD D S t).2.1 = { S with lost := true } ∧ (LogAt (reg (appD D S t).1 S.from_ S.secs) S.texts S.used ∨ LogAt (reg (appD D S t).1 S.from_ S.secs) (S.texts ++ [t]) (S.used + tk t.length)))
theorem app_log {D : DS} {S : LS} {t : List Int} (hl : LogAt (reg D S.from_ S.secs) S.texts S.used) (hlost : S.lost = false) (ho : D.off = false) (hend : (S.from_ + S.secs) * 128 ≤ D.data.length) (ht : t.length ≤ 262144) (hfit : S.used + tk t.length ≤ S.secs) : AppG D S t := by
  have hk := run_first (k := firstK t.length (S.secs - S.used)) (n := t.length) (F := S.secs - S.used) (by omega) rfl
  have hkv : firstK t.length (S.secs - S.used) = min (tk t.length + 1) (S.secs - S.used) := rfl
  obtain ⟨k, hke⟩ : ∃ k, k = firstK t.length (S.secs - S.used) := ⟨_, rfl⟩
  have htp := tk_pos t.length
  have hq := writ_q (D := D) (p := S.from_ + S.used) (k := k) (t := t) ho (by rw [hke]; omega) (by rw [hke]; omega)
  have happ : appD D S t = if (writD D (S.from_ + S.used) t k).2 = 0 then ((writD D (S.from_ + S.used) t k).1, { S with used := S.used + tk t.length, texts := S.texts ++ [t] }, 0) else ((writD D (S.from_ + S.used) t k).1, { S with lost := true }, (writD D (S.from_ + S.used) t k).2) := by
    unfold appD
    rw [if_neg (by rw [hlost, ho]; simp), if_neg (by omega), if_neg (by omega), ← hke]
  rw [← hke] at hk hkv
  have hreg := reg_len (D := D) (a := S.from_) (b := S.secs) hend
  -- what lies where the slot comes
  have hold : D.data.getD ((S.from_ + S.used) * 128) 0 = 0 := by
    obtain ⟨cs, R, hr, _, hu⟩ := hl
    have h1 := congrArg List.length hr.eq
    rw [List.length_append, hreg] at h1
    have h2 : R.getD 0 0 = 0 := by
      rcases hr.tail with h | h
      · rw [h]; rfl
      · exact h
    rw [show (S.from_ + S.used) * 128 = S.from_ * 128 + S.used * 128 by omega, ← reg_get (b := S.secs) (by omega), hr.eq, getD_append_ge (by omega), hu, Nat.sub_self]
    exact h2
  have hw := weak_run (S.from_ + S.used) (slotB 0 t k) k 0 D ho (by omega) (by rw [slotB_len _ _ _ (by omega)]; omega)
  have hq1 := run_q (S.from_ + S.used) (slotB 0 t k) k 0 D ho (by omega) (by rw [slotB_len _ _ _ (by omega)]; omega)
  -- the two ends, by the byte of the mark
  have key : ∀ D' : DS, D'.data.length = D.data.length → (∀ j, j < (S.from_ + S.used) * 128 → D'.data.getD j 0 = D.data.getD j 0) →
      (D'.data.getD ((S.from_ + S.used) * 128) 0 = 0 → LogAt (reg D' S.from_ S.secs) S.texts S.used) ∧
      ((∀ j, j < k * 128 → D'.data.getD ((S.from_ + S.used) * 128 + j) 0 = slotG 1 t j) → LogAt (reg D' S.from_ S.secs) (S.texts ++ [t]) (S.used + tk t.length)) := by
    intro D' hl' hb
    have hreg' := reg_len (D := D') (a := S.from_) (b := S.secs) (by omega)
    have hbb : ∀ j, j < S.used * 128 → (reg D' S.from_ S.secs).getD j 0 = (reg D S.from_ S.secs).getD j 0 := fun j hj => by
      rw [reg_get (by omega), reg_get (by omega), hb _ (by omega)]
    refine ⟨fun hz => log_same hl (by rw [hreg, hreg']) hbb ?_, fun hs => log_more hl (by rw [hreg, hreg']) ht (by rw [hreg]; omega) hbb (fun j hj => ?_) ?_⟩
    · rw [reg_get (by omega), show S.from_ * 128 + S.used * 128 = (S.from_ + S.used) * 128 by omega]; exact hz
    · rw [reg_get (by omega), show S.from_ * 128 + (S.used * 128 + j) = (S.from_ + S.used) * 128 + j by omega]
      exact hs j (by omega)
    · by_cases h1 : (S.used + tk t.length) * 128 = S.secs * 128
      · left; rw [hreg]; exact h1
      · right
        rw [reg_get (by omega), show S.from_ * 128 + (S.used + tk t.length) * 128 = (S.from_ + S.used) * 128 + tk t.length * 128 by omega, hs _ (by omega)]
        exact slotG_past _ _ _ (Nat.le_refl _)
  obtain ⟨W, hW⟩ : ∃ W, W = writD D (S.from_ + S.used) t k := ⟨_, rfl⟩
  rw [← hW] at happ hq
  have hlen1 : W.1.data.length = D.data.length := hq.len
  have hsl0 : ∀ j, (slotB 0 t k).getD j 0 = slotG 0 t j := slotB_getD 0 t k
  have hout : (∀ j, j < (S.from_ + S.used) * 128 → W.1.data.getD j 0 = D.data.getD j 0) ∧ ((W.1.data.getD ((S.from_ + S.used) * 128) 0 = 0 ∧ W.2 ≠ 0) ∨ ∀ j, j < k * 128 → W.1.data.getD ((S.from_ + S.used) * 128 + j) 0 = slotG 1 t j) := by
    rw [hW]
    by_cases e1 : (runD D (S.from_ + S.used) (slotB 0 t k) 0 k).2 = 0
    · rw [writD_yes e1]
      have hl1 := hq1.len
      have hb2 := take128_len 1 t k (by omega)
      have hw2 := weak_run (S.from_ + S.used) ((slotB 1 t k).take 128) 1 0 (runD D (S.from_ + S.used) (slotB 0 t k) 0 k).1 (hq1.on e1) (by omega) (by omega)
      have hg2 : ∀ j, j < 128 → ((slotB 1 t k).take 128).getD j 0 = slotG 1 t j := fun j hj => by rw [getD_take' hj, slotB_getD]
      have hg1 : ∀ j, j < k * 128 → (runD D (S.from_ + S.used) (slotB 0 t k) 0 k).1.data.getD ((S.from_ + S.used) * 128 + j) 0 = slotG 0 t j := fun j hj => by
        rw [hw.ok e1 _ (by omega) (by omega), hsl0, show (S.from_ + S.used) * 128 + j - (S.from_ + S.used) * 128 = j by omega]
      refine ⟨fun j hj => by rw [hw2.out j (by omega), hw.out j (by omega)], ?_⟩
      have hrest : ∀ j, j ≠ 0 → j < k * 128 → (runD (runD D (S.from_ + S.used) (slotB 0 t k) 0 k).1 (S.from_ + S.used) ((slotB 1 t k).take 128) 0 1).1.data.getD ((S.from_ + S.used) * 128 + j) 0 = slotG 1 t j := fun j h0 hj => by
        by_cases h1 : j < 128
        · rcases hw2.ins ((S.from_ + S.used) * 128 + j) (by omega) (by omega) with h2 | h2
          · rw [h2, show (S.from_ + S.used) * 128 + j - (S.from_ + S.used) * 128 = j by omega, hg2 j h1]
          · rw [h2, hg1 j hj, slotG_same 0 1 t j h0]
        · rw [hw2.out _ (by omega), hg1 j hj, slotG_same 0 1 t j h0]
      by_cases e2 : (runD (runD D (S.from_ + S.used) (slotB 0 t k) 0 k).1 (S.from_ + S.used) ((slotB 1 t k).take 128) 0 1).2 = 0
      · right
        intro j hj
        by_cases h0 : j = 0
        · subst h0
          rw [hw2.ok e2 _ (by omega) (by omega), show (S.from_ + S.used) * 128 + 0 - (S.from_ + S.used) * 128 = 0 by omega, hg2 0 (by omega)]
        · exact hrest j h0 hj
      · rcases hw2.ins ((S.from_ + S.used) * 128) (by omega) (by omega) with h2 | h2
        · right
          intro j hj
          by_cases h0 : j = 0
          · subst h0
            rw [Nat.add_zero, h2, Nat.sub_self, hg2 0 (by omega)]
          · exact hrest j h0 hj
        · left
          have := hg1 0 (by omega)
          rw [Nat.add_zero] at this
          exact ⟨h2.trans this, e2⟩
    · rw [writD_no e1]
      refine ⟨fun j hj => hw.out j (by omega), .inl ⟨?_, e1⟩⟩
      rcases hw.ins ((S.from_ + S.used) * 128) (by omega) (by omega) with h2 | h2
      · rw [h2, Nat.sub_self, hsl0]; rfl
      · rw [h2, hold]
  obtain ⟨k1, k2⟩ := key W.1 hlen1 hout.1
  have hkk : k ≤ tk t.length + 1 := by omega
  have hwr := hq.wr
  by_cases e : W.2 = 0
  · rw [if_pos e] at happ
    refine ⟨by rw [happ]; exact hlen1, by rw [happ]; simp only; omega, .inl ⟨by rw [happ], by rw [happ]; exact hq.on e, by rw [happ], ?_⟩⟩
    rw [happ]
    rcases hout.2 with h | h
    · exact absurd e h.2
    · exact k2 h
  · rw [if_neg e] at happ
    have hoff : W.1.off = true := by
      have := hq.err
      cases h : W.1.off
      · rw [h] at this; exact absurd this e
      · rfl
    have h12 : W.2 = 12 := by have := hq.err; rw [hoff] at this; exact this
    refine ⟨by rw [happ]; exact hlen1, by rw [happ]; simp only; omega, .inr ⟨by rw [happ]; exact h12, by rw [happ]; exact hoff, by rw [happ], ?_⟩⟩
    rw [happ]
    rcases hout.2 with h | h
    · exact .inl (k1 h.1)
    · exact .inr (k2 h)
/-- what Open finds. -/
theorem log_reads {L R : List Int} {ts : List (List Int)} {u : Nat} {cs : List (List Int)} {e : Bool} (h : LogAt L ts u) (hr : Reads L cs R e) : e = false ∧ cs.map textC = ts ∧ useR cs (List.range cs.length) = u := by
  obtain ⟨cs', R', hr', ht, hu⟩ := h
  obtain ⟨rfl, rfl, rfl⟩ := reads_one _ _ _ _ _ _ _ hr hr'
  refine ⟨rfl, ht, ?_⟩
  have h1 := useR_range hr.good cs.length (Nat.le_refl _)
  have h2 : posC cs cs.length = cs.flatten.length := by unfold posC; rw [List.take_of_length_le (Nat.le_refl _)]
  omega
theorem log_empty (n : Nat) : LogAt (List.replicate n 0) [] 0 := by
  refine ⟨[], List.replicate n 0, ⟨rfl, by simp, ?_⟩, rfl, rfl⟩
  cases n with
  | zero => exact .inl rfl
  | succ n => exact .inr rfl
end Go.Proofs.Ytpeioogkbcejmaa.Slt
/- DERIVED. A new log on a disk of its own; layer 9's given. -/
namespace Go.Proofs.Ytpeioogkbcejmaa.Slt
open Go.RowKit Dsk
/-- a disk and a log that came behind w0. -/
structure St (w0 w : World) (K : DK) (J : LK) (D : DS) (S : LS) : Prop where
  dsk : Dsk w K D
  lg : Lg w K J S
  low : Below w0.heap.size w0 w
  kn : ∀ q ∈ K.bl, w0.heap.size ≤ q
  jn : ∀ q ∈ J.bl, w0.heap.size ≤ q
  tn : ∀ q ∈ J.tx, w0.heap.size ≤ q
theorem St.later {w0 w w' : World} {K : DK} {J : LK} {D : DS} {S : LS} (h : St w0 w K J D S) (hb : Below w.heap.size w w') : St w0 w' K J D S :=
  ⟨h.dsk.later hb, h.lg.later hb, h.low.trans (hb.mono h.low.size), h.kn, h.jn, h.tn⟩
theorem St.app {w0 w w' : World} {K : DK} {J J' : LK} {D D' : DS} {S S' : LS} (h : St w0 w K J D S) (q : AppQ w w' K J J' D' S') : St w0 w' K J' D' S' where
  dsk := q.dsk
  lg := q.lg
  low := q.chg.below h.low h.low.size (fun k hk => by
    rcases List.mem_append.1 hk with hk | hk
    · exact h.kn k hk
    · exact h.jn k hk)
  kn := h.kn
  jn k hk := by
    rcases q.bl k hk with h1 | h1
    · exact h.jn k h1
    · have := h.low.size; omega
  tn k hk := by
    rcases q.tx k hk with h1 | h1
    · exact h.tn k h1
    · have := h.low.size; omega
theorem newD_reads (n : Nat) : Reads (List.replicate (n * 128) 0) [] (List.replicate (n * 128) 0) false := by
  refine ⟨rfl, by simp, ?_⟩
  cases n with
  | zero => exact .inl rfl
  | succ n => right; rw [show (n + 1) * 128 = n * 128 + 127 + 1 by omega, List.replicate_succ]; rfl
theorem newD_secs (n : Nat) : (newD n).secs = n := by simp [newD, DS.secs]
/-- a log that has just been opened on a new disk. -/
def newS (n : Nat) : LS := ⟨0, n, 0, [], false⟩
theorem open_new {w : World} {K : DK} (n : Nat) (h1 : 1 ≤ n) (hd : Dsk w K (newD n)) :
    Calls Try.prog 18 #[.pointer (some ⟨K.g, 0, none⟩), .int .i64 0, .int .i64 n] w fun e w' => ∃ J : LK, e = .returned (.tuple #[.pointer (some ⟨J.g, 0, none⟩), .int .i64 0]) ∧ Lg w' K J (newS n) ∧ (∀ q ∈ J.bl, w.heap.size ≤ q) ∧ (∀ q ∈ J.tx, w.heap.size ≤ q) ∧ Below w.heap.size w w' := by
  refine (open_walk hd 0 n (by rw [newD_secs]; omega) h1 rfl (L := List.replicate (n * 128) 0) (by simp [newD]) (newD_reads n)).mono ?_
  rintro e w' ⟨hr, hb⟩
  rcases hr with ⟨h, _⟩ | ⟨_, J, rfl, hl, hj, ht⟩
  · cases h
  · exact ⟨J, rfl, hl, hj, ht, hb⟩
theorem pne (a : Addr) (w : World) : (binOp .eql 37 (.pointer (some a)) (.pointer none)).run Try.prog w = .ok (.bool false) w := by
  obtain ⟨j, hj⟩ : ∃ j, Try.prog.info? 61 = some j := Option.isSome_iff_exists.1 (by kernel_rfl)
  have h : ∀ d : Nat, (Op.equalIn (d + 1) 37 (.pointer (some a)) (.pointer none)).run Try.prog w = .ok false w := fun d => by
    simp [Op.equalIn, run_underlying Try.underlying37]
  simp only [binOp]
  simp [Op.equal, Op.maxDepth, h 9999]
theorem given_any (w : World) (n : Nat) (h1 : 1 ≤ n) (h2 : n ≤ 16384) :
    Calls Try.prog 14 #[.int .i64 n] w fun e w' => ∃ K J, e = .returned (.tuple #[.pointer (some ⟨K.g, 0, none⟩), .pointer (some ⟨J.g, 0, none⟩)]) ∧ St w w' K J (newD n) (newS n) := by
  have Hn := Lib.hid (new_ok n w h1 h2)
  have Ho := Lib.hid (fun (w' : World) (K : DK) (hd : Dsk w' K (newD n)) => open_new n h1 hd)
  have hp := pne
  go_enter Try.func14, Try.ntmps14
  go_wp2_with (first
    | (go_at_call 8; refine Hn.out.mono ?_; rintro e w1 ⟨K, rfl, hd1, hb1, hg1, hh1⟩; have Hd1 := Lib.hid hd1; have Hb1 := Lib.hid hb1; have Hg1 := Lib.hid hg1; have Hh1 := Lib.hid hh1; clear hd1 hb1 hg1 hh1)
    | (go_at_call 18; refine (Ho.out _ _ Hd1.out).mono ?_; rintro e w2 ⟨J, rfl, hl2, hj2, ht2, hb2⟩; have Hl2 := Lib.hid hl2; have Hj2 := Lib.hid hj2; have Ht2 := Lib.hid ht2; have Hb2 := Lib.hid hb2; clear hl2 hj2 ht2 hb2))
  go_ret2
  have hs := Hb1.out.size
  refine ⟨K, J, rfl, Hd1.out.later Hb2.out, Hl2.out, Hb1.out.trans (Hb2.out.mono hs), ?_, fun q hq => Nat.le_trans hs (Hj2.out q hq), fun q hq => Nat.le_trans hs (Ht2.out q hq)⟩
  intro q hq
  have h3 := Hg1.out
  have h4 := Hh1.out
  simp [DK.bl] at hq
  omega
end Go.Proofs.Ytpeioogkbcejmaa.Slt
/- DERIVED. Both logs on both disks: what a play holds. -/
namespace Go.Proofs.Ytpeioogkbcejmaa.Slt
open Go.RowKit Dsk
structure X3 where
  sec : Int
  from_ : Int
  many : Int
def rowP (K : DK) (M : MK) (vl vr : Value) (x : X3) : Array Value := #[.pointer (some ⟨K.g, 0, none⟩), .pointer (some ⟨M.g, 0, none⟩), vl, vr, .int .i64 x.sec, .int .i64 x.from_, .int .i64 x.many]
/-- a play's row, and both disks. -/
structure PD (w0 w : World) (pg : Nat) (K : DK) (M : MK) (D : DS) (x : X3) (vl vr : Value) : Prop where
  row : w.heap[pg]? = some (.cells (rowP K M vl vr x) 40 (0, 0))
  dsk : Dsk w K D
  rd : RD w M D
  km : ∀ q ∈ K.bl, q ∉ M.bl
  kp : pg ∉ K.bl
  mp : pg ∉ M.bl
  low : Below w0.heap.size w0 w
  kb : ∀ q ∈ K.bl, w0.heap.size ≤ q
  mb : ∀ q ∈ M.bl, w0.heap.size ≤ q
  pb : w0.heap.size ≤ pg
theorem PD.plt {w0 w : World} {pg : Nat} {K : DK} {M : MK} {D : DS} {x : X3} {vl vr : Value} (h : PD w0 w pg K M D x vl vr) : pg < w.heap.size := (Array.getElem?_eq_some_iff.1 h.row).1
theorem PD.later {w0 w w' : World} {pg : Nat} {K : DK} {M : MK} {D : DS} {x : X3} {vl vr : Value} (h : PD w0 w pg K M D x vl vr) (hb : Below w.heap.size w w') : PD w0 w' pg K M D x vl vr :=
  ⟨(hb.block _ h.plt).trans h.row, h.dsk.later hb, h.rd.later hb, h.km, h.kp, h.mp, h.low.trans (hb.mono h.low.size), h.kb, h.mb, h.pb⟩
theorem PD.cells {w0 w : World} {pg : Nat} {K : DK} {M : MK} {D : DS} {x : X3} {vl vr : Value} (h : PD w0 w pg K M D x vl vr) : w.cell? ⟨pg, 0, none⟩ = some (.pointer (some ⟨K.g, 0, none⟩)) ∧ w.cell? ⟨pg, 1, none⟩ = some (.pointer (some ⟨M.g, 0, none⟩)) ∧ w.cell? ⟨pg, 2, none⟩ = some vl ∧ w.cell? ⟨pg, 3, none⟩ = some vr ∧ w.cell? ⟨pg, 5, none⟩ = some (.int .i64 x.from_) ∧ w.cell? ⟨pg, 6, none⟩ = some (.int .i64 x.many) := by
  refine ⟨?_, ?_, ?_, ?_, ?_, ?_⟩ <;> rw [cell_row h.row] <;> rfl
/-- the two logs. -/
structure PLog (w0 w : World) (pg : Nat) (K : DK) (M : MK) (D : DS) (J I : LK) (S : LS) : Prop where
  lg : Lg w K J S
  rl : RL w M I S
  end_ : S.from_ + S.secs ≤ D.secs
  jb : ∀ q ∈ J.bl ++ J.tx, q ∉ M.bl ∧ q ∉ I.bl ++ I.tx ∧ q ≠ pg ∧ w0.heap.size ≤ q ∧ q < w.heap.size
  ib : ∀ q ∈ I.bl ++ I.tx, q ∉ K.bl ∧ q ≠ pg ∧ w0.heap.size ≤ q ∧ q < w.heap.size
theorem PLog.later {w0 w w' : World} {pg : Nat} {K : DK} {M : MK} {D : DS} {J I : LK} {S : LS} (h : PLog w0 w pg K M D J I S) (hb : Below w.heap.size w w') : PLog w0 w' pg K M D J I S :=
  ⟨h.lg.later hb, h.rl.later hb, h.end_, fun q hq => ⟨(h.jb q hq).1, (h.jb q hq).2.1, (h.jb q hq).2.2.1, (h.jb q hq).2.2.2.1, Nat.lt_of_lt_of_le (h.jb q hq).2.2.2.2 hb.size⟩, fun q hq => ⟨(h.ib q hq).1, (h.ib q hq).2.1, (h.ib q hq).2.2.1, Nat.lt_of_lt_of_le (h.ib q hq).2.2.2 hb.size⟩⟩
/-- a play between two acts: no log, or both. -/
def PS (w0 w : World) (pg : Nat) (K : DK) (M : MK) (D : DS) (x : X3) : Prop :=
  ∃ vl vr, PD w0 w pg K M D x vl vr ∧ ((vl = .pointer none ∧ vr = .pointer none) ∨ ∃ J I S, vl = .pointer (some ⟨J.g, 0, none⟩) ∧ vr = .pointer (some ⟨I.g, 0, none⟩) ∧ PLog w0 w pg K M D J I S)
/-- the two logs' pointers, written. -/
theorem PD.set {w0 w : World} {pg : Nat} {K : DK} {M : MK} {D : DS} {x : X3} {vl vr : Value} (h : PD w0 w pg K M D x vl vr) (ul ur : Value) : PD w0 ((w.setCell ⟨pg, 2, none⟩ ul).setCell ⟨pg, 3, none⟩ ur) pg K M D x ul ur ∧ Chg [pg] w ((w.setCell ⟨pg, 2, none⟩ ul).setCell ⟨pg, 3, none⟩ ur) := by
  have hc : Chg [pg] w ((w.setCell ⟨pg, 2, none⟩ ul).setCell ⟨pg, 3, none⟩ ur) := ((Chg.refl [pg] w).setCell (p := ⟨pg, 2, none⟩) (by simp) ul).setCell (p := ⟨pg, 3, none⟩) (by simp) ur
  refine ⟨⟨?_, h.dsk.chg hc (fun hm => ?_) (fun hm => ?_), h.rd.chg hc (fun q hq hm => ?_), h.km, h.kp, h.mp, (h.low.setCell (p := ⟨pg, 2, none⟩) h.pb ul).setCell (p := ⟨pg, 3, none⟩) h.pb ur, h.kb, h.mb, h.pb⟩, hc⟩
  · rw [heap_setCell_same _ _ _ _ _ _ (heap_setCell_same _ _ _ _ _ _ h.row)]
    rfl
  · simp at hm; exact h.kp (by rw [← hm]; simp [DK.bl])
  · simp at hm; exact h.kp (by rw [← hm]; simp [DK.bl])
  · simp at hm; exact h.mp (by rw [← hm]; exact hq)
theorem lg_chg {T : List Nat} {w w' : World} {K : DK} {J : LK} {S : LS} (h : Lg w K J S) (hc : Chg T w w') (h1 : ∀ q ∈ J.bl, q ∉ T) (h2 : ∀ q ∈ J.tx, q ∉ T) : Lg w' K J S :=
  ⟨h.toLg0.chg hc h1 h2, h.fit, h.end_, h.cnt⟩
end Go.Proofs.Ytpeioogkbcejmaa.Slt
/- DERIVED. Layer 9's law: what SlotsPlays makes before it plays. -/
namespace Go.Proofs.Ytpeioogkbcejmaa.Slt
open Go.RowKit Dsk
/-- the made bytes. -/
def N4 (B n : Nat) (v : Value) (w : World) : Prop := ∃ b, v = .slice (some ⟨b, 0, none⟩) (n * 128) (n * 128) ∧ B ≤ b ∧ w.heap[b]? = some (.cells (vals (List.replicate (n * 128) 0)).toArray 5 (0, 0))
/-- the reference's disk, as a value. -/
def N5 (B n : Nat) (v : Value) (w : World) : Prop := ∃ b, v = .agg (rowR b (n * 128) false false 0 z16) ∧ B ≤ b ∧ w.heap[b]? = some (.cells (vals (List.replicate (n * 128) 0)).toArray 5 (0, 0))
/-- the reference's disk. -/
def NM (B n : Nat) (M : MK) (w : World) : Prop := B ≤ M.g ∧ B ≤ M.b ∧ RD w M (newD n)
def N6 (B n : Nat) (v : Value) (w : World) : Prop := ∃ M : MK, v = .pointer (some ⟨M.g, 0, none⟩) ∧ NM B n M w
/-- the play, as a value. -/
def N8 (B n : Nat) (K : DK) (x : X3) (v : Value) (w : World) : Prop := ∃ M : MK, v = .agg (rowP K M (.pointer none) (.pointer none) x) ∧ NM B n M w
/-- the play. -/
def N9 (B n : Nat) (K : DK) (x : X3) (v : Value) (w : World) : Prop := ∃ (M : MK) (pg : Nat), v = .pointer (some ⟨pg, 0, none⟩) ∧ B ≤ pg ∧ pg ∉ M.bl ∧ w.heap[pg]? = some (.cells (rowP K M (.pointer none) (.pointer none) x) 40 (0, 0)) ∧ NM B n M w
section
variable {B n : Nat} {K : DK} {x : X3} {v : Value} {w w' : World}
theorem row_later {g : Nat} {o : Obj} (h : w.heap[g]? = some o) (hb : Below w.heap.size w w') : w'.heap[g]? = some o := (hb.block _ (Array.getElem?_eq_some_iff.1 h).1).trans h
theorem N4.later (h : N4 B n v w) (hb : Below w.heap.size w w') : N4 B n v w' := by obtain ⟨b, e, g, r⟩ := h; exact ⟨b, e, g, row_later r hb⟩
theorem N5.later (h : N5 B n v w) (hb : Below w.heap.size w w') : N5 B n v w' := by obtain ⟨b, e, g, r⟩ := h; exact ⟨b, e, g, row_later r hb⟩
theorem NM.later {M : MK} (h : NM B n M w) (hb : Below w.heap.size w w') : NM B n M w' := ⟨h.1, h.2.1, h.2.2.later hb⟩
theorem N6.later (h : N6 B n v w) (hb : Below w.heap.size w w') : N6 B n v w' := by obtain ⟨M, e, h⟩ := h; exact ⟨M, e, h.later hb⟩
theorem N8.later (h : N8 B n K x v w) (hb : Below w.heap.size w w') : N8 B n K x v w' := by obtain ⟨M, e, h⟩ := h; exact ⟨M, e, h.later hb⟩
theorem N9.later (h : N9 B n K x v w) (hb : Below w.heap.size w w') : N9 B n K x v w' := by obtain ⟨M, pg, e, g, p, r, h⟩ := h; exact ⟨M, pg, e, g, p, row_later r hb, h.later hb⟩
theorem alloc_low (o : Obj) : Below w.heap.size w (w.alloc o) := (Below.refl _ _).alloc (Nat.le_refl _) o
/-- the reference's disk is boxed. -/
theorem nm_box {b : Nat} (hs : B ≤ w.heap.size) (hb : B ≤ b) (hr : w.heap[b]? = some (.cells (vals (List.replicate (n * 128) 0)).toArray 5 (0, 0))) : NM B n ⟨w.heap.size, b⟩ (w.alloc (.cells (rowR b (n * 128) false false 0 z16) 36)) := by
  have hlt := (Array.getElem?_eq_some_iff.1 hr).1
  refine ⟨hs, hb, ⟨0, z16, ?_, (fun h => by cases h), rfl, inb_zeros 16⟩, row_later hr (alloc_low _), (fun e => by have e' : w.heap.size = b := e; omega), by show (0 : Int) ≤ 0 ∧ (0 : Int) ≤ 9223372036854775807; decide⟩
  rw [show (newD n).data.length = n * 128 by simp [newD]]
  exact Go.heap_alloc_new w _
/-- the play is boxed. -/
theorem n9_box {M : MK} (hs : B ≤ w.heap.size) (h : NM B n M w) : N9 B n K x (.pointer (some ⟨w.heap.size, 0, none⟩)) (w.alloc (.cells (rowP K M (.pointer none) (.pointer none) x) 40)) := by
  obtain ⟨wh, m, hrow, _⟩ := h.2.2.row
  have h1 := (Array.getElem?_eq_some_iff.1 hrow).1
  have h2 := (Array.getElem?_eq_some_iff.1 h.2.2.body).1
  exact ⟨M, _, rfl, hs, (fun hm => by simp [MK.bl] at hm; omega), Go.heap_alloc_new w _, h.later (alloc_low _)⟩
/-- a play before its first opening. -/
theorem n9_pd {w0 w3 : World} (h : N9 B n K x v w) (hB : B = w3.heap.size) (hd : Dsk w3 K (newD n)) (hk : w0.heap.size ≤ K.g ∧ w0.heap.size ≤ K.h) (h0 : Below w0.heap.size w0 w3) (hb : Below w3.heap.size w3 w) :
    ∃ (M : MK) (pg : Nat), v = .pointer (some ⟨pg, 0, none⟩) ∧ PD w0 w pg K M (newD n) x (.pointer none) (.pointer none) := by
  obtain ⟨M, pg, e, g, p, r, hm⟩ := h
  subst hB
  have hs := h0.size
  have k1 := hd.glt
  have k2 := hd.hlt
  have m1 := hm.1
  have m2 := hm.2.1
  refine ⟨M, pg, e, r, hd.later hb, hm.2.2, (fun q hq hq2 => ?_), (fun hq => ?_), p, h0.trans (hb.mono hs), (fun q hq => ?_), (fun q hq => ?_), by omega⟩
  · simp [DK.bl] at hq; simp [MK.bl] at hq2; omega
  · simp [DK.bl] at hq; omega
  · simp [DK.bl] at hq; omega
  · simp [MK.bl] at hq; omega
end
end Go.Proofs.Ytpeioogkbcejmaa.Slt
