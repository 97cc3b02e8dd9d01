/- DERIVED. What an append leaves is read as the texts of before, and perhaps the new one, whole. No program. -/
import Derived.Test.YthjjkbgkfikglaaSltAppend
import Derived.Test.YthjjkbgkfikglaaSltUse
namespace Go.Proofs.Ythjjkbgkfikglaa.Slt
open Go.RowKit Dsk
theorem step_weak (D : DS) (k : Nat) (b : List Int) (hfit : k * 128 + 128 ≤ D.data.length) (hb : b.length = 128) :
    (∀ j, j < k * 128 ∨ k * 128 + 128 ≤ j → (stepD D k b).data.getD j 0 = D.data.getD j 0) ∧
    (∀ j, k * 128 ≤ j → j < k * 128 + 128 → (stepD D k b).data.getD j 0 = b.getD (j - k * 128) 0 ∨ (stepD D k b).data.getD j 0 = D.data.getD j 0) ∧
    ((stepD D k b).off = false → ∀ j, k * 128 ≤ j → j < k * 128 + 128 → (stepD D k b).data.getD j 0 = b.getD (j - k * 128) 0) := by
  unfold stepD
  by_cases h : D.due = true
  · rw [if_pos h]
    have hl := torn_len D.mask (secL D.data k) b
    refine ⟨fun j hj => ?_, fun j h1 h2 => ?_, fun ho => by cases ho⟩
    · simp only
      rw [splice_getD _ _ _ (by omega), hl]
      by_cases h1 : j < k * 128
      · rw [if_pos h1]
      · rw [if_neg h1, if_neg (by omega)]
    · simp only
      rw [splice_getD _ _ _ (by omega), hl, if_neg (by omega), if_pos h2, torn_get _ _ _ _ (by omega)]
      by_cases hb : bitM D.mask (j - k * 128) = true
      · rw [if_pos hb]; exact .inl rfl
      · rw [if_neg hb, secL_get _ _ _ (by omega)]
        right
        rw [show k * 128 + (j - k * 128) = j by omega]
  · rw [if_neg h]
    refine ⟨fun j hj => ?_, fun j h1 h2 => .inl ?_, fun _ j h1 h2 => ?_⟩
    · simp only
      rw [splice_getD _ _ _ (by omega), hb]
      by_cases h1 : j < k * 128
      · rw [if_pos h1]
      · rw [if_neg h1, if_neg (by omega)]
    all_goals
      simp only
      rw [splice_getD _ _ _ (by omega), hb, if_neg (by omega), if_pos h2]
structure WeakQ (D : DS) (k : Nat) (b : List Int) (i n : Nat) (R : DS × Int) : Prop where
  out : ∀ j, j < (k + i) * 128 ∨ (k + i + n) * 128 ≤ j → R.1.data.getD j 0 = D.data.getD j 0
  ins : ∀ j, (k + i) * 128 ≤ j → j < (k + i + n) * 128 → R.1.data.getD j 0 = b.getD (j - k * 128) 0 ∨ R.1.data.getD j 0 = D.data.getD j 0
  ok : R.2 = 0 → ∀ j, (k + i) * 128 ≤ j → j < (k + i + n) * 128 → R.1.data.getD j 0 = b.getD (j - k * 128) 0
theorem weak_run (k : Nat) (b : List Int) : ∀ (n i : Nat) (D : DS), D.off = false → (k + i + n) * 128 ≤ D.data.length → (i + n) * 128 ≤ b.length → WeakQ D k b i n (runD D k b i n) := by
  intro n
  induction n with
  | zero =>
    intro i D _ _ _
    exact ⟨fun _ _ => rfl, fun j h1 h2 => by omega, fun _ j h1 h2 => by omega⟩
  | succ n ih =>
    intro i D ho hd hb
    have hsl := secL_len b i (by omega)
    have hl := step_len D (k + i) (secL b i) (by omega) hsl
    obtain ⟨s1, s2, s3⟩ := step_weak D (k + i) (secL b i) (by omega) hsl
    have hsg : ∀ j, (k + i) * 128 ≤ j → j < (k + i) * 128 + 128 → (secL b i).getD (j - (k + i) * 128) 0 = b.getD (j - k * 128) 0 := fun j h1 h2 => by
      rw [secL_get _ _ _ (by omega), show i * 128 + (j - (k + i) * 128) = j - k * 128 by omega]
    cases e : (stepD D (k + i) (secL b i)).off
    · rw [run_on e]
      have h := ih (i + 1) _ e (by rw [hl]; omega) (by omega)
      refine ⟨fun j hj => ?_, fun j h1 h2 => ?_, fun hz j h1 h2 => ?_⟩
      · rw [h.out j (by omega), s1 j (by omega)]
      · by_cases h3 : j < (k + i) * 128 + 128
        · left
          rw [h.out j (by omega), s3 e j h1 h3, hsg j h1 h3]
        · rcases h.ins j (by omega) (by omega) with h4 | h4
          · exact .inl h4
          · exact .inr (h4.trans (s1 j (by omega)))
      · by_cases h3 : j < (k + i) * 128 + 128
        · rw [h.out j (by omega), s3 e j h1 h3, hsg j h1 h3]
        · exact h.ok hz j (by omega) (by omega)
    · rw [run_off e]
      refine ⟨fun j hj => s1 j (by omega), fun j h1 h2 => ?_, fun hz => by cases hz⟩
      by_cases h3 : j < (k + i) * 128 + 128
      · rcases s2 j h1 h3 with h4 | h4
        · exact .inl (h4.trans (hsg j h1 h3))
        · exact .inr h4
      · exact .inr (s1 j (by omega))
/-- a byte of a slot. -/
def slotG (m : Int) (t : List Int) (j : Nat) : Int := (m :: (be4 t.length ++ t)).getD j 0
theorem slotB_getD (m : Int) (t : List Int) (k j : Nat) : (slotB m t k).getD j 0 = slotG m t j := by
  have e : slotB m t k = (m :: (be4 t.length ++ t)) ++ List.replicate (k * 128 - 5 - t.length) 0 := by
    simp [slotB]
  rw [e, slotG]
  by_cases h : j < (m :: (be4 t.length ++ t)).length
  · rw [getD_append_lt h]
  · rw [getD_append_ge (by omega), List.getD_eq_getElem?_getD, List.getD_eq_getElem?_getD, List.getElem?_eq_none (l := m :: _) (by omega), List.getElem?_replicate]
    split <;> rfl
theorem slotG_zero (m : Int) (t : List Int) : slotG m t 0 = m := rfl
theorem slotG_same (m m' : Int) (t : List Int) (j : Nat) (h : j ≠ 0) : slotG m t j = slotG m' t j := by
  cases j with
  | zero => exact absurd rfl h
  | succ j => rfl
theorem slotG_past (m : Int) (t : List Int) (j : Nat) (h : tk t.length * 128 ≤ j) : slotG m t j = 0 := by
  have h1 := tk_fit t.length
  unfold slotG
  rw [List.getD_eq_getElem?_getD, List.getElem?_eq_none (by simp [be4]; omega)]
  rfl
/-- the bytes of a region. -/
def reg (D : DS) (a b : Nat) : List Int := (D.data.drop (a * 128)).take (b * 128)
theorem reg_len {D : DS} {a b : Nat} (h : (a + b) * 128 ≤ D.data.length) : (reg D a b).length = b * 128 := by
  unfold reg; rw [List.length_take, List.length_drop]; omega
theorem reg_get {D : DS} {a b j : Nat} (h : j < b * 128) : (reg D a b).getD j 0 = D.data.getD (a * 128 + j) 0 := by
  unfold reg; rw [getD_take' h, getD_drop']
/-- bytes that are read as these texts, with so many sectors. -/
def LogAt (L : List Int) (ts : List (List Int)) (u : Nat) : Prop := ∃ cs R, Reads L cs R false ∧ cs.map textC = ts ∧ cs.flatten.length = u * 128
theorem list_eq {L M : List Int} (h : L.length = M.length) (hg : ∀ j, j < L.length → L.getD j 0 = M.getD j 0) : L = M := by
  apply List.ext_getElem h
  intro j h1 h2
  have := hg j h1
  simpa [List.getD_eq_getElem?_getD, h1, h2] using this
theorem log_same {L L' : List Int} {ts : List (List Int)} {u : Nat} (h : LogAt L ts u) (hl : L'.length = L.length) (hb : ∀ j, j < u * 128 → L'.getD j 0 = L.getD j 0) (hz : L'.getD (u * 128) 0 = 0) : LogAt L' ts u := by
  obtain ⟨cs, R, hr, ht, hu⟩ := h
  have hle := congrArg List.length hr.eq
  rw [List.length_append] at hle
  refine ⟨cs, L'.drop (u * 128), ⟨?_, hr.good, .inr ?_⟩, ht, hu⟩
  · have e : L'.take (u * 128) = cs.flatten := by
      refine list_eq (by rw [List.length_take]; omega) (fun j hj => ?_)
      rw [List.length_take] at hj
      rw [getD_take' (by omega), hb j (by omega), hr.eq, getD_append_lt (by omega)]
    rw [← e, List.take_append_drop]
  · rw [getD_drop', Nat.add_zero]
    exact hz
theorem log_more {L L' t : List Int} {ts : List (List Int)} {u : Nat} (h : LogAt L ts u) (hl : L'.length = L.length) (ht : t.length ≤ 262144) (hf : (u + tk t.length) * 128 ≤ L.length) (hb : ∀ j, j < u * 128 → L'.getD j 0 = L.getD j 0)
    (hs : ∀ j, j < tk t.length * 128 → L'.getD (u * 128 + j) 0 = slotG 1 t j) (hz : (u + tk t.length) * 128 = L.length ∨ L'.getD ((u + tk t.length) * 128) 0 = 0) : LogAt L' (ts ++ [t]) (u + tk t.length) := by
  obtain ⟨cs, R, hr, hts, hu⟩ := h
  have hle := congrArg List.length hr.eq
  rw [List.length_append] at hle
  have hsl := slotB_len 1 t (tk t.length) (tk_fit t.length)
  refine ⟨cs ++ [slotB 1 t (tk t.length)], L'.drop ((u + tk t.length) * 128), ⟨?_, ?_, ?_⟩, ?_, ?_⟩
  · have e : L'.take ((u + tk t.length) * 128) = (cs ++ [slotB 1 t (tk t.length)]).flatten := by
      rw [List.flatten_append, List.flatten_cons, List.flatten_nil, List.append_nil]
      refine list_eq (by rw [List.length_take, List.length_append]; omega) (fun j hj => ?_)
      rw [List.length_take] at hj
      rw [getD_take' (by omega)]
      by_cases h1 : j < u * 128
      · rw [hb j h1, hr.eq, getD_append_lt (by omega), getD_append_lt (by omega)]
      · rw [getD_append_ge (by omega), slotB_getD, hu, ← hs _ (by omega), show u * 128 + (j - u * 128) = j by omega]
    rw [← e, List.take_append_drop]
  · intro c hc
    rcases List.mem_append.1 hc with hc | hc
    · exact hr.good c hc
    · rw [List.mem_singleton] at hc
      subst hc
      exact slotB_good t ht
  · rcases hz with hz | hz
    · left; rw [List.drop_eq_nil_iff]; omega
    · right; rw [getD_drop', Nat.add_zero]; exact hz
  · rw [List.map_append, hts, List.map_cons, List.map_nil, slotB_text t ht]
  · rw [List.flatten_append, List.length_append, hu, List.flatten_cons, List.flatten_nil, List.append_nil, hsl]
    omega
/-- an append that fits: told OK, the log has the text; told that the power went, it has, or has not. -/
structure AppG (D : DS) (S : LS) (t : List Int) : Prop where
  len : (appD D S t).1.data.length = D.data.length
  wr : (appD D S t).1.writes ≤ D.writes + (tk t.length + 2)
  get : ((appD D S t).2.2 = 0 ∧ (appD D S t).1.off = false ∧ (appD D S t).2.1 = { S with used := S.used + tk t.length, texts := S.texts ++ [t] } ∧ LogAt (reg (appD D S t).1 S.from_ S.secs) (S.texts ++ [t]) (S.used + tk t.length)) ∨
    ((appD D S t).2.2 = 12 ∧ (appD D S t).1.off = true ∧ (appD D S t).2.1 = { S with lost := true } ∧ (LogAt (reg (appD D S t).1 S.from_ S.secs) S.texts S.used ∨ LogAt (reg (appD D S t).1 S.from_ S.secs) (S.texts ++ [t]) (S.used + tk t.length)))
theorem app_log {D : DS} {S : LS} {t : List Int} (hl : LogAt (reg D S.from_ S.secs) S.texts S.used) (hlost : S.lost = false) (ho : D.off = false) (hend : (S.from_ + S.secs) * 128 ≤ D.data.length) (ht : t.length ≤ 262144) (hfit : S.used + tk t.length ≤ S.secs) : AppG D S t := by
  have hk := run_first (k := firstK t.length (S.secs - S.used)) (n := t.length) (F := S.secs - S.used) (by omega) rfl
  have hkv : firstK t.length (S.secs - S.used) = min (tk t.length + 1) (S.secs - S.used) := rfl
  obtain ⟨k, hke⟩ : ∃ k, k = firstK t.length (S.secs - S.used) := ⟨_, rfl⟩
  have htp := tk_pos t.length
  have hq := writ_q (D := D) (p := S.from_ + S.used) (k := k) (t := t) ho (by rw [hke]; omega) (by rw [hke]; omega)
  have happ : appD D S t = if (writD D (S.from_ + S.used) t k).2 = 0 then ((writD D (S.from_ + S.used) t k).1, { S with used := S.used + tk t.length, texts := S.texts ++ [t] }, 0) else ((writD D (S.from_ + S.used) t k).1, { S with lost := true }, (writD D (S.from_ + S.used) t k).2) := by
    unfold appD
    rw [if_neg (by rw [hlost, ho]; simp), if_neg (by omega), if_neg (by omega), ← hke]
  rw [← hke] at hk hkv
  have hreg := reg_len (D := D) (a := S.from_) (b := S.secs) hend
  -- what lies where the slot comes
  have hold : D.data.getD ((S.from_ + S.used) * 128) 0 = 0 := by
    obtain ⟨cs, R, hr, _, hu⟩ := hl
    have h1 := congrArg List.length hr.eq
    rw [List.length_append, hreg] at h1
    have h2 : R.getD 0 0 = 0 := by
      rcases hr.tail with h | h
      · rw [h]; rfl
      · exact h
    rw [show (S.from_ + S.used) * 128 = S.from_ * 128 + S.used * 128 by omega, ← reg_get (b := S.secs) (by omega), hr.eq, getD_append_ge (by omega), hu, Nat.sub_self]
    exact h2
  have hw := weak_run (S.from_ + S.used) (slotB 0 t k) k 0 D ho (by omega) (by rw [slotB_len _ _ _ (by omega)]; omega)
  have hq1 := run_q (S.from_ + S.used) (slotB 0 t k) k 0 D ho (by omega) (by rw [slotB_len _ _ _ (by omega)]; omega)
  -- the two ends, by the byte of the mark
  have key : ∀ D' : DS, D'.data.length = D.data.length → (∀ j, j < (S.from_ + S.used) * 128 → D'.data.getD j 0 = D.data.getD j 0) →
      (D'.data.getD ((S.from_ + S.used) * 128) 0 = 0 → LogAt (reg D' S.from_ S.secs) S.texts S.used) ∧
      ((∀ j, j < k * 128 → D'.data.getD ((S.from_ + S.used) * 128 + j) 0 = slotG 1 t j) → LogAt (reg D' S.from_ S.secs) (S.texts ++ [t]) (S.used + tk t.length)) := by
    intro D' hl' hb
    have hreg' := reg_len (D := D') (a := S.from_) (b := S.secs) (by omega)
    have hbb : ∀ j, j < S.used * 128 → (reg D' S.from_ S.secs).getD j 0 = (reg D S.from_ S.secs).getD j 0 := fun j hj => by
      rw [reg_get (by omega), reg_get (by omega), hb _ (by omega)]
    refine ⟨fun hz => log_same hl (by rw [hreg, hreg']) hbb ?_, fun hs => log_more hl (by rw [hreg, hreg']) ht (by rw [hreg]; omega) hbb (fun j hj => ?_) ?_⟩
    · rw [reg_get (by omega), show S.from_ * 128 + S.used * 128 = (S.from_ + S.used) * 128 by omega]; exact hz
    · rw [reg_get (by omega), show S.from_ * 128 + (S.used * 128 + j) = (S.from_ + S.used) * 128 + j by omega]
      exact hs j (by omega)
    · by_cases h1 : (S.used + tk t.length) * 128 = S.secs * 128
      · left; rw [hreg]; exact h1
      · right
        rw [reg_get (by omega), show S.from_ * 128 + (S.used + tk t.length) * 128 = (S.from_ + S.used) * 128 + tk t.length * 128 by omega, hs _ (by omega)]
        exact slotG_past _ _ _ (Nat.le_refl _)
  obtain ⟨W, hW⟩ : ∃ W, W = writD D (S.from_ + S.used) t k := ⟨_, rfl⟩
  rw [← hW] at happ hq
  have hlen1 : W.1.data.length = D.data.length := hq.len
  have hsl0 : ∀ j, (slotB 0 t k).getD j 0 = slotG 0 t j := slotB_getD 0 t k
  have hout : (∀ j, j < (S.from_ + S.used) * 128 → W.1.data.getD j 0 = D.data.getD j 0) ∧ ((W.1.data.getD ((S.from_ + S.used) * 128) 0 = 0 ∧ W.2 ≠ 0) ∨ ∀ j, j < k * 128 → W.1.data.getD ((S.from_ + S.used) * 128 + j) 0 = slotG 1 t j) := by
    rw [hW]
    by_cases e1 : (runD D (S.from_ + S.used) (slotB 0 t k) 0 k).2 = 0
    · rw [writD_yes e1]
      have hl1 := hq1.len
      have hb2 := take128_len 1 t k (by omega)
      have hw2 := weak_run (S.from_ + S.used) ((slotB 1 t k).take 128) 1 0 (runD D (S.from_ + S.used) (slotB 0 t k) 0 k).1 (hq1.on e1) (by omega) (by omega)
      have hg2 : ∀ j, j < 128 → ((slotB 1 t k).take 128).getD j 0 = slotG 1 t j := fun j hj => by rw [getD_take' hj, slotB_getD]
      have hg1 : ∀ j, j < k * 128 → (runD D (S.from_ + S.used) (slotB 0 t k) 0 k).1.data.getD ((S.from_ + S.used) * 128 + j) 0 = slotG 0 t j := fun j hj => by
        rw [hw.ok e1 _ (by omega) (by omega), hsl0, show (S.from_ + S.used) * 128 + j - (S.from_ + S.used) * 128 = j by omega]
      refine ⟨fun j hj => by rw [hw2.out j (by omega), hw.out j (by omega)], ?_⟩
      have hrest : ∀ j, j ≠ 0 → j < k * 128 → (runD (runD D (S.from_ + S.used) (slotB 0 t k) 0 k).1 (S.from_ + S.used) ((slotB 1 t k).take 128) 0 1).1.data.getD ((S.from_ + S.used) * 128 + j) 0 = slotG 1 t j := fun j h0 hj => by
        by_cases h1 : j < 128
        · rcases hw2.ins ((S.from_ + S.used) * 128 + j) (by omega) (by omega) with h2 | h2
          · rw [h2, show (S.from_ + S.used) * 128 + j - (S.from_ + S.used) * 128 = j by omega, hg2 j h1]
          · rw [h2, hg1 j hj, slotG_same 0 1 t j h0]
        · rw [hw2.out _ (by omega), hg1 j hj, slotG_same 0 1 t j h0]
      by_cases e2 : (runD (runD D (S.from_ + S.used) (slotB 0 t k) 0 k).1 (S.from_ + S.used) ((slotB 1 t k).take 128) 0 1).2 = 0
      · right
        intro j hj
        by_cases h0 : j = 0
        · subst h0
          rw [hw2.ok e2 _ (by omega) (by omega), show (S.from_ + S.used) * 128 + 0 - (S.from_ + S.used) * 128 = 0 by omega, hg2 0 (by omega)]
        · exact hrest j h0 hj
      · rcases hw2.ins ((S.from_ + S.used) * 128) (by omega) (by omega) with h2 | h2
        · right
          intro j hj
          by_cases h0 : j = 0
          · subst h0
            rw [Nat.add_zero, h2, Nat.sub_self, hg2 0 (by omega)]
          · exact hrest j h0 hj
        · left
          have := hg1 0 (by omega)
          rw [Nat.add_zero] at this
          exact ⟨h2.trans this, e2⟩
    · rw [writD_no e1]
      refine ⟨fun j hj => hw.out j (by omega), .inl ⟨?_, e1⟩⟩
      rcases hw.ins ((S.from_ + S.used) * 128) (by omega) (by omega) with h2 | h2
      · rw [h2, Nat.sub_self, hsl0]; rfl
      · rw [h2, hold]
  obtain ⟨k1, k2⟩ := key W.1 hlen1 hout.1
  have hkk : k ≤ tk t.length + 1 := by omega
  have hwr := hq.wr
  by_cases e : W.2 = 0
  · rw [if_pos e] at happ
    refine ⟨by rw [happ]; exact hlen1, by rw [happ]; simp only; omega, .inl ⟨by rw [happ], by rw [happ]; exact hq.on e, by rw [happ], ?_⟩⟩
    rw [happ]
    rcases hout.2 with h | h
    · exact absurd e h.2
    · exact k2 h
  · rw [if_neg e] at happ
    have hoff : W.1.off = true := by
      have := hq.err
      cases h : W.1.off
      · rw [h] at this; exact absurd this e
      · rfl
    have h12 : W.2 = 12 := by have := hq.err; rw [hoff] at this; exact this
    refine ⟨by rw [happ]; exact hlen1, by rw [happ]; simp only; omega, .inr ⟨by rw [happ]; exact h12, by rw [happ]; exact hoff, by rw [happ], ?_⟩⟩
    rw [happ]
    rcases hout.2 with h | h
    · exact .inl (k1 h.1)
    · exact .inr (k2 h)
/-- what Open finds. -/
theorem log_reads {L R : List Int} {ts : List (List Int)} {u : Nat} {cs : List (List Int)} {e : Bool} (h : LogAt L ts u) (hr : Reads L cs R e) : e = false ∧ cs.map textC = ts ∧ useR cs (List.range cs.length) = u := by
  obtain ⟨cs', R', hr', ht, hu⟩ := h
  obtain ⟨rfl, rfl, rfl⟩ := reads_one _ _ _ _ _ _ _ hr hr'
  refine ⟨rfl, ht, ?_⟩
  have h1 := useR_range hr.good cs.length (Nat.le_refl _)
  have h2 : posC cs cs.length = cs.flatten.length := by unfold posC; rw [List.take_of_length_le (Nat.le_refl _)]
  omega
theorem log_empty (n : Nat) : LogAt (List.replicate n 0) [] 0 := by
  refine ⟨[], List.replicate n 0, ⟨rfl, by simp, ?_⟩, rfl, rfl⟩
  cases n with
  | zero => exact .inl rfl
  | succ n => exact .inr rfl
end Go.Proofs.Ythjjkbgkfikglaa.Slt
