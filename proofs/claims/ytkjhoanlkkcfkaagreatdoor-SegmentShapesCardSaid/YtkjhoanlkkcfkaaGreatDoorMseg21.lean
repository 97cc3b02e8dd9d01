/- DERIVED. Texts of ours, merged: XSltApp XEpoSpec XEpo. -/
import Derived.Test.YtkjhoanlkkcfkaaGreatDoorMseg19
import Derived.Test.YtkjhoanlkkcfkaaGreatDoorMseg20
import Derived.Test.YtkjhoanlkkcfkaaGreatDoorMseg15
import Derived.Test.YtkjhoanlkkcfkaaGreatDoorMseg17
/- DERIVED. What an append leaves is read as the texts of before, and perhaps the new one, whole. No program. -/
namespace Go.Proofs.YtkjhoanlkkcfkaaGreatDoor.Slt
open Go.RowKit Dsk
theorem step_weak (D : DS) (k : Nat) (b : List Int) (hfit : k * 128 + 128 ≤ D.data.length) (hb : b.length = 128) :
    (∀ j, j < k * 128 ∨ k * 128 + 128 ≤ j → (stepD D k b).data.getD j 0 = D.data.getD j 0) ∧
    (∀ j, k * 128 ≤ j → j < k * 128 + 128 → (stepD D k b).data.getD j 0 = b.getD (j - k * 128) 0 ∨ (stepD D k b).data.getD j 0 = D.data.getD j 0) ∧
    ((stepD D k b).off = false → ∀ j, k * 128 ≤ j → j < k * 128 + 128 → (stepD D k b).data.getD j 0 = b.getD (j - k * 128) 0) := by
  unfold stepD
  by_cases h : D.due = true
  · rw [if_pos h]
    have hl := torn_len D.mask (secL D.data k) b
    refine ⟨fun j hj => ?_, fun j h1 h2 => ?_, fun ho => by cases ho⟩
    · simp only
      rw [splice_getD _ _ _ (by omega), hl]
      by_cases h1 : j < k * 128
      · rw [if_pos h1]
      · rw [if_neg h1, if_neg (by omega)]
    · simp only
      rw [splice_getD _ _ _ (by omega), hl, if_neg (by omega), if_pos h2, torn_get _ _ _ _ (by omega)]
      by_cases hb : bitM D.mask (j - k * 128) = true
      · rw [if_pos hb]; exact .inl rfl
      · rw [if_neg hb, secL_get _ _ _ (by omega)]
        right
        rw [show k * 128 + (j - k * 128) = j by omega]
  · rw [if_neg h]
    refine ⟨fun j hj => ?_, fun j h1 h2 => .inl ?_, fun _ j h1 h2 => ?_⟩
    · simp only
      rw [splice_getD _ _ _ (by omega), hb]
      by_cases h1 : j < k * 128
      · rw [if_pos h1]
      · rw [if_neg h1, if_neg (by omega)]
    all_goals
      simp only
      rw [splice_getD _ _ _ (by omega), hb, if_neg (by omega), if_pos h2]
structure WeakQ (D : DS) (k : Nat) (b : List Int) (i n : Nat) (R : DS × Int) : Prop where
  out : ∀ j, j < (k + i) * 128 ∨ (k + i + n) * 128 ≤ j → R.1.data.getD j 0 = D.data.getD j 0
  ins : ∀ j, (k + i) * 128 ≤ j → j < (k + i + n) * 128 → R.1.data.getD j 0 = b.getD (j - k * 128) 0 ∨ R.1.data.getD j 0 = D.data.getD j 0
  ok : R.2 = 0 → ∀ j, (k + i) * 128 ≤ j → j < (k + i + n) * 128 → R.1.data.getD j 0 = b.getD (j - k * 128) 0
theorem weak_run (k : Nat) (b : List Int) : ∀ (n i : Nat) (D : DS), D.off = false → (k + i + n) * 128 ≤ D.data.length → (i + n) * 128 ≤ b.length → WeakQ D k b i n (runD D k b i n) := by
  intro n
  induction n with
  | zero =>
    intro i D _ _ _
    exact ⟨fun _ _ => rfl, fun j h1 h2 => by omega, fun _ j h1 h2 => by omega⟩
  | succ n ih =>
    intro i D ho hd hb
    have hsl := secL_len b i (by omega)
    have hl := step_len D (k + i) (secL b i) (by omega) hsl
    obtain ⟨s1, s2, s3⟩ := step_weak D (k + i) (secL b i) (by omega) hsl
    have hsg : ∀ j, (k + i) * 128 ≤ j → j < (k + i) * 128 + 128 → (secL b i).getD (j - (k + i) * 128) 0 = b.getD (j - k * 128) 0 := fun j h1 h2 => by
      rw [secL_get _ _ _ (by omega), show i * 128 + (j - (k + i) * 128) = j - k * 128 by omega]
    cases e : (stepD D (k + i) (secL b i)).off
    · rw [run_on e]
      have h := ih (i + 1) _ e (by rw [hl]; omega) (by omega)
      refine ⟨fun j hj => ?_, fun j h1 h2 => ?_, fun hz j h1 h2 => ?_⟩
      · rw [h.out j (by omega), s1 j (by omega)]
      · by_cases h3 : j < (k + i) * 128 + 128
        · left
          rw [h.out j (by omega), s3 e j h1 h3, hsg j h1 h3]
        · rcases h.ins j (by omega) (by omega) with h4 | h4
          · exact .inl h4
          · exact .inr (h4.trans (s1 j (by omega)))
      · by_cases h3 : j < (k + i) * 128 + 128
        · rw [h.out j (by omega), s3 e j h1 h3, hsg j h1 h3]
        · exact h.ok hz j (by omega) (by omega)
    · rw [run_off e]
      refine ⟨fun j hj => s1 j (by omega), fun j h1 h2 => ?_, fun hz => by cases hz⟩
      by_cases h3 : j < (k + i) * 128 + 128
      · rcases s2 j h1 h3 with h4 | h4
        · exact .inl (h4.trans (hsg j h1 h3))
        · exact .inr h4
      · exact .inr (s1 j (by omega))
/-- a byte of a slot. -/
def slotG (m : Int) (t : List Int) (j : Nat) : Int := (m :: (be4 t.length ++ t)).getD j 0
theorem slotB_getD (m : Int) (t : List Int) (k j : Nat) : (slotB m t k).getD j 0 = slotG m t j := by
  have e : slotB m t k = (m :: (be4 t.length ++ t)) ++ List.replicate (k * 128 - 5 - t.length) 0 := by
    simp [slotB]
  rw [e, slotG]
  by_cases h : j < (m :: (be4 t.length ++ t)).length
  · rw [getD_append_lt h]
  · rw [getD_append_ge (by omega), List.getD_eq_getElem?_getD, List.getD_eq_getElem?_getD, List.getElem?_eq_none (l := m :: _) (by omega), List.getElem?_replicate]
    split <;> rfl
theorem slotG_zero (m : Int) (t : List Int) : slotG m t 0 = m := rfl
theorem slotG_same (m m' : Int) (t : List Int) (j : Nat) (h : j ≠ 0) : slotG m t j = slotG m' t j := by
  cases j with
  | zero => exact absurd rfl h
  | succ j => rfl
theorem slotG_past (m : Int) (t : List Int) (j : Nat) (h : tk t.length * 128 ≤ j) : slotG m t j = 0 := by
  have h1 := tk_fit t.length
  unfold slotG
  rw [List.getD_eq_getElem?_getD, List.getElem?_eq_none (by simp [be4]; omega)]
  rfl
/-- the bytes of a region. -/
def reg (D : DS) (a b : Nat) : List Int := (D.data.drop (a * 128)).take (b * 128)
theorem reg_len {D : DS} {a b : Nat} (h : (a + b) * 128 ≤ D.data.length) : (reg D a b).length = b * 128 := by
  unfold reg; rw [List.length_take, List.length_drop]; omega
theorem reg_get {D : DS} {a b j : Nat} (h : j < b * 128) : (reg D a b).getD j 0 = D.data.getD (a * 128 + j) 0 := by
  unfold reg; rw [getD_take' h, getD_drop']
/-- bytes that are read as these texts, with so many sectors. -/
def LogAt (L : List Int) (ts : List (List Int)) (u : Nat) : Prop := ∃ cs R, Reads L cs R false ∧ cs.map textC = ts ∧ cs.flatten.length = u * 128
theorem list_eq {L M : List Int} (h : L.length = M.length) (hg : ∀ j, j < L.length → L.getD j 0 = M.getD j 0) : L = M := by
  apply List.ext_getElem h
  intro j h1 h2
  have := hg j h1
  simpa [List.getD_eq_getElem?_getD, h1, h2] using this
theorem log_same {L L' : List Int} {ts : List (List Int)} {u : Nat} (h : LogAt L ts u) (hl : L'.length = L.length) (hb : ∀ j, j < u * 128 → L'.getD j 0 = L.getD j 0) (hz : L'.getD (u * 128) 0 = 0) : LogAt L' ts u := by
  obtain ⟨cs, R, hr, ht, hu⟩ := h
  have hle := congrArg List.length hr.eq
  rw [List.length_append] at hle
  refine ⟨cs, L'.drop (u * 128), ⟨?_, hr.good, .inr ?_⟩, ht, hu⟩
  · have e : L'.take (u * 128) = cs.flatten := by
      refine list_eq (by rw [List.length_take]; omega) (fun j hj => ?_)
      rw [List.length_take] at hj
      rw [getD_take' (by omega), hb j (by omega), hr.eq, getD_append_lt (by omega)]
    rw [← e, List.take_append_drop]
  · rw [getD_drop', Nat.add_zero]
    exact hz
theorem log_more {L L' t : List Int} {ts : List (List Int)} {u : Nat} (h : LogAt L ts u) (hl : L'.length = L.length) (ht : t.length ≤ 262144) (hf : (u + tk t.length) * 128 ≤ L.length) (hb : ∀ j, j < u * 128 → L'.getD j 0 = L.getD j 0)
    (hs : ∀ j, j < tk t.length * 128 → L'.getD (u * 128 + j) 0 = slotG 1 t j) (hz : (u + tk t.length) * 128 = L.length ∨ L'.getD ((u + tk t.length) * 128) 0 = 0) : LogAt L' (ts ++ [t]) (u + tk t.length) := by
  obtain ⟨cs, R, hr, hts, hu⟩ := h
  have hle := congrArg List.length hr.eq
  rw [List.length_append] at hle
  have hsl := slotB_len 1 t (tk t.length) (tk_fit t.length)
  refine ⟨cs ++ [slotB 1 t (tk t.length)], L'.drop ((u + tk t.length) * 128), ⟨?_, ?_, ?_⟩, ?_, ?_⟩
  · have e : L'.take ((u + tk t.length) * 128) = (cs ++ [slotB 1 t (tk t.length)]).flatten := by
      rw [List.flatten_append, List.flatten_cons, List.flatten_nil, List.append_nil]
      refine list_eq (by rw [List.length_take, List.length_append]; omega) (fun j hj => ?_)
      rw [List.length_take] at hj
      rw [getD_take' (by omega)]
      by_cases h1 : j < u * 128
      · rw [hb j h1, hr.eq, getD_append_lt (by omega), getD_append_lt (by omega)]
      · rw [getD_append_ge (by omega), slotB_getD, hu, ← hs _ (by omega), show u * 128 + (j - u * 128) = j by omega]
    rw [← e, List.take_append_drop]
  · intro c hc
    rcases List.mem_append.1 hc with hc | hc
    · exact hr.good c hc
    · rw [List.mem_singleton] at hc
      subst hc
      exact slotB_good t ht
  · rcases hz with hz | hz
    · left; rw [List.drop_eq_nil_iff]; omega
    · right; rw [getD_drop', Nat.add_zero]; exact hz
  · rw [List.map_append, hts, List.map_cons, List.map_nil, slotB_text t ht]
  · rw [List.flatten_append, List.length_append, hu, List.flatten_cons, List.flatten_nil, List.append_nil, hsl]
    omega
/-- an append that fits: told OK, the log has the text; told that the power went, it has, or has not. -/
structure AppG (D : DS) (S : LS) (t : List Int) : Prop where
  len : (appD D S t).1.data.length = D.data.length
  wr : (appD D S t).1.writes ≤ D.writes + (tk t.length + 2)
  get : ((appD D S t).2.2 = 0 ∧ (appD D S t).1.off = false ∧ (appD D S t).2.1 = { S with used := S.used + tk t.length, texts := S.texts ++ [t] } ∧ LogAt (reg (appD D S t).1 S.from_ S.secs) (S.texts ++ [t]) (S.used + tk t.length)) ∨
    ((appD D S t).2.2 = 12 ∧ (appD D S t).1.off = true ∧ (appD D S t).2.1 = { S with lost := true } ∧ (LogAt (reg (appD D S t).1 S.from_ S.secs) S.texts S.used ∨ LogAt (reg (appD D S t).1 S.from_ S.secs) (S.texts ++ [t]) (S.used + tk t.length)))
theorem app_log {D : DS} {S : LS} {t : List Int} (hl : LogAt (reg D S.from_ S.secs) S.texts S.used) (hlost : S.lost = false) (ho : D.off = false) (hend : (S.from_ + S.secs) * 128 ≤ D.data.length) (ht : t.length ≤ 262144) (hfit : S.used + tk t.length ≤ S.secs) : AppG D S t := by
  have hk := run_first (k := firstK t.length (S.secs - S.used)) (n := t.length) (F := S.secs - S.used) (by omega) rfl
  have hkv : firstK t.length (S.secs - S.used) = min (tk t.length + 1) (S.secs - S.used) := rfl
  obtain ⟨k, hke⟩ : ∃ k, k = firstK t.length (S.secs - S.used) := ⟨_, rfl⟩
  have htp := tk_pos t.length
  have hq := writ_q (D := D) (p := S.from_ + S.used) (k := k) (t := t) ho (by rw [hke]; omega) (by rw [hke]; omega)
  have happ : appD D S t = if (writD D (S.from_ + S.used) t k).2 = 0 then ((writD D (S.from_ + S.used) t k).1, { S with used := S.used + tk t.length, texts := S.texts ++ [t] }, 0) else ((writD D (S.from_ + S.used) t k).1, { S with lost := true }, (writD D (S.from_ + S.used) t k).2) := by
    unfold appD
    rw [if_neg (by rw [hlost, ho]; simp), if_neg (by omega), if_neg (by omega), ← hke]
  rw [← hke] at hk hkv
  have hreg := reg_len (D := D) (a := S.from_) (b := S.secs) hend
  -- what lies where the slot comes
  have hold : D.data.getD ((S.from_ + S.used) * 128) 0 = 0 := by
    obtain ⟨cs, R, hr, _, hu⟩ := hl
    have h1 := congrArg List.length hr.eq
    rw [List.length_append, hreg] at h1
    have h2 : R.getD 0 0 = 0 := by
      rcases hr.tail with h | h
      · rw [h]; rfl
      · exact h
    rw [show (S.from_ + S.used) * 128 = S.from_ * 128 + S.used * 128 by omega, ← reg_get (b := S.secs) (by omega), hr.eq, getD_append_ge (by omega), hu, Nat.sub_self]
    exact h2
  have hw := weak_run (S.from_ + S.used) (slotB 0 t k) k 0 D ho (by omega) (by rw [slotB_len _ _ _ (by omega)]; omega)
  have hq1 := run_q (S.from_ + S.used) (slotB 0 t k) k 0 D ho (by omega) (by rw [slotB_len _ _ _ (by omega)]; omega)
  -- the two ends, by the byte of the mark
  have key : ∀ D' : DS, D'.data.length = D.data.length → (∀ j, j < (S.from_ + S.used) * 128 → D'.data.getD j 0 = D.data.getD j 0) →
      (D'.data.getD ((S.from_ + S.used) * 128) 0 = 0 → LogAt (reg D' S.from_ S.secs) S.texts S.used) ∧
      ((∀ j, j < k * 128 → D'.data.getD ((S.from_ + S.used) * 128 + j) 0 = slotG 1 t j) → LogAt (reg D' S.from_ S.secs) (S.texts ++ [t]) (S.used + tk t.length)) := by
    intro D' hl' hb
    have hreg' := reg_len (D := D') (a := S.from_) (b := S.secs) (by omega)
    have hbb : ∀ j, j < S.used * 128 → (reg D' S.from_ S.secs).getD j 0 = (reg D S.from_ S.secs).getD j 0 := fun j hj => by
      rw [reg_get (by omega), reg_get (by omega), hb _ (by omega)]
    refine ⟨fun hz => log_same hl (by rw [hreg, hreg']) hbb ?_, fun hs => log_more hl (by rw [hreg, hreg']) ht (by rw [hreg]; omega) hbb (fun j hj => ?_) ?_⟩
    · rw [reg_get (by omega), show S.from_ * 128 + S.used * 128 = (S.from_ + S.used) * 128 by omega]; exact hz
    · rw [reg_get (by omega), show S.from_ * 128 + (S.used * 128 + j) = (S.from_ + S.used) * 128 + j by omega]
      exact hs j (by omega)
    · by_cases h1 : (S.used + tk t.length) * 128 = S.secs * 128
      · left; rw [hreg]; exact h1
      · right
        rw [reg_get (by omega), show S.from_ * 128 + (S.used + tk t.length) * 128 = (S.from_ + S.used) * 128 + tk t.length * 128 by omega, hs _ (by omega)]
        exact slotG_past _ _ _ (Nat.le_refl _)
  obtain ⟨W, hW⟩ : ∃ W, W = writD D (S.from_ + S.used) t k := ⟨_, rfl⟩
  rw [← hW] at happ hq
  have hlen1 : W.1.data.length = D.data.length := hq.len
  have hsl0 : ∀ j, (slotB 0 t k).getD j 0 = slotG 0 t j := slotB_getD 0 t k
  have hout : (∀ j, j < (S.from_ + S.used) * 128 → W.1.data.getD j 0 = D.data.getD j 0) ∧ ((W.1.data.getD ((S.from_ + S.used) * 128) 0 = 0 ∧ W.2 ≠ 0) ∨ ∀ j, j < k * 128 → W.1.data.getD ((S.from_ + S.used) * 128 + j) 0 = slotG 1 t j) := by
    rw [hW]
    by_cases e1 : (runD D (S.from_ + S.used) (slotB 0 t k) 0 k).2 = 0
    · rw [writD_yes e1]
      have hl1 := hq1.len
      have hb2 := take128_len 1 t k (by omega)
      have hw2 := weak_run (S.from_ + S.used) ((slotB 1 t k).take 128) 1 0 (runD D (S.from_ + S.used) (slotB 0 t k) 0 k).1 (hq1.on e1) (by omega) (by omega)
      have hg2 : ∀ j, j < 128 → ((slotB 1 t k).take 128).getD j 0 = slotG 1 t j := fun j hj => by rw [getD_take' hj, slotB_getD]
      have hg1 : ∀ j, j < k * 128 → (runD D (S.from_ + S.used) (slotB 0 t k) 0 k).1.data.getD ((S.from_ + S.used) * 128 + j) 0 = slotG 0 t j := fun j hj => by
        rw [hw.ok e1 _ (by omega) (by omega), hsl0, show (S.from_ + S.used) * 128 + j - (S.from_ + S.used) * 128 = j by omega]
      refine ⟨fun j hj => by rw [hw2.out j (by omega), hw.out j (by omega)], ?_⟩
      have hrest : ∀ j, j ≠ 0 → j < k * 128 → (runD (runD D (S.from_ + S.used) (slotB 0 t k) 0 k).1 (S.from_ + S.used) ((slotB 1 t k).take 128) 0 1).1.data.getD ((S.from_ + S.used) * 128 + j) 0 = slotG 1 t j := fun j h0 hj => by
        by_cases h1 : j < 128
        · rcases hw2.ins ((S.from_ + S.used) * 128 + j) (by omega) (by omega) with h2 | h2
          · rw [h2, show (S.from_ + S.used) * 128 + j - (S.from_ + S.used) * 128 = j by omega, hg2 j h1]
          · rw [h2, hg1 j hj, slotG_same 0 1 t j h0]
        · rw [hw2.out _ (by omega), hg1 j hj, slotG_same 0 1 t j h0]
      by_cases e2 : (runD (runD D (S.from_ + S.used) (slotB 0 t k) 0 k).1 (S.from_ + S.used) ((slotB 1 t k).take 128) 0 1).2 = 0
      · right
        intro j hj
        by_cases h0 : j = 0
        · subst h0
          rw [hw2.ok e2 _ (by omega) (by omega), show (S.from_ + S.used) * 128 + 0 - (S.from_ + S.used) * 128 = 0 by omega, hg2 0 (by omega)]
        · exact hrest j h0 hj
      · rcases hw2.ins ((S.from_ + S.used) * 128) (by omega) (by omega) with h2 | h2
        · right
          intro j hj
          by_cases h0 : j = 0
          · subst h0
            rw [Nat.add_zero, h2, Nat.sub_self, hg2 0 (by omega)]
          · exact hrest j h0 hj
        · left
          have := hg1 0 (by omega)
          rw [Nat.add_zero] at this
          exact ⟨h2.trans this, e2⟩
    · rw [writD_no e1]
      refine ⟨fun j hj => hw.out j (by omega), .inl ⟨?_, e1⟩⟩
      rcases hw.ins ((S.from_ + S.used) * 128) (by omega) (by omega) with h2 | h2
      · rw [h2, Nat.sub_self, hsl0]; rfl
      · rw [h2, hold]
  obtain ⟨k1, k2⟩ := key W.1 hlen1 hout.1
  have hkk : k ≤ tk t.length + 1 := by omega
  have hwr := hq.wr
  by_cases e : W.2 = 0
  · rw [if_pos e] at happ
    refine ⟨by rw [happ]; exact hlen1, by rw [happ]; simp only; omega, .inl ⟨by rw [happ], by rw [happ]; exact hq.on e, by rw [happ], ?_⟩⟩
    rw [happ]
    rcases hout.2 with h | h
    · exact absurd e h.2
    · exact k2 h
  · rw [if_neg e] at happ
    have hoff : W.1.off = true := by
      have := hq.err
      cases h : W.1.off
      · rw [h] at this; exact absurd this e
      · rfl
    have h12 : W.2 = 12 := by have := hq.err; rw [hoff] at this; exact this
    refine ⟨by rw [happ]; exact hlen1, by rw [happ]; simp only; omega, .inr ⟨by rw [happ]; exact h12, by rw [happ]; exact hoff, by rw [happ], ?_⟩⟩
    rw [happ]
    rcases hout.2 with h | h
    · exact .inl (k1 h.1)
    · exact .inr (k2 h)
/-- what Open finds. -/
theorem log_reads {L R : List Int} {ts : List (List Int)} {u : Nat} {cs : List (List Int)} {e : Bool} (h : LogAt L ts u) (hr : Reads L cs R e) : e = false ∧ cs.map textC = ts ∧ useR cs (List.range cs.length) = u := by
  obtain ⟨cs', R', hr', ht, hu⟩ := h
  obtain ⟨rfl, rfl, rfl⟩ := reads_one _ _ _ _ _ _ _ hr hr'
  refine ⟨rfl, ht, ?_⟩
  have h1 := useR_range hr.good cs.length (Nat.le_refl _)
  have h2 : posC cs cs.length = cs.flatten.length := by unfold posC; rw [List.take_of_length_le (Nat.le_refl _)]
  omega
theorem log_empty (n : Nat) : LogAt (List.replicate n 0) [] 0 := by
  refine ⟨[], List.replicate n 0, ⟨rfl, by simp, ?_⟩, rfl, rfl⟩
  cases n with
  | zero => exact .inl rfl
  | succ n => exact .inr rfl
end Go.Proofs.YtkjhoanlkkcfkaaGreatDoor.Slt
/- DERIVED. A counter on lists: what its bytes tell. No program. -/
namespace Go.Proofs.YtkjhoanlkkcfkaaGreatDoor.Epo
open Go.RowKit Dsk
/-- how many of these stand at the front. -/
def lead (x : Int) : List Int → Nat
  | [] => 0
  | y :: r => if y = x then lead x r + 1 else 0
theorem lead_le (x : Int) : ∀ L : List Int, lead x L ≤ L.length
  | [] => Nat.le_refl _
  | y :: r => by
    have := lead_le x r
    unfold lead
    split <;> simp only [List.length_cons] <;> omega
theorem lead_get (x : Int) : ∀ (L : List Int) (j : Nat), j < lead x L → L.getD j 0 = x
  | [], j, h => absurd h (Nat.not_lt_zero _)
  | y :: r, j, h => by
    unfold lead at h
    by_cases e : y = x
    · rw [if_pos e] at h
      cases j with
      | zero => exact e
      | succ k => exact lead_get x r k (by omega)
    · rw [if_neg e] at h; omega
theorem lead_stop (x : Int) : ∀ L : List Int, lead x L < L.length → L.getD (lead x L) 0 ≠ x
  | [], h => absurd h (Nat.not_lt_zero _)
  | y :: r, h => by
    unfold lead at h ⊢
    by_cases e : y = x
    · rw [if_pos e] at h ⊢
      exact lead_stop x r (by simpa using h)
    · rw [if_neg e]
      exact e
theorem lead_of {x : Int} {L : List Int} {n : Nat} (hn : n ≤ L.length) (h : ∀ j, j < n → L.getD j 0 = x) (hs : n < L.length → L.getD n 0 ≠ x) : lead x L = n := by
  have h1 := lead_le x L
  rcases Nat.lt_trichotomy (lead x L) n with hl | hl | hl
  · exact absurd (h _ hl) (lead_stop x L (by omega))
  · exact hl
  · exact absurd (lead_get x L n hl) (hs (by omega))
/-- these bytes tell n: n ones, and zeros behind. -/
structure Cnt (L : List Int) (n : Nat) : Prop where
  le : n ≤ L.length
  at_ : ∀ j, j < L.length → L.getD j 0 = if j < n then 1 else 0
def restL (L : List Int) : List Int := L.drop (lead 1 L)
def tellV (L : List Int) : Int := if lead 0 (restL L) < (restL L).length then 0 else lead 1 L
def tellE (L : List Int) : Int := if lead 0 (restL L) < (restL L).length then 9 else 0
theorem getD_drop'' (L : List Int) (p j : Nat) : (L.drop p).getD j 0 = L.getD (p + j) 0 := by
  simp [List.getD_eq_getElem?_getD]
theorem Cnt.lead1 {L : List Int} {n : Nat} (h : Cnt L n) : lead 1 L = n :=
  lead_of h.le (fun j hj => by rw [h.at_ j (by have := h.le; omega), if_pos hj]) (fun hl => by rw [h.at_ n hl, if_neg (Nat.lt_irrefl _)]; decide)
theorem Cnt.lead0 {L : List Int} {n : Nat} (h : Cnt L n) : ¬ lead 0 (restL L) < (restL L).length := by
  have hle := h.le
  have hl : (restL L).length = L.length - n := by rw [restL, List.length_drop, h.lead1]
  rw [lead_of (n := (restL L).length) (Nat.le_refl _) (fun j hj => ?_) (fun hh => absurd hh (Nat.lt_irrefl _))]
  · exact Nat.lt_irrefl _
  · rw [restL, getD_drop'', h.lead1, h.at_ _ (by omega), if_neg (by omega)]
theorem Cnt.tv {L : List Int} {n : Nat} (h : Cnt L n) : tellV L = n := by rw [tellV, if_neg h.lead0, h.lead1]
theorem Cnt.te {L : List Int} {n : Nat} (h : Cnt L n) : tellE L = 0 := by rw [tellE, if_neg h.lead0]
theorem cnt_of {L : List Int} (h : ¬ lead 0 (restL L) < (restL L).length) : Cnt L (lead 1 L) := by
  have h1 := lead_le 1 L
  refine ⟨h1, fun j hj => ?_⟩
  by_cases e : j < lead 1 L
  · rw [if_pos e]; exact lead_get 1 L j e
  · rw [if_neg e]
    have hl : (restL L).length = L.length - lead 1 L := by rw [restL, List.length_drop]
    have := lead_get 0 (restL L) (j - lead 1 L) (by omega)
    rw [restL, getD_drop'', show lead 1 L + (j - lead 1 L) = j by omega] at this
    exact this
theorem tell_te {L : List Int} (h : tellE L = 0) : Cnt L (lead 1 L) := by
  refine cnt_of fun hh => ?_
  rw [tellE, if_pos hh] at h
  cases h
theorem tell_cases (L : List Int) : (tellE L = 9 ∧ tellV L = 0) ∨ (tellE L = 0 ∧ Cnt L (lead 1 L) ∧ tellV L = lead 1 L) := by
  by_cases e : lead 0 (restL L) < (restL L).length
  · exact .inl ⟨by rw [tellE, if_pos e], by rw [tellV, if_pos e]⟩
  · exact .inr ⟨by rw [tellE, if_neg e], cnt_of e, by rw [tellV, if_neg e]⟩
/-- the sectors of a counter. -/
def regL (D : DS) (f n : Nat) : List Int := (D.data.drop (f * 128)).take n
/-- the sector that holds the byte v, with that byte counted. -/
def nextB (D : DS) (f v : Nat) : List Int := (secL D.data (f + v / 128)).set (v % 128) 1
/-- the disk behind a step. -/
def nextD (D : DS) (f v : Nat) : DS × Int := runD D (f + v / 128) (nextB D f v) 0 1
theorem nextD_eq (D : DS) (f v : Nat) : nextD D f v = (stepD D (f + v / 128) (secL (nextB D f v) 0), if (stepD D (f + v / 128) (secL (nextB D f v) 0)).off then 12 else 0) := by
  unfold nextD
  rw [runD, Nat.add_zero]
  cases (stepD D (f + v / 128) (secL (nextB D f v) 0)).off <;> rfl
end Go.Proofs.YtkjhoanlkkcfkaaGreatDoor.Epo
/- DERIVED. The contracts of epoch's functions on bytes: leading, only, valueOf. -/
namespace Go.Proofs.YtkjhoanlkkcfkaaGreatDoor.Epo
open Go.RowKit Dsk
theorem only_any (x : Int) (w : World) : Calls Tryz.prog 106 #[.int .u8 x] w fun e w' => e = .returned (.func (.func 124) #[] #[.pointer (some ⟨w.heap.size, 0, none⟩)]) ∧ w' = w.alloc (.cells #[.int .u8 x] 5) := by
  go_enter Tryz.func106, Tryz.ntmps106
  go_wp2
  go_ret
  exact ⟨rfl, rfl⟩
theorem only1_any (x y : Int) (g : Nat) (w : World) (hc : w.cell? ⟨g, 0, none⟩ = some (.int .u8 x)) : Calls Tryz.prog 124 #[.int .u8 y, .pointer (some ⟨g, 0, none⟩)] w fun e w' => e = .returned (.bool (decide (y = x))) ∧ w = w' := by
  by_cases e : y = x
  · subst e
    rw [decide_eq_true rfl]
    go_enter Tryz.func124, Tryz.ntmps124
    go_wp2
    go_ret
    simp
  · have hb : (y == x) = false := beq_eq_false_iff_ne.2 e
    rw [decide_eq_false e]
    go_enter Tryz.func124, Tryz.ntmps124
    go_wp2
    go_ret
    simp
set_option maxRecDepth 100000 in
theorem leading_any (x : Int) (g : Nat) (w : World) (hc : w.cell? ⟨g, 0, none⟩ = some (.int .u8 x)) (A : Option Addr) (c n : Nat) (L : List Int) (hB : Byt w A c L) (hn : L.length = n) (hmax : n ≤ 4194304) :
    Calls Tryz.prog 105 #[.slice A n c, .func (.func 124) #[] #[.pointer (some ⟨g, 0, none⟩)]] w fun e w' => e = .returned (.int .i64 (lead x L)) ∧ w = w' := by
  have HB := Lib.hid hB
  have Hn := Lib.hid hn
  have HC := Lib.hid hc
  have Hle := Lib.hid (lead_le x L)
  clear hB hn hc
  go_enter Tryz.func105, Tryz.ntmps105
  go_upto_region 2 with (fail)
  go_loopw [9] (fun v wr => ∃ k : Nat, k ≤ lead x L ∧ v = .int .i64 k ∧ wr = w) (fun v _ => n - (intOf v).toNat)
  case atStart => exact ⟨0, Nat.zero_le _, rfl, rfl⟩
  case round =>
    obtain ⟨k, hk, rfl, rfl⟩ := hrel
    by_cases hlt : k < n
    · have hltI : (k : Int) < (n : Int) := by omega
      obtain ⟨b, off, rfl, hb, hcell⟩ := HB.out.2.2 (by have := Hn.out; omega)
      have hck := hcell k (by have := Hn.out; omega)
      obtain ⟨y, hy⟩ : ∃ y, y = L.getD k 0 := ⟨_, rfl⟩
      rw [← hy] at hck
      have Hy := Lib.hid hy
      clear hcell hy hb
      by_cases e : y = x
      · have He := Lib.hid e
        have Hc := Lib.hid (only1_any x y g wr HC.out)
        rw [decide_eq_true e] at Hc
        clear e
        go_wp2_with (go_at_call 124; refine Hc.out.mono ?_; rintro e w' ⟨rfl, rfl⟩)
        refine ⟨⟨k + 1, ?_, by go_num, trivial⟩, by simp [intOf]; omega⟩
        rcases Nat.lt_or_ge k (lead x L) with h | h
        · omega
        · have e1 : lead x L = k := by omega
          have := lead_stop x L (by have := Hn.out; omega)
          rw [e1, ← Hy.out] at this
          exact absurd He.out this
      · have He := Lib.hid e
        have Hc := Lib.hid (only1_any x y g wr HC.out)
        rw [decide_eq_false e] at Hc
        clear e
        go_wp2_with (go_at_call 124; refine Hc.out.mono ?_; rintro e w' ⟨rfl, rfl⟩)
        go_ret
        refine ⟨?_, rfl⟩
        have e1 : lead x L = k := by
          rcases Nat.lt_or_ge k (lead x L) with h | h
          · have := lead_get x L k h
            rw [← Hy.out] at this
            exact absurd this He.out
          · omega
        rw [e1]
        rfl
    · have hltI : ¬ (k : Int) < (n : Int) := by omega
      go_wp2
      go_ret
      refine ⟨?_, rfl⟩
      have := Hle.out
      have := Hn.out
      rw [show lead x L = n by omega]
      rfl
theorem byt_from {w : World} {g off c n : Nat} {L : List Int} (h : Byt w (some ⟨g, off, none⟩) c L) (hn : L.length = n) (p : Nat) (hp : p ≤ n) : Byt w (if c = p then some ⟨g, 0, none⟩ else some ⟨g, off + p, none⟩) (c - p) (L.drop p) := by
  have h1 := h.1
  refine ⟨by rw [List.length_drop]; omega, (fun h => by split at h <;> cases h), fun hl => ?_⟩
  rw [List.length_drop] at hl
  obtain ⟨g', o', e', hlt, hb⟩ := h.2.2 (by omega)
  cases e'
  rw [if_neg (by omega)]
  refine ⟨g, off + p, rfl, hlt, fun j hj => ?_⟩
  rw [List.length_drop] at hj
  rw [Nat.add_assoc, hb _ (by omega), getD_drop'']
set_option maxRecDepth 100000 in
theorem valueOf_any (w : World) (g c n : Nat) (L : List Int) (hB : Byt w (some ⟨g, 0, none⟩) c L) (hn : L.length = n) (hmax : n ≤ 4194304) :
    Calls Tryz.prog 78 #[.slice (some ⟨g, 0, none⟩) n c] w fun e w' => e = .returned (.tuple #[.int .i64 (tellV L), .int .i64 (tellE L)]) ∧ Below w.heap.size w w' := by
  have hl1 : Below w.heap.size w (w.alloc (.cells #[.int .u8 1] 5)) := (Below.refl _ _).alloc (Nat.le_refl _) _
  have k1 : (w.alloc (.cells #[.int .u8 1] 5)).cell? ⟨w.heap.size, 0, none⟩ = some (.int .u8 1) := cell_row (Go.heap_alloc_new w _) 0
  obtain ⟨w1, hw1⟩ : ∃ w1, w1 = w.alloc (.cells #[.int .u8 1] 5) := ⟨_, rfl⟩
  rw [← hw1] at hl1 k1
  have Hw1 := Lib.hid hw1.symm
  have H1 := Lib.hid (leading_any 1 _ w1 k1 (some ⟨g, 0, none⟩) c n L (hB.below hl1 (Nat.le_refl _)) hn hmax)
  obtain ⟨p, hp⟩ : ∃ p, p = lead 1 L := ⟨_, rfl⟩
  have hpn : p ≤ n := by rw [hp, ← hn]; exact lead_le 1 L
  have hcn : n ≤ c := by rw [← hn]; exact hB.1
  have hB2 := byt_from hB hn p hpn
  have hl2 : Below w1.heap.size w1 (w1.alloc (.cells #[.int .u8 0] 5)) := (Below.refl _ _).alloc (Nat.le_refl _) _
  have k2 : (w1.alloc (.cells #[.int .u8 0] 5)).cell? ⟨w1.heap.size, 0, none⟩ = some (.int .u8 0) := cell_row (Go.heap_alloc_new w1 _) 0
  obtain ⟨w2, hw2⟩ : ∃ w2, w2 = w1.alloc (.cells #[.int .u8 0] 5) := ⟨_, rfl⟩
  rw [← hw2] at hl2 k2
  have Hw2 := Lib.hid hw2.symm
  have hl12 := hl1.trans (hl2.mono hl1.size)
  have H2 := Lib.hid (leading_any 0 _ w2 k2 _ (c - p) (n - p) (L.drop p) (hB2.below hl12 (Nat.le_refl _)) (by rw [List.length_drop, hn]) (by omega))
  have Low := Lib.hid hl12
  rw [← hp] at H1
  have hr : restL L = L.drop p := by rw [restL, hp]
  have hrl : (restL L).length = n - p := by rw [hr, List.length_drop, hn]
  rw [tellV, tellE, hrl, ← hp]
  rw [← hr] at H2
  obtain ⟨q, hq⟩ : ∃ q, q = lead 0 (restL L) := ⟨_, rfl⟩
  rw [← hq] at H2 ⊢
  have O1 : Hid (Calls Tryz.prog 106 #[.int .u8 1] w fun e w' => e = .returned (.func (.func 124) #[] #[.pointer (some ⟨w.heap.size, 0, none⟩)]) ∧ w' = w1) := (only_any 1 w).mono (fun e w' h => ⟨h.1, h.2.trans Hw1.out⟩)
  have O2 : Hid (Calls Tryz.prog 106 #[.int .u8 0] w1 fun e w' => e = .returned (.func (.func 124) #[] #[.pointer (some ⟨w1.heap.size, 0, none⟩)]) ∧ w' = w2) := (only_any 0 w1).mono (fun e w' h => ⟨h.1, h.2.trans Hw2.out⟩)
  obtain ⟨b1, hb1⟩ : ∃ b, b = w.heap.size := ⟨_, rfl⟩
  obtain ⟨b2, hb2⟩ : ∃ b, b = w1.heap.size := ⟨_, rfl⟩
  rw [← hb1] at H1 O1
  rw [← hb2] at H2 O2
  clear hB hB2 hn hp hr hrl hq hl1 hl2 hl12 k1 k2 hw1 hw2 hb1 hb2 Hw1 Hw2
  by_cases e : c = p
  · have hpn' : p = n := by omega
    rw [if_pos e, show n - p = 0 by omega, show c - p = 0 by omega] at H2
    rw [if_neg (by omega), if_neg (by omega)]
    subst e hpn'
    have hqI : ¬ (q : Int) < 0 := by omega
    go_enter Tryz.func78, Tryz.ntmps78
    go_wp2_with (first
      | (go_at_call 106; with_reducible refine O1.out.mono ?_; rintro e w' ⟨rfl, rfl⟩)
      | (go_at_call 106; with_reducible refine O2.out.mono ?_; rintro e w' ⟨rfl, rfl⟩)
      | (go_at_call 105; with_reducible refine H1.out.mono ?_; rintro e w' ⟨rfl, rfl⟩)
      | (go_at_call 105; with_reducible refine H2.out.mono ?_; rintro e w' ⟨rfl, rfl⟩))
    go_ret2
    exact ⟨rfl, Low.out⟩
  · rw [if_neg e, Nat.zero_add] at H2
    obtain ⟨m, hm⟩ : ∃ m, m = n - p := ⟨_, rfl⟩
    obtain ⟨d, hd⟩ : ∃ d, d = c - p := ⟨_, rfl⟩
    have Hd := Lib.hid hd
    have Hm := Lib.hid hm
    by_cases hqn : q < n - p
    · rw [if_pos hqn, if_pos hqn]
      have hqI : (q : Int) < ((n - p : Nat) : Int) := by omega
      clear hd hm
      go_enter Tryz.func78, Tryz.ntmps78
      go_wp2_with (first
        | (go_at_call 106; with_reducible refine O1.out.mono ?_; rintro e w' ⟨rfl, rfl⟩)
        | (go_at_call 106; with_reducible refine O2.out.mono ?_; rintro e w' ⟨rfl, rfl⟩)
        | (go_at_call 105; with_reducible refine H1.out.mono ?_; rintro e w' ⟨rfl, rfl⟩)
        | (go_at_call 105; with_reducible refine H2.out.mono ?_; rintro e w' ⟨rfl, rfl⟩))
      go_ret2
      exact ⟨rfl, Low.out⟩
    · rw [if_neg hqn, if_neg hqn]
      have hqI : ¬ (q : Int) < ((n - p : Nat) : Int) := by omega
      clear hd hm
      go_enter Tryz.func78, Tryz.ntmps78
      go_wp2_with (first
        | (go_at_call 106; with_reducible refine O1.out.mono ?_; rintro e w' ⟨rfl, rfl⟩)
        | (go_at_call 106; with_reducible refine O2.out.mono ?_; rintro e w' ⟨rfl, rfl⟩)
        | (go_at_call 105; with_reducible refine H1.out.mono ?_; rintro e w' ⟨rfl, rfl⟩)
        | (go_at_call 105; with_reducible refine H2.out.mono ?_; rintro e w' ⟨rfl, rfl⟩))
      go_ret2
      exact ⟨rfl, Low.out⟩
end Go.Proofs.YtkjhoanlkkcfkaaGreatDoor.Epo
