/- DERIVED. A segment's disk on lists: what openings and appends leave, whatever write is cut. No program. -/
import Derived.Test.YtkjhoanlkkcfkaaGreatDoorSgmAppend
namespace Go.Proofs.YtkjhoanlkkcfkaaGreatDoor.Sgm
open Go.RowKit Dsk Slt Epo
/-- the disk holds a segment's counter, at v, and these records. -/
structure DG (D : DS) (k C : List Int) (v : Nat) (R : List (List Int × Nat)) : Prop where
  n9 : 9 ≤ D.secs
  w128 : D.data.length = D.secs * 128
  cnt : Cnt (regL D 0 1024) v
  ris : Ris v 1 R
  log : ∃ u, LogAt (reg D 8 (D.secs - 8)) (sealsL k C 0 R) u
theorem logL_reg (D : DS) : logL D = reg D 8 (D.secs - 8) := rfl
/-- a segment that is open. -/
structure SGd (D : DS) (S : LS) (V : GV) (R : List (List Int × Nat)) : Prop where
  dg : DG D V.key V.C V.ep R
  from_ : S.from_ = 8
  secs : S.secs = D.secs - 8
  txs : S.texts = sealsL V.key V.C 0 R
  T : V.T = R.map (·.1)
  log : LogAt (reg D 8 (D.secs - 8)) S.texts S.used
  slost : S.lost = false
  vlost : V.lost = false
  off : D.off = false
  ep : V.ep ≠ 0
/-- what an opening finds. -/
theorem open_good {D : DS} {k C : List Int} {v : Nat} {R : List (List Int × Nat)} (h : DG D k C v R) (hv : v < 1024) (ho : D.off = false) (hl : D.laid = false) {cs : List (List Int)} {Rr : List Int} {e : Bool} (hr : Reads (logL D) cs Rr e) :
    opnX D k C cs e = 0 ∧ opnR D k C cs = some (R.map (·.1)) ∧ cs.map textC = sealsL k C 0 R ∧ nxtP D (vD D) = v + 1 ∧ (opnD D k C cs e).off = false ∧ (opnD D k C cs e).laid = false ∧ (opnD D k C cs e).writes ≤ D.writes + 1 ∧ ∀ V : GV, V = ⟨k, C, v + 1, R.map (·.1), false⟩ → SGd (opnD D k C cs e) (logS D cs) V R := by
  obtain ⟨u, hu⟩ := h.log
  rw [← logL_reg] at hu
  obtain ⟨rfl, hcs, hus⟩ := log_reads hu hr
  have hvD : vD D = v := h.cnt.lead1
  have hx0 : xs0 D = 0 := by unfold xs0; rw [ho, if_neg (by decide)]; exact h.cnt.te
  have hR : opnR D k C cs = some (R.map (·.1)) := by
    unfold opnR
    rw [hvD, hcs]
    exact opens_seals k C v (by omega) R 0 1 h.ris
  have hx2 : xs2 (opnR D k C cs) = 0 := by rw [hR]; rfl
  have hdue : D.due = false := by unfold DS.due; rw [hl]; rfl
  have hN := next_q D 0 v ho (by have := h.w128; have := h.n9; omega)
  obtain ⟨y1, y2, y3, _, _⟩ := hN.yes hdue
  obtain ⟨e1, e2⟩ := opn_x3 (e := false) hx0 rfl hx2
  have hne : ¬ v = 1024 := by omega
  have hnE : nxtE D (vD D) = 0 := by unfold nxtE; rw [hvD, if_neg hne]; exact y1
  have hnD : nxtD D (vD D) = (nextD D 0 v).1 := by unfold nxtD; rw [hvD, if_neg hne]
  have hnP : nxtP D (vD D) = v + 1 := by unfold nxtP; rw [hvD, if_neg hne, if_pos y1]
  have hdata : 9 * 128 ≤ D.data.length := by have := h.w128; have := h.n9; omega
  have hsec : (nextD D 0 v).1.secs = D.secs := by unfold DS.secs; rw [hN.len]
  have hreg : reg (nextD D 0 v).1 8 (D.secs - 8) = reg D 8 (D.secs - 8) := by
    have hw := h.w128
    refine list_eq (by rw [Slt.reg_len (by rw [hN.len]; omega), Slt.reg_len (by omega)]) (fun j hj => ?_)
    rw [Slt.reg_len (by rw [hN.len]; omega)] at hj
    rw [Slt.reg_get hj, Slt.reg_get hj, hN.at_, if_neg (by omega)]
  have hcnt : Cnt (regL (nextD D 0 v).1 0 1024) (v + 1) := by
    have := hN.cnt (n := 1024) (by omega) (by omega) h.cnt
    rwa [if_pos (.inl hdue)] at this
  refine ⟨by rw [e1]; exact hnE, hR, hcs, hnP, by rw [e2, hnD]; exact y2, by rw [e2, hnD, y3]; exact hl, by rw [e2, hnD, hN.wr]; exact Int.le_refl _, ?_⟩
  rintro V rfl
  rw [e2, hnD]
  refine ⟨⟨by rw [hsec]; exact h.n9, by rw [hN.len, hsec]; exact h.w128, hcnt, h.ris.mono (by show v ≤ v + 1; omega), ⟨u, by rw [hsec, hreg]; exact hu⟩⟩, rfl, by rw [hsec]; rfl, hcs, rfl, ?_, rfl, rfl, y2, by simp⟩
  rw [hsec, hreg]
  show LogAt _ (cs.map textC) (useR cs (List.range cs.length))
  rw [hcs, hus]
  exact hu
/-- bytes ahead of what an append writes stay. -/
theorem app_ahead {D : DS} {S : LS} {t : List Int} (hend : (S.from_ + S.secs) * 128 ≤ D.data.length) (hfit : S.used + tk t.length ≤ S.secs) (ho : D.off = false) (hlost : S.lost = false) (ht : t.length ≤ 262144) : ∀ j, j < S.from_ * 128 → (appD D S t).1.data.getD j 0 = D.data.getD j 0 := by
  intro j hj
  have hk := run_first (k := firstK t.length (S.secs - S.used)) (n := t.length) (F := S.secs - S.used) (by omega) rfl
  have hkv : firstK t.length (S.secs - S.used) = min (tk t.length + 1) (S.secs - S.used) := rfl
  obtain ⟨k, hke⟩ : ∃ k, k = firstK t.length (S.secs - S.used) := ⟨_, rfl⟩
  have htp := tk_pos t.length
  have htf := tk_fit t.length
  have hD : (appD D S t).1 = (writD D (S.from_ + S.used) t k).1 := by
    unfold appD
    rw [if_neg (by rw [hlost, ho]; simp), if_neg (by omega), if_neg (by omega), ← hke]
    split <;> rfl
  rw [hD]
  have hsl : (slotB 0 t k).length = k * 128 := slotB_len _ _ _ (by rw [hke, hkv]; omega)
  have h1 := weak_run (S.from_ + S.used) (slotB 0 t k) k 0 D ho (by rw [hke, hkv]; omega) (by omega)
  have hq1 := run_q (S.from_ + S.used) (slotB 0 t k) k 0 D ho (by rw [hke, hkv]; omega) (by omega)
  unfold writD
  split
  · rename_i h0
    have h2 := weak_run (S.from_ + S.used) ((slotB 1 t k).take 128) 1 0 (runD D (S.from_ + S.used) (slotB 0 t k) 0 k).1 (hq1.on h0) (by rw [hq1.len]; omega) (by rw [take128_len _ _ _ (by rw [hke, hkv]; omega)]; omega)
    rw [h2.out j (.inl (by omega)), h1.out j (.inl (by omega))]
  · rw [h1.out j (.inl (by omega))]
/-- a disk without a cut. -/
theorem step_calm (D : DS) (k : Nat) (b : List Int) (hl : D.laid = false) : (stepD D k b).off = D.off ∧ (stepD D k b).laid = false := by
  have hdue : D.due = false := by unfold DS.due; rw [hl]; rfl
  unfold stepD
  rw [hdue]
  exact ⟨rfl, hl⟩
theorem run_calm (k : Nat) (b : List Int) : ∀ (n i : Nat) (D : DS), D.laid = false → D.off = false → (runD D k b i n).1.off = false ∧ (runD D k b i n).1.laid = false ∧ (runD D k b i n).2 = 0 := by
  intro n
  induction n with
  | zero => intro i D hl ho; exact ⟨ho, hl, rfl⟩
  | succ n ih =>
    intro i D hl ho
    obtain ⟨h1, h2⟩ := step_calm D (k + i) (secL b i) hl
    rw [ho] at h1
    rw [run_on h1]
    exact ih (i + 1) _ h2 h1
theorem app_calm {D : DS} {S : LS} {t : List Int} (hl : D.laid = false) (ho : D.off = false) (hfit : S.used + tk t.length ≤ S.secs) (hlost : S.lost = false) (ht : t.length ≤ 262144) : (appD D S t).2.2 = 0 ∧ (appD D S t).1.laid = false := by
  obtain ⟨k, hke⟩ : ∃ k, k = firstK t.length (S.secs - S.used) := ⟨_, rfl⟩
  have h1 := run_calm (S.from_ + S.used) (slotB 0 t k) k 0 D hl ho
  have h2 := run_calm (S.from_ + S.used) ((slotB 1 t k).take 128) 1 0 (runD D (S.from_ + S.used) (slotB 0 t k) 0 k).1 h1.2.1 h1.1
  have hw : writD D (S.from_ + S.used) t k = runD (runD D (S.from_ + S.used) (slotB 0 t k) 0 k).1 (S.from_ + S.used) ((slotB 1 t k).take 128) 0 1 := writD_yes h1.2.2
  unfold appD
  rw [if_neg (by rw [hlost, ho]; simp), if_neg (by omega), if_neg (by omega), ← hke, hw, if_pos h2.2.2]
  exact ⟨rfl, h2.2.1⟩
/-- what an append leaves. -/
theorem app_good {D : DS} {S : LS} {V : GV} {R : List (List Int × Nat)} {t : List Int} (h : SGd D S V R) (ht : InB t) (hl : t.length ≤ 131068) (hep : V.ep < 4294967296) :
    (appG D S V t).1.secs = D.secs ∧ (appG D S V t).1.writes ≤ D.writes + 2100 ∧
    (((appG D S V t).2.2.2 = 7 ∧ (appG D S V t).1 = D ∧ (appG D S V t).2.1 = S ∧ (appG D S V t).2.2.1 = V) ∨
     ((appG D S V t).2.2.2 = 0 ∧ SGd (appG D S V t).1 (appG D S V t).2.1 (appG D S V t).2.2.1 (R ++ [(t, V.ep)]) ∧ (appG D S V t).2.2.1 = { V with T := V.T ++ [t] }) ∨
     ((appG D S V t).2.2.2 = 12 ∧ (appG D S V t).2.2.1 = { V with lost := true } ∧ (DG (appG D S V t).1 V.key V.C V.ep R ∨ DG (appG D S V t).1 V.key V.C V.ep (R ++ [(t, V.ep)])))) := by
  by_cases hx : refX D S V t.length = 0
  rotate_left
  · rw [appG_ref hx]
    have h7 : refX D S V t.length = 7 := by
      unfold refX at hx ⊢
      rw [if_neg h.ep, if_neg (by omega), if_neg (by rw [h.vlost, h.off]; simp)] at hx ⊢
      split
      · rfl
      · rename_i h2; rw [if_neg h2] at hx; exact absurd rfl hx
    exact ⟨rfl, by show D.writes ≤ _; omega, .inl ⟨h7, rfl, rfl, rfl⟩⟩
  · obtain ⟨_, r2, _, _, r5⟩ := ref_zero hx
    have hrl : (recL V t).length = 36 + Seal.bkt t.length := Seal.sealL_length _ _ _ _ r2
    have hbl := Seal.bkt_le r2
    have hfr := (roomL_iff (roomI (S.secs - S.used)) t.length r2).1 r5
    have hF : 36 + Seal.bkt t.length + 5 ≤ (S.secs - S.used) * 128 := by
      unfold roomI at hfr
      split at hfr
      · omega
      · split at hfr <;> omega
    have hfit : S.used + tk (recL V t).length ≤ S.secs := by rw [hrl]; unfold tk; omega
    have hw := h.dg.w128
    have h9 := h.dg.n9
    have hend : (S.from_ + S.secs) * 128 ≤ D.data.length := by rw [h.from_, h.secs]; omega
    have hA := app_log (t := recL V t) (by rw [h.from_, h.secs]; exact h.log) h.slost h.off hend (by omega) hfit
    have hah := app_ahead (t := recL V t) hend hfit h.off h.slost (by omega)
    rw [h.from_] at hah
    obtain ⟨hlen, hwr, hget⟩ := hA
    rw [h.from_, h.secs] at hget
    have hsec : (appD D S (recL V t)).1.secs = D.secs := by unfold DS.secs; rw [hlen]
    have hcnt : Cnt (regL (appD D S (recL V t)).1 0 1024) V.ep := by
      have hc := h.dg.cnt
      rw [Epo.cnt_reg (by omega)] at hc
      rw [Epo.cnt_reg (by rw [hlen]; omega)]
      exact ⟨hc.1, fun j hj => by rw [hah _ (by omega)]; exact hc.2 j hj⟩
    have hsn : S.texts ++ [recL V t] = sealsL V.key V.C 0 (R ++ [(t, V.ep)]) := by
      rw [seals_snoc, h.txs, Nat.zero_add]
      unfold recL
      rw [h.T, List.length_map]
    have hris : Ris V.ep 1 (R ++ [(t, V.ep)]) := Ris.snoc ht r2 (by have := h.ep; omega) h.dg.ris
    have hwr2 : (appD D S (recL V t)).1.writes ≤ D.writes + 2100 := by
      have : tk (recL V t).length ≤ 1100 := by rw [hrl]; unfold tk; omega
      omega
    have hdg : ∀ (R' : List (List Int × Nat)) (u : Nat), Ris V.ep 1 R' → LogAt (reg (appD D S (recL V t)).1 8 (D.secs - 8)) (sealsL V.key V.C 0 R') u → DG (appD D S (recL V t)).1 V.key V.C V.ep R' := fun R' u h1 h2 =>
      ⟨by rw [hsec]; exact h9, by rw [hlen, hsec]; exact hw, hcnt, h1, u, by rw [hsec]; exact h2⟩
    rcases hget with ⟨g1, g2, g3, g4⟩ | ⟨g1, g2, g3, g4⟩
    · rw [appG_ok hx g1]
      rw [hsn] at g4
      refine ⟨hsec, hwr2, .inr (.inl ⟨rfl, ?_, rfl⟩)⟩
      refine ⟨hdg _ _ hris g4, by rw [g3], by rw [g3, hsec], by rw [g3]; exact hsn, by show V.T ++ [t] = _; rw [h.T, List.map_append]; rfl, ?_, by rw [g3]; exact h.slost, h.vlost, g2, h.ep⟩
      rw [hsec, g3]
      show LogAt _ (S.texts ++ [recL V t]) _
      rw [hsn]
      exact g4
    · have hne : (appD D S (recL V t)).2.2 ≠ 0 := by rw [g1]; decide
      rw [appG_no hx hne]
      refine ⟨hsec, hwr2, .inr (.inr ⟨g1, rfl, ?_⟩)⟩
      rcases g4 with g4 | g4
      · left
        rw [h.txs] at g4
        exact hdg _ _ h.dg.ris g4
      · right
        rw [hsn] at g4
        exact hdg _ _ hris g4
/-- without a cut an append that fits goes through. -/
theorem app_good_calm {D : DS} {S : LS} {V : GV} {R : List (List Int × Nat)} {t : List Int} (h : SGd D S V R) (hc : D.laid = false) (hx : refX D S V t.length = 0) : (appG D S V t).2.2.2 = 0 ∧ (appG D S V t).1.laid = false := by
  obtain ⟨_, r2, _, _, r5⟩ := ref_zero hx
  have hrl : (recL V t).length = 36 + Seal.bkt t.length := Seal.sealL_length _ _ _ _ r2
  have hbl := Seal.bkt_le r2
  have hfr := (roomL_iff (roomI (S.secs - S.used)) t.length r2).1 r5
  have hF : 36 + Seal.bkt t.length + 5 ≤ (S.secs - S.used) * 128 := by
    unfold roomI at hfr
    split at hfr
    · omega
    · split at hfr <;> omega
  have hfit : S.used + tk (recL V t).length ≤ S.secs := by rw [hrl]; unfold tk; omega
  obtain ⟨h1, h2⟩ := app_calm (t := recL V t) hc h.off hfit h.slost (by omega)
  rw [appG_ok hx h1]
  exact ⟨rfl, h2⟩
theorem new_good (n : Nat) (hn : 9 ≤ n) (k C : List Int) : DG (newD n) k C 0 [] := by
  have hs : (newD n).secs = n := by simp [newD, DS.secs]
  refine ⟨by rw [hs]; exact hn, by rw [hs]; simp [newD], ?_, trivial, 0, ?_⟩
  · rw [Epo.cnt_reg (by simp [newD]; omega)]
    refine ⟨Nat.zero_le _, fun j hj => ?_⟩
    rw [if_neg (Nat.not_lt_zero _)]
    simp only [newD, List.getD_eq_getElem?_getD, List.getElem?_replicate]
    split <;> rfl
  · rw [hs]
    have : reg (newD n) 8 (n - 8) = List.replicate ((n - 8) * 128) 0 := by
      unfold reg newD
      rw [List.drop_replicate, List.take_replicate]
      congr 1
      omega
    rw [this]
    exact log_empty _
end Go.Proofs.YtkjhoanlkkcfkaaGreatDoor.Sgm
