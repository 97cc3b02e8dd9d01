/- DERIVED. What a segment's appends leave of a disk's bytes where no write is cut; two segments in step. No program. -/
import Derived.Test.YtkjhoanlkkcfkaaGreatDoorSgmGood
namespace Go.Proofs.YtkjhoanlkkcfkaaGreatDoor.Sgm
open Go.RowKit Dsk Slt Epo
theorem bsec_get (b : List Int) (i x : Nat) (h : x < 128) : (secL b i).getD x 0 = b.getD (i * 128 + x) 0 := by
  unfold secL
  rw [getD_take' h, getD_drop']
theorem run_get (k : Nat) (b : List Int) : ∀ (n i : Nat) (D : DS), D.laid = false → D.off = false → (k + i + n) * 128 ≤ D.data.length → (i + n) * 128 ≤ b.length →
    (runD D k b i n).1.data.length = D.data.length ∧ ∀ j, (runD D k b i n).1.data.getD j 0 = if (k + i) * 128 ≤ j ∧ j < (k + i + n) * 128 then b.getD (j - k * 128) 0 else D.data.getD j 0 := by
  intro n
  induction n with
  | zero =>
    intro i D _ _ _ _
    exact ⟨rfl, fun j => by rw [if_neg (by omega)]; rfl⟩
  | succ n ih =>
    intro i D hl ho hd hb
    obtain ⟨h1, h2⟩ := step_calm D (k + i) (secL b i) hl
    rw [ho] at h1
    have hdue : D.due = false := by unfold DS.due; rw [hl]; rfl
    have hs := secL_len b i (by omega)
    have hdat : (stepD D (k + i) (secL b i)).data = splice D.data ((k + i) * 128) (secL b i) := by unfold stepD; rw [hdue]; rfl
    have hlen : (stepD D (k + i) (secL b i)).data.length = D.data.length := by rw [hdat]; exact splice_len _ _ _ (by rw [hs]; omega)
    rw [run_on h1]
    obtain ⟨q1, q2⟩ := ih (i + 1) _ h2 h1 (by rw [hlen]; omega) (by omega)
    refine ⟨q1.trans hlen, fun j => ?_⟩
    rw [q2, hdat, splice_getD _ _ _ (by rw [hs]; omega), hs]
    by_cases c1 : (k + (i + 1)) * 128 ≤ j ∧ j < (k + (i + 1) + n) * 128
    · rw [if_pos c1, if_pos (by omega)]
    · rw [if_neg c1]
      by_cases c2 : j < (k + i) * 128
      · rw [if_pos c2, if_neg (by omega)]
      · rw [if_neg c2]
        by_cases c3 : j < (k + i) * 128 + 128
        · rw [if_pos c3, if_pos (by omega), bsec_get _ _ _ (by omega)]
          congr 1
          omega
        · rw [if_neg c3, if_neg (by omega)]
theorem slot_get (m : Int) (t : List Int) (k x : Nat) : (slotB m t k).getD x 0 = if x = 0 then m else if x < 5 then (be4 t.length).getD (x - 1) 0 else if x < 5 + t.length then t.getD (x - 5) 0 else 0 := by
  unfold slotB
  cases x with
  | zero => rfl
  | succ x =>
    rw [if_neg (by omega), List.getD_cons_succ]
    have h4 : (be4 t.length).length = 4 := rfl
    by_cases h1 : x < 4
    · rw [getD_append_lt (by rw [h4]; exact h1), if_pos (by omega)]; rfl
    · rw [getD_append_ge (by rw [h4]; omega), h4, if_neg (by omega)]
      by_cases h2 : x - 4 < t.length
      · rw [getD_append_lt h2, if_pos (by omega)]
        congr 1
      · rw [getD_append_ge (by omega), if_neg (by omega)]
        simp only [List.getD_eq_getElem?_getD, List.getElem?_replicate]
        split <;> rfl
/-- the bytes behind an append that goes through. -/
theorem app_get {D : DS} {S : LS} {t : List Int} (hl : D.laid = false) (ho : D.off = false) (hfit : S.used + tk t.length ≤ S.secs) (hlost : S.lost = false) (ht : t.length ≤ 262144) (hend : (S.from_ + S.secs) * 128 ≤ D.data.length) :
    (appD D S t).1.data.length = D.data.length ∧ ∀ j, (appD D S t).1.data.getD j 0 = if (S.from_ + S.used) * 128 ≤ j ∧ j < (S.from_ + S.used + firstK t.length (S.secs - S.used)) * 128 then (slotB 1 t (firstK t.length (S.secs - S.used))).getD (j - (S.from_ + S.used) * 128) 0 else D.data.getD j 0 := by
  have hk := run_first (k := firstK t.length (S.secs - S.used)) (n := t.length) (F := S.secs - S.used) (by omega) rfl
  obtain ⟨k, hke⟩ : ∃ k, k = firstK t.length (S.secs - S.used) := ⟨_, rfl⟩
  rw [← hke] at hk ⊢
  have htp := tk_pos t.length
  have hsl0 : (slotB 0 t k).length = k * 128 := slotB_len _ _ _ (by omega)
  have hsl1 : (slotB 1 t k).length = k * 128 := slotB_len _ _ _ (by omega)
  have h1 := run_calm (S.from_ + S.used) (slotB 0 t k) k 0 D hl ho
  have hw : writD D (S.from_ + S.used) t k = runD (runD D (S.from_ + S.used) (slotB 0 t k) 0 k).1 (S.from_ + S.used) ((slotB 1 t k).take 128) 0 1 := writD_yes h1.2.2
  have hD : (appD D S t).1 = (writD D (S.from_ + S.used) t k).1 := by
    unfold appD
    rw [if_neg (by rw [hlost, ho]; simp), if_neg (by omega), if_neg (by omega), ← hke]
    split <;> rfl
  obtain ⟨a1, a2⟩ := run_get (S.from_ + S.used) (slotB 0 t k) k 0 D hl ho (by omega) (by omega)
  obtain ⟨b1, b2⟩ := run_get (S.from_ + S.used) ((slotB 1 t k).take 128) 1 0 _ h1.2.1 h1.1 (by rw [a1]; omega) (by rw [List.length_take, hsl1]; omega)
  rw [hD, hw]
  refine ⟨b1.trans a1, fun j => ?_⟩
  rw [b2, a2]
  simp only [Nat.add_zero]
  by_cases c1 : (S.from_ + S.used) * 128 ≤ j ∧ j < (S.from_ + S.used + 1) * 128
  · rw [if_pos c1, if_pos (by omega), getD_take' (by omega)]
  · rw [if_neg c1]
    by_cases c2 : (S.from_ + S.used) * 128 ≤ j ∧ j < (S.from_ + S.used + k) * 128
    · have e0 : ¬ j - (S.from_ + S.used) * 128 = 0 := by omega
      rw [if_pos c2, if_pos c2, slot_get, slot_get, if_neg e0, if_neg e0]
    · rw [if_neg c2, if_neg c2]
/-- slots of so many sectors. -/
def usd : List Nat → Nat
  | [] => 0
  | b :: bs => tk (36 + b) + usd bs
theorem usd_snoc : ∀ (bs : List Nat) (b : Nat), usd (bs ++ [b]) = usd bs + tk (36 + b)
  | [], b => by simp [usd]
  | c :: bs, b => by rw [List.cons_append, usd, usd_snoc bs b, usd]; omega
/-- is a byte of a record's body or tag? -/
def inZ : Nat → List Nat → Nat → Prop
  | _, [], _ => False
  | a, b :: bs, j => (a + 9 ≤ j ∧ j < a + 41 + b) ∨ inZ (a + tk (36 + b) * 128) bs j
theorem inZ_snoc : ∀ (bs : List Nat) (a b j : Nat), inZ a (bs ++ [b]) j ↔ inZ a bs j ∨ (a + usd bs * 128 + 9 ≤ j ∧ j < a + usd bs * 128 + 41 + b)
  | [], a, b, j => by simp [inZ, usd]
  | c :: bs, a, b, j => by
    rw [List.cons_append, inZ, inZ_snoc bs, inZ, usd]
    have e : a + tk (36 + c) * 128 + usd bs * 128 = a + (tk (36 + c) + usd bs) * 128 := by rw [Nat.add_mul]; omega
    rw [e, or_assoc]
/-- two segments in step. -/
structure ST (D : DS) (S : LS) (V : GV) (R : List (List Int × Nat)) (E : DS) (T : LS) (U : GV) (Q : List (List Int × Nat)) (bs : List Nat) : Prop where
  g1 : SGd D S V R
  g2 : SGd E T U Q
  l1 : D.laid = false
  l2 : E.laid = false
  ep : V.ep = U.ep
  e32 : V.ep < 4294967296
  b1 : R.map (fun x => Seal.bkt x.1.length) = bs
  b2 : Q.map (fun x => Seal.bkt x.1.length) = bs
  u1 : S.used = usd bs
  u2 : T.used = usd bs
  len : D.data.length = E.data.length
  same : ∀ j, ¬ inZ 1024 bs j → D.data.getD j 0 = E.data.getD j 0
  z1 : ∀ j, (8 + usd bs) * 128 ≤ j → D.data.getD j 0 = 0
  z2 : ∀ j, (8 + usd bs) * 128 ≤ j → E.data.getD j 0 = 0
theorem rec_take (V : GV) (t : List Int) (x : Nat) (h : x < 4) : (recL V t).getD x 0 = (Seal.numL V.ep 4).getD x 0 := by
  unfold recL Seal.sealL
  rw [List.append_assoc, getD_append_lt (by rw [Seal.numL_length]; exact h)]
theorem ref_form {D : DS} {S : LS} {V : GV} {R : List (List Int × Nat)} (h : SGd D S V R) {m : Nat} (hm : m ≤ 131068) : refX D S V m = if roomG S < (m : Int) then 7 else 0 := by
  unfold refX
  rw [if_neg h.ep, if_neg (by omega), if_neg (by rw [h.vlost, h.off]; simp)]
theorem ST.fit {D : DS} {S : LS} {V : GV} {R : List (List Int × Nat)} {E : DS} {T : LS} {U : GV} {Q : List (List Int × Nat)} {bs : List Nat} (h : ST D S V R E T U Q bs) {m n : Nat} (hm : m ≤ 131068) (hn : n ≤ 131068) (hb : Seal.bkt m = Seal.bkt n) : refX D S V m = refX E T U n := by
  have hs : roomI (S.secs - S.used) = roomI (T.secs - T.used) := by
    rw [h.u1, h.u2, h.g1.secs, h.g2.secs]
    unfold DS.secs
    rw [h.len]
  rw [ref_form h.g1 hm, ref_form h.g2 hn]
  have i1 := roomL_iff (roomI (S.secs - S.used)) m hm
  have i2 := roomL_iff (roomI (T.secs - T.used)) n hn
  rw [← hs, ← hb] at i2
  have e : (roomG S < (m : Int)) ↔ (roomG T < (n : Int)) := by
    unfold roomG
    rw [← hs]
    omega
  by_cases c : roomG S < (m : Int)
  · rw [if_pos c, if_pos (e.1 c)]
  · rw [if_neg c, if_neg (fun h => c (e.2 h))]
theorem fit_used {D : DS} {S : LS} {V : GV} {m : Nat} (hx : refX D S V m = 0) : S.used + tk (36 + Seal.bkt m) ≤ S.secs ∧ m ≤ 131068 := by
  obtain ⟨_, r2, _, _, r5⟩ := ref_zero hx
  have hbl := Seal.bkt_le r2
  have hfr := (roomL_iff (roomI (S.secs - S.used)) m r2).1 r5
  have hF : 36 + Seal.bkt m + 5 ≤ (S.secs - S.used) * 128 := by
    unfold roomI at hfr
    split at hfr
    · omega
    · split at hfr <;> omega
  exact ⟨by unfold tk; omega, r2⟩
/-- one segment's append that goes through: its new bytes. -/
theorem appG_get {D : DS} {S : LS} {V : GV} {R : List (List Int × Nat)} {t : List Int} (h : SGd D S V R) (hl : D.laid = false) (hx : refX D S V t.length = 0) (he : V.ep < 4294967296) (ht : InB t) :
    SGd (appG D S V t).1 (appG D S V t).2.1 (appG D S V t).2.2.1 (R ++ [(t, V.ep)]) ∧ (appG D S V t).1.laid = false ∧ (appG D S V t).2.2.1.ep = V.ep ∧ (appG D S V t).2.1.used = S.used + tk (36 + Seal.bkt t.length) ∧ (appG D S V t).1.data.length = D.data.length ∧ (appG D S V t).2.2.2 = 0 ∧
    ∃ k, tk (36 + Seal.bkt t.length) ≤ k ∧ S.used + k ≤ S.secs ∧ k = firstK (36 + Seal.bkt t.length) (S.secs - S.used) ∧ ∀ j, (appG D S V t).1.data.getD j 0 = if (8 + S.used) * 128 ≤ j ∧ j < (8 + S.used + k) * 128 then (slotB 1 (recL V t) k).getD (j - (8 + S.used) * 128) 0 else D.data.getD j 0 := by
  obtain ⟨hfit, r2⟩ := fit_used hx
  obtain ⟨c1, c2⟩ := app_good_calm h hl hx
  have hrl : (recL V t).length = 36 + Seal.bkt t.length := Seal.sealL_length _ _ _ _ r2
  have hbl := Seal.bkt_le r2
  have hw := h.dg.w128
  have h9 := h.dg.n9
  obtain ⟨_, _, a3⟩ := app_good h ht r2 he
  have hgood : SGd (appG D S V t).1 (appG D S V t).2.1 (appG D S V t).2.2.1 (R ++ [(t, V.ep)]) ∧ (appG D S V t).2.2.1 = { V with T := V.T ++ [t] } := by
    rcases a3 with ⟨e, _⟩ | ⟨_, e1, e2⟩ | ⟨e, _⟩
    · rw [c1] at e; cases e
    · exact ⟨e1, e2⟩
    · rw [c1] at e; cases e
  obtain ⟨q1, q2⟩ := app_calm (t := recL V t) hl h.off (by rw [hrl]; exact hfit) h.slost (by omega)
  obtain ⟨p1, p2⟩ := app_get (t := recL V t) hl h.off (by rw [hrl]; exact hfit) h.slost (by omega) (by rw [h.from_, h.secs]; omega)
  have hG : (appG D S V t).1 = (appD D S (recL V t)).1 ∧ (appG D S V t).2.1 = (appD D S (recL V t)).2.1 := by rw [appG_ok hx q1]; exact ⟨rfl, rfl⟩
  have hu : (appD D S (recL V t)).2.1.used = S.used + tk (36 + Seal.bkt t.length) := by
    have q1' := q1
    unfold appD at q1' ⊢
    rw [if_neg (by rw [h.slost, h.off]; simp), if_neg (by omega), if_neg (by rw [hrl]; omega)] at q1' ⊢
    split
    · show S.used + tk (recL V t).length = _
      rw [hrl]
    · rename_i hne
      rw [if_neg hne] at q1'
      exact absurd q1' hne
  rw [h.from_, hrl] at p2
  have hk := run_first (k := firstK (36 + Seal.bkt t.length) (S.secs - S.used)) (n := 36 + Seal.bkt t.length) (F := S.secs - S.used) (by omega) rfl
  refine ⟨hgood.1, c2, by rw [hgood.2], by rw [hG.2, hu], by rw [hG.1, p1], c1, firstK (36 + Seal.bkt t.length) (S.secs - S.used), hk.1, by omega, rfl, fun j => ?_⟩
  rw [hG.1, p2]
theorem ST.step {D : DS} {S : LS} {V : GV} {R : List (List Int × Nat)} {E : DS} {T : LS} {U : GV} {Q : List (List Int × Nat)} {bs : List Nat} (h : ST D S V R E T U Q bs) {t s : List Int} (ht : InB t) (hs : InB s) (h1 : t.length ≤ 131068) (h2 : s.length ≤ 131068) (hb : Seal.bkt t.length = Seal.bkt s.length) :
    ∃ R' Q' bs', ST (appG D S V t).1 (appG D S V t).2.1 (appG D S V t).2.2.1 R' (appG E T U s).1 (appG E T U s).2.1 (appG E T U s).2.2.1 Q' bs' := by
  have hf := h.fit h1 h2 hb
  by_cases hx : refX D S V t.length = 0
  · have hy : refX E T U s.length = 0 := by rw [← hf]; exact hx
    obtain ⟨x1, x2, x3, x4, x5, _, k, x6, x7, x8, x9⟩ := appG_get h.g1 h.l1 hx h.e32 ht
    obtain ⟨y1, y2, y3, y4, y5, _, k', y6, y7, y8, y9⟩ := appG_get h.g2 h.l2 hy (by rw [← h.ep]; exact h.e32) hs
    rw [← hb] at y4 y6 y8
    have hkk : k' = k := by rw [x8, y8, h.u1, h.u2, h.g1.secs, h.g2.secs]; unfold DS.secs; rw [h.len]
    subst hkk
    obtain ⟨b, hbe⟩ : ∃ b, b = Seal.bkt t.length := ⟨_, rfl⟩
    have l1 : (recL V t).length = 36 + b := by rw [hbe]; exact Seal.sealL_length _ _ _ _ h1
    have l2 : (recL U s).length = 36 + b := by rw [hbe, hb]; exact Seal.sealL_length _ _ _ _ h2
    rw [← hbe] at x4 x6 y4 y6
    rw [h.u1] at x4 x9
    rw [h.u2] at y4 y9
    have hus := usd_snoc bs b
    have hfit := tk_fit (36 + b)
    refine ⟨_, _, bs ++ [b], ⟨x1, y1, x2, y2, by rw [x3, y3]; exact h.ep, by rw [x3]; exact h.e32, by rw [List.map_append, h.b1, hbe]; rfl, by rw [List.map_append, h.b2, hbe, hb]; rfl, by rw [x4, hus], by rw [y4, hus], by rw [x5, y5]; exact h.len, fun j hj => ?_, fun j hj => ?_, fun j hj => ?_⟩⟩
    · rw [inZ_snoc, not_or] at hj
      obtain ⟨hj1, hj2⟩ := hj
      rw [x9, y9]
      by_cases c : (8 + usd bs) * 128 ≤ j ∧ j < (8 + usd bs + k') * 128
      · rw [if_pos c, if_pos c, slot_get, slot_get, l1, l2]
        by_cases c0 : j - (8 + usd bs) * 128 = 0
        · rw [if_pos c0, if_pos c0]
        · rw [if_neg c0, if_neg c0]
          by_cases c1 : j - (8 + usd bs) * 128 < 5
          · rw [if_pos c1, if_pos c1]
          · rw [if_neg c1, if_neg c1]
            by_cases c2 : j - (8 + usd bs) * 128 < 9
            · rw [if_pos (by omega), if_pos (by omega), rec_take _ _ _ (by omega), rec_take _ _ _ (by omega), h.ep]
            · rw [if_neg (by omega), if_neg (by omega)]
      · rw [if_neg c, if_neg c]
        exact h.same j hj1
    · rw [hus] at hj
      rw [x9]
      split
      · rw [slot_get, if_neg (by omega), if_neg (by omega), if_neg (by rw [l1]; omega)]
      · exact h.z1 j (by omega)
    · rw [hus] at hj
      rw [y9]
      split
      · rw [slot_get, if_neg (by omega), if_neg (by omega), if_neg (by rw [l2]; omega)]
      · exact h.z2 j (by omega)
  · have hy : refX E T U s.length ≠ 0 := by rw [← hf]; exact hx
    rw [appG_ref hx, appG_ref hy]
    exact ⟨R, Q, bs, h⟩
/-- appends one behind the other. -/
def goG (x : DS × LS × GV) (t : List Int) : DS × LS × GV := ((appG x.1 x.2.1 x.2.2 t).1, (appG x.1 x.2.1 x.2.2 t).2.1, (appG x.1 x.2.1 x.2.2 t).2.2.1)
def goL (x : DS × LS × GV) (ts : List (List Int)) : DS × LS × GV := ts.foldl goG x
theorem goL_next (x : DS × LS × GV) (ts : List (List Int)) (i : Nat) (h : i < ts.length) : goL x (ts.take (i + 1)) = goG (goL x (ts.take i)) (ts.getD i []) := by
  unfold goL
  rw [List.take_succ_eq_append_getElem h, List.foldl_append]
  simp [List.getD_eq_getElem?_getD, h]
/-- texts of one bucket each. -/
def Pairs (ts ss : List (List Int)) : Prop := ts.length = ss.length ∧ ∀ i, i < ts.length → InB (ts.getD i []) ∧ InB (ss.getD i []) ∧ (ts.getD i []).length ≤ 131068 ∧ (ss.getD i []).length ≤ 131068 ∧ Seal.bkt (ts.getD i []).length = Seal.bkt (ss.getD i []).length
theorem ST.all {x y : DS × LS × GV} {R Q : List (List Int × Nat)} {bs : List Nat} (h : ST x.1 x.2.1 x.2.2 R y.1 y.2.1 y.2.2 Q bs) {ts ss : List (List Int)} (hp : Pairs ts ss) : ∀ i, i ≤ ts.length → ∃ R' Q' bs', ST (goL x (ts.take i)).1 (goL x (ts.take i)).2.1 (goL x (ts.take i)).2.2 R' (goL y (ss.take i)).1 (goL y (ss.take i)).2.1 (goL y (ss.take i)).2.2 Q' bs' := by
  intro i
  induction i with
  | zero => intro _; exact ⟨R, Q, bs, h⟩
  | succ i ih =>
    intro hi
    obtain ⟨R', Q', bs', h'⟩ := ih (by omega)
    obtain ⟨p1, p2, p3, p4, p5⟩ := hp.2 i (by omega)
    rw [goL_next x ts i (by omega), goL_next y ss i (by have := hp.1; omega)]
    exact h'.step p1 p2 p3 p4 p5
end Go.Proofs.YtkjhoanlkkcfkaaGreatDoor.Sgm
