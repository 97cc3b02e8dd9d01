/- DERIVED. Texts of ours, merged: XSltSame XDskOff XSltMath XSltWrite XSltAppend. -/
import Derived.Test.YtpeioogkbcejmaaMplays7
import Derived.Test.YtpeioogkbcejmaaMplays2
import Derived.Test.YtpeioogkbcejmaaMplays4
/- DERIVED. The contract of layer 9's same: are two lists of texts the same? -/
namespace Go.Proofs.Ytpeioogkbcejmaa.Slt
open Go.RowKit Dsk
/-- a slice of slices that read as the texts. -/
structure TxAt (w : World) (A : Option Addr) (L : List (List Int)) : Prop where
  at_ : ∀ i, i < L.length → ∃ g off B c, A = some ⟨g, off, none⟩ ∧ g < w.heap.size ∧ w.cell? ⟨g, off + i, none⟩ = some (.slice B (L.getD i []).length c) ∧ Byt w B c (L.getD i []) ∧ InB (L.getD i [])
theorem TxAt.later {w w' : World} {A : Option Addr} {L : List (List Int)} (h : TxAt w A L) (hb : Below w.heap.size w w') : TxAt w' A L := ⟨fun i hi => by
  obtain ⟨g, off, B, c, e, hg, hc, hB, hin⟩ := h.at_ i hi
  exact ⟨g, off, B, c, e, Nat.lt_of_lt_of_le hg hb.size, (hb.cell (p := ⟨g, off + i, none⟩) hg).trans hc, hB.below hb (Nat.le_refl _), hin⟩⟩
theorem texts_ne {L M : List Int} (hL : InB L) (hM : InB M) (h : L ≠ M) : ((strOfNums L).toList == (strOfNums M).toList) = false := by
  rw [beq_eq_false_iff_ne]
  exact Str.str_ne hL hM h
theorem lists_ne {L M : List (List Int)} {i : Nat} (hn : L.getD i [] ≠ M.getD i []) : L ≠ M := fun e => hn (by rw [e])
theorem lists_eq {L M : List (List Int)} (h : L.length = M.length) (hg : ∀ i, i < L.length → L.getD i [] = M.getD i []) : L = M := by
  apply List.ext_getElem h
  intro j h1 h2
  have := hg j h1
  simpa [List.getD_eq_getElem?_getD, h1, h2] using this
set_option maxHeartbeats 1000000 in
theorem same_any {w : World} (A A2 : Option Addr) (n m c c2 : Nat) (L M : List (List Int)) (hn : L.length = n) (hm : M.length = m) (h1 : TxAt w A L) (h2 : TxAt w A2 M) (hn1 : n ≤ 9223372036854775807) (hm1 : m ≤ 9223372036854775807) :
    Calls Try.prog 23 #[.slice A n c, .slice A2 m c2] w fun e w' => e = .returned (.bool (decide (L = M))) ∧ Below w.heap.size w w' := by
  have H1 := Lib.hid h1
  have H2 := Lib.hid h2
  have Hn := Lib.hid hn
  have Hm := Lib.hid hm
  by_cases hnm : n = m
  · subst hnm
    clear h1 h2 hn hm hm1
    go_enter Try.func23, Try.ntmps23
    go_wp2
    go_loopw [5] (fun v wr => ∃ i : Nat, i ≤ n ∧ v = .int .i64 i ∧ Hid (∀ j, j < i → L.getD j [] = M.getD j []) ∧ Hid (Below w.heap.size w wr)) (fun v _ => n - (intOf v).toNat)
    case atStart => exact ⟨0, Nat.zero_le _, rfl, fun j hj => absurd hj (Nat.not_lt_zero _), Below.refl _ _⟩
    case round =>
      obtain ⟨i, hi, rfl, hj, hr⟩ := hrel
      by_cases hlt : i < n
      · have hltI : (i : Int) < (n : Int) := by omega
        obtain ⟨g, off, B, cb, rfl, hg, hc, hB, hi1⟩ := H1.out.at_ i (by rw [Hn.out]; exact hlt)
        obtain ⟨g2, off2, B2, cb2, rfl, hg2, hc2, hB2, hi2⟩ := H2.out.at_ i (by rw [Hm.out]; exact hlt)
        have hcr := (hr.out.cell (p := ⟨g, off + i, none⟩) hg).trans hc
        have hcr2 := (hr.out.cell (p := ⟨g2, off2 + i, none⟩) hg2).trans hc2
        have k1 := fun a => Str.conv_any (w := wr.drewN a) ((hB.below hr.out (Nat.le_refl _)).below (Below.drewN (Below.refl _ _) a) (Nat.le_refl _)) rfl
        have k2 := fun a => Str.conv_any (w := wr.drewN a) ((hB2.below hr.out (Nat.le_refl _)).below (Below.drewN (Below.refl _ _) a) (Nat.le_refl _)) rfl
        have Hne := Lib.hid (texts_ne hi1 hi2)
        obtain ⟨T1, hT1⟩ : ∃ T, T = strOfNums (L.getD i []) := ⟨_, rfl⟩
        obtain ⟨T2, hT2⟩ : ∃ T, T = strOfNums (M.getD i []) := ⟨_, rfl⟩
        obtain ⟨l1, hl1⟩ : ∃ l, l = (L.getD i []).length := ⟨_, rfl⟩
        obtain ⟨l2, hl2⟩ : ∃ l, l = (M.getD i []).length := ⟨_, rfl⟩
        rw [← hT1, ← hl1] at k1
        rw [← hT2, ← hl2] at k2
        rw [← hl1] at hcr
        rw [← hl2] at hcr2
        rw [← hT1, ← hT2] at Hne
        have HT1 := Lib.hid hT1
        have HT2 := Lib.hid hT2
        clear hc hc2 hB hB2 hi1 hi2 hT1 hT2 hl1 hl2
        by_cases he : L.getD i [] = M.getD i []
        · have hT : T1 = T2 := by rw [HT1.out, HT2.out, he]
          subst hT
          go_upto_region 6 with (fail)
          go_quiet (fail)
          go_wp2
          refine ⟨⟨i + 1, by omega, by go_num, ?_, ?_⟩, by simp [intOf]; omega⟩
          · intro j hj1
            by_cases hji : j = i
            · subst hji; exact he
            · exact hj.out j (by omega)
          · exact Below.drewN hr.out _
        · have hT := Hne.out he
          go_upto_region 6 with (fail)
          go_quiet (fail)
          go_wp2
          go_ret
          refine ⟨by rw [decide_eq_false (lists_ne he)]; rfl, Below.drewN hr.out _⟩
      · have hltI : ¬ (i : Int) < (n : Int) := by omega
        obtain rfl : i = n := by omega
        go_wp2
        go_ret
        refine ⟨by rw [decide_eq_true (lists_eq (by rw [Hn.out, Hm.out]) (fun j hj' => hj.out j (by rw [← Hn.out]; exact hj')))]; rfl, hr.out⟩
  · have hnI : ¬ (n : Int) = (m : Int) := by omega
    clear h1 h2 hn hm
    go_enter Try.func23, Try.ntmps23
    go_wp2
    go_ret
    refine ⟨?_, Below.refl _ _⟩
    have e : decide (L = M) = false := decide_eq_false (fun e => hnm (by rw [← Hn.out, ← Hm.out, e]))
    rw [e]
    rfl
end Go.Proofs.Ytpeioogkbcejmaa.Slt
/- DERIVED. The contract of Disk.Off. -/
namespace Go.Proofs.Ytpeioogkbcejmaa.Dsk
open Go.RowKit
theorem off_any {w : World} {K : DK} {D : DS} (h : Dsk w K D) : Calls Try.prog 30 #[K.ptr] w fun e w' => e = .returned (.bool D.off) ∧ w = w' := by
  have Hm := Lib.hid (made_any h)
  obtain ⟨_, _, _, c3, _⟩ := row0 h.row
  unfold DK.ptr at *
  clear h
  go_enter Try.func30, Try.ntmps30
  go_wp2_with (go_at_call 27; refine Hm.out.mono ?_; rintro e w' ⟨rfl, rfl⟩)
  go_ret
  exact ⟨rfl, rfl⟩
end Go.Proofs.Ytpeioogkbcejmaa.Dsk
/- DERIVED. What an append leaves on the disk, on lists. No program. -/
namespace Go.Proofs.Ytpeioogkbcejmaa.Slt
open Go.RowKit Dsk
/-- sectors written: the error tells whether the power went. -/
structure RunQ (D : DS) (n : Nat) (R : DS × Int) : Prop where
  err : R.2 = if R.1.off then 12 else 0
  len : R.1.data.length = D.data.length
  wr : R.1.writes ≤ D.writes + n
theorem RunQ.secs {D : DS} {n : Nat} {R : DS × Int} (h : RunQ D n R) : R.1.secs = D.secs := by simp [DS.secs, h.len]
theorem run_q (k : Nat) (b : List Int) : ∀ (n i : Nat) (D : DS), D.off = false → (k + i + n) * 128 ≤ D.data.length → (i + n) * 128 ≤ b.length → RunQ D n (runD D k b i n) := by
  intro n
  induction n with
  | zero => intro i D ho _ _; exact ⟨by simp [runD, ho], rfl, by simp [runD]⟩
  | succ n ih =>
    intro i D ho hd hb
    have hl := step_len D (k + i) (secL b i) (by omega) (secL_len b i (by omega))
    have hw := step_writes D (k + i) (secL b i)
    cases e : (stepD D (k + i) (secL b i)).off
    · rw [run_on e]
      have h := ih (i + 1) _ e (by rw [hl]; omega) (by omega)
      exact ⟨h.err, h.len.trans hl, by have := h.wr; omega⟩
    · rw [run_off e]
      exact ⟨by simp [e], hl, by simp only [hw]; omega⟩
/-- what an append of a text writes: k sectors, and the first one with the mark. -/
def writD (D : DS) (at_ : Nat) (t : List Int) (k : Nat) : DS × Int :=
  if (runD D at_ (slotB 0 t k) 0 k).2 = 0 then runD (runD D at_ (slotB 0 t k) 0 k).1 at_ ((slotB 1 t k).take 128) 0 1 else runD D at_ (slotB 0 t k) 0 k
theorem writD_yes {D : DS} {p k : Nat} {t : List Int} (h : (runD D p (slotB 0 t k) 0 k).2 = 0) : writD D p t k = runD (runD D p (slotB 0 t k) 0 k).1 p ((slotB 1 t k).take 128) 0 1 := if_pos h
theorem writD_no {D : DS} {p k : Nat} {t : List Int} (h : ¬ (runD D p (slotB 0 t k) 0 k).2 = 0) : writD D p t k = runD D p (slotB 0 t k) 0 k := if_neg h
theorem RunQ.on {D : DS} {n : Nat} {R : DS × Int} (h : RunQ D n R) (e : R.2 = 0) : R.1.off = false := by
  have := h.err
  cases ho : R.1.off
  · rfl
  · rw [ho] at this; rw [this] at e; cases e
theorem take128_len (m : Int) (t : List Int) (k : Nat) (h : t.length + 5 ≤ k * 128) : ((slotB m t k).take 128).length = 128 := by
  rw [List.length_take, slotB_len _ _ _ h]; omega
theorem writ_q {D : DS} {p k : Nat} {t : List Int} (ho : D.off = false) (hp : (p + k) * 128 ≤ D.data.length) (hk : t.length + 5 ≤ k * 128) : RunQ D (k + 1) (writD D p t k) := by
  have hl := slotB_len 0 t k hk
  have h := run_q p (slotB 0 t k) k 0 D ho (by omega) (by omega)
  by_cases e : (runD D p (slotB 0 t k) 0 k).2 = 0
  · rw [writD_yes e]
    have h2 := run_q p ((slotB 1 t k).take 128) 1 0 _ (h.on e) (by rw [h.len]; omega) (by rw [take128_len _ _ _ hk]; omega)
    exact ⟨h2.err, h2.len.trans h.len, by have := h2.wr; have := h.wr; omega⟩
  · rw [writD_no e]
    exact ⟨h.err, h.len, by have := h.wr; omega⟩
end Go.Proofs.Ytpeioogkbcejmaa.Slt
/- DERIVED. The contract of slots.Log.write. -/
namespace Go.Proofs.Ytpeioogkbcejmaa.Slt
open Go.RowKit Dsk
theorem slotB_mark (t : List Int) (k : Nat) : (vals (slotB 0 t k)).toArray.setIfInBounds 0 (.int .u8 1) = (vals (slotB 1 t k)).toArray := by
  simp [slotB, vals]
theorem row_byt {w : World} {g : Nat} {L : List Int} (h : w.heap[g]? = some (.cells (vals L).toArray 5 (0, 0))) (c : Nat) (hc : L.length ≤ c) : Byt w (some ⟨g, 0, none⟩) c L :=
  ⟨hc, (fun h => by cases h), fun _ => ⟨g, 0, rfl, (Array.getElem?_eq_some_iff.1 h).1, fun j hj => by rw [Nat.zero_add, cell_row h]; simp [vals, hj]⟩⟩
theorem run_first {k n F : Nat} (hF : tk n ≤ F) (hk : k = firstK n F) : tk n ≤ k ∧ k ≤ F ∧ n + 5 ≤ k * 128 := by
  have h1 := tk_fit n
  subst hk
  unfold firstK
  omega
set_option maxRecDepth 100000 in
set_option maxHeartbeats 2000000 in
theorem lwrite_any {w : World} {K : DK} {D : DS} {J : LK} {S : LS} (hd : Dsk w K D) (h : Lg w K J S) (A : Option Addr) (n c : Nat) (t : List Int) (hl : t.length = n) (hn : n ≤ 262144) (hB : Byt w A c t) (ht : InB t) (hF : S.used + tk n ≤ S.secs) (hend : S.from_ + S.secs ≤ D.secs) (ho : D.off = false) (hw : D.writes ≤ 576460752303423488) :
    Calls Try.prog 33 #[J.ptr, .slice A n c] w fun e w' => e = .returned (.int .i64 (writD D (S.from_ + S.used) t (firstK n (S.secs - S.used))).2) ∧ Dsk w' K (writD D (S.from_ + S.used) t (firstK n (S.secs - S.used))).1 ∧ Chg K.bl w w' := by
  have hFs : tk n ≤ S.secs - S.used := by omega
  have h16 : S.secs - S.used ≤ 16384 := by have := h.end_; omega
  have hfree := fun (w1 : World) (hb : Below w.heap.size w w1) => free_any (w := w1) (h.later hb)
  obtain ⟨F, hFe⟩ : ∃ F, F = S.secs - S.used := ⟨_, rfl⟩
  rw [← hFe] at hFs h16 hfree ⊢
  obtain ⟨k, hk⟩ : ∃ k, k = firstK n F := ⟨_, rfl⟩
  have hslot := fun (w1 : World) (h1 : Byt w1 A c t) => slotOf_any (w := w1) A n c F t hl hn h1 hFs h16
  rw [← hk] at hslot ⊢
  obtain ⟨hk1, hk2, hk3⟩ := run_first hFs hk
  obtain ⟨_, c1, c2, _, c4, _, _⟩ := h.cells
  obtain ⟨p, hp⟩ : ∃ p, p = S.from_ + S.used := ⟨_, rfl⟩
  have hpI : ((p : Nat) : Int) = (S.from_ : Int) + (S.used : Int) := by omega
  have hpk : p + k ≤ D.secs := by omega
  have hdl := hd.ok.whole128
  have hpd : (p + k) * 128 ≤ D.data.length := by omega
  have hp16 : p ≤ 16384 := by have := h.end_; omega
  rw [← hp]
  have hlb : (slotB 0 t k).length = k * 128 := slotB_len _ _ _ (by omega)
  have hq := run_q p (slotB 0 t k) k 0 D ho (by omega) (by omega)
  have hgK : ∀ q ∈ K.bl, q < w.heap.size := by
    intro q hq; simp [DK.bl] at hq
    rcases hq with rfl | rfl
    · exact hd.glt
    · exact hd.hlt
  have hJK : J.g ∉ K.bl := h.kap _ (by simp [LK.bl])
  have hwr1 : ∀ (w1 : World) (g : Nat), Below w.heap.size w w1 → w.heap.size ≤ g → w1.heap[g]? = some (.cells (vals (slotB 0 t k)).toArray 5 (0, 0)) → Calls Try.prog 44 #[K.ptr, .int .i64 p, .slice (some ⟨g, 0, none⟩) (k * 128) (k * 128)] w1 fun e w' => e = .returned (.int .i64 (runD D p (slotB 0 t k) 0 k).2) ∧ Dsk w' K (runD D p (slotB 0 t k) 0 k).1 ∧ Chg K.bl w1 w' :=
    fun w1 g hb hg hr => write_ok (hd.chg (S := []) ⟨hb.os, hb.tape, hb.output, hb.size, fun q hq _ => hb.block q hq⟩ (by simp) (by simp)) p k (k * 128) hpk ho _ _ (slotB 0 t k) rfl hlb (slotB_in (by omega) ht) (row_byt hr _ (by rw [hlb]; omega)) (fun a ha hm => by cases ha; have : g < w.heap.size := hgK _ hm; omega) (by omega)
  obtain ⟨s0, hs0⟩ : ∃ s0, s0 = S.from_ := ⟨_, rfl⟩
  obtain ⟨u0, hu0⟩ : ∃ u0, u0 = S.used := ⟨_, rfl⟩
  rw [← hs0] at c2 hpI
  rw [← hu0] at c4 hpI
  have hs16 : s0 ≤ 16384 := by have := h.end_; omega
  have hu16 : u0 ≤ 16384 := by have := h.fit; have := h.end_; omega
  have hkk : k * 128 ≤ 2097152 := by omega
  have hk128 : 128 ≤ k * 128 := by have := tk_pos n; omega
  have hk128I : (128 : Int) ≤ (k : Int) * 128 := by omega
  have Hfree := Lib.hid hfree
  have Hslot := Lib.hid hslot
  have Hwr1 := Lib.hid hwr1
  have HpI := Lib.hid hpI
  have HB := Lib.hid hB
  have Hlb := Lib.hid hlb
  have Hq := Lib.hid hq
  have Hgl := Lib.hid h.glt
  have HgK := Lib.hid hgK
  have HJK := Lib.hid hJK
  have Hht := Lib.hid ht
  have Hpk := Lib.hid hpk
  have Hk3 := Lib.hid hk3
  have Hl := Lib.hid hl
  have C1 := Lib.hid c1
  have Hww := Lib.hid hw
  have Hdd := Lib.hid hdl
  unfold LK.ptr DK.ptr at *
  by_cases e0 : (runD D p (slotB 0 t k) 0 k).2 = 0
  · have hz := hq.on e0
    have hwr2 : ∀ (w1 : World) (g cc : Nat), Dsk w1 K (runD D p (slotB 0 t k) 0 k).1 → w.heap.size ≤ g → w1.heap[g]? = some (.cells (vals (slotB 1 t k)).toArray 5 (0, 0)) → 128 ≤ cc → Calls Try.prog 44 #[.pointer (some ⟨K.g, 0, none⟩), .int .i64 p, .slice (some ⟨g, 0, none⟩) 128 cc] w1 fun e w' => e = .returned (.int .i64 (writD D p t k).2) ∧ Dsk w' K (writD D p t k).1 ∧ Chg K.bl w1 w' := by
      intro w1 g cc hd1 hg hr hcc
      rw [writD_yes e0]
      have hb1 : Byt w1 (some ⟨g, 0, none⟩) cc ((slotB 1 t k).take 128) := by
        refine ⟨by rw [take128_len _ _ _ (by omega)]; exact hcc, (fun h => by cases h), fun _ => ⟨g, 0, rfl, (Array.getElem?_eq_some_iff.1 hr).1, fun j hj => ?_⟩⟩
        rw [take128_len _ _ _ (by omega)] at hj
        have hlb1 := slotB_len 1 t k (by omega)
        rw [Nat.zero_add, cell_row hr, getD_take' hj]
        simp [vals, show j < (slotB 1 t k).length by omega]
      exact write_ok hd1 p 1 128 (by rw [hq.secs]; omega) hz _ _ _ rfl (take128_len _ _ _ (by omega)) ((slotB_in (by omega) ht).take _) hb1 (fun a ha hm => by cases ha; have : g < w.heap.size := hgK _ hm; omega) (by have := hq.wr; omega)
    have Hwr2 := Lib.hid hwr2
    have E0 := Lib.hid e0
    clear hfree hslot hwr1 hpI hB hlb hq hgK hJK ht hpk hk3 hl c1 hw hdl hd h hF hend ho hwr2 hz e0 hFs h16 hFe hk hk1 hk2 hpd hp hs0 hu0
    have hwr1' := Hwr1.out
    rw [E0.out] at hwr1'
    have Hwr1 := Lib.hid hwr1'
    clear hwr1'
    go_enter Try.func33, Try.ntmps33
    go_upto_region 1 with (fail)
    go_quiet (fail)
    go_upto_region 6 with (first
      | (go_at_call 32; refine (Hfree.out _ (Below.drewN (Below.refl _ _) nq)).mono ?_; rintro e w1 ⟨rfl, hb1⟩; have Hb1 := Lib.hid ((Below.drewN (Below.refl w.heap.size w) nq).trans hb1); clear hb1)
      | (go_at_call 43; refine (Hslot.out w1 (HB.out.below Hb1.out (Nat.le_refl _))).mono ?_; rintro e w2 ⟨g, rfl, hr2, hg2, hb2⟩; have c12 := ((Hb1.out.trans (hb2.mono Hb1.out.size)).cell (p := ⟨J.g, 1, none⟩) Hgl.out).trans C1.out; have Hb2 := Lib.hid (Hb1.out.trans (hb2.mono Hb1.out.size)); have Hr2 := Lib.hid hr2; have Hg2 := Lib.hid (Nat.le_trans Hb1.out.size hg2); clear hr2 hg2 hb2)
      | (go_at_call 44; rw [← HpI.out]; refine (Hwr1.out w2 g Hb2.out Hg2.out Hr2.out).mono ?_; rintro e w3 ⟨rfl, hd3, hc3⟩; have Hd3 := Lib.hid hd3; have Hc3 := Lib.hid hc3; clear hd3 hc3))
    have hgn : g ∉ K.bl := fun hm => by have : g < w.heap.size := HgK.out _ hm; have := Hg2.out; omega
    have hr3 := Hc3.out.at Hr2.out hgn
    have c0 : w3.cell? ⟨g, 0, none⟩ = some (.int .u8 0) := (cell_row hr3 0).trans (by simp [slotB, vals])
    have f0 := free_row hr3 0
    have Hr3 := Lib.hid hr3
    have hlow3 := Hc3.out
    clear hr3
    go_upto_region 7 with (fail)
    have hr4 : (w3.setCell ⟨g, 0, none⟩ (.int .u8 1)).heap[g]? = some (.cells (vals (slotB 1 t k)).toArray 5 (0, 0)) := by
      rw [heap_setCell_same _ _ _ _ _ _ Hr3.out, slotB_mark]
    have hc34 : Chg [g] w3 (w3.setCell ⟨g, 0, none⟩ (.int .u8 1)) := (Chg.refl _ _).setCell (by simp) _
    have hd4 := (Hd3.out.chg hc34 (fun hm => by simp at hm; exact hgn (by simp [DK.bl, hm])) (fun hm => by simp at hm; exact hgn (by simp [DK.bl, hm]))).later (Below.refl _ _).drew
    have hjg : J.g < w2.heap.size := Nat.lt_of_lt_of_le Hgl.out Hb2.out.size
    have c14 : (w3.setCell ⟨g, 0, none⟩ (.int .u8 1)).drew.cell? ⟨J.g, 1, none⟩ = some (.pointer (some ⟨K.g, 0, none⟩)) := by
      have e1 := World.cell?_of_block (a := ⟨J.g, 1, none⟩) (Hc3.out.block J.g hjg HJK.out)
      have e2 := World.cell?_of_block (a := ⟨J.g, 1, none⟩) (hc34.block J.g (Nat.lt_of_lt_of_le hjg Hc3.out.size) (fun hm => by simp at hm; have := Hgl.out; have := Hg2.out; omega))
      exact (e2.trans e1).trans c12
    have hr4' : (w3.setCell ⟨g, 0, none⟩ (.int .u8 1)).drew.heap[g]? = some (.cells (vals (slotB 1 t k)).toArray 5 (0, 0)) := hr4
    have hch : Chg (g :: K.bl) w2 (w3.setCell ⟨g, 0, none⟩ (.int .u8 1)).drew := ((Hc3.out.mono (fun q hq => .inl (by simp [hq]))).trans (hc34.mono (fun q hq => .inl (by simp at hq; simp [hq])))).trans (Chg.of_below (Below.refl _ _).drew)
    have hcw := Hc3.out
    refine wp_region_still_tail 7 (by kernel_rfl) (by kernel_rfl) ?_
    simp only [List.take_succ_cons, List.take_zero, List.drop_succ_cons, List.drop_zero]
    change wpStill _ _ (w3.setCell ⟨g, 0, none⟩ (.int .u8 1)).drew _ _ _
    have Hd5 := Lib.hid hd4
    have Hr5 := Lib.hid hr4'
    have Hch := Lib.hid hch
    clear hr4 hc34 hd4 hr4' hch c12
    repeat (refine wpStill_step (fun K hK => ?_); go_simp; refine hK _ ?_; clear hK K)
    refine wpStill_nil ?_
    change wpList _ _ _ _ _ (w3.setCell ⟨g, 0, none⟩ (.int .u8 1)).drew
    generalize (w3.setCell ⟨g, 0, none⟩ (.int .u8 1)).drew = w5 at Hd5 Hr5 Hch c14 ⊢
    go_wp2_with (go_at_call 44; refine (Hwr2.out w5 g (k * 128) Hd5.out Hg2.out Hr5.out hk128).mono ?_; rintro e w6 ⟨rfl, hd6, hc6⟩; have Hd6 := Lib.hid hd6; have Hc6 := Lib.hid hc6; clear hd6 hc6)
    go_ret
    refine ⟨rfl, Hd6.out, ?_⟩
    exact (((Chg.of_below Hb2.out).trans Hch.out).mono (fun q hq => by
      rcases List.mem_cons.1 hq with rfl | hq
      · exact .inr Hg2.out
      · exact .inl hq)).trans Hc6.out
  · have E0 := Lib.hid e0
    have hwd : writD D p t k = runD D p (slotB 0 t k) 0 k := writD_no e0
    rw [hwd]
    obtain ⟨R, hR⟩ : ∃ R, R = runD D p (slotB 0 t k) 0 k := ⟨_, rfl⟩
    rw [← hR] at Hwr1 E0 ⊢
    obtain ⟨er, her⟩ : ∃ er, er = R.2 := ⟨_, rfl⟩
    rw [← her] at Hwr1 E0 ⊢
    have e12 : ¬ er = 0 := E0.out
    clear her
    clear hfree hslot hwr1 hpI hB hlb hq hgK hJK ht hpk hk3 hl c1 hw hdl hd h hF hend ho e0 hFs h16 hFe hk hk1 hk2 hpd hp hs0 hu0 hwd hR Hq E0
    go_enter Try.func33, Try.ntmps33
    go_upto_region 1 with (fail)
    go_quiet (fail)
    go_wp2_with (first
      | (go_at_call 32; refine (Hfree.out _ (Below.drewN (Below.refl _ _) nq)).mono ?_; rintro e w1 ⟨rfl, hb1⟩; have Hb1 := Lib.hid ((Below.drewN (Below.refl w.heap.size w) nq).trans hb1); clear hb1)
      | (go_at_call 43; refine (Hslot.out w1 (HB.out.below Hb1.out (Nat.le_refl _))).mono ?_; rintro e w2 ⟨g, rfl, hr2, hg2, hb2⟩; have c12 := ((Hb1.out.trans (hb2.mono Hb1.out.size)).cell (p := ⟨J.g, 1, none⟩) Hgl.out).trans C1.out; have Hb2 := Lib.hid (Hb1.out.trans (hb2.mono Hb1.out.size)); have Hr2 := Lib.hid hr2; have Hg2 := Lib.hid (Nat.le_trans Hb1.out.size hg2); clear hr2 hg2 hb2)
      | (go_at_call 44; rw [← HpI.out]; refine (Hwr1.out w2 g Hb2.out Hg2.out Hr2.out).mono ?_; rintro e w3 ⟨rfl, hd3, hc3⟩; have Hd3 := Lib.hid hd3; have Hc3 := Lib.hid hc3; clear hd3 hc3))
    go_ret
    exact ⟨rfl, Hd3.out, (Chg.of_below Hb2.out).trans Hc3.out⟩
end Go.Proofs.Ytpeioogkbcejmaa.Slt
/- DERIVED. The contract of slots.Log.Append. -/
namespace Go.Proofs.Ytpeioogkbcejmaa.Slt
open Go.RowKit Dsk
/-- what Append does to the disk and to the log; what it returns. -/
def appD (D : DS) (S : LS) (t : List Int) : DS × LS × Int :=
  if S.lost = true ∨ D.off = true then (D, S, 12)
  else if 262144 < t.length then (D, S, 3)
  else if S.secs - S.used < tk t.length then (D, S, 7)
  else if (writD D (S.from_ + S.used) t (firstK t.length (S.secs - S.used))).2 = 0 then
    ((writD D (S.from_ + S.used) t (firstK t.length (S.secs - S.used))).1, { S with used := S.used + tk t.length, texts := S.texts ++ [t] }, 0)
  else ((writD D (S.from_ + S.used) t (firstK t.length (S.secs - S.used))).1, { S with lost := true }, (writD D (S.from_ + S.used) t (firstK t.length (S.secs - S.used))).2)
/-- what a call leaves of a disk and its log. -/
structure AppQ (w w' : World) (K : DK) (J J' : LK) (D : DS) (S : LS) : Prop where
  dsk : Dsk w' K D
  lg : Lg w' K J' S
  g : J'.g = J.g
  chg : Chg (K.bl ++ J.bl) w w'
  bl : ∀ q ∈ J'.bl, q ∈ J.bl ∨ w.heap.size ≤ q
  tx : ∀ q ∈ J'.tx, q ∈ J.tx ∨ w.heap.size ≤ q
theorem AppQ.same {w w' : World} {K : DK} {J : LK} {D : DS} {S : LS} (hd : Dsk w K D) (h : Lg w K J S) (hb : Below w.heap.size w w') : AppQ w w' K J J D S :=
  ⟨hd.later hb, h.later hb, rfl, Chg.of_below hb, fun _ h => .inl h, fun _ h => .inl h⟩
theorem rowL_lost {K : DK} {J : LK} {S : LS} : (rowL K J S).setIfInBounds 6 (.bool true) = rowL K J { S with lost := true } := rfl
theorem Lg.lose {w w' : World} {K : DK} {J : LK} {S : LS} (h : Lg w K J S) (hc : Chg [J.g] w w') (hr : w'.heap[J.g]? = some (.cells (rowL K J { S with lost := true }) 61 (0, 0))) : Lg w' K J { S with lost := true } where
  row := hr
  own := own_chg h.own hc (fun q hq => by simp; exact h.gv q hq)
  gv := h.gv
  txt i hi := (h.txt i hi).chg hc (fun q hq => by
    simp
    rintro rfl
    refine (h.tap J.g ?_).2 (by simp [LK.bl])
    unfold LK.tx
    rw [List.mem_flatMap]
    have hl : i < J.ts.length := by rw [h.len]; exact hi
    refine ⟨J.ts.getD i undef, ?_, by simpa using hq⟩
    rw [List.getD_eq_getElem?_getD, List.getElem?_eq_getElem hl, Option.getD_some]
    exact List.getElem_mem hl)
  tlt q hq := Nat.lt_of_lt_of_le (h.tlt q hq) hc.size
  tap := h.tap
  kap := h.kap
  inb := h.inb
  fit := h.fit
  end_ := h.end_
  cnt := h.cnt
theorem byt_chg {w w' : World} {A : Option Addr} {c : Nat} {L : List Int} {T : List Nat} (h : Byt w A c L) (hc : Chg T w w') (hA : 0 < L.length → ∀ a, A = some a → a.block ∉ T) : Byt w' A c L := by
  by_cases h0 : 0 < L.length
  · exact h.chg hc (hA h0)
  · exact ⟨h.1, h.2.1, fun hl => absurd hl h0⟩
section
variable {w : World} {K : DK} {D : DS} {J : LK} {S : LS}
theorem append_off (hd : Dsk w K D) (h : Lg w K J S) (v : Value) (hl : S.lost = true ∨ D.off = true) :
    Calls Try.prog 15 #[J.ptr, v] w fun e w' => e = .returned (.int .i64 12) ∧ w = w' := by
  have Hm := Lib.hid (lmade_any h)
  have Ho := Lib.hid (off_any hd)
  obtain ⟨_, c1, _, _, _, _, c6⟩ := h.cells
  unfold LK.ptr DK.ptr at *
  cases el : S.lost
  · have eo : D.off = true := by rcases hl with e | e; rw [el] at e; cases e; exact e
    rw [el] at c6
    rw [eo] at Ho
    clear hd h hl
    go_enter Try.func15, Try.ntmps15
    go_wp2_with (first
      | (go_at_call 29; refine Hm.out.mono ?_; rintro e w' ⟨rfl, rfl⟩)
      | (go_at_call 30; refine Ho.out.mono ?_; rintro e w' ⟨rfl, rfl⟩))
    go_ret
    exact ⟨rfl, rfl⟩
  · rw [el] at c6
    clear hd h hl
    go_enter Try.func15, Try.ntmps15
    go_wp2_with (first
      | (go_at_call 29; refine Hm.out.mono ?_; rintro e w' ⟨rfl, rfl⟩)
      | (go_at_call 30; refine Ho.out.mono ?_; rintro e w' ⟨rfl, rfl⟩))
    go_ret
    exact ⟨rfl, rfl⟩
theorem append_long (hd : Dsk w K D) (h : Lg w K J S) (A : Option Addr) (n c : Nat) (hl : S.lost = false) (ho : D.off = false) (hn : 262144 < n) :
    Calls Try.prog 15 #[J.ptr, .slice A n c] w fun e w' => e = .returned (.int .i64 3) ∧ w = w' := by
  have Hm := Lib.hid (lmade_any h)
  have Ho := Lib.hid (off_any hd)
  obtain ⟨_, c1, _, _, _, _, c6⟩ := h.cells
  unfold LK.ptr DK.ptr at *
  rw [hl] at c6
  rw [ho] at Ho
  have hnI : (262144 : Int) < (n : Int) := by omega
  clear hd h hl ho
  go_enter Try.func15, Try.ntmps15
  go_wp2_with (first
    | (go_at_call 29; refine Hm.out.mono ?_; rintro e w' ⟨rfl, rfl⟩)
    | (go_at_call 30; refine Ho.out.mono ?_; rintro e w' ⟨rfl, rfl⟩))
  go_ret
  exact ⟨rfl, rfl⟩
theorem append_full (hd : Dsk w K D) (h : Lg w K J S) (A : Option Addr) (n c : Nat) (hl : S.lost = false) (ho : D.off = false) (hn : n ≤ 262144) (hf : S.secs - S.used < tk n) :
    Calls Try.prog 15 #[J.ptr, .slice A n c] w fun e w' => e = .returned (.int .i64 7) ∧ Below w.heap.size w w' := by
  have Hm := Lib.hid (lmade_any h)
  have Ho := Lib.hid (off_any hd)
  have Hf := Lib.hid (free_any h)
  have Hs := Lib.hid (sectorsOf_any n (by omega))
  obtain ⟨_, c1, _, _, _, _, c6⟩ := h.cells
  unfold LK.ptr DK.ptr at *
  rw [hl] at c6
  rw [ho] at Ho
  have hnI : (n : Int) ≤ 262144 := by omega
  obtain ⟨F, hF⟩ : ∃ F, F = S.secs - S.used := ⟨_, rfl⟩
  obtain ⟨k, hk⟩ : ∃ k, k = tk n := ⟨_, rfl⟩
  rw [← hF] at Hf hf
  rw [← hk] at Hs hf
  have hfI : (F : Int) < (k : Int) := by omega
  clear hd h hl ho hF hk
  go_enter Try.func15, Try.ntmps15
  go_wp2_with (first
    | (go_at_call 29; refine Hm.out.mono ?_; rintro e w' ⟨rfl, rfl⟩)
    | (go_at_call 30; refine Ho.out.mono ?_; rintro e w' ⟨rfl, rfl⟩)
    | (go_at_call 31; refine (Hs.out _).mono ?_; rintro e w' ⟨rfl, rfl⟩)
    | (go_at_call 32; refine Hf.out.mono ?_; rintro e w1 ⟨rfl, hb1⟩; have Hb1 := Lib.hid hb1; clear hb1))
  go_ret
  exact ⟨rfl, Hb1.out⟩
set_option maxHeartbeats 1000000 in
theorem append_goes (hd : Dsk w K D) (h : Lg w K J S) (A : Option Addr) (n c : Nat) (t : List Int) (htl : t.length = n) (hB : Byt w A c t) (hA : 0 < t.length → ∀ a, A = some a → a.block ∉ K.bl) (ht : InB t) (hl : S.lost = false) (ho : D.off = false) (hn : n ≤ 262144) (hf : tk n ≤ S.secs - S.used) (hend : S.from_ + S.secs ≤ D.secs) (hw : D.writes ≤ 576460752303423488) :
    Calls Try.prog 15 #[J.ptr, .slice A n c] w fun e w' => ∃ J', e = .returned (.int .i64 (appD D S t).2.2) ∧ AppQ w w' K J J' (appD D S t).1 (appD D S t).2.1 := by
  have hgK : ∀ q ∈ K.bl, q < w.heap.size := by
    intro q hq; simp [DK.bl] at hq
    rcases hq with rfl | rfl
    · exact hd.glt
    · exact hd.hlt
  have Hm := Lib.hid (lmade_any h)
  have Ho := Lib.hid (off_any hd)
  have Hf := Lib.hid (free_any h)
  have Hs := Lib.hid (sectorsOf_any n (by omega))
  have hfu := h.fit
  have hF : S.used + tk n ≤ S.secs := by omega
  have Hw := Lib.hid (fun (w1 : World) (hb : Below w.heap.size w w1) => lwrite_any (w := w1) (hd.later hb) (h.later hb) A n c t htl hn (hB.below hb (Nat.le_refl _)) ht hF hend ho hw)
  obtain ⟨R, hR⟩ : ∃ R, R = writD D (S.from_ + S.used) t (firstK n (S.secs - S.used)) := ⟨_, rfl⟩
  have happ : appD D S t = if R.2 = 0 then (R.1, { S with used := S.used + tk n, texts := S.texts ++ [t] }, 0) else (R.1, { S with lost := true }, R.2) := by
    unfold appD
    rw [if_neg (by rw [hl, ho]; simp), htl, if_neg (by omega), if_neg (by omega), ← hR]
  rw [happ]
  rw [← hR] at Hw
  obtain ⟨_, c1, _, _, _, _, c6⟩ := h.cells
  rw [hl] at c6
  rw [ho] at Ho
  have H := Lib.hid h
  have HB := Lib.hid hB
  have HA := Lib.hid hA
  have Ht := Lib.hid ht
  have Htl := Lib.hid htl
  have HgK := Lib.hid hgK
  have HF := Lib.hid hF
  have Hn := Lib.hid hn
  have hnI : (n : Int) ≤ 262144 := by omega
  obtain ⟨F, hFe⟩ : ∃ F, F = S.secs - S.used := ⟨_, rfl⟩
  obtain ⟨k, hk⟩ : ∃ k, k = tk n := ⟨_, rfl⟩
  rw [← hFe] at Hf hf
  rw [← hk] at Hs hf
  have hfI : (k : Int) ≤ (F : Int) := by omega
  have hk' : ((tk n : Nat) : Int) = (k : Int) := by rw [hk]
  clear hd h hB hA ht htl ho hR happ hgK hF hFe hk hfu hw hl hend hk'
  by_cases e0 : R.2 = 0
  · rw [if_pos e0]
    rw [e0] at Hw
    have Hkeep := Lib.hid (fun (w1 : World) (hc : Chg K.bl w w1) => keep_any (w := w1) (H.out.disk hc) (fun q hq => Nat.lt_of_lt_of_le (HgK.out q hq) hc.size) (t := t) (v := .slice A n c) ⟨A, c, by rw [Htl.out], byt_chg HB.out hc HA.out⟩ Ht.out (by rw [Htl.out]; exact Hn.out) (by rw [Htl.out]; exact HF.out))
    unfold LK.ptr DK.ptr at *
    clear e0
    go_enter Try.func15, Try.ntmps15
    go_wp2_with (first
      | (go_at_call 29; refine Hm.out.mono ?_; rintro e w' ⟨rfl, rfl⟩)
      | (go_at_call 30; refine Ho.out.mono ?_; rintro e w' ⟨rfl, rfl⟩)
      | (go_at_call 31; refine (Hs.out _).mono ?_; rintro e w' ⟨rfl, rfl⟩)
      | (go_at_call 32; refine Hf.out.mono ?_; rintro e w1 ⟨rfl, hb1⟩; have Hb1 := Lib.hid hb1; clear hb1)
      | (go_at_call 33; refine (Hw.out _ Hb1.out).mono ?_; rintro e w2 ⟨rfl, hd2, hc2⟩; have Hd2 := Lib.hid hd2; have Hc2 := Lib.hid ((Chg.of_below Hb1.out).trans hc2); clear hd2 hc2)
      | (go_at_call 34; refine (Hkeep.out _ Hc2.out).mono ?_; rintro e w3 ⟨rfl, J', hq⟩; have Hq := Lib.hid hq; clear hq))
    go_ret
    have q := Hq.out
    rw [← Htl.out]
    exact ⟨J', rfl, Hd2.out.chg q.chg (fun hm => H.out.kap _ hm (by simp [DK.bl])) (fun hm => H.out.kap _ hm (by simp [DK.bl])), q.lg, q.g, (Hc2.out.mono (fun x hx => .inl (List.mem_append_left _ hx))).trans (q.chg.mono (fun x hx => .inl (List.mem_append_right _ hx))), fun x hx => (q.bl x hx).imp id (fun y => Nat.le_trans Hc2.out.size y), fun x hx => (q.tx x hx).imp id (fun y => Nat.le_trans Hc2.out.size y)⟩
  · rw [if_neg e0]
    obtain ⟨er, her⟩ : ∃ er, er = R.2 := ⟨_, rfl⟩
    rw [← her] at Hw e0 ⊢
    clear her
    unfold LK.ptr DK.ptr at *
    go_enter Try.func15, Try.ntmps15
    go_wp2_with (first
      | (go_at_call 29; refine Hm.out.mono ?_; rintro e w' ⟨rfl, rfl⟩)
      | (go_at_call 30; refine Ho.out.mono ?_; rintro e w' ⟨rfl, rfl⟩)
      | (go_at_call 31; refine (Hs.out _).mono ?_; rintro e w' ⟨rfl, rfl⟩)
      | (go_at_call 32; refine Hf.out.mono ?_; rintro e w1 ⟨rfl, hb1⟩; have Hb1 := Lib.hid hb1; clear hb1)
      | (go_at_call 33; refine (Hw.out _ Hb1.out).mono ?_; rintro e w2 ⟨rfl, hd2, hc2⟩; have hc := (Chg.of_below Hb1.out).trans hc2; have h2 := H.out.disk hc; have c62 := h2.cells.2.2.2.2.2.2; have f62 := free_row h2.row 6; have Hd2 := Lib.hid hd2; have Hc2 := Lib.hid hc; have H2 := Lib.hid h2; clear hd2 hc2 hc h2))
    go_ret
    have hc3 : Chg [J.g] w2 (w2.setCell ⟨J.g, 6, none⟩ (.bool true)) := (Chg.refl _ _).setCell (by simp) _
    have hjk : J.g ∉ K.bl := H.out.kap _ (by simp [LK.bl])
    refine ⟨J, rfl, Hd2.out.chg hc3 (fun hm => hjk (by simp at hm; simp [DK.bl, hm])) (fun hm => hjk (by simp at hm; simp [DK.bl, hm])), H2.out.lose hc3 (by rw [heap_setCell_same _ _ _ _ _ _ H2.out.row, rowL_lost]), rfl, (Hc2.out.mono (fun x hx => .inl (List.mem_append_left _ hx))).trans (hc3.mono (fun x hx => .inl (List.mem_append_right _ (by simp at hx; subst hx; simp [LK.bl])))), fun x hx => .inl hx, fun x hx => .inl hx⟩
/-- Append, whatever the state. -/
theorem append_any (hd : Dsk w K D) (h : Lg w K J S) (A : Option Addr) (n c : Nat) (t : List Int) (htl : t.length = n) (hB : Byt w A c t) (hA : 0 < t.length → ∀ a, A = some a → a.block ∉ K.bl) (ht : InB t) (hend : S.from_ + S.secs ≤ D.secs) (hw : D.writes ≤ 576460752303423488) :
    Calls Try.prog 15 #[J.ptr, .slice A n c] w fun e w' => ∃ J', e = .returned (.int .i64 (appD D S t).2.2) ∧ AppQ w w' K J J' (appD D S t).1 (appD D S t).2.1 := by
  by_cases h1 : S.lost = true ∨ D.off = true
  · have e : appD D S t = (D, S, 12) := by unfold appD; rw [if_pos h1]
    rw [e]
    refine (append_off hd h _ h1).mono ?_
    rintro e w' ⟨rfl, rfl⟩
    exact ⟨J, rfl, .same hd h (Below.refl _ _)⟩
  · have hl : S.lost = false := by cases e : S.lost; rfl; exact absurd (.inl e) h1
    have ho : D.off = false := by cases e : D.off; rfl; exact absurd (.inr e) h1
    by_cases h2 : 262144 < n
    · have e : appD D S t = (D, S, 3) := by unfold appD; rw [if_neg h1, htl, if_pos h2]
      rw [e]
      refine (append_long hd h A n c hl ho h2).mono ?_
      rintro e w' ⟨rfl, rfl⟩
      exact ⟨J, rfl, .same hd h (Below.refl _ _)⟩
    · by_cases h3 : S.secs - S.used < tk n
      · have e : appD D S t = (D, S, 7) := by unfold appD; rw [if_neg h1, htl, if_neg h2, if_pos h3]
        rw [e]
        refine (append_full hd h A n c hl ho (by omega) h3).mono ?_
        rintro e w' ⟨rfl, hb⟩
        exact ⟨J, rfl, .same hd h hb⟩
      · exact append_goes hd h A n c t htl hB hA ht hl ho (by omega) (by omega) hend hw
end
end Go.Proofs.Ytpeioogkbcejmaa.Slt
