/- DERIVED. The contracts of disk's Write and Put. -/
import Derived.Test.YtlofnpebknfmkaaDskWr
namespace Go.Proofs.Ytlofnpebknfmkaa.Dsk
open Go.RowKit
theorem step_len (D : DS) (k : Nat) (b : List Int) (hk : k * 128 + 128 ≤ D.data.length) (hl : b.length = 128) : (stepD D k b).data.length = D.data.length := by
  unfold stepD
  split
  · exact splice_len _ _ _ (by rw [torn_len]; exact hk)
  · exact splice_len _ _ _ (by rw [hl]; exact hk)
theorem step_secs (D : DS) (k : Nat) (b : List Int) (hk : k * 128 + 128 ≤ D.data.length) (hl : b.length = 128) : (stepD D k b).secs = D.secs := by
  simp only [DS.secs, step_len D k b hk hl]
theorem step_writes (D : DS) (k : Nat) (b : List Int) : (stepD D k b).writes = D.writes + 1 := by
  unfold stepD; split <;> rfl
theorem run_on {D : DS} {k i n : Nat} {b : List Int} (h : (stepD D (k + i) (secL b i)).off = false) : runD D k b i (n + 1) = runD (stepD D (k + i) (secL b i)) k b (i + 1) n := by
  rw [runD, if_neg (by rw [h]; decide)]
theorem run_off {D : DS} {k i n : Nat} {b : List Int} (h : (stepD D (k + i) (secL b i)).off = true) : runD D k b i (n + 1) = (stepD D (k + i) (secL b i), 12) := by
  rw [runD, if_pos h]
theorem secL_in {b : List Int} (h : InB b) (i : Nat) : InB (secL b i) := (h.drop _).take _
theorem secL_byt {w : World} {gb ob c i : Nat} {b : List Int} (hB : Byt w (some ⟨gb, ob, none⟩) c b) (hi : i * 128 + 128 ≤ b.length) : Byt w (some ⟨gb, ob + i * 128, none⟩) (c - i * 128) (secL b i) := by
  obtain ⟨h1, _, h3⟩ := hB
  obtain ⟨g', o', e, hg, hc⟩ := h3 (by omega)
  cases e
  refine ⟨by rw [secL_len _ _ hi]; omega, (fun h => by cases h), fun _ => ⟨gb, ob + i * 128, rfl, hg, fun j hj => ?_⟩⟩
  rw [secL_len _ _ hi] at hj
  rw [secL_get _ _ _ hj, Nat.add_assoc]
  exact hc _ (by omega)
/-- what the loop of Write keeps. -/
structure WInv (w : World) (K : DK) (D : DS) (k n : Nat) (b : List Int) (i : Nat) (Di : DS) (wr : World) : Prop where
  dsk : Dsk wr K Di
  chg : Chg K.bl w wr
  run : runD D k b 0 n = runD Di k b i (n - i)
  off : Di.off = false
  secs : Di.secs = D.secs
  writes : Di.writes = D.writes + i
set_option maxRecDepth 100000 in
set_option maxHeartbeats 1000000 in
theorem write_ok {w : World} {K : DK} {D : DS} (h : Dsk w K D) (k n m : Nat) (hk : k + n ≤ D.secs) (ho : D.off = false) (A : Option Addr) (c : Nat) (b : List Int) (hm : m = n * 128) (hl : b.length = m) (hi : InB b) (hB : Byt w A c b) (hA : ∀ a, A = some a → a.block ∉ K.bl) (hw : D.writes ≤ 1152921504606846976) :
    Calls Try.prog 31 #[K.ptr, .int .i64 k, .slice A m c] w fun e w' => e = .returned (.int .i64 (runD D k b 0 n).2) ∧ Dsk w' K (runD D k b 0 n).1 ∧ Chg K.bl w w' := by
  have hmost := h.ok.most
  have Hs := Lib.hid (sectors_count h)
  have Hw := Lib.hid (within_any k n D.secs w (by omega) (by omega) (by omega))
  have Hr := Lib.hid (refuses_any h true)
  rw [within_of hk] at Hw
  rw [show refE D true = 0 by simp [refE, ho]] at Hr
  have hi0 : WInv w K D k n b 0 D w := ⟨h, Chg.refl _ _, rfl, ho, rfl, by simp⟩
  have H0 := Lib.hid hi0
  have HB := Lib.hid hB
  have HA := Lib.hid hA
  have HI := Lib.hid hi
  have HL := Lib.hid hl
  have hc0 := hB.1
  have hcm : m ≤ c := by omega
  obtain ⟨S, hS⟩ : ∃ S, S = D.secs := ⟨_, rfl⟩
  have hwr := h.ok.wr
  rw [← hS] at Hs Hw hmost hk
  have HS := Lib.hid hS
  have Hwr := Lib.hid hwr
  have HWW := Lib.hid hw
  obtain ⟨T, hT⟩ : ∃ T, T = runD D k b 0 n := ⟨_, rfl⟩
  rw [← hT]
  have HT := Lib.hid hT
  unfold DK.ptr at *
  clear h ho hi0 hB hA hi hl hS hT hw hwr hc0
  by_cases hn : n = 0
  · subst hn
    subst hm
    go_enter Try.func31, Try.ntmps31
    go_wp2_with (first
      | (go_at_call 23; refine Hs.out.mono ?_; rintro e w' ⟨rfl, rfl⟩)
      | (go_at_call 21; refine Hw.out.mono ?_; rintro e w' ⟨rfl, rfl⟩)
      | (go_at_call 22; refine Hr.out.mono ?_; rintro e w' ⟨rfl, rfl⟩))
    go_loopw [30] (fun v wr => v = .int .i64 0 ∧ wr = w) (fun _ _ => 0)
    case atStart => exact ⟨rfl, rfl⟩
    case round =>
      obtain ⟨rfl, rfl⟩ := hrel
      go_wp2
      go_ret
      have e := HT.out
      rw [runD] at e
      rw [e]
      exact ⟨rfl, H0.out.dsk, Chg.refl _ _⟩
  · obtain ⟨gb, ob, rfl, hgb, _⟩ := HB.out.2.2 (by rw [HL.out]; omega)
    have hnA := HA.out _ rfl
    have HnA := Lib.hid hnA
    have Hgb := Lib.hid hgb
    have hn16 : n ≤ 16384 := by omega
    clear hnA hgb
    go_enter Try.func31, Try.ntmps31
    go_wp2_with (first
      | (go_at_call 23; refine Hs.out.mono ?_; rintro e w' ⟨rfl, rfl⟩)
      | (go_at_call 21; refine Hw.out.mono ?_; rintro e w' ⟨rfl, rfl⟩)
      | (go_at_call 22; refine Hr.out.mono ?_; rintro e w' ⟨rfl, rfl⟩))
    go_loopw [30] (fun v wr => ∃ i : Nat, i ≤ n ∧ v = .int .i64 i ∧ ∃ Di, WInv w K D k n b i Di wr) (fun v _ => n - (intOf v).toNat)
    case atStart => exact ⟨0, Nat.zero_le _, rfl, D, H0.out⟩
    case round =>
      obtain ⟨i, hin, rfl, Di, hinv⟩ := hrel
      by_cases hlt : i < n
      · have hB1 : Byt wr (some ⟨gb, ob, none⟩) c b := HB.out.chg hinv.chg HA.out
        have hsl : i * 128 + 128 ≤ b.length := by rw [HL.out]; omega
        have hs1 := secL_byt hB1 hsl
        have hsecs := hinv.secs
        have hki : k + i < Di.secs := by rw [hsecs, ← HS.out]; omega
        have hds := writeSector_any hinv.dsk (k + i) hki (some ⟨gb, ob + i * 128, none⟩) (c - i * 128) (secL b i) (secL_len _ _ hsl) (secL_in HI.out i) hs1 (fun a ha => by cases ha; exact HnA.out) (by rw [hinv.writes]; have := HWW.out; omega)
        have hfit : (k + i) * 128 + 128 ≤ Di.data.length := by rw [hinv.dsk.ok.whole128]; omega
        have Hds := Lib.hid hds
        have Hinv := Lib.hid hinv
        have Hfit := Lib.hid hfit
        have Hsl := Lib.hid hsl
        clear hB1 hsl hs1 hsecs hki hds hfit hinv
        cases eo : (stepD Di (k + i) (secL b i)).off
        · have Heo := Lib.hid eo
          clear eo
          go_wp2_with (go_at_call 33; rw [show (i + 1) * 128 - i * 128 = 128 by omega]; refine Hds.out.mono ?_; rintro e w2 ⟨rfl, hd2, hc2⟩; have c3 := (row0 hd2.row).2.2.2.1; rw [Heo.out] at c3; have Hd2 := Lib.hid hd2; have Hc2 := Lib.hid hc2; clear hd2 hc2)
          go_roundw
          case rel => exact ⟨i + 1, by omega, by go_num, _, ⟨Hd2.out, Hinv.out.chg.trans Hc2.out, by rw [Hinv.out.run, show n - i = (n - (i + 1)) + 1 by omega, run_on Heo.out], Heo.out, (step_secs _ _ _ Hfit.out (secL_len _ _ Hsl.out)).trans Hinv.out.secs, by rw [step_writes, Hinv.out.writes]; omega⟩⟩
          case measure => simp [intOf]; omega
        · have Heo := Lib.hid eo
          clear eo
          go_wp2_with (go_at_call 33; rw [show (i + 1) * 128 - i * 128 = 128 by omega]; refine Hds.out.mono ?_; rintro e w2 ⟨rfl, hd2, hc2⟩; have c3 := (row0 hd2.row).2.2.2.1; rw [Heo.out] at c3; have Hd2 := Lib.hid hd2; have Hc2 := Lib.hid hc2; clear hd2 hc2)
          go_ret
          have e := HT.out
          rw [Hinv.out.run, show n - i = (n - (i + 1)) + 1 by omega, run_off Heo.out] at e
          rw [e]
          exact ⟨rfl, Hd2.out, Hinv.out.chg.trans Hc2.out⟩
      · have Hinv := Lib.hid hinv
        clear hinv
        go_wp2
        go_ret
        have e := HT.out
        rw [Hinv.out.run, show n - i = 0 by omega, runD] at e
        rw [e]
        exact ⟨rfl, Hinv.out.dsk, Hinv.out.chg⟩
set_option maxRecDepth 100000 in
set_option maxHeartbeats 1000000 in
theorem write_no {w : World} {K : DK} {D : DS} (h : Dsk w K D) (k : Int) (hk : k ≤ 9223372036854775807) (m : Nat) (hm : m ≤ 9223372036854775807) (A : Option Addr) (c : Nat) (e0 : refE D (decide (m % 128 = 0) && withinI k (m / 128 : Nat) D.secs) ≠ 0) :
    Calls Try.prog 31 #[K.ptr, .int .i64 k, .slice A m c] w fun e w' => e = .returned (.int .i64 (refE D (decide (m % 128 = 0) && withinI k (m / 128 : Nat) D.secs))) ∧ w = w' := by
  have Hs := Lib.hid (sectors_count h)
  have Hw := Lib.hid (within_any k (m / 128 : Nat) D.secs w hk (by omega) (by have := h.ok.most; omega))
  have Hr := Lib.hid (refuses_any h (decide (m % 128 = 0) && withinI k (m / 128 : Nat) D.secs))
  obtain ⟨s, hs⟩ : ∃ s, s = D.secs := ⟨_, rfl⟩
  rw [← hs] at Hs Hw Hr e0 ⊢
  obtain ⟨W, hW⟩ : ∃ W, W = withinI k (m / 128 : Nat) s := ⟨_, rfl⟩
  rw [← hW] at Hw Hr e0 ⊢
  by_cases hd : m % 128 = 0
  · rw [decide_eq_true hd, Bool.true_and] at Hr e0 ⊢
    obtain ⟨E, hE⟩ : ∃ E, E = refE D W := ⟨_, rfl⟩
    rw [← hE] at Hr e0 ⊢
    unfold DK.ptr at *
    clear h hs hW hE hk
    go_enter Try.func31, Try.ntmps31
    go_wp2_with (first
      | (go_at_call 23; refine Hs.out.mono ?_; rintro e w' ⟨rfl, rfl⟩)
      | (go_at_call 21; refine Hw.out.mono ?_; rintro e w' ⟨rfl, rfl⟩)
      | (go_at_call 22; refine Hr.out.mono ?_; rintro e w' ⟨rfl, rfl⟩))
    go_ret
    exact ⟨rfl, rfl⟩
  · rw [decide_eq_false hd, Bool.false_and] at Hr e0 ⊢
    obtain ⟨E, hE⟩ : ∃ E, E = refE D false := ⟨_, rfl⟩
    rw [← hE] at Hr e0 ⊢
    unfold DK.ptr at *
    clear h hs hW hE hk
    go_enter Try.func31, Try.ntmps31
    go_wp2_with (go_at_call 22; refine Hr.out.mono ?_; rintro e w' ⟨rfl, rfl⟩)
    go_ret
    exact ⟨rfl, rfl⟩
set_option maxRecDepth 100000 in
set_option maxHeartbeats 1000000 in
theorem put_ok {w : World} {K : DK} {D : DS} (h : Dsk w K D) (k m : Nat) (hk : k + m ≤ D.data.length) (A : Option Addr) (c : Nat) (b : List Int) (hl : b.length = m) (hi : InB b) (hB : Byt w A c b) :
    Calls Try.prog 9 #[K.ptr, .int .i64 k, .slice A m c] w fun e w' => e = .returned (.int .i64 0) ∧ Dsk w' K { D with data := splice D.data k b } ∧ Chg K.bl w w' := by
  have hlen := h.ok.len
  have Hm := Lib.hid (made_any h)
  have Hw := Lib.hid (within_any k m D.data.length w (by omega) (by omega) (by omega))
  rw [within_of hk] at Hw
  obtain ⟨_, c1, _⟩ := row0 h.row
  have H := Lib.hid h
  have HB := Lib.hid hB
  have HL := Lib.hid hl
  have HI := Lib.hid hi
  have HK := Lib.hid hk
  obtain ⟨n, hn⟩ : ∃ n, n = D.data.length := ⟨_, rfl⟩
  rw [← hn] at c1 Hw hlen hk
  obtain ⟨C, hC⟩ : ∃ C, C = n + K.sp.length := ⟨_, rfl⟩
  rw [← hC] at c1
  have hnC : n ≤ C := by omega
  have HN := Lib.hid hn
  unfold DK.ptr at *
  clear h hB hl hi hn hC
  by_cases e : C = k
  · subst e
    have hm0 : m = 0 := by omega
    subst hm0
    go_enter Try.func9, Try.ntmps9
    go_wp2_with (first
      | (go_at_call 20; refine Hm.out.mono ?_; rintro e w' ⟨rfl, rfl⟩)
      | (go_at_call 21; refine Hw.out.mono ?_; rintro e w' ⟨rfl, rfl⟩)
      | (refine wpList_copy_chg rfl (.tmp 27) (.tmp 28) rfl _ _ _ A 0 c b (by rfl) (by rfl) HL.out HB.out (Nat.zero_le _) K.h 0 _ H.out.body (fun h => absurd h (Nat.lt_irrefl 0)) (Nat.zero_le _) ?_; intro w2 hh2 hc2; have Hh2 := Lib.hid hh2; have Hc2 := Lib.hid hc2; clear hh2 hc2))
    go_ret
    obtain rfl : b = [] := List.eq_nil_of_length_eq_zero HL.out
    have h2 := H.out.setData [] 0 HI.out (Nat.zero_le _) Hh2.out Hc2.out
    refine ⟨rfl, ?_, chg_bl Hc2.out⟩
    simpa [splice] using h2
  · go_enter Try.func9, Try.ntmps9
    go_wp2_with (first
      | (go_at_call 20; refine Hm.out.mono ?_; rintro e w' ⟨rfl, rfl⟩)
      | (go_at_call 21; refine Hw.out.mono ?_; rintro e w' ⟨rfl, rfl⟩)
      | (refine wpList_copy_chg rfl (.tmp 27) (.tmp 28) rfl _ (n - k) _ A m c b (by rfl) (by rfl) HL.out HB.out (by omega) K.h k _ H.out.body (fun _ => rfl) (by rw [List.length_append, vals_length]; exact Nat.le_trans HK.out (Nat.le_add_right _ _)) ?_; intro w2 hh2 hc2; have H2 := Lib.hid (H.out.setData b k HI.out (by rw [HL.out]; exact HK.out) hh2 hc2); have G2 := Lib.hid (chg_bl hc2); clear hh2 hc2))
    go_ret
    exact ⟨rfl, H2.out, G2.out⟩
theorem put_no {w : World} {K : DK} {D : DS} (h : Dsk w K D) (k : Int) (hk : k ≤ 9223372036854775807) (m : Nat) (_hm : m ≤ 9223372036854775807) (A : Option Addr) (c : Nat) (e0 : withinI k m D.data.length = false) :
    Calls Try.prog 9 #[K.ptr, .int .i64 k, .slice A m c] w fun e w' => e = .returned (.int .i64 2) ∧ w = w' := by
  have hlen := h.ok.len
  have Hm := Lib.hid (made_any h)
  have Hw := Lib.hid (within_any k m D.data.length w hk (by omega) (by omega))
  rw [e0] at Hw
  obtain ⟨_, c1, _⟩ := row0 h.row
  obtain ⟨n, hn⟩ : ∃ n, n = D.data.length := ⟨_, rfl⟩
  rw [← hn] at c1 Hw hlen
  unfold DK.ptr at *
  clear h hn hk e0
  go_enter Try.func9, Try.ntmps9
  go_wp2_with (first
    | (go_at_call 20; refine Hm.out.mono ?_; rintro e w' ⟨rfl, rfl⟩)
    | (go_at_call 21; refine Hw.out.mono ?_; rintro e w' ⟨rfl, rfl⟩))
  go_ret
  exact ⟨rfl, rfl⟩
end Go.Proofs.Ytlofnpebknfmkaa.Dsk
