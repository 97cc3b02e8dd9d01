/- DERIVED. Texts of ours, merged: XDskWrite XDskNew XSlt XSltOf XSltLog XSltClone. -/
import Derived.Test.YtkjhoanlkkcfkaaGreatDoorMseg16
import Derived.Deep.WholeRow
import Derived.Test.YtkjhoanlkkcfkaaGreatDoorMseg15
import Derived.BigQuiet
import Derived.Test.YtkjhoanlkkcfkaaGreatDoorMseg10
import Derived.Maps.AppendAt
/- DERIVED. The contracts of disk's Write and Put. -/
namespace Go.Proofs.YtkjhoanlkkcfkaaGreatDoor.Dsk
open Go.RowKit
theorem step_len (D : DS) (k : Nat) (b : List Int) (hk : k * 128 + 128 ≤ D.data.length) (hl : b.length = 128) : (stepD D k b).data.length = D.data.length := by
  unfold stepD
  split
  · exact splice_len _ _ _ (by rw [torn_len]; exact hk)
  · exact splice_len _ _ _ (by rw [hl]; exact hk)
theorem step_secs (D : DS) (k : Nat) (b : List Int) (hk : k * 128 + 128 ≤ D.data.length) (hl : b.length = 128) : (stepD D k b).secs = D.secs := by
  simp only [DS.secs, step_len D k b hk hl]
theorem step_writes (D : DS) (k : Nat) (b : List Int) : (stepD D k b).writes = D.writes + 1 := by
  unfold stepD; split <;> rfl
theorem run_on {D : DS} {k i n : Nat} {b : List Int} (h : (stepD D (k + i) (secL b i)).off = false) : runD D k b i (n + 1) = runD (stepD D (k + i) (secL b i)) k b (i + 1) n := by
  rw [runD, if_neg (by rw [h]; decide)]
theorem run_off {D : DS} {k i n : Nat} {b : List Int} (h : (stepD D (k + i) (secL b i)).off = true) : runD D k b i (n + 1) = (stepD D (k + i) (secL b i), 12) := by
  rw [runD, if_pos h]
theorem secL_in {b : List Int} (h : InB b) (i : Nat) : InB (secL b i) := (h.drop _).take _
theorem secL_byt {w : World} {gb ob c i : Nat} {b : List Int} (hB : Byt w (some ⟨gb, ob, none⟩) c b) (hi : i * 128 + 128 ≤ b.length) : Byt w (some ⟨gb, ob + i * 128, none⟩) (c - i * 128) (secL b i) := by
  obtain ⟨h1, _, h3⟩ := hB
  obtain ⟨g', o', e, hg, hc⟩ := h3 (by omega)
  cases e
  refine ⟨by rw [secL_len _ _ hi]; omega, (fun h => by cases h), fun _ => ⟨gb, ob + i * 128, rfl, hg, fun j hj => ?_⟩⟩
  rw [secL_len _ _ hi] at hj
  rw [secL_get _ _ _ hj, Nat.add_assoc]
  exact hc _ (by omega)
/-- what the loop of Write keeps. -/
structure WInv (w : World) (K : DK) (D : DS) (k n : Nat) (b : List Int) (i : Nat) (Di : DS) (wr : World) : Prop where
  dsk : Dsk wr K Di
  chg : Chg K.bl w wr
  run : runD D k b 0 n = runD Di k b i (n - i)
  off : Di.off = false
  secs : Di.secs = D.secs
  writes : Di.writes = D.writes + i
set_option maxRecDepth 100000 in
set_option maxHeartbeats 1000000 in
theorem write_ok {w : World} {K : DK} {D : DS} (h : Dsk w K D) (k n m : Nat) (hk : k + n ≤ D.secs) (ho : D.off = false) (A : Option Addr) (c : Nat) (b : List Int) (hm : m = n * 128) (hl : b.length = m) (hi : InB b) (hB : Byt w A c b) (hA : ∀ a, A = some a → a.block ∉ K.bl) (hw : D.writes ≤ 1152921504606846976) :
    Calls Tryz.prog 121 #[K.ptr, .int .i64 k, .slice A m c] w fun e w' => e = .returned (.int .i64 (runD D k b 0 n).2) ∧ Dsk w' K (runD D k b 0 n).1 ∧ Chg K.bl w w' := by
  have hmost := h.ok.most
  have Hs := Lib.hid (sectors_count h)
  have Hw := Lib.hid (within_any k n D.secs w (by omega) (by omega) (by omega))
  have Hr := Lib.hid (refuses_any h true)
  rw [within_of hk] at Hw
  rw [show refE D true = 0 by simp [refE, ho]] at Hr
  have hi0 : WInv w K D k n b 0 D w := ⟨h, Chg.refl _ _, rfl, ho, rfl, by simp⟩
  have H0 := Lib.hid hi0
  have HB := Lib.hid hB
  have HA := Lib.hid hA
  have HI := Lib.hid hi
  have HL := Lib.hid hl
  have hc0 := hB.1
  have hcm : m ≤ c := by omega
  obtain ⟨S, hS⟩ : ∃ S, S = D.secs := ⟨_, rfl⟩
  have hwr := h.ok.wr
  rw [← hS] at Hs Hw hmost hk
  have HS := Lib.hid hS
  have Hwr := Lib.hid hwr
  have HWW := Lib.hid hw
  obtain ⟨T, hT⟩ : ∃ T, T = runD D k b 0 n := ⟨_, rfl⟩
  rw [← hT]
  have HT := Lib.hid hT
  unfold DK.ptr at *
  clear h ho hi0 hB hA hi hl hS hT hw hwr hc0
  by_cases hn : n = 0
  · subst hn
    subst hm
    go_enter Tryz.func121, Tryz.ntmps121
    go_wp2_with (first
      | (go_at_call 14; refine Hs.out.mono ?_; rintro e w' ⟨rfl, rfl⟩)
      | (go_at_call 39; refine Hw.out.mono ?_; rintro e w' ⟨rfl, rfl⟩)
      | (go_at_call 73; refine Hr.out.mono ?_; rintro e w' ⟨rfl, rfl⟩))
    go_loopw [30] (fun v wr => v = .int .i64 0 ∧ wr = w) (fun _ _ => 0)
    case atStart => exact ⟨rfl, rfl⟩
    case round =>
      obtain ⟨rfl, rfl⟩ := hrel
      go_wp2
      go_ret
      have e := HT.out
      rw [runD] at e
      rw [e]
      exact ⟨rfl, H0.out.dsk, Chg.refl _ _⟩
  · obtain ⟨gb, ob, rfl, hgb, _⟩ := HB.out.2.2 (by rw [HL.out]; omega)
    have hnA := HA.out _ rfl
    have HnA := Lib.hid hnA
    have Hgb := Lib.hid hgb
    have hn16 : n ≤ 16384 := by omega
    clear hnA hgb
    go_enter Tryz.func121, Tryz.ntmps121
    go_wp2_with (first
      | (go_at_call 14; refine Hs.out.mono ?_; rintro e w' ⟨rfl, rfl⟩)
      | (go_at_call 39; refine Hw.out.mono ?_; rintro e w' ⟨rfl, rfl⟩)
      | (go_at_call 73; refine Hr.out.mono ?_; rintro e w' ⟨rfl, rfl⟩))
    go_loopw [30] (fun v wr => ∃ i : Nat, i ≤ n ∧ v = .int .i64 i ∧ ∃ Di, WInv w K D k n b i Di wr) (fun v _ => n - (intOf v).toNat)
    case atStart => exact ⟨0, Nat.zero_le _, rfl, D, H0.out⟩
    case round =>
      obtain ⟨i, hin, rfl, Di, hinv⟩ := hrel
      by_cases hlt : i < n
      · have hB1 : Byt wr (some ⟨gb, ob, none⟩) c b := HB.out.chg hinv.chg HA.out
        have hsl : i * 128 + 128 ≤ b.length := by rw [HL.out]; omega
        have hs1 := secL_byt hB1 hsl
        have hsecs := hinv.secs
        have hki : k + i < Di.secs := by rw [hsecs, ← HS.out]; omega
        have hds := writeSector_any hinv.dsk (k + i) hki (some ⟨gb, ob + i * 128, none⟩) (c - i * 128) (secL b i) (secL_len _ _ hsl) (secL_in HI.out i) hs1 (fun a ha => by cases ha; exact HnA.out) (by rw [hinv.writes]; have := HWW.out; omega)
        have hfit : (k + i) * 128 + 128 ≤ Di.data.length := by rw [hinv.dsk.ok.whole128]; omega
        have Hds := Lib.hid hds
        have Hinv := Lib.hid hinv
        have Hfit := Lib.hid hfit
        have Hsl := Lib.hid hsl
        clear hB1 hsl hs1 hsecs hki hds hfit hinv
        cases eo : (stepD Di (k + i) (secL b i)).off
        · have Heo := Lib.hid eo
          clear eo
          go_wp2_with (go_at_call 138; rw [show (i + 1) * 128 - i * 128 = 128 by omega]; refine Hds.out.mono ?_; rintro e w2 ⟨rfl, hd2, hc2⟩; have c3 := (row0 hd2.row).2.2.2.1; rw [Heo.out] at c3; have Hd2 := Lib.hid hd2; have Hc2 := Lib.hid hc2; clear hd2 hc2)
          go_roundw
          case rel => exact ⟨i + 1, by omega, by go_num, _, ⟨Hd2.out, Hinv.out.chg.trans Hc2.out, by rw [Hinv.out.run, show n - i = (n - (i + 1)) + 1 by omega, run_on Heo.out], Heo.out, (step_secs _ _ _ Hfit.out (secL_len _ _ Hsl.out)).trans Hinv.out.secs, by rw [step_writes, Hinv.out.writes]; omega⟩⟩
          case measure => simp [intOf]; omega
        · have Heo := Lib.hid eo
          clear eo
          go_wp2_with (go_at_call 138; rw [show (i + 1) * 128 - i * 128 = 128 by omega]; refine Hds.out.mono ?_; rintro e w2 ⟨rfl, hd2, hc2⟩; have c3 := (row0 hd2.row).2.2.2.1; rw [Heo.out] at c3; have Hd2 := Lib.hid hd2; have Hc2 := Lib.hid hc2; clear hd2 hc2)
          go_ret
          have e := HT.out
          rw [Hinv.out.run, show n - i = (n - (i + 1)) + 1 by omega, run_off Heo.out] at e
          rw [e]
          exact ⟨rfl, Hd2.out, Hinv.out.chg.trans Hc2.out⟩
      · have Hinv := Lib.hid hinv
        clear hinv
        go_wp2
        go_ret
        have e := HT.out
        rw [Hinv.out.run, show n - i = 0 by omega, runD] at e
        rw [e]
        exact ⟨rfl, Hinv.out.dsk, Hinv.out.chg⟩
set_option maxRecDepth 100000 in
set_option maxHeartbeats 1000000 in
theorem write_no {w : World} {K : DK} {D : DS} (h : Dsk w K D) (k : Int) (hk : k ≤ 9223372036854775807) (m : Nat) (hm : m ≤ 9223372036854775807) (A : Option Addr) (c : Nat) (e0 : refE D (decide (m % 128 = 0) && withinI k (m / 128 : Nat) D.secs) ≠ 0) :
    Calls Tryz.prog 121 #[K.ptr, .int .i64 k, .slice A m c] w fun e w' => e = .returned (.int .i64 (refE D (decide (m % 128 = 0) && withinI k (m / 128 : Nat) D.secs))) ∧ w = w' := by
  have Hs := Lib.hid (sectors_count h)
  have Hw := Lib.hid (within_any k (m / 128 : Nat) D.secs w hk (by omega) (by have := h.ok.most; omega))
  have Hr := Lib.hid (refuses_any h (decide (m % 128 = 0) && withinI k (m / 128 : Nat) D.secs))
  obtain ⟨s, hs⟩ : ∃ s, s = D.secs := ⟨_, rfl⟩
  rw [← hs] at Hs Hw Hr e0 ⊢
  obtain ⟨W, hW⟩ : ∃ W, W = withinI k (m / 128 : Nat) s := ⟨_, rfl⟩
  rw [← hW] at Hw Hr e0 ⊢
  by_cases hd : m % 128 = 0
  · rw [decide_eq_true hd, Bool.true_and] at Hr e0 ⊢
    obtain ⟨E, hE⟩ : ∃ E, E = refE D W := ⟨_, rfl⟩
    rw [← hE] at Hr e0 ⊢
    unfold DK.ptr at *
    clear h hs hW hE hk
    go_enter Tryz.func121, Tryz.ntmps121
    go_wp2_with (first
      | (go_at_call 14; refine Hs.out.mono ?_; rintro e w' ⟨rfl, rfl⟩)
      | (go_at_call 39; refine Hw.out.mono ?_; rintro e w' ⟨rfl, rfl⟩)
      | (go_at_call 73; refine Hr.out.mono ?_; rintro e w' ⟨rfl, rfl⟩))
    go_ret
    exact ⟨rfl, rfl⟩
  · rw [decide_eq_false hd, Bool.false_and] at Hr e0 ⊢
    obtain ⟨E, hE⟩ : ∃ E, E = refE D false := ⟨_, rfl⟩
    rw [← hE] at Hr e0 ⊢
    unfold DK.ptr at *
    clear h hs hW hE hk
    go_enter Tryz.func121, Tryz.ntmps121
    go_wp2_with (go_at_call 73; refine Hr.out.mono ?_; rintro e w' ⟨rfl, rfl⟩)
    go_ret
    exact ⟨rfl, rfl⟩
set_option maxRecDepth 100000 in
set_option maxHeartbeats 1000000 in
theorem put_ok {w : World} {K : DK} {D : DS} (h : Dsk w K D) (k m : Nat) (hk : k + m ≤ D.data.length) (A : Option Addr) (c : Nat) (b : List Int) (hl : b.length = m) (hi : InB b) (hB : Byt w A c b) :
    Calls Tryz.prog 17 #[K.ptr, .int .i64 k, .slice A m c] w fun e w' => e = .returned (.int .i64 0) ∧ Dsk w' K { D with data := splice D.data k b } ∧ Chg K.bl w w' := by
  have hlen := h.ok.len
  have Hm := Lib.hid (made_any h)
  have Hw := Lib.hid (within_any k m D.data.length w (by omega) (by omega) (by omega))
  rw [within_of hk] at Hw
  obtain ⟨_, c1, _⟩ := row0 h.row
  have H := Lib.hid h
  have HB := Lib.hid hB
  have HL := Lib.hid hl
  have HI := Lib.hid hi
  have HK := Lib.hid hk
  obtain ⟨n, hn⟩ : ∃ n, n = D.data.length := ⟨_, rfl⟩
  rw [← hn] at c1 Hw hlen hk
  obtain ⟨C, hC⟩ : ∃ C, C = n + K.sp.length := ⟨_, rfl⟩
  rw [← hC] at c1
  have hnC : n ≤ C := by omega
  have HN := Lib.hid hn
  unfold DK.ptr at *
  clear h hB hl hi hn hC
  by_cases e : C = k
  · subst e
    have hm0 : m = 0 := by omega
    subst hm0
    go_enter Tryz.func17, Tryz.ntmps17
    go_wp2_with (first
      | (go_at_call 36; refine Hm.out.mono ?_; rintro e w' ⟨rfl, rfl⟩)
      | (go_at_call 39; refine Hw.out.mono ?_; rintro e w' ⟨rfl, rfl⟩)
      | (refine wpList_copy_chg rfl (.tmp 27) (.tmp 28) rfl _ _ _ A 0 c b (by rfl) (by rfl) HL.out HB.out (Nat.zero_le _) K.h 0 _ H.out.body (fun h => absurd h (Nat.lt_irrefl 0)) (Nat.zero_le _) ?_; intro w2 hh2 hc2; have Hh2 := Lib.hid hh2; have Hc2 := Lib.hid hc2; clear hh2 hc2))
    go_ret
    obtain rfl : b = [] := List.eq_nil_of_length_eq_zero HL.out
    have h2 := H.out.setData [] 0 HI.out (Nat.zero_le _) Hh2.out Hc2.out
    refine ⟨rfl, ?_, chg_bl Hc2.out⟩
    simpa [splice] using h2
  · go_enter Tryz.func17, Tryz.ntmps17
    go_wp2_with (first
      | (go_at_call 36; refine Hm.out.mono ?_; rintro e w' ⟨rfl, rfl⟩)
      | (go_at_call 39; refine Hw.out.mono ?_; rintro e w' ⟨rfl, rfl⟩)
      | (refine wpList_copy_chg rfl (.tmp 27) (.tmp 28) rfl _ (n - k) _ A m c b (by rfl) (by rfl) HL.out HB.out (by omega) K.h k _ H.out.body (fun _ => rfl) (by rw [List.length_append, vals_length]; exact Nat.le_trans HK.out (Nat.le_add_right _ _)) ?_; intro w2 hh2 hc2; have H2 := Lib.hid (H.out.setData b k HI.out (by rw [HL.out]; exact HK.out) hh2 hc2); have G2 := Lib.hid (chg_bl hc2); clear hh2 hc2))
    go_ret
    exact ⟨rfl, H2.out, G2.out⟩
theorem put_no {w : World} {K : DK} {D : DS} (h : Dsk w K D) (k : Int) (hk : k ≤ 9223372036854775807) (m : Nat) (_hm : m ≤ 9223372036854775807) (A : Option Addr) (c : Nat) (e0 : withinI k m D.data.length = false) :
    Calls Tryz.prog 17 #[K.ptr, .int .i64 k, .slice A m c] w fun e w' => e = .returned (.int .i64 2) ∧ w = w' := by
  have hlen := h.ok.len
  have Hm := Lib.hid (made_any h)
  have Hw := Lib.hid (within_any k m D.data.length w hk (by omega) (by omega))
  rw [e0] at Hw
  obtain ⟨_, c1, _⟩ := row0 h.row
  obtain ⟨n, hn⟩ : ∃ n, n = D.data.length := ⟨_, rfl⟩
  rw [← hn] at c1 Hw hlen
  unfold DK.ptr at *
  clear h hn hk e0
  go_enter Tryz.func17, Tryz.ntmps17
  go_wp2_with (first
    | (go_at_call 36; refine Hm.out.mono ?_; rintro e w' ⟨rfl, rfl⟩)
    | (go_at_call 39; refine Hw.out.mono ?_; rintro e w' ⟨rfl, rfl⟩))
  go_ret
  exact ⟨rfl, rfl⟩
end Go.Proofs.YtkjhoanlkkcfkaaGreatDoor.Dsk
/- DERIVED. The contracts of disk.New. -/
namespace Go.Proofs.YtkjhoanlkkcfkaaGreatDoor.Dsk
open Go.RowKit
/-- a new disk. -/
def newD (n : Nat) : DS := { data := List.replicate (n * 128) 0, writes := 0, off := false, laid := false, whole := 0, mask := z16 }
theorem inb_zeros (n : Nat) : InB (List.replicate n 0) := by
  intro j
  simp only [List.getD_eq_getElem?_getD, List.getElem?_replicate]
  split <;> simp
theorem newD_ok (n : Nat) (h1 : 1 ≤ n) (h2 : n ≤ 16384) : (newD n).Ok := by
  have hs : (newD n).secs = n := by simp [newD, DS.secs]
  exact ⟨inb_zeros _, by rw [hs]; simp [newD], by rw [hs]; exact h1, by rw [hs]; exact h2, rfl, inb16, by simp [newD], by simp [newD]⟩
set_option maxRecDepth 100000 in
set_option maxHeartbeats 1000000 in
theorem new_no (n : Int) (w : World) (h : n < 1 ∨ 16384 < n) : Calls Tryz.prog 9 #[.int .i64 n] w fun e w' => e = .returned (.tuple #[.pointer none, .int .i64 2]) ∧ w = w' := by
  by_cases h1 : n < 1
  · go_enter Tryz.func9, Tryz.ntmps9
    go_wp2
    go_ret2
    exact ⟨rfl, rfl⟩
  · have h2 : 16384 < n := by omega
    clear h
    go_enter Tryz.func9, Tryz.ntmps9
    go_wp2
    go_ret2
    exact ⟨rfl, rfl⟩
theorem made_zeros (n : Nat) : madeCells (Value.cells (.int .u8 0)) n = u8s (List.replicate n 0) := by
  apply Array.ext_getElem?
  intro j
  by_cases h : j < n
  · simp [madeCells, u8s, h, Value.cells, Nat.mod_one]
  · simp [madeCells, u8s, h]
theorem mk_any (n : Nat) (hn : n ≤ 4294967296) (w : World) : (Instr.makeSlice 38 (.int .i64 n) (.int .i64 n)).run Tryz.prog w = .ok (.slice (some ⟨w.heap.size, 0, none⟩) n n) (w.alloc (.cells (u8s (List.replicate n 0)) 5)) := by
  obtain ⟨i0, hi, hz0, hz1, hz2⟩ := info_parts info8z
  have h := run_make (P := Tryz.prog) w 38 5 i0 (.int .u8 0) Tryz.underlying38 hi hz0 .i64 .i64 n n (by omega) (by omega) (by rw [hz2]; omega) (by omega)
  rw [hz1] at h
  rw [h, Int.toNat_natCast, Nat.mul_one, made_zeros]
theorem built_new (g m : Nat) : Tryz.prog.built 74 [(1, .slice (some ⟨g, 0, none⟩) m m)] = some (.pointer none :: .slice (some ⟨g, 0, none⟩) m m :: .int .i64 0 :: .bool false :: cutC false 0 z16).toArray := by kernel_rfl
set_option maxRecDepth 100000 in
set_option maxHeartbeats 1000000 in
theorem new_ok (n : Nat) (w : World) (h1 : 1 ≤ n) (h2 : n ≤ 16384) : Calls Tryz.prog 9 #[.int .i64 n] w fun e w' => ∃ K : DK, e = .returned (.tuple #[K.ptr, .int .i64 0]) ∧ Dsk w' K (newD n) ∧ Below w.heap.size w w' ∧ w.heap.size ≤ K.g ∧ w.heap.size ≤ K.h := by
  have hmk := mk_any (n * 128) (by omega)
  rw [show ((n * 128 : Nat) : Int) = (n : Int) * 128 by omega] at hmk
  have hwr : IntKind.i64.wrap ((n : Int) * 128) = (n : Int) * 128 := by rw [IntKind.wrap_i64]; omega
  obtain ⟨m, hm⟩ : ∃ m, m = n * 128 := ⟨_, rfl⟩
  rw [← hm] at hmk
  have Hm := Lib.hid hm
  clear hm
  go_enter Tryz.func9, Tryz.ntmps9
  go_upto_region 3 with (fail)
  refine wp_region_lit ?_
  refine wpList_plain rfl (fun K hK => ?_)
  go_simp
  refine hK _ _ ?_
  clear hK
  clear K
  refine wpList_plain rfl (fun K hK => ?_)
  go_simp
  refine hK _ _ ?_
  clear hK
  clear K
  refine wpList_plain rfl (fun K hK => ?_)
  go_simp
  refine hK _ _ ?_
  clear hK
  clear K
  refine wpList_buildTo rfl 74 #[(1, .tmp 13)] rfl (some 14) rfl (.pointer none :: .slice (some ⟨w.heap.size, 0, none⟩) m m :: .int .i64 0 :: .bool false :: cutC false 0 z16).toArray (by simp only [List.map_toArray, List.map_cons, List.map_nil]; exact built_new _ _) ?_
  refine wpList_plain rfl (fun K hK => ?_)
  go_simp
  refine hK _ _ ?_
  clear hK
  clear K
  refine wpList_plain rfl (fun K hK => ?_)
  go_simp
  refine hK _ _ ?_
  clear hK
  clear K
  refine wpList_nil ?_
  go_simp
  have h2n := two_new w (.cells (u8s (List.replicate m 0)) 5) (.cells (.pointer none :: .slice (some ⟨w.heap.size, 0, none⟩) m m :: .int .i64 0 :: .bool false :: cutC false 0 z16).toArray 74)
  have hlow : Below w.heap.size w ((w.alloc (.cells (u8s (List.replicate m 0)) 5)).alloc (.cells (.pointer none :: .slice (some ⟨w.heap.size, 0, none⟩) m m :: .int .i64 0 :: .bool false :: cutC false 0 z16).toArray 74)) := ((Below.refl _ _).alloc (Nat.le_refl _) _).alloc (by simp) _
  obtain ⟨w2, hw2⟩ : ∃ w2, w2 = (w.alloc (.cells (u8s (List.replicate m 0)) 5)).alloc (.cells (.pointer none :: .slice (some ⟨w.heap.size, 0, none⟩) m m :: .int .i64 0 :: .bool false :: cutC false 0 z16).toArray 74) := ⟨_, rfl⟩
  rw [← hw2] at h2n hlow ⊢
  have c0 := cell_row h2n.2 0
  have f0 := free_row h2n.2 0
  rw [show (Value.pointer none :: Value.slice (some ⟨w.heap.size, 0, none⟩) m m :: Value.int .i64 0 :: Value.bool false :: cutC false 0 z16).toArray[0]? = some (Value.pointer none) by rfl] at c0
  have H2 := Lib.hid h2n
  have Hlow := Lib.hid hlow
  clear h2n hlow hw2 hmk hwr
  go_wp2
  go_ret2
  have hd : Dsk (w2.setCell ⟨w.heap.size + 1, 0, none⟩ (.pointer (some ⟨w.heap.size + 1, 0, none⟩))) ⟨w.heap.size + 1, w.heap.size, []⟩ (newD n) := by
    have hl : (newD n).data.length = m := by simp [newD, Hm.out]
    refine ⟨?_, ?_, by simp, newD_ok n h1 h2⟩
    · rw [hl]
      exact heap_setCell_same _ _ _ _ _ _ H2.out.2
    · rw [Below.heap_setCell _ _ _ _ (by simp), H2.out.1, Hm.out]
      simp [newD, vals, u8s]
  exact ⟨⟨w.heap.size + 1, w.heap.size, []⟩, rfl, hd, Hlow.out.setCell (by simp) _, Nat.le_succ _, Nat.le_refl _⟩
/-- a row of the call's own, not empty: what it is. -/
theorem own_shape {w : World} {base n : Nat} {v : Value} {L : List Int} (h : w.ownsRow base 5 1 v n (vals L)) (_hl : L.length = n) (h0 : 0 < n) : ∃ g sp, v = .slice (some ⟨g, 0, none⟩) n (n + sp.length) ∧ base ≤ g ∧ w.heap[g]? = some (.cells (vals L ++ sp).toArray 5 (0, 0)) := by
  obtain ⟨_, h⟩ := h
  rcases h with ⟨_, h⟩ | ⟨g, cap, cur, hv, hb, hh, hcap, _, hs, ht⟩
  · omega
  · have e : cur.toList = vals L ++ cur.toList.drop n := by
      rw [← ht, Nat.mul_one, List.take_append_drop]
    have e2 : cap = n + (cur.toList.drop n).length := by
      rw [List.length_drop, Array.length_toList, hs]; omega
    refine ⟨g, cur.toList.drop n, by rw [hv, ← e2], hb, ?_⟩
    rw [hh, ← e]
end Go.Proofs.YtkjhoanlkkcfkaaGreatDoor.Dsk
/- DERIVED. The contracts of the slots' small functions: sectorsOf, headOf, length. -/
namespace Go.Proofs.YtkjhoanlkkcfkaaGreatDoor.Slt
open Go.RowKit Dsk
theorem ret_i64 {a b : Int} (h : a = b) : Ending.returned (.int .i64 a) = .returned (.int .i64 b) := by rw [h]
theorem sectorsOf_any (n : Nat) (h : n ≤ 4294967296) (w : World) : Calls Tryz.prog 95 #[.int .i64 n] w fun e w' => e = .returned (.int .i64 (tk n : Nat)) ∧ w = w' := by
  have h' : (n : Int) ≤ 4294967296 := by omega
  have hn : Hid ((5 + (n : Int) + 128 - 1) / 128 = ((tk n : Nat) : Int)) := by show _ = _; unfold tk; omega
  clear h
  go_enter Tryz.func95, Tryz.ntmps95
  go_wp2
  go_ret
  exact ⟨ret_i64 hn.out, rfl⟩
theorem info_head : (Tryz.prog.info? 167).map (·.size) = some 5 := by kernel_rfl
theorem headOf_any (n : Nat) (h : n ≤ 262144) (w : World) : Calls Tryz.prog 137 #[.int .i64 n] w fun e w' => e = .returned (.agg (u8s (0 :: be4 n))) ∧ Below w.heap.size w w' := by
  have h' : (n : Int) ≤ 262144 := by omega
  have hn : Hid ((u8s (0 :: be4 n)) = #[Value.int .u8 0, Value.int .u8 ((n : Int) / 16777216), Value.int .u8 ((n : Int) / 65536), Value.int .u8 ((n : Int) / 256 % 256), Value.int .u8 ((n : Int) % 256)]) := by
    show _ = _
    simp only [u8s, be4, List.map_cons, List.map_nil]
    rw [show ((n / 16777216 % 256 : Nat) : Int) = (n : Int) / 16777216 by omega, show ((n / 65536 % 256 : Nat) : Int) = (n : Int) / 65536 by omega, show ((n / 256 % 256 : Nat) : Int) = (n : Int) / 256 % 256 by omega, show ((n % 256 : Nat) : Int) = (n : Int) % 256 by omega]
  clear h
  go_enter Tryz.func137, Tryz.ntmps137
  go_wp2
  refine bodyPost_ret (results_cell_row rfl _ _ w.heap.size 167 _ _ _ rfl (Go.heap_alloc_new w _) Tryz.underlying167 rfl info_head) rfl ?_
  exact ⟨by rw [hn.out], (Below.refl _ _).alloc (Nat.le_refl _) _⟩
theorem or_u32 (a b : Nat) (ha : a < 4294967296) (hb : b < 4294967296) : bits .or .u32 (a : Int) (b : Int) = ((a ||| b : Nat) : Int) := by
  have hx : a ||| b < 2 ^ 32 := Nat.or_lt_two_pow (by omega) (by omega)
  have h1 : (BitVec.ofInt 32 (a : Int)).toNat = a := by
    rw [BitVec.ofInt_natCast, BitVec.toNat_ofNat]; exact Nat.mod_eq_of_lt (by omega)
  have h2 : (BitVec.ofInt 32 (b : Int)).toNat = b := by
    rw [BitVec.ofInt_natCast, BitVec.toNat_ofNat]; exact Nat.mod_eq_of_lt (by omega)
  show IntKind.u32.wrap ((BitVec.ofInt 32 (a : Int) ||| BitVec.ofInt 32 (b : Int)).toNat : Int) = _
  rw [BitVec.toNat_or, h1, h2, IntKind.wrap_u32']
  omega
theorem or_join (q i x : Nat) (hx : x < 2 ^ i) : q * 2 ^ i ||| x = q * 2 ^ i + x := by
  rw [Nat.mul_comm]; exact (Nat.two_pow_add_eq_or_of_lt hx q).symm
set_option maxRecDepth 10000 in
theorem or4 (b c d e : Int) (hb : 0 ≤ b ∧ b < 256) (hc : 0 ≤ c ∧ c < 256) (hd : 0 ≤ d ∧ d < 256) (he : 0 ≤ e ∧ e < 256) :
    bits BinOp.or IntKind.u32 (bits BinOp.or IntKind.u32 (bits BinOp.or IntKind.u32 (b * 16777216) (c * 65536)) (d * 256)) e = ((b.toNat * 16777216 + c.toNat * 65536 + d.toNat * 256 + e.toNat : Nat) : Int) := by
  obtain ⟨b, rfl⟩ := Int.eq_ofNat_of_zero_le hb.1
  obtain ⟨c, rfl⟩ := Int.eq_ofNat_of_zero_le hc.1
  obtain ⟨d, rfl⟩ := Int.eq_ofNat_of_zero_le hd.1
  obtain ⟨e, rfl⟩ := Int.eq_ofNat_of_zero_le he.1
  rw [show (b : Int) * 16777216 = ((b * 16777216 : Nat) : Int) by omega, show (c : Int) * 65536 = ((c * 65536 : Nat) : Int) by omega, show (d : Int) * 256 = ((d * 256 : Nat) : Int) by omega]
  rw [or_u32 _ _ (by omega) (by omega), show b * 16777216 ||| c * 65536 = b * 16777216 + c * 65536 from or_join b 24 _ (by omega)]
  rw [or_u32 _ _ (by omega) (by omega), show b * 16777216 + c * 65536 = (b * 256 + c) * 65536 by omega, show (b * 256 + c) * 65536 ||| d * 256 = (b * 256 + c) * 65536 + d * 256 from or_join (b * 256 + c) 16 _ (by omega)]
  rw [or_u32 _ _ (by omega) (by omega), show (b * 256 + c) * 65536 + d * 256 = ((b * 256 + c) * 256 + d) * 256 by omega, show ((b * 256 + c) * 256 + d) * 256 ||| e = ((b * 256 + c) * 256 + d) * 256 + e from or_join ((b * 256 + c) * 256 + d) 8 _ (by omega)]
  simp only [Int.toNat_natCast]
  exact congrArg (Int.ofNat ·) (by omega)
theorem ret_u32 {a b : Int} (h : a = b) : Ending.returned (.int .u32 a) = .returned (.int .u32 b) := by rw [h]
theorem length_any (l : List Int) (hl : l.length = 5) (hi : InB l) (w : World) : Calls Tryz.prog 125 #[.agg (u8s l)] w fun e w' => e = .returned (.int .u32 (lenB l : Nat)) ∧ Below w.heap.size w w' := by
  match l, hl with
  | [a, b, c, d, e], _ =>
    have hb : 0 ≤ b ∧ b < 256 := hi 1
    have hc : 0 ≤ c ∧ c < 256 := hi 2
    have hd : 0 ≤ d ∧ d < 256 := hi 3
    have he : 0 ≤ e ∧ e < 256 := hi 4
    have ho := Lib.hid (or4 b c d e hb hc hd he)
    have hq : Hid (lenB [a, b, c, d, e] = b.toNat * 16777216 + c.toNat * 65536 + d.toNat * 256 + e.toNat) := rfl
    simp only [u8s, List.map_cons, List.map_nil]
    clear hi
    go_enter Tryz.func125, Tryz.ntmps125
    go_wp2
    go_ret
    exact ⟨ret_u32 (by rw [hq.out]; exact ho.out), (Below.refl _ _).alloc (Nat.le_refl _) _⟩
end Go.Proofs.YtkjhoanlkkcfkaaGreatDoor.Slt
/- DERIVED. The contract of slots.slotOf. -/
namespace Go.Proofs.YtkjhoanlkkcfkaaGreatDoor.Slt
open Go.RowKit Dsk
theorem splice_slot (t : List Int) (k n : Nat) (hn : t.length = n) (h : n + 5 ≤ k * 128) : splice (splice (vals (List.replicate (k * 128) 0)) 0 (vals (0 :: be4 n))) 5 (vals t) = vals (slotB 0 t k) := by
  have e1 : k * 128 = n + 5 + (k * 128 - 5 - n) := by omega
  obtain ⟨r, hr⟩ : ∃ r, r = k * 128 - 5 - n := ⟨_, rfl⟩
  have e2 : slotB 0 t k = 0 :: (be4 n ++ (t ++ List.replicate r 0)) := by rw [slotB, hn, ← hr]
  rw [← hr] at e1
  rw [e1, e2]
  simp only [splice, vals, be4, List.map_cons, List.map_nil, List.length_cons, List.length_nil, List.length_map, List.take_zero, List.nil_append, List.map_replicate, List.drop_replicate, hn, List.map_append]
  rw [show n + 5 + r - 5 = n + r by omega]
  simp only [List.take_succ_cons, List.take_zero, List.cons_append, List.nil_append]
  rw [Nat.add_comm 5 n]
  have e3 : ∀ a b c d e : Value, List.drop (n + 5) (a :: b :: c :: d :: e :: List.replicate (n + r) (Value.int .u8 0)) = List.replicate r (Value.int .u8 0) := fun a b c d e => by
    show List.drop n (List.replicate (n + r) (Value.int .u8 0)) = _
    rw [List.drop_replicate, Nat.add_sub_cancel_left]
  rw [e3]
set_option maxRecDepth 100000 in
set_option maxHeartbeats 1000000 in
theorem slotOf_walk {w : World} (A : Option Addr) (n c F k : Nat) (t : List Int) (hl : t.length = n) (hn : n ≤ 262144) (hB : Byt w A c t) (hF2 : F ≤ 16384) (hk : k * 128 ≤ 300000) (hfit : n + 5 ≤ k * 128)
    (hmin : (if (F : Int) < ((tk n : Nat) : Int) + 1 then (F : Int) else ((tk n : Nat) : Int) + 1) = (k : Int)) :
    Calls Tryz.prog 120 #[.slice A n c, .int .i64 F] w fun e w' => ∃ g, e = .returned (.slice (some ⟨g, 0, none⟩) (k * 128) (k * 128)) ∧ w'.heap[g]? = some (.cells (vals (slotB 0 t k)).toArray 5 (0, 0)) ∧ w.heap.size ≤ g ∧ Below w.heap.size w w' := by
  have hmk := mk_any (k * 128) (by omega)
  rw [show ((k * 128 : Nat) : Int) = (k : Int) * 128 by omega] at hmk
  have Hs := Lib.hid (sectorsOf_any n (by omega))
  have Hh := Lib.hid (headOf_any n hn)
  have ht : tk n ≤ 3000 := by unfold tk; omega
  obtain ⟨T, hT⟩ : ∃ T, T = tk n := ⟨_, rfl⟩
  rw [← hT] at ht hmin Hs
  have Hl := Lib.hid hl
  have HB := Lib.hid hB
  have Hfit := Lib.hid hfit
  have Hmin := Lib.hid hmin
  have Hn := Lib.hid hn
  clear hB hmin hT hl hfit
  have Hone := Lib.hid (u8s_one (0 :: be4 n))
  have Hsz : Hid ((Tryz.prog.info? 167).map (·.size) = some (u8s (0 :: be4 n)).size) := info_head
  go_enter Tryz.func120, Tryz.ntmps120
  by_cases hc1 : (F : Int) < (T : Int) + 1
  all_goals
    have hk1 := Hmin.out
    first | rw [if_pos hc1] at hk1 | rw [if_neg hc1] at hk1
    rw [← hk1] at hmk
    clear hk1
    go_upto_region 3 with (first
      | (go_at_call 95; refine (Hs.out _).mono ?_; rintro e w' ⟨rfl, rfl⟩)
      | (go_at_call 137; refine (Hh.out _).mono ?_; rintro e w2 ⟨rfl, hb2⟩; have Hb2 := Lib.hid hb2; clear hb2)
      | (refine wpList_store_row rfl 167 (.tmp 6) (.tmp 17) rfl w2.heap.size (u8s (0 :: be4 n)) rfl rfl 167 _ (Go.heap_alloc_new w2 _) Hsz.out (by rfl) Hone.out ?_; rw [World.setRow_alloc_new]))
    have hb2 := Hb2.out
    have hs2 := hb2.size
    rw [World.size_alloc] at hs2
    have hz0 : w2.heap[w.heap.size]? = some (.cells (vals (List.replicate (k * 128) 0)).toArray 5 (0, 0)) := (hb2.block _ (by rw [World.size_alloc]; omega)).trans (Go.heap_alloc_new w _)
    have hz := (Go.heap_alloc_old w2 (.cells (u8s (0 :: be4 n)) 167) (by omega)).trans hz0
    have hh := Go.heap_alloc_new w2 (.cells (u8s (0 :: be4 n)) 167)
    have hlow : Below w.heap.size w (w2.alloc (.cells (u8s (0 :: be4 n)) 167)) := (((Below.refl w.heap.size w).alloc (Nat.le_refl _) _).trans (hb2.mono (by rw [World.size_alloc]; omega))).alloc (by omega) _
    have hs3 := World.size_alloc w2 (.cells (u8s (0 :: be4 n)) 167)
    obtain ⟨w3, hw3⟩ : ∃ w3, w3 = w2.alloc (.cells (u8s (0 :: be4 n)) 167) := ⟨_, rfl⟩
    rw [← hw3] at hz hh hlow hs3 ⊢
    have hbh : Byt w3 (some ⟨w2.heap.size, 0, none⟩) 5 (0 :: be4 n) := ⟨Nat.le_refl _, (fun h => by cases h), fun _ => ⟨w2.heap.size, 0, rfl, by omega, fun j hj => by rw [Nat.zero_add]; exact row8_cell hh j hj⟩⟩
    have hbt : Byt w3 A c t := HB.out.below hlow (Nat.le_refl _)
    have Hz := Lib.hid hz
    have Hbh := Lib.hid hbh
    have Hbt := Lib.hid hbt
    have Hlow := Lib.hid hlow
    have Hs3 : Hid (w.heap.size < w3.heap.size) := by show _ < _; omega
    have h5 : 5 ≤ k * 128 := by have := Hfit.out; omega
    have h5' : ¬ k * 128 = 5 := by omega
    clear hb2 hs2 hz0 hz hh hlow hs3 hw3 hbh hbt Hb2
    go_wp2_with (first
      | (refine wpList_copy_chg rfl (.tmp 18) (.tmp 19) rfl _ (k * 128) (k * 128) _ 5 5 (0 :: be4 n) (by rfl) (by rfl) rfl Hbh.out h5 w.heap.size 0 _ Hz.out (fun _ => rfl) (by rw [vals_length, List.length_replicate]; omega) ?_; intro w4 hh4 hc4; have Hh4 := Lib.hid hh4; have Hc4 := Lib.hid hc4; have Hb4 := Lib.hid (HB.out.below (hc4.below Hlow.out (Nat.le_of_lt Hs3.out) (fun q hq => by simp at hq; omega)) (Nat.le_refl _)); clear hh4 hc4)
      | (refine wpList_copy_chg rfl (.tmp 22) (.tmp 23) rfl _ (k * 128 - 5) (k * 128 - 5) _ n c t (by rfl) (by rfl) Hl.out Hb4.out (by have := Hfit.out; omega) w.heap.size 5 _ Hh4.out (fun _ => rfl) (by rw [splice_len _ _ _ (by simp [vals, be4]; omega), vals_length, List.length_replicate]; have := Hfit.out; omega) ?_; intro w5 hh5 hc5; have Hh5 := Lib.hid hh5; have Hc5 := Lib.hid hc5; clear hh5 hc5))
    go_ret
    refine ⟨_, rfl, ?_, Nat.le_refl _, ?_⟩
    · rw [Hh5.out, splice_slot t k n Hl.out Hfit.out]
    · exact Hc5.out.below (Hc4.out.below Hlow.out (Nat.le_of_lt Hs3.out) (fun q hq => by simp at hq; omega)) (Nat.le_trans (Nat.le_of_lt Hs3.out) Hc4.out.size) (fun q hq => by simp at hq; omega)
/-- the sectors of a first write: the slot, and one of zeros, if one is left. -/
def firstK (n F : Nat) : Nat := min (tk n + 1) F
theorem slotOf_any {w : World} (A : Option Addr) (n c F : Nat) (t : List Int) (hl : t.length = n) (hn : n ≤ 262144) (hB : Byt w A c t) (hF : tk n ≤ F) (hF2 : F ≤ 16384) :
    Calls Tryz.prog 120 #[.slice A n c, .int .i64 F] w fun e w' => ∃ g, e = .returned (.slice (some ⟨g, 0, none⟩) (firstK n F * 128) (firstK n F * 128)) ∧ w'.heap[g]? = some (.cells (vals (slotB 0 t (firstK n F))).toArray 5 (0, 0)) ∧ w.heap.size ≤ g ∧ Below w.heap.size w w' := by
  have h1 := tk_fit n
  have h2 : tk n ≤ 2100 := by unfold tk; omega
  have h3 : tk n ≤ firstK n F := by unfold firstK; omega
  have h4 : firstK n F ≤ tk n + 1 := by unfold firstK; omega
  exact slotOf_walk A n c F (firstK n F) t hl hn hB hF2 (by omega) (by omega) (by unfold firstK; split <;> omega)
end Go.Proofs.YtkjhoanlkkcfkaaGreatDoor.Slt
/- DERIVED. A log in memory; the contracts of its small methods. -/
namespace Go.Proofs.YtkjhoanlkkcfkaaGreatDoor.Slt
open Go.RowKit Dsk
/-- where a log lies: its struct, the slice of its records, and their slices. -/
structure LK where
  g : Nat
  v : Value
  ts : List Value
/-- what a log is. -/
structure LS where
  from_ : Nat
  secs : Nat
  used : Nat
  texts : List (List Int)
  lost : Bool
def LK.ptr (J : LK) : Value := .pointer (some ⟨J.g, 0, none⟩)
/-- the blocks that its calls may turn; those of its texts. -/
def LK.bl (J : LK) : List Nat := J.g :: J.v.ownBlock.toList
def LK.tx (J : LK) : List Nat := J.ts.flatMap fun v => v.ownBlock.toList
def rowL (K : DK) (J : LK) (S : LS) : Array Value := #[J.ptr, K.ptr, .int .i64 S.from_, .int .i64 S.secs, .int .i64 S.used, J.v, .bool S.lost]
structure Lg0 (w : World) (K : DK) (J : LK) (S : LS) : Prop where
  row : w.heap[J.g]? = some (.cells (rowL K J S) 128 (0, 0))
  own : w.ownsRow 0 38 1 J.v S.texts.length J.ts
  gv : ∀ q, J.v.ownBlock = some q → q ≠ J.g
  txt : ∀ i, i < S.texts.length → SlB (S.texts.getD i []) (J.ts.getD i undef) w
  tlt : ∀ q ∈ J.tx, q < w.heap.size
  tap : ∀ q ∈ J.tx, q ∉ K.bl ∧ q ∉ J.bl
  kap : ∀ q ∈ J.bl, q ∉ K.bl
  inb : ∀ t ∈ S.texts, InB t ∧ t.length ≤ 262144
/-- and its numbers fit. -/
structure Lg (w : World) (K : DK) (J : LK) (S : LS) : Prop extends Lg0 w K J S where
  fit : S.used ≤ S.secs
  end_ : S.from_ + S.secs ≤ 16384
  cnt : S.texts.length ≤ S.used
theorem Lg0.glt {w : World} {K : DK} {J : LK} {S : LS} (h : Lg0 w K J S) : J.g < w.heap.size := (Array.getElem?_eq_some_iff.1 h.row).1
theorem Lg0.len {w : World} {K : DK} {J : LK} {S : LS} (h : Lg0 w K J S) : J.ts.length = S.texts.length := by have := h.own.1; omega
/-- a row of the call's own stays where its block does not turn. -/
theorem own_chg {S : List Nat} {w w' : World} {base n s : Nat} {t : TypeId} {v : Value} {L : List Value} (h : w.ownsRow base t s v n L) (hc : Chg S w w') (hS : ∀ q, v.ownBlock = some q → q ∉ S) : w'.ownsRow base t s v n L := by
  obtain ⟨h1, h⟩ := h
  refine ⟨h1, ?_⟩
  rcases h with h | ⟨g, cap, cur, h1, h2, h3, h4, h5, h6, h7⟩
  · exact .inl h
  · exact .inr ⟨g, cap, cur, h1, h2, hc.at h3 (hS g (by rw [h1]; rfl)), h4, h5, h6, h7⟩
theorem mem_tx {J : LK} {i : Nat} {a : Addr} {n c : Nat} (hi : J.ts.getD i undef = .slice (some a) n c) (hl : i < J.ts.length) : a.block ∈ J.tx := by
  unfold LK.tx
  rw [List.mem_flatMap]
  refine ⟨J.ts.getD i undef, ?_, by rw [hi]; simp [Value.ownBlock]⟩
  rw [List.getD_eq_getElem?_getD, List.getElem?_eq_getElem hl, Option.getD_some]
  exact List.getElem_mem hl
theorem Lg0.chg {T : List Nat} {w w' : World} {K : DK} {J : LK} {S : LS} (h : Lg0 w K J S) (hc : Chg T w w') (h1 : ∀ q ∈ J.bl, q ∉ T) (h2 : ∀ q ∈ J.tx, q ∉ T) : Lg0 w' K J S where
  row := hc.at h.row (h1 _ (by simp [LK.bl]))
  own := own_chg h.own hc (fun q hq => h1 q (by simp [LK.bl, hq]))
  gv := h.gv
  txt i hi := by
    obtain ⟨A, c, e, hB⟩ := h.txt i hi
    refine ⟨A, c, e, hB.chg hc (fun a ha => h2 _ (mem_tx (by rw [e, ha]) (by rw [h.len]; exact hi)))⟩
  tlt q hq := Nat.lt_of_lt_of_le (h.tlt q hq) hc.size
  tap := h.tap
  kap := h.kap
  inb := h.inb
theorem Lg.chg {T : List Nat} {w w' : World} {K : DK} {J : LK} {S : LS} (h : Lg w K J S) (hc : Chg T w w') (h1 : ∀ q ∈ J.bl, q ∉ T) (h2 : ∀ q ∈ J.tx, q ∉ T) : Lg w' K J S :=
  ⟨h.toLg0.chg hc h1 h2, h.fit, h.end_, h.cnt⟩
theorem Lg.later {w w' : World} {K : DK} {J : LK} {S : LS} (h : Lg w K J S) (hb : Below w.heap.size w w') : Lg w' K J S :=
  h.chg (T := []) (Chg.of_below hb) (by simp) (by simp)
/-- the disk changed alone. -/
theorem Lg.disk {w w' : World} {K : DK} {J : LK} {S : LS} (h : Lg w K J S) (hc : Chg K.bl w w') : Lg w' K J S :=
  h.chg hc h.kap (fun q hq => (h.tap q hq).1)
theorem Lg0.cells {w : World} {K : DK} {J : LK} {S : LS} (h : Lg0 w K J S) : w.cell? ⟨J.g, 0, none⟩ = some (.pointer (some ⟨J.g, 0, none⟩)) ∧ w.cell? ⟨J.g, 1, none⟩ = some (.pointer (some ⟨K.g, 0, none⟩)) ∧ w.cell? ⟨J.g, 2, none⟩ = some (.int .i64 S.from_) ∧ w.cell? ⟨J.g, 3, none⟩ = some (.int .i64 S.secs) ∧ w.cell? ⟨J.g, 4, none⟩ = some (.int .i64 S.used) ∧ w.cell? ⟨J.g, 5, none⟩ = some J.v ∧ w.cell? ⟨J.g, 6, none⟩ = some (.bool S.lost) := by
  refine ⟨?_, ?_, ?_, ?_, ?_, ?_, ?_⟩ <;> rw [cell_row h.row] <;> rfl
theorem leq_same (a : Addr) (w : World) : (binOp .eql 90 (.pointer (some a)) (.pointer (some a))).run Tryz.prog w = .ok (.bool true) w := by
  obtain ⟨j, hj⟩ : ∃ j, Tryz.prog.info? 128 = some j := Option.isSome_iff_exists.1 (by kernel_rfl)
  exact Go.run_eql_ptr_same w a (te := 128) Tryz.underlying90 hj
theorem lmade_any {w : World} {K : DK} {J : LK} {S : LS} (h : Lg w K J S) : Calls Tryz.prog 94 #[J.ptr] w fun e w' => e = .returned (.bool true) ∧ w = w' := by
  obtain ⟨c0, _⟩ := h.cells
  have he := leq_same ⟨J.g, 0, none⟩
  unfold LK.ptr
  clear h
  go_enter Tryz.func94, Tryz.ntmps94
  go_wp2
  go_ret
  exact ⟨rfl, rfl⟩
theorem free_any {w : World} {K : DK} {J : LK} {S : LS} (h : Lg w K J S) : Calls Tryz.prog 96 #[J.ptr] w fun e w' => e = .returned (.int .i64 (S.secs - S.used : Nat)) ∧ Below w.heap.size w w' := by
  obtain ⟨_, _, _, c3, c4, _⟩ := h.cells
  have h1 := h.fit
  have h2 := h.end_
  have h3 : S.secs ≤ 16384 := by omega
  have hr : Hid (((S.secs - S.used : Nat) : Int) = (S.secs : Int) - (S.used : Int)) := by show _ = _; omega
  unfold LK.ptr
  clear h h2
  obtain ⟨s, hs⟩ : ∃ s, s = S.secs := ⟨_, rfl⟩
  obtain ⟨u, hu⟩ : ∃ u, u = S.used := ⟨_, rfl⟩
  rw [← hs] at c3 h1 h3 hr ⊢
  rw [← hu] at c4 h1 hr ⊢
  clear hs hu
  go_enter Tryz.func96, Tryz.ntmps96
  go_upto_region 1 with (fail)
  go_quiet (fail)
  go_wp2
  go_ret
  exact ⟨ret_i64 hr.out.symm, Below.drewN (Below.refl _ _) _⟩
/-- how long a record may be that still fits. -/
def roomI (F : Nat) : Int := if F = 0 then -1 else if F * 128 - 5 < 262144 then ((F * 128 - 5 : Nat) : Int) else 262144
theorem room_any {w : World} {K : DK} {J : LK} {S : LS} (h : Lg w K J S) : Calls Tryz.prog 68 #[J.ptr] w fun e w' => e = .returned (.int .i64 (roomI (S.secs - S.used))) ∧ Below w.heap.size w w' := by
  have Hm := Lib.hid (lmade_any h)
  have Hf := Lib.hid (free_any h)
  have Hf2 := Lib.hid (fun w' hb => free_any (w := w') (h.later hb))
  have hF : S.secs - S.used ≤ 16384 := by have := h.end_; omega
  obtain ⟨F, hFe⟩ : ∃ F, F = S.secs - S.used := ⟨_, rfl⟩
  rw [← hFe] at Hf Hf2 hF ⊢
  unfold LK.ptr at *
  clear h hFe
  by_cases h0 : F = 0
  · subst h0
    rw [show roomI 0 = -1 by rfl]
    go_enter Tryz.func68, Tryz.ntmps68
    go_wp2_with (first
      | (go_at_call 94; refine Hm.out.mono ?_; rintro e w' ⟨rfl, rfl⟩)
      | (go_at_call 96; refine Hf.out.mono ?_; rintro e w1 ⟨rfl, hb1⟩; have Hb1 := Lib.hid hb1; clear hb1))
    go_ret
    exact ⟨rfl, Hb1.out⟩
  · have h0' : ¬ (F : Int) = 0 := by omega
    have hr : Hid (roomI F = if (F : Int) * 128 - 5 < 262144 then (F : Int) * 128 - 5 else 262144) := by
      show _ = _
      unfold roomI
      rw [if_neg h0]
      split
      · rw [if_pos (by omega)]; omega
      · rw [if_neg (by omega)]
    by_cases h1 : (262144 : Int) < (F : Int) * 128 - 5
    all_goals
      go_enter Tryz.func68, Tryz.ntmps68
      go_wp2_with (first
        | (go_at_call 94; refine Hm.out.mono ?_; rintro e w' ⟨rfl, rfl⟩)
        | (go_at_call 96; refine (Hf2.out _ Hb1.out).mono ?_; rintro e w2 ⟨rfl, hb2⟩; have Hb2 := Lib.hid hb2; clear hb2)
        | (go_at_call 96; refine Hf.out.mono ?_; rintro e w1 ⟨rfl, hb1⟩; have Hb1 := Lib.hid hb1; clear hb1))
      go_ret
      have hq := hr.out
      first | rw [if_neg (by omega)] at hq | (split at hq)
      all_goals exact ⟨ret_i64 (by show _ = _; omega), Hb1.out.trans (Hb2.out.mono Hb1.out.size)⟩
end Go.Proofs.YtkjhoanlkkcfkaaGreatDoor.Slt
/- DERIVED. bytes.Clone of any slice of bytes, nil let in; append to a slice of slices. -/
namespace Go.Proofs.YtkjhoanlkkcfkaaGreatDoor.Slt
open Go.RowKit Dsk
set_option maxHeartbeats 1000000 in
theorem clone_some {L : List Int} {ad : Addr} {c n : Nat} {w : World} (hB : Byt w (some ad) c L) (hn : L.length = n) (hle : n ≤ 4294967296) :
    Calls Tryz.prog 38 #[.slice (some ad) n c] w fun e w' => ∃ v', e = .returned v' ∧ w'.ownsRow w.heap.size 5 1 v' n (vals L) ∧ Below w.heap.size w w' := by
  have HB := Lib.hid hB
  have Hn := Lib.hid hn
  have Hle := Lib.hid hle
  have hmade := World.ownsRow_made w (base := w.heap.size) (e := 5) (size := 1) #[] 0 (Nat.le_refl _) (Nat.zero_le _) rfl
  have Hmade := Lib.hid hmade
  have hne := fun (w : World) => Lib.run_eql_slice_nil w 38 5 (some ad) n c 0 0 Tryz.underlying38
  clear hB hn hmade hle
  go_enter Tryz.func38, Tryz.ntmps38
  go_wp2_with (at_builtin; refine wpList_append_any rfl (.tmp 5) (.tmp 6) rfl w.heap.size _ 0 [] rfl Hmade.out (some ad) n c L rfl Hn.out (HB.out.alloc _) (by have := Hle.out; omega) (by rw [World.size_alloc]; omega) ?_; intro v1 w1 hown1 hlow1; have Hown1 := Lib.hid hown1; have Hlow1 := Lib.hid hlow1; clear hown1 hlow1)
  go_ret
  have ho := Hown1.out
  rw [List.nil_append, Nat.zero_add] at ho
  exact ⟨_, rfl, ho, Hlow1.out _ _ ((Below.refl _ _).alloc (Nat.le_refl _) _) (Nat.le_refl _)⟩
theorem clone_none {w : World} : Calls Tryz.prog 38 #[.slice none 0 0] w fun e w' => ∃ v', e = .returned v' ∧ w'.ownsRow w.heap.size 5 1 v' 0 (vals []) ∧ Below w.heap.size w w' := by
  have hne := fun (w : World) => Lib.run_eql_slice_nil w 38 5 none 0 0 0 0 Tryz.underlying38
  go_enter Tryz.func38, Tryz.ntmps38
  go_wp2
  go_ret
  exact ⟨_, rfl, World.ownsRow_nil w _ _ _, Below.refl _ _⟩
theorem clone_sl {L : List Int} {v : Value} {w : World} (hv : SlB L v w) (hle : L.length ≤ 4294967296) :
    Calls Tryz.prog 38 #[v] w fun e w' => ∃ v', e = .returned v' ∧ w'.ownsRow w.heap.size 5 1 v' L.length (vals L) ∧ Below w.heap.size w w' := by
  obtain ⟨A, c, rfl, hB⟩ := hv
  cases A with
  | none =>
    have hc := hB.2.1 rfl
    have h1 := hB.1
    subst hc
    obtain rfl : L = [] := List.eq_nil_of_length_eq_zero (by omega)
    exact clone_none
  | some ad => exact clone_some hB rfl hle
theorem info_slz : (Tryz.prog.info? 38).map (fun i => (i.zero, i.size, i.bytes)) = some (some (.slice none 0 0), 1, 24) := by kernel_rfl
/-- append of one slice to a row of slices. -/
theorem wp_app_sl {w : World} {o : Oper} {a : Act} {K : Act → World → Prop} {Q : Exit → Act → World → Prop} (s y : Operand)
    (ho : o.op = .call { callee := .builtin .append, args := #[s, y], argTypes := #[51, 51] }) (base : Nat) (v : Value) (n : Nat) (xs : List Value) (x : Value) (hx1 : x.oneCell' = true) (hs : a.eval s = v) (hown : w.ownsRow base 38 1 v n xs)
    (g : Nat) (hy : a.eval y = .slice (some ⟨g, 0, none⟩) 1 1) (hg : w.heap[g]? = some (.cells #[x] 38 (0, 0))) (h63 : n ≤ 100000) (hbase : base ≤ w.heap.size)
    (h : ∀ v' w', w'.ownsRow base 38 1 v' (n + 1) (xs ++ [x]) → w.grownBy w' v.ownBlock → (v'.ownBlock = v.ownBlock ∨ v'.ownBlock = some w.heap.size) → K (a.put o.dst v') w') : o.wp Tryz.prog a w K Q := by
  obtain ⟨i0, hi0, hz00, hz10, hz20⟩ := info_parts info_slz
  obtain ⟨v', w', hr, h2, h3, _, h5⟩ := run_append_own_at (P := Tryz.prog) w base 51 o.type 38 i0 (.slice none 0 0) 1 24 Tryz.underlying51 hi0 hz00 hz10 hz20 rfl (by decide) v n xs hown ⟨g, 0, none⟩ 1 1 [x] (by rfl)
    (fun j u hu => by rw [Addr.add_mid, Nat.zero_add, cell_row hg]; simpa using hu) (fun u hu => by simp at hu; subst hu; exact hx1) (by unfold maxLen; omega) (by omega) hbase
  unfold Oper.wp execOp
  simp only [ho, resolve, invoke, builtin, Sem.run_bind, Sem.run_pure, Result.andThen_ok, List.map_toArray, List.map_cons, List.map_nil, hs, hy, hr]
  exact h v' w' h2 h3 h5
theorem chg_grown {w w' : World} {r : Option Nat} (h : w.grownBy w' r) : Chg r.toList w w' :=
  ⟨h.os, h.tape, h.output, h.size, fun k hk hS => h.block k hk (fun e => hS (by rw [← e]; simp))⟩
end Go.Proofs.YtkjhoanlkkcfkaaGreatDoor.Slt
