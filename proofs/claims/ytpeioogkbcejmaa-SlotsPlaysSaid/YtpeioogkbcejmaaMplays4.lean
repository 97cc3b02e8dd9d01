/- DERIVED. Texts of ours, merged: XDskWr XDskWrite XDskNew XSlt. -/
import Derived.Test.YtpeioogkbcejmaaMplays3
import Derived.Deep.WholeRow
import Derived.Test.YtpeioogkbcejmaaMplays2
/- DERIVED. The contracts of disk's writeSector, Write, Put (step.py writes this text out of wr.txt). -/
namespace Go.Proofs.Ytpeioogkbcejmaa.Dsk
open Go.RowKit
theorem chg_setRow {S : List Nat} {g : Nat} (w : World) (C : Array Value) (hg : g ∈ S) : Chg S w (w.setRow g C) :=
  ⟨rfl, rfl, rfl, by simp [World.setRow], fun k _ hS => setRow_other w g k C (fun e => hS (by rw [e]; exact hg))⟩
theorem infoB1 : (Try.prog.info? 5).map (·.size) = some 1 := by kernel_rfl
/-- copy into a row, from anywhere: only that row changes. -/
theorem wpList_copy_chg {w : World} {ops : Array Oper} {rest : List Oper} {o : Oper} {a : Act} {Q : Exit → Act → World → Prop} (hgd : o.guard = none) (d s : Operand)
    (ho : o.op = .call { callee := .builtin .copy, args := #[d, s], argTypes := #[33, 33] })
    (dp : Option Addr) (dLen dCap : Nat) (A : Option Addr) (m c : Nat) (b : List Int) (hd : a.eval d = .slice dp dLen dCap) (hs : a.eval s = .slice A m c) (hm : b.length = m) (hB : Byt w A c b) (hmd : m ≤ dLen)
    (g off : Nat) (cur : List Value) (hg : w.heap[g]? = some (.cells cur.toArray 5 (0, 0))) (hdp : 0 < m → dp = some ⟨g, off, none⟩) (hfit : off + m ≤ cur.length)
    (h : ∀ w', w'.heap[g]? = some (.cells (splice cur off (vals b)).toArray 5 (0, 0)) → Chg [g] w w' → wpList Try.prog ops Q rest (a.put o.dst (goInt m)) w') :
    wpList Try.prog ops Q (o :: rest) a w := by
  by_cases h0 : m = 0
  · subst h0
    obtain rfl : b = [] := List.eq_nil_of_length_eq_zero hm
    refine wpList_copy_nothing hgd d s 33 33 ho 5 Try.underlying33 infoB1 dp A dLen dCap 0 c hd hs (by simp) ?_
    exact h w (by simpa [splice, vals] using hg) (Chg.refl _ _)
  · have hdp' := hdp (by omega)
    subst hdp'
    obtain ⟨gb, ob, rfl, hgb, hc⟩ := hB.2.2 (by omega)
    have hv : (vals b).length = m := by rw [vals_length, hm]
    refine wpList_copy_own hgd d s 33 33 ho 5 Try.underlying33 infoB1 g off dLen dCap ⟨gb, ob, none⟩ m c hd hs cur.toArray 5 hg (vals b) (by rw [hv]; exact (Nat.min_eq_left hmd).symm)
      (fun j v hj => by obtain ⟨hj', rfl⟩ := vals_get hj; rw [Addr.add_mid]; exact hc j hj') (by rw [hv]; simpa using hfit) (vals_one _) ?_
    rw [hv]
    refine h _ ?_ (chg_setRow _ _ (List.mem_singleton.2 rfl))
    rw [setRow_heap w g _ _ _ _ hg]
    simp [splice, hv]
/-- bytes written over in the disk's row. -/
theorem splice_vals (d b : List Int) (sp : List Value) (o : Nat) (h : o + b.length ≤ d.length) : splice (vals d ++ sp) o (vals b) = vals (splice d o b) ++ sp := by
  unfold splice
  rw [vals_length, List.take_append_of_le_length (by rw [vals_length]; omega), List.drop_append_of_le_length (by rw [vals_length]; omega)]
  simp [vals]
theorem inB_splice {d b : List Int} {o : Nat} (hd : InB d) (hb : InB b) : InB (splice d o b) := (hd.take o).append (hb.append (hd.drop _))
theorem inB_torn {m o b : List Int} (ho : InB o) (hb : InB b) : InB (tornL m o b) := by
  intro j
  by_cases h : j < 128
  · rw [torn_get _ _ _ _ h]
    split
    · exact hb j
    · exact ho j
  · rw [getD_out _ _ (by rw [torn_len]; omega)]; omega
theorem DS.Ok.data {D : DS} (h : D.Ok) (b : List Int) (o : Nat) (hb : InB b) (ho : o + b.length ≤ D.data.length) : ({ D with data := splice D.data o b } : DS).Ok := by
  have hl : (splice D.data o b).length = D.data.length := splice_len _ _ _ ho
  have hs : ({ D with data := splice D.data o b } : DS).secs = D.secs := by simp [DS.secs, hl]
  exact ⟨inB_splice h.inb hb, by rw [hs]; exact hl.trans h.whole128, by rw [hs]; exact h.one, by rw [hs]; exact h.most, h.mlen, h.minb, h.wh, h.wr⟩
theorem Dsk.setData {w w' : World} {K : DK} {D : DS} (h : Dsk w K D) (b : List Int) (o : Nat) (hb : InB b) (ho : o + b.length ≤ D.data.length) (hh : w'.heap[K.h]? = some (.cells (splice (vals D.data ++ K.sp) o (vals b)).toArray 5 (0, 0))) (hc : Chg [K.h] w w') : Dsk w' K { D with data := splice D.data o b } := by
  refine ⟨?_, ?_, h.ne, h.ok.data b o hb ho⟩
  · have := hc.at h.row (by simpa using h.ne)
    rw [this]
    simp only [splice_len D.data o b ho]
  · rw [hh, splice_vals _ _ _ _ ho]
theorem chg_bl {K : DK} {w w' : World} (h : Chg [K.h] w w') : Chg K.bl w w' := h.mono (fun k hk => .inl (by simp at hk; subst hk; simp [DK.bl]))
theorem chg_blg {K : DK} {w w' : World} (h : Chg [K.g] w w') : Chg K.bl w w' := h.mono (fun k hk => .inl (by simp at hk; subst hk; simp [DK.bl]))
set_option maxRecDepth 100000 in
set_option maxHeartbeats 1000000 in
theorem writeSector_any {w : World} {K : DK} {D : DS} (h : Dsk w K D) (k : Nat) (hk : k < D.secs) (A : Option Addr) (c : Nat) (b : List Int) (hl : b.length = 128) (hi : InB b) (hB : Byt w A c b) (hA : ∀ a, A = some a → a.block ∉ K.bl) (hw : D.writes ≤ 4611686018427387904) :
    Calls Try.prog 49 #[K.ptr, .int .i64 k, .slice A 128 c] w fun e w' => e = .returned (.tuple #[]) ∧ Dsk w' K (stepD D k b) ∧ Chg K.bl w w' := by
  obtain ⟨_, _, c2, _⟩ := row0 h.row
  have f2 := free_row h.row 2
  have hwr := h.ok.wr
  have h1 := h.setWrites (D.writes + 1) (by omega)
  have g1 : Chg K.bl w (w.setCell ⟨K.g, 2, none⟩ (.int .i64 (D.writes + 1))) := chg_blg (chg_one _ _ _ _)
  have hB1 : Byt (w.setCell ⟨K.g, 2, none⟩ (.int .i64 (D.writes + 1))) A c b := hB.chg g1 hA
  obtain ⟨w1, hw1⟩ : ∃ w1, w1 = w.setCell ⟨K.g, 2, none⟩ (.int .i64 (D.writes + 1)) := ⟨_, rfl⟩
  rw [← hw1] at h1 g1 hB1
  obtain ⟨x, hx⟩ : ∃ x, x = D.writes := ⟨_, rfl⟩
  rw [← hx] at c2 hwr hw hw1
  have hcap : ¬ D.data.length + K.sp.length = k * 128 := by have := h.ok.whole128; omega
  have hfit : k * 128 + 128 ≤ D.data.length := by have := h.ok.whole128; omega
  have hsec := sectors_any h1 k 1 (Nat.succ_le_of_lt hk)
  simp only [secV, if_neg hcap, Nat.one_mul] at hsec
  have Hs := Lib.hid hsec
  have Hd := Lib.hid (due_any h1)
  obtain ⟨C, hC⟩ : ∃ C, C = D.data.length + K.sp.length - k * 128 := ⟨_, rfl⟩
  rw [← hC] at Hs
  have hdue : ({ D with writes := D.writes + 1 } : DS).due = D.due := rfl
  rw [hdue] at Hd
  have H1 := Lib.hid h1
  have G1 := Lib.hid g1
  have HW1 := Lib.hid hw1
  have HB1 := Lib.hid hB1
  have HL := Lib.hid hl
  have HI := Lib.hid hi
  have HF := Lib.hid hfit
  cases e : D.due
  · rw [e] at Hd
    have hst : stepD D k b = { D with data := splice D.data (k * 128) b, writes := D.writes + 1, whole := if D.laid then D.whole - 1 else D.whole } := by
      unfold stepD; rw [if_neg (by rw [e]; decide)]
    rw [hst]
    have Hcnt : Hid (∀ w2, Dsk w2 K { D with data := splice D.data (k * 128) b, writes := D.writes + 1 } → Calls Try.prog 53 #[K.cutp] w2 fun e w' => e = .returned (.tuple #[]) ∧ Dsk w' K { D with data := splice D.data (k * 128) b, writes := D.writes + 1, whole := if D.laid then D.whole - 1 else D.whole } ∧ Chg [K.g] w2 w') :=
      fun w2 h2 => count_any h2 e
    obtain ⟨D2, hD2⟩ : ∃ D2, D2 = ({ D with data := splice D.data (k * 128) b, writes := D.writes + 1, whole := if D.laid then D.whole - 1 else D.whole } : DS) := ⟨_, rfl⟩
    rw [← hD2] at Hcnt ⊢
    unfold DK.ptr DK.cutp at *
    clear h h1 g1 hB hB1 hA hl hi hfit hcap hsec hst hdue hw1 hx hC e hD2
    go_enter Try.func49, Try.ntmps49
    go_wp2_with (first
      | (go_at_call 45; rw [← HW1.out]; refine Hs.out.mono ?_; rintro e w' ⟨rfl, rfl⟩)
      | (go_at_call 51; refine Hd.out.mono ?_; rintro e w' ⟨rfl, rfl⟩)
      | (refine wpList_copy_chg rfl (.tmp 34) (.tmp 35) rfl _ 128 _ A 128 c b (by rfl) (by rfl) HL.out HB1.out (Nat.le_refl _) K.h (k * 128) _ H1.out.body (fun _ => rfl) (by rw [List.length_append, vals_length]; exact Nat.le_trans HF.out (Nat.le_add_right _ _)) ?_; intro w2 hh2 hc2; have H2 := Lib.hid (H1.out.setData b (k * 128) HI.out (by rw [HL.out]; exact HF.out) hh2 hc2); have G2 := Lib.hid (G1.out.trans (chg_bl hc2)); clear hh2 hc2)
      | (go_at_call 53; refine (Hcnt.out _ H2.out).mono ?_; rintro e w3 ⟨rfl, h3, hc3⟩; have H3 := Lib.hid h3; have G3 := Lib.hid (G2.out.trans (chg_blg hc3)); clear h3 hc3))
    refine bodyPost_end (results_none rfl _ _ _) rfl ?_
    exact ⟨rfl, H3.out, G3.out⟩
  · rw [e] at Hd
    have hst : stepD D k b = { data := splice D.data (k * 128) (tornL D.mask (secL D.data k) b), writes := D.writes + 1, off := true, laid := false, whole := 0, mask := z16 } := by
      unfold stepD; rw [if_pos e]
    rw [hst]
    have Ht := Lib.hid (tear_any h1 k hk C c A b hl hB1 hA)
    unfold DK.ptr DK.cutp at *
    have hin := Lib.hid h.ok.inb
    clear h h1 g1 hB hB1 hA hl hi hfit hcap hsec hst hdue hw1 hx hC e
    go_enter Try.func49, Try.ntmps49
    go_upto_region 4 with (first
      | (go_at_call 45; rw [← HW1.out]; refine Hs.out.mono ?_; rintro e w' ⟨rfl, rfl⟩)
      | (go_at_call 51; refine Hd.out.mono ?_; rintro e w' ⟨rfl, rfl⟩)
      | (go_at_call 52; refine Ht.out.mono ?_; rintro e w2 ⟨rfl, hT⟩; have HT := Lib.hid hT; clear hT))
    have hT := HT.out
    have tl : (tornL D.mask (secL D.data k) b).length = 128 := torn_len _ _ _
    have h2 := H1.out.setData (tornL D.mask (secL D.data k) b) (k * 128) (inB_torn ((hin.out.drop _).take _) HI.out) (by rw [tl]; exact HF.out) (by have := hT.body; simp only [List.take_of_length_le (Nat.le_of_eq tl)] at this; exact this) hT.chg
    have g2 := G1.out.trans (chg_bl hT.chg)
    obtain ⟨_, _, _, c3, _⟩ := row0 h2.row
    have f3 := free_row h2.row 3
    have H2 := Lib.hid h2
    have G2 := Lib.hid g2
    clear hT HT tl h2 g2
    refine wp_region_lit ?_
    refine wpList_plain rfl (fun K hK => ?_)
    go_simp
    refine hK _ _ ?_
    clear hK
    clear K
    refine wpList_plain rfl (fun K hK => ?_)
    go_simp
    refine hK _ _ ?_
    clear hK
    clear K
    refine wpList_buildTo rfl 64 #[] rfl (some 29) rfl (cutC false 0 z16).toArray (by simp only [List.map_toArray, List.map_nil]; exact built_zero) ?_
    refine wpList_plain rfl (fun K hK => ?_)
    go_simp
    refine hK _ _ ?_
    clear hK
    clear K
    refine wpList_plain rfl (fun K hK => ?_)
    go_simp
    refine hK _ _ ?_
    clear hK
    clear K
    refine wpList_plain rfl (fun K hK => ?_)
    go_simp
    refine hK _ _ ?_
    clear hK
    clear K
    refine wpList_plain rfl (fun K hK => ?_)
    go_simp
    refine hK _ _ ?_
    clear hK
    clear K
    refine wpList_plain rfl (fun K hK => ?_)
    go_simp
    refine hK _ _ ?_
    clear hK
    clear K
    have h3 := H2.out.setOff true
    refine wpList_store_mid rfl 64 (.tmp 33) (.tmp 29) rfl K.g 4 (cutC false 0 z16).toArray rfl rfl (by rw [List.size_toArray, cutC_len _ _ _ rfl]; exact h3.there) (by rw [List.size_toArray, cutC_len _ _ _ rfl]; exact info46) (cutC_one _ _ _) ?_
    refine wpList_nil ?_
    go_simp
    try go_wp2
    refine bodyPost_ret (results_none rfl _ _ _) rfl ?_
    exact ⟨rfl, h3.setCut false 0 z16 rfl inb16 (by decide) (by decide), (G2.out.setCell (p := ⟨K.g, 3, none⟩) (by simp [DK.bl]) _).setCells (by simp [DK.bl]) _ _⟩
end Go.Proofs.Ytpeioogkbcejmaa.Dsk
/- DERIVED. The contracts of disk's Write and Put. -/
namespace Go.Proofs.Ytpeioogkbcejmaa.Dsk
open Go.RowKit
theorem step_len (D : DS) (k : Nat) (b : List Int) (hk : k * 128 + 128 ≤ D.data.length) (hl : b.length = 128) : (stepD D k b).data.length = D.data.length := by
  unfold stepD
  split
  · exact splice_len _ _ _ (by rw [torn_len]; exact hk)
  · exact splice_len _ _ _ (by rw [hl]; exact hk)
theorem step_secs (D : DS) (k : Nat) (b : List Int) (hk : k * 128 + 128 ≤ D.data.length) (hl : b.length = 128) : (stepD D k b).secs = D.secs := by
  simp only [DS.secs, step_len D k b hk hl]
theorem step_writes (D : DS) (k : Nat) (b : List Int) : (stepD D k b).writes = D.writes + 1 := by
  unfold stepD; split <;> rfl
theorem run_on {D : DS} {k i n : Nat} {b : List Int} (h : (stepD D (k + i) (secL b i)).off = false) : runD D k b i (n + 1) = runD (stepD D (k + i) (secL b i)) k b (i + 1) n := by
  rw [runD, if_neg (by rw [h]; decide)]
theorem run_off {D : DS} {k i n : Nat} {b : List Int} (h : (stepD D (k + i) (secL b i)).off = true) : runD D k b i (n + 1) = (stepD D (k + i) (secL b i), 12) := by
  rw [runD, if_pos h]
theorem secL_in {b : List Int} (h : InB b) (i : Nat) : InB (secL b i) := (h.drop _).take _
theorem secL_byt {w : World} {gb ob c i : Nat} {b : List Int} (hB : Byt w (some ⟨gb, ob, none⟩) c b) (hi : i * 128 + 128 ≤ b.length) : Byt w (some ⟨gb, ob + i * 128, none⟩) (c - i * 128) (secL b i) := by
  obtain ⟨h1, _, h3⟩ := hB
  obtain ⟨g', o', e, hg, hc⟩ := h3 (by omega)
  cases e
  refine ⟨by rw [secL_len _ _ hi]; omega, (fun h => by cases h), fun _ => ⟨gb, ob + i * 128, rfl, hg, fun j hj => ?_⟩⟩
  rw [secL_len _ _ hi] at hj
  rw [secL_get _ _ _ hj, Nat.add_assoc]
  exact hc _ (by omega)
/-- what the loop of Write keeps. -/
structure WInv (w : World) (K : DK) (D : DS) (k n : Nat) (b : List Int) (i : Nat) (Di : DS) (wr : World) : Prop where
  dsk : Dsk wr K Di
  chg : Chg K.bl w wr
  run : runD D k b 0 n = runD Di k b i (n - i)
  off : Di.off = false
  secs : Di.secs = D.secs
  writes : Di.writes = D.writes + i
set_option maxRecDepth 100000 in
set_option maxHeartbeats 1000000 in
theorem write_ok {w : World} {K : DK} {D : DS} (h : Dsk w K D) (k n m : Nat) (hk : k + n ≤ D.secs) (ho : D.off = false) (A : Option Addr) (c : Nat) (b : List Int) (hm : m = n * 128) (hl : b.length = m) (hi : InB b) (hB : Byt w A c b) (hA : ∀ a, A = some a → a.block ∉ K.bl) (hw : D.writes ≤ 1152921504606846976) :
    Calls Try.prog 44 #[K.ptr, .int .i64 k, .slice A m c] w fun e w' => e = .returned (.int .i64 (runD D k b 0 n).2) ∧ Dsk w' K (runD D k b 0 n).1 ∧ Chg K.bl w w' := by
  have hmost := h.ok.most
  have Hs := Lib.hid (sectors_count h)
  have Hw := Lib.hid (within_any k n D.secs w (by omega) (by omega) (by omega))
  have Hr := Lib.hid (refuses_any h true)
  rw [within_of hk] at Hw
  rw [show refE D true = 0 by simp [refE, ho]] at Hr
  have hi0 : WInv w K D k n b 0 D w := ⟨h, Chg.refl _ _, rfl, ho, rfl, by simp⟩
  have H0 := Lib.hid hi0
  have HB := Lib.hid hB
  have HA := Lib.hid hA
  have HI := Lib.hid hi
  have HL := Lib.hid hl
  have hc0 := hB.1
  have hcm : m ≤ c := by omega
  obtain ⟨S, hS⟩ : ∃ S, S = D.secs := ⟨_, rfl⟩
  have hwr := h.ok.wr
  rw [← hS] at Hs Hw hmost hk
  have HS := Lib.hid hS
  have Hwr := Lib.hid hwr
  have HWW := Lib.hid hw
  obtain ⟨T, hT⟩ : ∃ T, T = runD D k b 0 n := ⟨_, rfl⟩
  rw [← hT]
  have HT := Lib.hid hT
  unfold DK.ptr at *
  clear h ho hi0 hB hA hi hl hS hT hw hwr hc0
  by_cases hn : n = 0
  · subst hn
    subst hm
    go_enter Try.func44, Try.ntmps44
    go_wp2_with (first
      | (go_at_call 36; refine Hs.out.mono ?_; rintro e w' ⟨rfl, rfl⟩)
      | (go_at_call 35; refine Hw.out.mono ?_; rintro e w' ⟨rfl, rfl⟩)
      | (go_at_call 39; refine Hr.out.mono ?_; rintro e w' ⟨rfl, rfl⟩))
    go_loopw [30] (fun v wr => v = .int .i64 0 ∧ wr = w) (fun _ _ => 0)
    case atStart => exact ⟨rfl, rfl⟩
    case round =>
      obtain ⟨rfl, rfl⟩ := hrel
      go_wp2
      go_ret
      have e := HT.out
      rw [runD] at e
      rw [e]
      exact ⟨rfl, H0.out.dsk, Chg.refl _ _⟩
  · obtain ⟨gb, ob, rfl, hgb, _⟩ := HB.out.2.2 (by rw [HL.out]; omega)
    have hnA := HA.out _ rfl
    have HnA := Lib.hid hnA
    have Hgb := Lib.hid hgb
    have hn16 : n ≤ 16384 := by omega
    clear hnA hgb
    go_enter Try.func44, Try.ntmps44
    go_wp2_with (first
      | (go_at_call 36; refine Hs.out.mono ?_; rintro e w' ⟨rfl, rfl⟩)
      | (go_at_call 35; refine Hw.out.mono ?_; rintro e w' ⟨rfl, rfl⟩)
      | (go_at_call 39; refine Hr.out.mono ?_; rintro e w' ⟨rfl, rfl⟩))
    go_loopw [30] (fun v wr => ∃ i : Nat, i ≤ n ∧ v = .int .i64 i ∧ ∃ Di, WInv w K D k n b i Di wr) (fun v _ => n - (intOf v).toNat)
    case atStart => exact ⟨0, Nat.zero_le _, rfl, D, H0.out⟩
    case round =>
      obtain ⟨i, hin, rfl, Di, hinv⟩ := hrel
      by_cases hlt : i < n
      · have hB1 : Byt wr (some ⟨gb, ob, none⟩) c b := HB.out.chg hinv.chg HA.out
        have hsl : i * 128 + 128 ≤ b.length := by rw [HL.out]; omega
        have hs1 := secL_byt hB1 hsl
        have hsecs := hinv.secs
        have hki : k + i < Di.secs := by rw [hsecs, ← HS.out]; omega
        have hds := writeSector_any hinv.dsk (k + i) hki (some ⟨gb, ob + i * 128, none⟩) (c - i * 128) (secL b i) (secL_len _ _ hsl) (secL_in HI.out i) hs1 (fun a ha => by cases ha; exact HnA.out) (by rw [hinv.writes]; have := HWW.out; omega)
        have hfit : (k + i) * 128 + 128 ≤ Di.data.length := by rw [hinv.dsk.ok.whole128]; omega
        have Hds := Lib.hid hds
        have Hinv := Lib.hid hinv
        have Hfit := Lib.hid hfit
        have Hsl := Lib.hid hsl
        clear hB1 hsl hs1 hsecs hki hds hfit hinv
        cases eo : (stepD Di (k + i) (secL b i)).off
        · have Heo := Lib.hid eo
          clear eo
          go_wp2_with (go_at_call 49; rw [show (i + 1) * 128 - i * 128 = 128 by omega]; refine Hds.out.mono ?_; rintro e w2 ⟨rfl, hd2, hc2⟩; have c3 := (row0 hd2.row).2.2.2.1; rw [Heo.out] at c3; have Hd2 := Lib.hid hd2; have Hc2 := Lib.hid hc2; clear hd2 hc2)
          go_roundw
          case rel => exact ⟨i + 1, by omega, by go_num, _, ⟨Hd2.out, Hinv.out.chg.trans Hc2.out, by rw [Hinv.out.run, show n - i = (n - (i + 1)) + 1 by omega, run_on Heo.out], Heo.out, (step_secs _ _ _ Hfit.out (secL_len _ _ Hsl.out)).trans Hinv.out.secs, by rw [step_writes, Hinv.out.writes]; omega⟩⟩
          case measure => simp [intOf]; omega
        · have Heo := Lib.hid eo
          clear eo
          go_wp2_with (go_at_call 49; rw [show (i + 1) * 128 - i * 128 = 128 by omega]; refine Hds.out.mono ?_; rintro e w2 ⟨rfl, hd2, hc2⟩; have c3 := (row0 hd2.row).2.2.2.1; rw [Heo.out] at c3; have Hd2 := Lib.hid hd2; have Hc2 := Lib.hid hc2; clear hd2 hc2)
          go_ret
          have e := HT.out
          rw [Hinv.out.run, show n - i = (n - (i + 1)) + 1 by omega, run_off Heo.out] at e
          rw [e]
          exact ⟨rfl, Hd2.out, Hinv.out.chg.trans Hc2.out⟩
      · have Hinv := Lib.hid hinv
        clear hinv
        go_wp2
        go_ret
        have e := HT.out
        rw [Hinv.out.run, show n - i = 0 by omega, runD] at e
        rw [e]
        exact ⟨rfl, Hinv.out.dsk, Hinv.out.chg⟩
set_option maxRecDepth 100000 in
set_option maxHeartbeats 1000000 in
theorem write_no {w : World} {K : DK} {D : DS} (h : Dsk w K D) (k : Int) (hk : k ≤ 9223372036854775807) (m : Nat) (hm : m ≤ 9223372036854775807) (A : Option Addr) (c : Nat) (e0 : refE D (decide (m % 128 = 0) && withinI k (m / 128 : Nat) D.secs) ≠ 0) :
    Calls Try.prog 44 #[K.ptr, .int .i64 k, .slice A m c] w fun e w' => e = .returned (.int .i64 (refE D (decide (m % 128 = 0) && withinI k (m / 128 : Nat) D.secs))) ∧ w = w' := by
  have Hs := Lib.hid (sectors_count h)
  have Hw := Lib.hid (within_any k (m / 128 : Nat) D.secs w hk (by omega) (by have := h.ok.most; omega))
  have Hr := Lib.hid (refuses_any h (decide (m % 128 = 0) && withinI k (m / 128 : Nat) D.secs))
  obtain ⟨s, hs⟩ : ∃ s, s = D.secs := ⟨_, rfl⟩
  rw [← hs] at Hs Hw Hr e0 ⊢
  obtain ⟨W, hW⟩ : ∃ W, W = withinI k (m / 128 : Nat) s := ⟨_, rfl⟩
  rw [← hW] at Hw Hr e0 ⊢
  by_cases hd : m % 128 = 0
  · rw [decide_eq_true hd, Bool.true_and] at Hr e0 ⊢
    obtain ⟨E, hE⟩ : ∃ E, E = refE D W := ⟨_, rfl⟩
    rw [← hE] at Hr e0 ⊢
    unfold DK.ptr at *
    clear h hs hW hE hk
    go_enter Try.func44, Try.ntmps44
    go_wp2_with (first
      | (go_at_call 36; refine Hs.out.mono ?_; rintro e w' ⟨rfl, rfl⟩)
      | (go_at_call 35; refine Hw.out.mono ?_; rintro e w' ⟨rfl, rfl⟩)
      | (go_at_call 39; refine Hr.out.mono ?_; rintro e w' ⟨rfl, rfl⟩))
    go_ret
    exact ⟨rfl, rfl⟩
  · rw [decide_eq_false hd, Bool.false_and] at Hr e0 ⊢
    obtain ⟨E, hE⟩ : ∃ E, E = refE D false := ⟨_, rfl⟩
    rw [← hE] at Hr e0 ⊢
    unfold DK.ptr at *
    clear h hs hW hE hk
    go_enter Try.func44, Try.ntmps44
    go_wp2_with (go_at_call 39; refine Hr.out.mono ?_; rintro e w' ⟨rfl, rfl⟩)
    go_ret
    exact ⟨rfl, rfl⟩
set_option maxRecDepth 100000 in
set_option maxHeartbeats 1000000 in
theorem put_ok {w : World} {K : DK} {D : DS} (h : Dsk w K D) (k m : Nat) (hk : k + m ≤ D.data.length) (A : Option Addr) (c : Nat) (b : List Int) (hl : b.length = m) (hi : InB b) (hB : Byt w A c b) :
    Calls Try.prog 17 #[K.ptr, .int .i64 k, .slice A m c] w fun e w' => e = .returned (.int .i64 0) ∧ Dsk w' K { D with data := splice D.data k b } ∧ Chg K.bl w w' := by
  have hlen := h.ok.len
  have Hm := Lib.hid (made_any h)
  have Hw := Lib.hid (within_any k m D.data.length w (by omega) (by omega) (by omega))
  rw [within_of hk] at Hw
  obtain ⟨_, c1, _⟩ := row0 h.row
  have H := Lib.hid h
  have HB := Lib.hid hB
  have HL := Lib.hid hl
  have HI := Lib.hid hi
  have HK := Lib.hid hk
  obtain ⟨n, hn⟩ : ∃ n, n = D.data.length := ⟨_, rfl⟩
  rw [← hn] at c1 Hw hlen hk
  obtain ⟨C, hC⟩ : ∃ C, C = n + K.sp.length := ⟨_, rfl⟩
  rw [← hC] at c1
  have hnC : n ≤ C := by omega
  have HN := Lib.hid hn
  unfold DK.ptr at *
  clear h hB hl hi hn hC
  by_cases e : C = k
  · subst e
    have hm0 : m = 0 := by omega
    subst hm0
    go_enter Try.func17, Try.ntmps17
    go_wp2_with (first
      | (go_at_call 27; refine Hm.out.mono ?_; rintro e w' ⟨rfl, rfl⟩)
      | (go_at_call 35; refine Hw.out.mono ?_; rintro e w' ⟨rfl, rfl⟩)
      | (refine wpList_copy_chg rfl (.tmp 27) (.tmp 28) rfl _ _ _ A 0 c b (by rfl) (by rfl) HL.out HB.out (Nat.zero_le _) K.h 0 _ H.out.body (fun h => absurd h (Nat.lt_irrefl 0)) (Nat.zero_le _) ?_; intro w2 hh2 hc2; have Hh2 := Lib.hid hh2; have Hc2 := Lib.hid hc2; clear hh2 hc2))
    go_ret
    obtain rfl : b = [] := List.eq_nil_of_length_eq_zero HL.out
    have h2 := H.out.setData [] 0 HI.out (Nat.zero_le _) Hh2.out Hc2.out
    refine ⟨rfl, ?_, chg_bl Hc2.out⟩
    simpa [splice] using h2
  · go_enter Try.func17, Try.ntmps17
    go_wp2_with (first
      | (go_at_call 27; refine Hm.out.mono ?_; rintro e w' ⟨rfl, rfl⟩)
      | (go_at_call 35; refine Hw.out.mono ?_; rintro e w' ⟨rfl, rfl⟩)
      | (refine wpList_copy_chg rfl (.tmp 27) (.tmp 28) rfl _ (n - k) _ A m c b (by rfl) (by rfl) HL.out HB.out (by omega) K.h k _ H.out.body (fun _ => rfl) (by rw [List.length_append, vals_length]; exact Nat.le_trans HK.out (Nat.le_add_right _ _)) ?_; intro w2 hh2 hc2; have H2 := Lib.hid (H.out.setData b k HI.out (by rw [HL.out]; exact HK.out) hh2 hc2); have G2 := Lib.hid (chg_bl hc2); clear hh2 hc2))
    go_ret
    exact ⟨rfl, H2.out, G2.out⟩
theorem put_no {w : World} {K : DK} {D : DS} (h : Dsk w K D) (k : Int) (hk : k ≤ 9223372036854775807) (m : Nat) (_hm : m ≤ 9223372036854775807) (A : Option Addr) (c : Nat) (e0 : withinI k m D.data.length = false) :
    Calls Try.prog 17 #[K.ptr, .int .i64 k, .slice A m c] w fun e w' => e = .returned (.int .i64 2) ∧ w = w' := by
  have hlen := h.ok.len
  have Hm := Lib.hid (made_any h)
  have Hw := Lib.hid (within_any k m D.data.length w hk (by omega) (by omega))
  rw [e0] at Hw
  obtain ⟨_, c1, _⟩ := row0 h.row
  obtain ⟨n, hn⟩ : ∃ n, n = D.data.length := ⟨_, rfl⟩
  rw [← hn] at c1 Hw hlen
  unfold DK.ptr at *
  clear h hn hk e0
  go_enter Try.func17, Try.ntmps17
  go_wp2_with (first
    | (go_at_call 27; refine Hm.out.mono ?_; rintro e w' ⟨rfl, rfl⟩)
    | (go_at_call 35; refine Hw.out.mono ?_; rintro e w' ⟨rfl, rfl⟩))
  go_ret
  exact ⟨rfl, rfl⟩
end Go.Proofs.Ytpeioogkbcejmaa.Dsk
/- DERIVED. The contracts of disk.New. -/
namespace Go.Proofs.Ytpeioogkbcejmaa.Dsk
open Go.RowKit
/-- a new disk. -/
def newD (n : Nat) : DS := { data := List.replicate (n * 128) 0, writes := 0, off := false, laid := false, whole := 0, mask := z16 }
theorem inb_zeros (n : Nat) : InB (List.replicate n 0) := by
  intro j
  simp only [List.getD_eq_getElem?_getD, List.getElem?_replicate]
  split <;> simp
theorem newD_ok (n : Nat) (h1 : 1 ≤ n) (h2 : n ≤ 16384) : (newD n).Ok := by
  have hs : (newD n).secs = n := by simp [newD, DS.secs]
  exact ⟨inb_zeros _, by rw [hs]; simp [newD], by rw [hs]; exact h1, by rw [hs]; exact h2, rfl, inb16, by simp [newD], by simp [newD]⟩
set_option maxRecDepth 100000 in
set_option maxHeartbeats 1000000 in
theorem new_no (n : Int) (w : World) (h : n < 1 ∨ 16384 < n) : Calls Try.prog 8 #[.int .i64 n] w fun e w' => e = .returned (.tuple #[.pointer none, .int .i64 2]) ∧ w = w' := by
  by_cases h1 : n < 1
  · go_enter Try.func8, Try.ntmps8
    go_wp2
    go_ret2
    exact ⟨rfl, rfl⟩
  · have h2 : 16384 < n := by omega
    clear h
    go_enter Try.func8, Try.ntmps8
    go_wp2
    go_ret2
    exact ⟨rfl, rfl⟩
theorem made_zeros (n : Nat) : madeCells (Value.cells (.int .u8 0)) n = u8s (List.replicate n 0) := by
  apply Array.ext_getElem?
  intro j
  by_cases h : j < n
  · simp [madeCells, u8s, h, Value.cells, Nat.mod_one]
  · simp [madeCells, u8s, h]
theorem mk_any (n : Nat) (hn : n ≤ 4294967296) (w : World) : (Instr.makeSlice 33 (.int .i64 n) (.int .i64 n)).run Try.prog w = .ok (.slice (some ⟨w.heap.size, 0, none⟩) n n) (w.alloc (.cells (u8s (List.replicate n 0)) 5)) := by
  obtain ⟨i0, hi, hz0, hz1, hz2⟩ := info_parts info8z
  have h := run_make (P := Try.prog) w 33 5 i0 (.int .u8 0) Try.underlying33 hi hz0 .i64 .i64 n n (by omega) (by omega) (by rw [hz2]; omega) (by omega)
  rw [hz1] at h
  rw [h, Int.toNat_natCast, Nat.mul_one, made_zeros]
theorem built_new (g m : Nat) : Try.prog.built 66 [(1, .slice (some ⟨g, 0, none⟩) m m)] = some (.pointer none :: .slice (some ⟨g, 0, none⟩) m m :: .int .i64 0 :: .bool false :: cutC false 0 z16).toArray := by kernel_rfl
set_option maxRecDepth 100000 in
set_option maxHeartbeats 1000000 in
theorem new_ok (n : Nat) (w : World) (h1 : 1 ≤ n) (h2 : n ≤ 16384) : Calls Try.prog 8 #[.int .i64 n] w fun e w' => ∃ K : DK, e = .returned (.tuple #[K.ptr, .int .i64 0]) ∧ Dsk w' K (newD n) ∧ Below w.heap.size w w' ∧ w.heap.size ≤ K.g ∧ w.heap.size ≤ K.h := by
  have hmk := mk_any (n * 128) (by omega)
  rw [show ((n * 128 : Nat) : Int) = (n : Int) * 128 by omega] at hmk
  have hwr : IntKind.i64.wrap ((n : Int) * 128) = (n : Int) * 128 := by rw [IntKind.wrap_i64]; omega
  obtain ⟨m, hm⟩ : ∃ m, m = n * 128 := ⟨_, rfl⟩
  rw [← hm] at hmk
  have Hm := Lib.hid hm
  clear hm
  go_enter Try.func8, Try.ntmps8
  go_upto_region 3 with (fail)
  refine wp_region_lit ?_
  refine wpList_plain rfl (fun K hK => ?_)
  go_simp
  refine hK _ _ ?_
  clear hK
  clear K
  refine wpList_plain rfl (fun K hK => ?_)
  go_simp
  refine hK _ _ ?_
  clear hK
  clear K
  refine wpList_plain rfl (fun K hK => ?_)
  go_simp
  refine hK _ _ ?_
  clear hK
  clear K
  refine wpList_buildTo rfl 66 #[(1, .tmp 13)] rfl (some 14) rfl (.pointer none :: .slice (some ⟨w.heap.size, 0, none⟩) m m :: .int .i64 0 :: .bool false :: cutC false 0 z16).toArray (by simp only [List.map_toArray, List.map_cons, List.map_nil]; exact built_new _ _) ?_
  refine wpList_plain rfl (fun K hK => ?_)
  go_simp
  refine hK _ _ ?_
  clear hK
  clear K
  refine wpList_plain rfl (fun K hK => ?_)
  go_simp
  refine hK _ _ ?_
  clear hK
  clear K
  refine wpList_nil ?_
  go_simp
  have h2n := two_new w (.cells (u8s (List.replicate m 0)) 5) (.cells (.pointer none :: .slice (some ⟨w.heap.size, 0, none⟩) m m :: .int .i64 0 :: .bool false :: cutC false 0 z16).toArray 66)
  have hlow : Below w.heap.size w ((w.alloc (.cells (u8s (List.replicate m 0)) 5)).alloc (.cells (.pointer none :: .slice (some ⟨w.heap.size, 0, none⟩) m m :: .int .i64 0 :: .bool false :: cutC false 0 z16).toArray 66)) := ((Below.refl _ _).alloc (Nat.le_refl _) _).alloc (by simp) _
  obtain ⟨w2, hw2⟩ : ∃ w2, w2 = (w.alloc (.cells (u8s (List.replicate m 0)) 5)).alloc (.cells (.pointer none :: .slice (some ⟨w.heap.size, 0, none⟩) m m :: .int .i64 0 :: .bool false :: cutC false 0 z16).toArray 66) := ⟨_, rfl⟩
  rw [← hw2] at h2n hlow ⊢
  have c0 := cell_row h2n.2 0
  have f0 := free_row h2n.2 0
  rw [show (Value.pointer none :: Value.slice (some ⟨w.heap.size, 0, none⟩) m m :: Value.int .i64 0 :: Value.bool false :: cutC false 0 z16).toArray[0]? = some (Value.pointer none) by rfl] at c0
  have H2 := Lib.hid h2n
  have Hlow := Lib.hid hlow
  clear h2n hlow hw2 hmk hwr
  go_wp2
  go_ret2
  have hd : Dsk (w2.setCell ⟨w.heap.size + 1, 0, none⟩ (.pointer (some ⟨w.heap.size + 1, 0, none⟩))) ⟨w.heap.size + 1, w.heap.size, []⟩ (newD n) := by
    have hl : (newD n).data.length = m := by simp [newD, Hm.out]
    refine ⟨?_, ?_, by simp, newD_ok n h1 h2⟩
    · rw [hl]
      exact heap_setCell_same _ _ _ _ _ _ H2.out.2
    · rw [Below.heap_setCell _ _ _ _ (by simp), H2.out.1, Hm.out]
      simp [newD, vals, u8s]
  exact ⟨⟨w.heap.size + 1, w.heap.size, []⟩, rfl, hd, Hlow.out.setCell (by simp) _, Nat.le_succ _, Nat.le_refl _⟩
/-- a row of the call's own, not empty: what it is. -/
theorem own_shape {w : World} {base n : Nat} {v : Value} {L : List Int} (h : w.ownsRow base 5 1 v n (vals L)) (_hl : L.length = n) (h0 : 0 < n) : ∃ g sp, v = .slice (some ⟨g, 0, none⟩) n (n + sp.length) ∧ base ≤ g ∧ w.heap[g]? = some (.cells (vals L ++ sp).toArray 5 (0, 0)) := by
  obtain ⟨_, h⟩ := h
  rcases h with ⟨_, h⟩ | ⟨g, cap, cur, hv, hb, hh, hcap, _, hs, ht⟩
  · omega
  · have e : cur.toList = vals L ++ cur.toList.drop n := by
      rw [← ht, Nat.mul_one, List.take_append_drop]
    have e2 : cap = n + (cur.toList.drop n).length := by
      rw [List.length_drop, Array.length_toList, hs]; omega
    refine ⟨g, cur.toList.drop n, by rw [hv, ← e2], hb, ?_⟩
    rw [hh, ← e]
end Go.Proofs.Ytpeioogkbcejmaa.Dsk
/- DERIVED. The contracts of the slots' small functions: sectorsOf, headOf, length. -/
namespace Go.Proofs.Ytpeioogkbcejmaa.Slt
open Go.RowKit Dsk
theorem ret_i64 {a b : Int} (h : a = b) : Ending.returned (.int .i64 a) = .returned (.int .i64 b) := by rw [h]
theorem sectorsOf_any (n : Nat) (h : n ≤ 4294967296) (w : World) : Calls Try.prog 31 #[.int .i64 n] w fun e w' => e = .returned (.int .i64 (tk n : Nat)) ∧ w = w' := by
  have h' : (n : Int) ≤ 4294967296 := by omega
  have hn : Hid ((5 + (n : Int) + 128 - 1) / 128 = ((tk n : Nat) : Int)) := by show _ = _; unfold tk; omega
  clear h
  go_enter Try.func31, Try.ntmps31
  go_wp2
  go_ret
  exact ⟨ret_i64 hn.out, rfl⟩
theorem info_head : (Try.prog.info? 90).map (·.size) = some 5 := by kernel_rfl
theorem headOf_any (n : Nat) (h : n ≤ 262144) (w : World) : Calls Try.prog 48 #[.int .i64 n] w fun e w' => e = .returned (.agg (u8s (0 :: be4 n))) ∧ Below w.heap.size w w' := by
  have h' : (n : Int) ≤ 262144 := by omega
  have hn : Hid ((u8s (0 :: be4 n)) = #[Value.int .u8 0, Value.int .u8 ((n : Int) / 16777216), Value.int .u8 ((n : Int) / 65536), Value.int .u8 ((n : Int) / 256 % 256), Value.int .u8 ((n : Int) % 256)]) := by
    show _ = _
    simp only [u8s, be4, List.map_cons, List.map_nil]
    rw [show ((n / 16777216 % 256 : Nat) : Int) = (n : Int) / 16777216 by omega, show ((n / 65536 % 256 : Nat) : Int) = (n : Int) / 65536 by omega, show ((n / 256 % 256 : Nat) : Int) = (n : Int) / 256 % 256 by omega, show ((n % 256 : Nat) : Int) = (n : Int) % 256 by omega]
  clear h
  go_enter Try.func48, Try.ntmps48
  go_wp2
  refine bodyPost_ret (results_cell_row rfl _ _ w.heap.size 90 _ _ _ rfl (Go.heap_alloc_new w _) Try.underlying90 rfl info_head) rfl ?_
  exact ⟨by rw [hn.out], (Below.refl _ _).alloc (Nat.le_refl _) _⟩
theorem or_u32 (a b : Nat) (ha : a < 4294967296) (hb : b < 4294967296) : bits .or .u32 (a : Int) (b : Int) = ((a ||| b : Nat) : Int) := by
  have hx : a ||| b < 2 ^ 32 := Nat.or_lt_two_pow (by omega) (by omega)
  have h1 : (BitVec.ofInt 32 (a : Int)).toNat = a := by
    rw [BitVec.ofInt_natCast, BitVec.toNat_ofNat]; exact Nat.mod_eq_of_lt (by omega)
  have h2 : (BitVec.ofInt 32 (b : Int)).toNat = b := by
    rw [BitVec.ofInt_natCast, BitVec.toNat_ofNat]; exact Nat.mod_eq_of_lt (by omega)
  show IntKind.u32.wrap ((BitVec.ofInt 32 (a : Int) ||| BitVec.ofInt 32 (b : Int)).toNat : Int) = _
  rw [BitVec.toNat_or, h1, h2, IntKind.wrap_u32']
  omega
theorem or_join (q i x : Nat) (hx : x < 2 ^ i) : q * 2 ^ i ||| x = q * 2 ^ i + x := by
  rw [Nat.mul_comm]; exact (Nat.two_pow_add_eq_or_of_lt hx q).symm
set_option maxRecDepth 10000 in
theorem or4 (b c d e : Int) (hb : 0 ≤ b ∧ b < 256) (hc : 0 ≤ c ∧ c < 256) (hd : 0 ≤ d ∧ d < 256) (he : 0 ≤ e ∧ e < 256) :
    bits BinOp.or IntKind.u32 (bits BinOp.or IntKind.u32 (bits BinOp.or IntKind.u32 (b * 16777216) (c * 65536)) (d * 256)) e = ((b.toNat * 16777216 + c.toNat * 65536 + d.toNat * 256 + e.toNat : Nat) : Int) := by
  obtain ⟨b, rfl⟩ := Int.eq_ofNat_of_zero_le hb.1
  obtain ⟨c, rfl⟩ := Int.eq_ofNat_of_zero_le hc.1
  obtain ⟨d, rfl⟩ := Int.eq_ofNat_of_zero_le hd.1
  obtain ⟨e, rfl⟩ := Int.eq_ofNat_of_zero_le he.1
  rw [show (b : Int) * 16777216 = ((b * 16777216 : Nat) : Int) by omega, show (c : Int) * 65536 = ((c * 65536 : Nat) : Int) by omega, show (d : Int) * 256 = ((d * 256 : Nat) : Int) by omega]
  rw [or_u32 _ _ (by omega) (by omega), show b * 16777216 ||| c * 65536 = b * 16777216 + c * 65536 from or_join b 24 _ (by omega)]
  rw [or_u32 _ _ (by omega) (by omega), show b * 16777216 + c * 65536 = (b * 256 + c) * 65536 by omega, show (b * 256 + c) * 65536 ||| d * 256 = (b * 256 + c) * 65536 + d * 256 from or_join (b * 256 + c) 16 _ (by omega)]
  rw [or_u32 _ _ (by omega) (by omega), show (b * 256 + c) * 65536 + d * 256 = ((b * 256 + c) * 256 + d) * 256 by omega, show ((b * 256 + c) * 256 + d) * 256 ||| e = ((b * 256 + c) * 256 + d) * 256 + e from or_join ((b * 256 + c) * 256 + d) 8 _ (by omega)]
  simp only [Int.toNat_natCast]
  exact congrArg (Int.ofNat ·) (by omega)
theorem ret_u32 {a b : Int} (h : a = b) : Ending.returned (.int .u32 a) = .returned (.int .u32 b) := by rw [h]
theorem length_any (l : List Int) (hl : l.length = 5) (hi : InB l) (w : World) : Calls Try.prog 50 #[.agg (u8s l)] w fun e w' => e = .returned (.int .u32 (lenB l : Nat)) ∧ Below w.heap.size w w' := by
  match l, hl with
  | [a, b, c, d, e], _ =>
    have hb : 0 ≤ b ∧ b < 256 := hi 1
    have hc : 0 ≤ c ∧ c < 256 := hi 2
    have hd : 0 ≤ d ∧ d < 256 := hi 3
    have he : 0 ≤ e ∧ e < 256 := hi 4
    have ho := Lib.hid (or4 b c d e hb hc hd he)
    have hq : Hid (lenB [a, b, c, d, e] = b.toNat * 16777216 + c.toNat * 65536 + d.toNat * 256 + e.toNat) := rfl
    simp only [u8s, List.map_cons, List.map_nil]
    clear hi
    go_enter Try.func50, Try.ntmps50
    go_wp2
    go_ret
    exact ⟨ret_u32 (by rw [hq.out]; exact ho.out), (Below.refl _ _).alloc (Nat.le_refl _) _⟩
end Go.Proofs.Ytpeioogkbcejmaa.Slt
