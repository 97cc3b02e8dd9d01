/- DERIVED. The contracts of disk's writeSector, Write, Put (step.py writes this text out of wr.txt). -/
import Derived.Test.YtlofnpebknfmkaaDskMut
namespace Go.Proofs.Ytlofnpebknfmkaa.Dsk
open Go.RowKit
theorem chg_setRow {S : List Nat} {g : Nat} (w : World) (C : Array Value) (hg : g ∈ S) : Chg S w (w.setRow g C) :=
  ⟨rfl, rfl, rfl, by simp [World.setRow], fun k _ hS => setRow_other w g k C (fun e => hS (by rw [e]; exact hg))⟩
theorem infoB1 : (Try.prog.info? 5).map (·.size) = some 1 := by kernel_rfl
/-- copy into a row, from anywhere: only that row changes. -/
theorem wpList_copy_chg {w : World} {ops : Array Oper} {rest : List Oper} {o : Oper} {a : Act} {Q : Exit → Act → World → Prop} (hgd : o.guard = none) (d s : Operand)
    (ho : o.op = .call { callee := .builtin .copy, args := #[d, s], argTypes := #[22, 22] })
    (dp : Option Addr) (dLen dCap : Nat) (A : Option Addr) (m c : Nat) (b : List Int) (hd : a.eval d = .slice dp dLen dCap) (hs : a.eval s = .slice A m c) (hm : b.length = m) (hB : Byt w A c b) (hmd : m ≤ dLen)
    (g off : Nat) (cur : List Value) (hg : w.heap[g]? = some (.cells cur.toArray 5 (0, 0))) (hdp : 0 < m → dp = some ⟨g, off, none⟩) (hfit : off + m ≤ cur.length)
    (h : ∀ w', w'.heap[g]? = some (.cells (splice cur off (vals b)).toArray 5 (0, 0)) → Chg [g] w w' → wpList Try.prog ops Q rest (a.put o.dst (goInt m)) w') :
    wpList Try.prog ops Q (o :: rest) a w := by
  by_cases h0 : m = 0
  · subst h0
    obtain rfl : b = [] := List.eq_nil_of_length_eq_zero hm
    refine wpList_copy_nothing hgd d s 22 22 ho 5 Try.underlying22 infoB1 dp A dLen dCap 0 c hd hs (by simp) ?_
    exact h w (by simpa [splice, vals] using hg) (Chg.refl _ _)
  · have hdp' := hdp (by omega)
    subst hdp'
    obtain ⟨gb, ob, rfl, hgb, hc⟩ := hB.2.2 (by omega)
    have hv : (vals b).length = m := by rw [vals_length, hm]
    refine wpList_copy_own hgd d s 22 22 ho 5 Try.underlying22 infoB1 g off dLen dCap ⟨gb, ob, none⟩ m c hd hs cur.toArray 5 hg (vals b) (by rw [hv]; exact (Nat.min_eq_left hmd).symm)
      (fun j v hj => by obtain ⟨hj', rfl⟩ := vals_get hj; rw [Addr.add_mid]; exact hc j hj') (by rw [hv]; simpa using hfit) (vals_one _) ?_
    rw [hv]
    refine h _ ?_ (chg_setRow _ _ (List.mem_singleton.2 rfl))
    rw [setRow_heap w g _ _ _ _ hg]
    simp [splice, hv]
/-- bytes written over in the disk's row. -/
theorem splice_vals (d b : List Int) (sp : List Value) (o : Nat) (h : o + b.length ≤ d.length) : splice (vals d ++ sp) o (vals b) = vals (splice d o b) ++ sp := by
  unfold splice
  rw [vals_length, List.take_append_of_le_length (by rw [vals_length]; omega), List.drop_append_of_le_length (by rw [vals_length]; omega)]
  simp [vals]
theorem inB_splice {d b : List Int} {o : Nat} (hd : InB d) (hb : InB b) : InB (splice d o b) := (hd.take o).append (hb.append (hd.drop _))
theorem inB_torn {m o b : List Int} (ho : InB o) (hb : InB b) : InB (tornL m o b) := by
  intro j
  by_cases h : j < 128
  · rw [torn_get _ _ _ _ h]
    split
    · exact hb j
    · exact ho j
  · rw [getD_out _ _ (by rw [torn_len]; omega)]; omega
theorem DS.Ok.data {D : DS} (h : D.Ok) (b : List Int) (o : Nat) (hb : InB b) (ho : o + b.length ≤ D.data.length) : ({ D with data := splice D.data o b } : DS).Ok := by
  have hl : (splice D.data o b).length = D.data.length := splice_len _ _ _ ho
  have hs : ({ D with data := splice D.data o b } : DS).secs = D.secs := by simp [DS.secs, hl]
  exact ⟨inB_splice h.inb hb, by rw [hs]; exact hl.trans h.whole128, by rw [hs]; exact h.one, by rw [hs]; exact h.most, h.mlen, h.minb, h.wh, h.wr⟩
theorem Dsk.setData {w w' : World} {K : DK} {D : DS} (h : Dsk w K D) (b : List Int) (o : Nat) (hb : InB b) (ho : o + b.length ≤ D.data.length) (hh : w'.heap[K.h]? = some (.cells (splice (vals D.data ++ K.sp) o (vals b)).toArray 5 (0, 0))) (hc : Chg [K.h] w w') : Dsk w' K { D with data := splice D.data o b } := by
  refine ⟨?_, ?_, h.ne, h.ok.data b o hb ho⟩
  · have := hc.at h.row (by simpa using h.ne)
    rw [this]
    simp only [splice_len D.data o b ho]
  · rw [hh, splice_vals _ _ _ _ ho]
theorem chg_bl {K : DK} {w w' : World} (h : Chg [K.h] w w') : Chg K.bl w w' := h.mono (fun k hk => .inl (by simp at hk; subst hk; simp [DK.bl]))
theorem chg_blg {K : DK} {w w' : World} (h : Chg [K.g] w w') : Chg K.bl w w' := h.mono (fun k hk => .inl (by simp at hk; subst hk; simp [DK.bl]))
set_option maxRecDepth 100000 in
set_option maxHeartbeats 1000000 in
theorem writeSector_any {w : World} {K : DK} {D : DS} (h : Dsk w K D) (k : Nat) (hk : k < D.secs) (A : Option Addr) (c : Nat) (b : List Int) (hl : b.length = 128) (hi : InB b) (hB : Byt w A c b) (hA : ∀ a, A = some a → a.block ∉ K.bl) (hw : D.writes ≤ 4611686018427387904) :
    Calls Try.prog 33 #[K.ptr, .int .i64 k, .slice A 128 c] w fun e w' => e = .returned (.tuple #[]) ∧ Dsk w' K (stepD D k b) ∧ Chg K.bl w w' := by
  obtain ⟨_, _, c2, _⟩ := row0 h.row
  have f2 := free_row h.row 2
  have hwr := h.ok.wr
  have h1 := h.setWrites (D.writes + 1) (by omega)
  have g1 : Chg K.bl w (w.setCell ⟨K.g, 2, none⟩ (.int .i64 (D.writes + 1))) := chg_blg (chg_one _ _ _ _)
  have hB1 : Byt (w.setCell ⟨K.g, 2, none⟩ (.int .i64 (D.writes + 1))) A c b := hB.chg g1 hA
  obtain ⟨w1, hw1⟩ : ∃ w1, w1 = w.setCell ⟨K.g, 2, none⟩ (.int .i64 (D.writes + 1)) := ⟨_, rfl⟩
  rw [← hw1] at h1 g1 hB1
  obtain ⟨x, hx⟩ : ∃ x, x = D.writes := ⟨_, rfl⟩
  rw [← hx] at c2 hwr hw hw1
  have hcap : ¬ D.data.length + K.sp.length = k * 128 := by have := h.ok.whole128; omega
  have hfit : k * 128 + 128 ≤ D.data.length := by have := h.ok.whole128; omega
  have hsec := sectors_any h1 k 1 (Nat.succ_le_of_lt hk)
  simp only [secV, if_neg hcap, Nat.one_mul] at hsec
  have Hs := Lib.hid hsec
  have Hd := Lib.hid (due_any h1)
  obtain ⟨C, hC⟩ : ∃ C, C = D.data.length + K.sp.length - k * 128 := ⟨_, rfl⟩
  rw [← hC] at Hs
  have hdue : ({ D with writes := D.writes + 1 } : DS).due = D.due := rfl
  rw [hdue] at Hd
  have H1 := Lib.hid h1
  have G1 := Lib.hid g1
  have HW1 := Lib.hid hw1
  have HB1 := Lib.hid hB1
  have HL := Lib.hid hl
  have HI := Lib.hid hi
  have HF := Lib.hid hfit
  cases e : D.due
  · rw [e] at Hd
    have hst : stepD D k b = { D with data := splice D.data (k * 128) b, writes := D.writes + 1, whole := if D.laid then D.whole - 1 else D.whole } := by
      unfold stepD; rw [if_neg (by rw [e]; decide)]
    rw [hst]
    have Hcnt : Hid (∀ w2, Dsk w2 K { D with data := splice D.data (k * 128) b, writes := D.writes + 1 } → Calls Try.prog 36 #[K.cutp] w2 fun e w' => e = .returned (.tuple #[]) ∧ Dsk w' K { D with data := splice D.data (k * 128) b, writes := D.writes + 1, whole := if D.laid then D.whole - 1 else D.whole } ∧ Chg [K.g] w2 w') :=
      fun w2 h2 => count_any h2 e
    obtain ⟨D2, hD2⟩ : ∃ D2, D2 = ({ D with data := splice D.data (k * 128) b, writes := D.writes + 1, whole := if D.laid then D.whole - 1 else D.whole } : DS) := ⟨_, rfl⟩
    rw [← hD2] at Hcnt ⊢
    unfold DK.ptr DK.cutp at *
    clear h h1 g1 hB hB1 hA hl hi hfit hcap hsec hst hdue hw1 hx hC e hD2
    go_enter Try.func33, Try.ntmps33
    go_wp2_with (first
      | (go_at_call 25; rw [← HW1.out]; refine Hs.out.mono ?_; rintro e w' ⟨rfl, rfl⟩)
      | (go_at_call 34; refine Hd.out.mono ?_; rintro e w' ⟨rfl, rfl⟩)
      | (refine wpList_copy_chg rfl (.tmp 34) (.tmp 35) rfl _ 128 _ A 128 c b (by rfl) (by rfl) HL.out HB1.out (Nat.le_refl _) K.h (k * 128) _ H1.out.body (fun _ => rfl) (by rw [List.length_append, vals_length]; exact Nat.le_trans HF.out (Nat.le_add_right _ _)) ?_; intro w2 hh2 hc2; have H2 := Lib.hid (H1.out.setData b (k * 128) HI.out (by rw [HL.out]; exact HF.out) hh2 hc2); have G2 := Lib.hid (G1.out.trans (chg_bl hc2)); clear hh2 hc2)
      | (go_at_call 36; refine (Hcnt.out _ H2.out).mono ?_; rintro e w3 ⟨rfl, h3, hc3⟩; have H3 := Lib.hid h3; have G3 := Lib.hid (G2.out.trans (chg_blg hc3)); clear h3 hc3))
    refine bodyPost_end (results_none rfl _ _ _) rfl ?_
    exact ⟨rfl, H3.out, G3.out⟩
  · rw [e] at Hd
    have hst : stepD D k b = { data := splice D.data (k * 128) (tornL D.mask (secL D.data k) b), writes := D.writes + 1, off := true, laid := false, whole := 0, mask := z16 } := by
      unfold stepD; rw [if_pos e]
    rw [hst]
    have Ht := Lib.hid (tear_any h1 k hk C c A b hl hB1 hA)
    unfold DK.ptr DK.cutp at *
    have hin := Lib.hid h.ok.inb
    clear h h1 g1 hB hB1 hA hl hi hfit hcap hsec hst hdue hw1 hx hC e
    go_enter Try.func33, Try.ntmps33
    go_upto_region 4 with (first
      | (go_at_call 25; rw [← HW1.out]; refine Hs.out.mono ?_; rintro e w' ⟨rfl, rfl⟩)
      | (go_at_call 34; refine Hd.out.mono ?_; rintro e w' ⟨rfl, rfl⟩)
      | (go_at_call 35; refine Ht.out.mono ?_; rintro e w2 ⟨rfl, hT⟩; have HT := Lib.hid hT; clear hT))
    have hT := HT.out
    have tl : (tornL D.mask (secL D.data k) b).length = 128 := torn_len _ _ _
    have h2 := H1.out.setData (tornL D.mask (secL D.data k) b) (k * 128) (inB_torn ((hin.out.drop _).take _) HI.out) (by rw [tl]; exact HF.out) (by have := hT.body; simp only [List.take_of_length_le (Nat.le_of_eq tl)] at this; exact this) hT.chg
    have g2 := G1.out.trans (chg_bl hT.chg)
    obtain ⟨_, _, _, c3, _⟩ := row0 h2.row
    have f3 := free_row h2.row 3
    have H2 := Lib.hid h2
    have G2 := Lib.hid g2
    clear hT HT tl h2 g2
    refine wp_region_lit ?_
    refine wpList_plain rfl (fun K hK => ?_)
    go_simp
    refine hK _ _ ?_
    clear hK
    clear K
    refine wpList_plain rfl (fun K hK => ?_)
    go_simp
    refine hK _ _ ?_
    clear hK
    clear K
    refine wpList_buildTo rfl 51 #[] rfl (some 29) rfl (cutC false 0 z16).toArray (by simp only [List.map_toArray, List.map_nil]; exact built_zero) ?_
    refine wpList_plain rfl (fun K hK => ?_)
    go_simp
    refine hK _ _ ?_
    clear hK
    clear K
    refine wpList_plain rfl (fun K hK => ?_)
    go_simp
    refine hK _ _ ?_
    clear hK
    clear K
    refine wpList_plain rfl (fun K hK => ?_)
    go_simp
    refine hK _ _ ?_
    clear hK
    clear K
    refine wpList_plain rfl (fun K hK => ?_)
    go_simp
    refine hK _ _ ?_
    clear hK
    clear K
    refine wpList_plain rfl (fun K hK => ?_)
    go_simp
    refine hK _ _ ?_
    clear hK
    clear K
    have h3 := H2.out.setOff true
    refine wpList_store_mid rfl 51 (.tmp 33) (.tmp 29) rfl K.g 4 (cutC false 0 z16).toArray rfl rfl (by rw [List.size_toArray, cutC_len _ _ _ rfl]; exact h3.there) (by rw [List.size_toArray, cutC_len _ _ _ rfl]; exact info46) (cutC_one _ _ _) ?_
    refine wpList_nil ?_
    go_simp
    try go_wp2
    refine bodyPost_ret (results_none rfl _ _ _) rfl ?_
    exact ⟨rfl, h3.setCut false 0 z16 rfl inb16 (by decide) (by decide), (G2.out.setCell (p := ⟨K.g, 3, none⟩) (by simp [DK.bl]) _).setCells (by simp [DK.bl]) _ _⟩
end Go.Proofs.Ytlofnpebknfmkaa.Dsk
