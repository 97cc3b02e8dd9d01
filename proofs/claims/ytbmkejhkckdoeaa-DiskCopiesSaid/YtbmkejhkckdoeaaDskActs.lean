/- DERIVED. The statements' act: any call on a disk (step.py writes this text out of acts.txt). -/
import Derived.Test.YtbmkejhkckdoeaaDskAct
import Derived.Test.YtbmkejhkckdoeaaDskWorks
namespace Go.Proofs.Ytbmkejhkckdoeaa.Dsk
open Go.RowKit
theorem run_keeps (k : Nat) (b : List Int) : ∀ (n : Nat) (D : DS) (i : Nat), (k + i + n) * 128 ≤ D.data.length → (i + n) * 128 ≤ b.length → (runD D k b i n).1.data.length = D.data.length ∧ (runD D k b i n).1.writes ≤ D.writes + n := by
  intro n
  induction n with
  | zero => intro D i _ _; simp [runD]
  | succ n ih =>
    intro D i h1 h2
    have hl := step_len D (k + i) (secL b i) (by omega) (secL_len _ _ (by omega))
    have hw := step_writes D (k + i) (secL b i)
    cases e : (stepD D (k + i) (secL b i)).off
    · rw [run_on e]
      have := ih (stepD D (k + i) (secL b i)) (i + 1) (by rw [hl]; omega) (by omega)
      rw [hl, hw] at this
      exact ⟨this.1, by have := this.2; omega⟩
    · rw [run_off e]
      exact ⟨hl, by simp only; rw [hw]; omega⟩
/-- what an act leaves. -/
structure ActQ (D : DS) (K : DK) (w w' : World) : Prop where
  ex : ∃ D', Dsk w' K D' ∧ D'.secs = D.secs ∧ D'.writes ≤ D.writes + 8
  chg : Chg K.bl w w'
theorem refE_true {D : DS} {b : Bool} (h : refE D b = 0) : b = true ∧ D.off = false := by
  unfold refE at h
  cases b
  · simp at h
  · cases ho : D.off
    · exact ⟨rfl, rfl⟩
    · rw [ho] at h; simp at h
theorem read_all {w : World} {K : DK} {D : DS} (h : Dsk w K D) (k n : Int) (hk : k ≤ 9223372036854775807) : Calls Try.prog 18 #[.pointer (some ⟨K.g, 0, none⟩), .int .i64 k, .int .i64 n] w fun e w' => (∃ v E, e = .returned (.tuple #[v, .int .i64 E])) ∧ Dsk w' K D ∧ Chg K.bl w w' := by
  by_cases e0 : refE D (withinI k n D.secs) = 0
  · obtain ⟨h1, h2⟩ := refE_true e0
    obtain ⟨a, b, rfl, rfl, hab⟩ := within_yes h1
    refine (read_ok h a b hab h2).mono ?_
    rintro e w' ⟨v, rfl, hb, _⟩
    exact ⟨⟨_, _, rfl⟩, h.later hb, Chg.of_below hb⟩
  · refine (read_no h k n hk e0).mono ?_
    rintro e w' ⟨rfl, rfl⟩
    exact ⟨⟨_, _, rfl⟩, h, Chg.refl _ _⟩
theorem write_all {w : World} {K : DK} {D : DS} (h : Dsk w K D) (k : Int) (hk : k ≤ 9223372036854775807) (m : Nat) (hm : m ≤ 1024) (A : Option Addr) (c : Nat) (b : List Int) (hl : b.length = m) (hi : InB b) (hB : Byt w A c b) (hA : ∀ a, A = some a → a.block ∉ K.bl) (hw : D.writes ≤ 1152921504606846976) :
    Calls Try.prog 11 #[.pointer (some ⟨K.g, 0, none⟩), .int .i64 k, .slice A m c] w fun e w' => (∃ E, e = .returned (.int .i64 E)) ∧ ActQ D K w w' := by
  by_cases e0 : refE D (decide (m % 128 = 0) && withinI k (m / 128 : Nat) D.secs) = 0
  · obtain ⟨h1, h2⟩ := refE_true e0
    rw [Bool.and_eq_true, decide_eq_true_eq] at h1
    obtain ⟨a, n, rfl, hn, hab⟩ := within_yes h1.2
    have hn' : m / 128 = n := by omega
    refine (write_ok h a n m hab h2 A c b (by omega) hl hi hB hA hw).mono ?_
    rintro e w' ⟨rfl, hd, hc⟩
    have hk := run_keeps a b n D 0 (by have := h.ok.whole128; omega) (by omega)
    exact ⟨⟨_, rfl⟩, ⟨_, hd, by simp only [DS.secs, hk.1], by have := hk.2; omega⟩, hc⟩
  · refine (write_no h k hk m (by omega) A c e0).mono ?_
    rintro e w' ⟨rfl, rfl⟩
    exact ⟨⟨_, rfl⟩, ⟨D, h, rfl, by omega⟩, Chg.refl _ _⟩
theorem put_all {w : World} {K : DK} {D : DS} (h : Dsk w K D) (k : Int) (hk : k ≤ 9223372036854775807) (m : Nat) (hm : m ≤ 1024) (A : Option Addr) (c : Nat) (b : List Int) (hl : b.length = m) (hi : InB b) (hB : Byt w A c b) :
    Calls Try.prog 8 #[.pointer (some ⟨K.g, 0, none⟩), .int .i64 k, .slice A m c] w fun e w' => (∃ E, e = .returned (.int .i64 E)) ∧ ActQ D K w w' := by
  cases e0 : withinI k m D.data.length
  · refine (put_no h k hk m (by omega) A c e0).mono ?_
    rintro e w' ⟨rfl, rfl⟩
    exact ⟨⟨_, rfl⟩, ⟨D, h, rfl, by omega⟩, Chg.refl _ _⟩
  · obtain ⟨a, n, rfl, hn, hab⟩ := within_yes e0
    obtain rfl : m = n := by omega
    refine (put_ok h a m hab A c b hl hi hB).mono ?_
    rintro e w' ⟨rfl, hd, hc⟩
    have hl2 : (splice D.data a b).length = D.data.length := splice_len _ _ _ (by rw [hl]; exact hab)
    exact ⟨⟨_, rfl⟩, ⟨_, hd, by simp only [DS.secs, hl2], by simp only; omega⟩, hc⟩
theorem cut_all {w : World} {K : DK} {D : DS} (h : Dsk w K D) (k : Int) (m : List Int) (hk : k ≤ 9223372036854775807) (hm : m.length = 16) (hb : InB m) : Calls Try.prog 10 #[.pointer (some ⟨K.g, 0, none⟩), .int .i64 k, .agg (vals m).toArray] w fun e w' => (∃ E, e = .returned (.int .i64 E)) ∧ ActQ D K w w' := by
  refine (cut_any h k m hk hm hb).mono ?_
  rintro e w' ⟨rfl, hd, hc⟩
  refine ⟨⟨_, rfl⟩, ⟨_, hd, ?_, ?_⟩, hc⟩
  · unfold cutD; split <;> rfl
  · unfold cutD
    split
    · show D.writes ≤ D.writes + 8; omega
    · omega
theorem restart_all {w : World} {K : DK} {D : DS} (h : Dsk w K D) : Calls Try.prog 17 #[.pointer (some ⟨K.g, 0, none⟩)] w fun e w' => e = .returned (.int .i64 0) ∧ ActQ D K w w' := by
  refine (restart_any h).mono ?_
  rintro e w' ⟨rfl, hd, hc⟩
  exact ⟨rfl, ⟨_, hd, rfl, by simp only [restD]; omega⟩, hc⟩
noncomputable def loadAc (v : Value) : Sem Value := Instr.loadAt 25 v
theorem loadAtAc (v : Value) : Instr.loadAt 25 v = loadAc v := rfl
theorem infoAc : (Try.prog.info? 25).map (·.size) = some 21 := by kernel_rfl
theorem Av.c_len (x : Av) (h : x.mask.length = 16) : x.c.size = 21 := by simp [Av.c, vals, h]
theorem loadAc_eq {w : World} {b : Nat} {x : Av} (hm : x.mask.length = 16) (h : w.heap[b]? = some (.cells x.c 25 (0, 0))) : (loadAc (.pointer (some ⟨b, 0, none⟩))).run Try.prog w = .ok (.agg x.c) w := by
  unfold loadAc
  have hr : w.rangeAt b 0 x.c.toList := fun j v hv => by
    rw [Nat.zero_add, cell_row h]; simpa using hv
  have := run_loadAt_mid (P := Try.prog) w b 0 25 x.c.toList _ hr Try.underlying25 rfl (by rw [Array.length_toList, x.c_len hm]; exact infoAc)
  simpa using this
attribute [irreducible] loadAc
attribute [local go_sem ↓ high] loadAtAc
set_option maxRecDepth 100000 in
set_option maxHeartbeats 4000000 in
theorem act_any {w : World} {K : DK} {D : DS} (h : Dsk w K D) (x : Av) (ox : x.Ok) (hB : Byt w x.A x.cap x.L) (hw : D.writes ≤ 1152921504606846976) :
    Calls Try.prog 14 #[.pointer (some ⟨K.g, 0, none⟩), .agg x.c] w fun e w' => e = .returned (.tuple #[]) ∧ ActQ D K w w' := by
  have hlow : Below w.heap.size w (w.alloc (.cells x.c 25)) := (Below.refl _ _).alloc (Nat.le_refl _) _
  have hrow := Go.heap_alloc_new w (.cells x.c 25)
  have hd1 := h.later hlow
  have hB1 := hB.below hlow (Nat.le_refl _)
  obtain ⟨w1, hw1⟩ : ∃ w1, w1 = w.alloc (.cells x.c 25) := ⟨_, rfl⟩
  rw [← hw1] at hlow hrow hd1 hB1
  have q0 := cell_row hrow 0
  have q1 := cell_row hrow 1
  have q2 := cell_row hrow 2
  rw [show x.c[0]? = some (.int .u8 x.what) by rfl] at q0
  rw [show x.c[1]? = some (.int .i64 x.at_) by rfl] at q1
  rw [show x.c[2]? = some (.int .i64 x.n) by rfl] at q2
  have hck : Chg K.bl w w1 := Chg.of_below hlow
  have Hrd := Lib.hid (read_all hd1 x.at_ x.n ox.at_.2)
  have Hct := Lib.hid (cut_all hd1 x.n x.mask ox.n.2 ox.mlen ox.minb)
  have Hrs := Lib.hid (restart_all hd1)
  have hdrew : Below w1.heap.size w1 w1.drew := (Below.refl _ _).drew
  have hdD := hd1.later hdrew
  have Hdat := Lib.hid (data_any (w := w1.drew) x (hB1.below hdrew (Nat.le_refl _)) ox.inb ox.len)
  have Hmask := Lib.hid (show w1.rangeAt w.heap.size 5 (vals x.mask) from fun j v hv => by
    rw [cell_row hrow, Av.c, List.getElem?_toArray, show 5 + j = j + 5 by omega]
    simpa using hv)
  have Hi16 : Hid ((Try.prog.info? 23).map (·.size) = some (vals x.mask).length) := by show _ = _; rw [vals_length, ox.mlen]; exact info16
  have hlx := loadAc_eq (w := w1.drew) ox.mlen hrow
  have q1d : w1.drew.cell? ⟨w.heap.size, 1, none⟩ = some (.int .i64 x.at_) := q1
  have Hwa : Hid (∀ w2 v b, DataQ x.whole w1.drew.heap.size v w1.drew w2 b → ∃ A c, v = .slice A b.length c ∧ (w2.cell? ⟨w.heap.size, 1, none⟩ = some (.int .i64 x.at_) ∧ Chg K.bl w w2) ∧ Calls Try.prog 11 #[.pointer (some ⟨K.g, 0, none⟩), .int .i64 x.at_, .slice A b.length c] w2 fun e w' => (∃ E, e = .returned (.int .i64 E)) ∧ ActQ D K w2 w') := fun w2 v b hq => by
    obtain ⟨A, c, hv, hBb⟩ := own_bytK (L := b) hq.own rfl
    refine ⟨A, c, hv, ⟨(World.cell?_of_block (hq.low.block _ (Array.getElem?_eq_some_iff.1 hrow).1)).trans q1, hck.trans (Chg.of_below (hdrew.trans hq.low))⟩, write_all (hdD.later hq.low) x.at_ ox.at_.2 b.length hq.len A c b rfl hq.inb hBb (fun a ha hm => ?_) hw⟩
    have := (hq.own.lt a.block (by rw [hv, ha]; rfl)).1
    have := hdD.glt
    have := hdD.hlt
    simp [DK.bl] at hm; omega
  have Hpa : Hid (∀ w2 v b, DataQ x.whole w1.drew.heap.size v w1.drew w2 b → ∃ A c, v = .slice A b.length c ∧ (w2.cell? ⟨w.heap.size, 1, none⟩ = some (.int .i64 x.at_) ∧ Chg K.bl w w2) ∧ Calls Try.prog 8 #[.pointer (some ⟨K.g, 0, none⟩), .int .i64 x.at_, .slice A b.length c] w2 fun e w' => (∃ E, e = .returned (.int .i64 E)) ∧ ActQ D K w2 w') := fun w2 v b hq => by
    obtain ⟨A, c, hv, hBb⟩ := own_bytK (L := b) hq.own rfl
    exact ⟨A, c, hv, ⟨(World.cell?_of_block (hq.low.block _ (Array.getElem?_eq_some_iff.1 hrow).1)).trans q1, hck.trans (Chg.of_below (hdrew.trans hq.low))⟩, put_all (hdD.later hq.low) x.at_ ox.at_.2 b.length hq.len A c b rfl hq.inb hBb⟩
  have Hck := Lib.hid hck
  have Hrow := Lib.hid hrow
  have Hd1 := Lib.hid hd1
  have ha0 := ox.what.1
  have ha1 := ox.what.2
  have Hw1 := Lib.hid hw1
  obtain ⟨a, ha⟩ : ∃ a, a = x.what := ⟨_, rfl⟩
  rw [← ha] at q0 ha0 ha1
  obtain ⟨p, hp⟩ : ∃ p, p = x.at_ := ⟨_, rfl⟩
  obtain ⟨n, hn⟩ : ∃ n, n = x.n := ⟨_, rfl⟩
  rw [← hp] at q1 q1d Hrd Hwa Hpa
  rw [← hn] at q2 Hrd Hct
  have hcase : a % 5 = 0 ∨ a % 5 = 1 ∨ a % 5 = 2 ∨ a % 5 = 3 ∨ a % 5 = 4 := by omega
  have hfin : ∀ w', ActQ D K w1 w' → ActQ D K w w' := fun w' h => ⟨h.ex, hck.trans h.chg⟩
  have Hfin := Lib.hid hfin
  clear h ox hB hw hlow hrow hd1 hB1 hw1 ha hp hn hck hfin hdrew hdD
  go_enter Try.func14, Try.ntmps14
  go_upto_region 1 with (fail)
  rw [← Hw1.out]
  rcases hcase with e | e | e | e | e
  · clear hlx
    go_wp2_with (go_at_call 18; refine Hrd.out.mono ?_; rintro e w2 ⟨⟨v, E, rfl⟩, hd2, hc2⟩; have Q := Lib.hid (Hfin.out w2 ⟨⟨D, hd2, rfl, by omega⟩, hc2⟩); clear hd2 hc2)
    go_end0
    exact ⟨rfl, Q.out⟩
  · go_upto_region 6 with (fail)
    go_region_with (first
      | (go_at_call 7; refine Hdat.out.mono ?_; rintro e w2 ⟨v2, b2, rfl, hq2⟩; obtain ⟨A2, c2, rfl, ⟨q12, hc2⟩, hcall⟩ := Hwa.out _ _ _ hq2; have Hcall := Lib.hid hcall; have Hc2 := Lib.hid hc2; clear hq2 hcall hc2)
      | (go_at_call 11; refine Hcall.out.mono ?_; rintro e w3 ⟨⟨E, rfl⟩, hq3⟩; have Q : Hid (ActQ D K w w3) := ⟨hq3.ex, Hc2.out.trans hq3.chg⟩; clear hq3))
    all_goals
      go_wp2_with fail
      go_end0
      exact ⟨rfl, Q.out⟩
  · clear hlx
    go_wp2_with (first
      | (refine wpList_load_mid rfl 23 (.tmp 34) rfl w.heap.size 5 (by rfl) (vals x.mask) _ Hmask.out Try.underlying23 rfl Hi16.out ?_)
      | (go_at_call 10; refine Hct.out.mono ?_; rintro e w2 ⟨⟨E, rfl⟩, hq2⟩; have Q := Lib.hid (Hfin.out w2 hq2); clear hq2))
    go_end0
    exact ⟨rfl, Q.out⟩
  · clear hlx
    go_wp2_with (go_at_call 17; refine Hrs.out.mono ?_; rintro e w2 ⟨rfl, hq2⟩; have Q := Lib.hid (Hfin.out w2 hq2); clear hq2)
    go_end0
    exact ⟨rfl, Q.out⟩
  · go_upto_region 2 with (fail)
    go_region_with (first
      | (go_at_call 7; refine Hdat.out.mono ?_; rintro e w2 ⟨v2, b2, rfl, hq2⟩; obtain ⟨A2, c2, rfl, ⟨q12, hc2⟩, hcall⟩ := Hpa.out _ _ _ hq2; have Hcall := Lib.hid hcall; have Hc2 := Lib.hid hc2; clear hq2 hcall hc2)
      | (go_at_call 8; refine Hcall.out.mono ?_; rintro e w3 ⟨⟨E, rfl⟩, hq3⟩; have Q : Hid (ActQ D K w w3) := ⟨hq3.ex, Hc2.out.trans hq3.chg⟩; clear hq3))
    all_goals
      go_wp2_with fail
      go_end0
      exact ⟨rfl, Q.out⟩
end Go.Proofs.Ytbmkejhkckdoeaa.Dsk
