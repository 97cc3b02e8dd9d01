/- DERIVED. The contracts of Reader.Num and its closure. -/
import Derived.Test.YtigfcmnknijobaaCodRead
namespace Go.Proofs.Ytigfcmnknijobaa.Cod
open Go.RowKit Str
theorem enter_of {K : Nat} {fn : Func} {c : Code} (hf : Try.prog.funcs[K]? = some fn) (hname : (fn.name == "runtime.NumGoroutine") = false) (hb : fn.body = some c) (x : Array Value) (w : World) : (callFunc K x).run Try.prog w = .ok (.enter K x) w := by
  have h1 : fn.name ≠ "runtime.NumGoroutine" := by simpa using hname
  simp [callFunc, hf, h1, hb]
/-- what a read leaves behind what it looked at. -/
theorem after_read {S : List Nat} {rb : Nat} {L R : List Int} {v' : Value} {e1 : Int} {w w1 w' : World} (h : Rdr rb L 0 w) (hc : Chg S w w1) (hS : rb ∉ S) (h8 : ∀ k ∈ S, ∀ o x, w.cell? ⟨k, o, none⟩ ≠ some (.int .u8 x)) (hv : SlB R v' w1)
    (hw : (e1 = 0 ∧ w' = w1.setCell ⟨rb, 1, none⟩ v') ∨ (e1 ≠ 0 ∧ w' = w1.setCell ⟨rb, 2, none⟩ (.int .i64 e1))) : Rdr rb (if e1 = 0 then R else L) e1 w' ∧ Chg [rb] w1 w' := by
  obtain ⟨v, hr, hL⟩ := h
  have hr1 := hc.at hr hS
  have hL1 := slb_chg hL hc h8
  have no8 : ∀ k ∈ [rb], ∀ o x, w1.cell? ⟨k, o, none⟩ ≠ some (.int .u8 x) := by
    intro k hk
    obtain rfl := List.mem_singleton.1 hk
    exact rdr_no8 hr1 hL1
  rcases hw with ⟨he, rfl⟩ | ⟨he, rfl⟩
  · have hg : Chg [rb] w1 (w1.setCell ⟨rb, 1, none⟩ v') := chg_one _ _ _ _
    rw [if_pos he, he]
    exact ⟨⟨v', by rw [heap_setCell_same _ _ _ _ _ _ hr1]; rfl, slb_chg hv hg no8⟩, hg⟩
  · have hg : Chg [rb] w1 (w1.setCell ⟨rb, 2, none⟩ (.int .i64 e1)) := chg_one _ _ _ _
    rw [if_neg he]
    exact ⟨⟨v, by rw [heap_setCell_same _ _ _ _ _ _ hr1]; rfl, slb_chg hL1 hg no8⟩, hg⟩
/-- what the closure of Num leaves. -/
def QNum (L : List Int) (most bn : Nat) (w : World) (v' : Value) (e1 : Int) (w' : World) : Prop :=
  e1 = (cutL L most).2.2 ∧ SlB (cutL L most).2.1 v' w' ∧ w'.heap[bn]? = some (.cells #[.int .u64 ((cutL L most).1 : Nat)] 30 (0, 0)) ∧ Chg [bn] w w'
set_option maxHeartbeats 1000000 in
theorem num1_any {L : List Int} {v : Value} {w : World} {bm bn most : Nat} (hv : SlB L v w) (hle : L.length ≤ 100000) (hb : InB L) (hm : w.heap[bm]? = some (.cells #[.int .u64 (most : Nat)] 30 (0, 0))) (hn : w.heap[bn]? = some (.cells #[.int .u64 0] 30 (0, 0))) :
    Calls Try.prog 36 #[v, .pointer (some ⟨bm, 0, none⟩), .pointer (some ⟨bn, 0, none⟩)] w fun e w' => ∃ v' e1, e = .returned (.tuple #[v', .int .i64 e1]) ∧ QNum L most bn w v' e1 w' := by
  have Hcut := Lib.hid (cut_any L v most hle hb w hv)
  have cm := cell_row hm 0
  simp only [List.getElem?_toArray, List.getElem?_cons_zero] at cm
  have Hn := Lib.hid hn
  obtain ⟨N, R, E, hNRE⟩ : ∃ N R E, cutL L most = (N, R, E) := ⟨_, _, _, rfl⟩
  unfold QNum
  rw [hNRE] at Hcut ⊢
  simp only at Hcut ⊢
  clear hv hm hn hNRE
  go_enter Try.func36, Try.ntmps36
  go_wp2_with (go_at_call 37; refine Hcut.out.mono ?_; rintro e w1 ⟨v1, rfl, hs1, low1⟩; have hn1 := (low1.block _ (Array.getElem?_eq_some_iff.1 Hn.out).1).trans Hn.out; have dn := cell_row hn1 0; simp only [List.getElem?_toArray, List.getElem?_cons_zero] at dn; have fn := free_row hn1 0; have Hs1 := Lib.hid hs1; have Low1 := Lib.hid low1; have Hn1 := Lib.hid hn1; clear hs1 low1 hn1)
  go_ret2
  have hg : Chg [bn] w1 (w1.setCell ⟨bn, 0, none⟩ (.int .u64 (N : Nat))) := chg_one _ _ _ _
  have no8 : ∀ k ∈ [bn], ∀ o x, w1.cell? ⟨k, o, none⟩ ≠ some (.int .u8 x) := by
    intro k hk o x
    obtain rfl := List.mem_singleton.1 hk
    rw [cell_row Hn1.out]
    match o with
    | 0 => simp
    | o + 1 => simp
  exact ⟨_, _, rfl, rfl, slb_chg Hs1.out hg no8, by rw [heap_setCell_same _ _ _ _ _ _ Hn1.out]; rfl, (Chg.of_below Low1.out).trans hg⟩
/-- a number read. -/
def readN (L : List Int) (e : Int) (most : Nat) : Nat × List Int × Int :=
  if e = 0 then ((cutL L most).1, (if (cutL L most).2.2 = 0 then (cutL L most).2.1 else L), (cutL L most).2.2) else (0, L, e)
theorem one_no8 {bn : Nat} {y : Value} {T : Nat} {w : World} (h : w.heap[bn]? = some (.cells #[y] T (0, 0))) (hy : ∀ x, y ≠ .int .u8 x) : ∀ o x, w.cell? ⟨bn, o, none⟩ ≠ some (.int .u8 x) := by
  intro o x
  rw [cell_row h]
  match o with
  | 0 => simpa using hy x
  | o + 1 => simp
set_option maxRecDepth 100000 in
set_option maxHeartbeats 1000000 in
theorem num_read {rb : Nat} {L : List Int} {er : Int} {w : World} (most : Nat) (h : Rdr rb L er w) (hle : L.length ≤ 100000) (hb : InB L) :
    Calls Try.prog 15 #[.pointer (some ⟨rb, 0, none⟩), .int .u64 (most : Nat)] w fun e w' => e = .returned (.int .u64 ((readN L er most).1 : Nat)) ∧ Rdr rb (readN L er most).2.1 (readN L er most).2.2 w' ∧ Chg [rb] w w' := by
  have hlt := h.lt
  obtain ⟨w2, hw2⟩ : ∃ w2, w2 = (w.alloc (.cells #[.int .u64 (most : Nat)] 30)).alloc (.cells #[.int .u64 0] 30) := ⟨_, rfl⟩
  have h2 := two_new w (.cells #[.int .u64 (most : Nat)] 30) (.cells #[.int .u64 0] 30)
  have k2 : Below w.heap.size w ((w.alloc (.cells #[.int .u64 (most : Nat)] 30)).alloc (.cells #[.int .u64 0] 30)) := ((Below.refl _ _).alloc (Nat.le_refl _) _).alloc (by simp) _
  rw [← hw2] at h2 k2
  have hr2 := h.later k2
  have HW2 := Lib.hid hw2
  clear hw2
  have Hk2 := Lib.hid k2
  have Hr2 := Lib.hid hr2
  unfold readN
  by_cases he : er = 0
  · subst he
    rw [if_pos rfl]
    have hS : rb ∉ [w.heap.size + 1] := by simp; omega
    have h8 : ∀ k ∈ [w.heap.size + 1], ∀ o x, w2.cell? ⟨k, o, none⟩ ≠ some (.int .u8 x) := by
      intro k hk
      obtain rfl := List.mem_singleton.1 hk
      exact one_no8 h2.2 (by simp)
    have Hrd := Lib.hid (read_two 36 (enter_of Try.func36 (by kernel_rfl) rfl) (.pointer (some ⟨w.heap.size, 0, none⟩)) (.pointer (some ⟨w.heap.size + 1, 0, none⟩)) (QNum L most (w.heap.size + 1) w2) hr2
      (fun v hv => num1_any hv hle hb h2.1 h2.2) (fun v' e1 w' hq => hq.2.2.2.block rb hr2.lt hS) (fun v' e1 w' hq => by obtain ⟨A, c, e, _⟩ := hq.2.1; exact ⟨A, _, c, e⟩))
    have Haf : Hid (∀ v' e1 w1 w', QNum L most (w.heap.size + 1) w2 v' e1 w1 → ((e1 = 0 ∧ w' = w1.setCell ⟨rb, 1, none⟩ v') ∨ (e1 ≠ 0 ∧ w' = w1.setCell ⟨rb, 2, none⟩ (.int .i64 e1))) → w'.heap[w.heap.size + 1]? = some (.cells #[.int .u64 ((cutL L most).1 : Nat)] 30 (0, 0)) ∧ Rdr rb (if (cutL L most).2.2 = 0 then (cutL L most).2.1 else L) (cutL L most).2.2 w' ∧ Chg [rb] w w') := by
      intro v' e1 w1 w' hq hw
      obtain ⟨rfl, hs1, hn1, hc1⟩ := hq
      have ha := after_read hr2 hc1 hS h8 hs1 hw
      have hne : w.heap.size + 1 ∉ [rb] := by simp; omega
      refine ⟨ha.2.at hn1 hne, ha.1, ?_⟩
      have hc2 : Chg [rb] w w1 := ((Chg.of_below (S := [w.heap.size + 1]) k2).trans hc1).mono (by intro k hk; obtain rfl := List.mem_singleton.1 hk; right; omega)
      exact hc2.trans ha.2
    obtain ⟨N, hN⟩ : ∃ N, N = (cutL L most).1 := ⟨_, rfl⟩
    rw [← hN] at Haf ⊢
    obtain ⟨R2, hR2⟩ : ∃ R2, R2 = (if (cutL L most).2.2 = 0 then (cutL L most).2.1 else L) := ⟨_, rfl⟩
    rw [← hR2] at Haf ⊢
    clear hR2
    clear h h2 k2 hr2 hS h8 hN
    go_enter Try.func15, Try.ntmps15
    go_wp2_with (go_at_call 35; rw [← HW2.out]; refine Hrd.out.mono ?_; rintro e w3 ⟨rfl, v', e1, w1, hq, hw⟩; have ha := Haf.out _ _ _ _ hq hw; have dn := cell_row ha.1 0; simp only [List.getElem?_toArray, List.getElem?_cons_zero] at dn; have Ha := Lib.hid ha; clear ha hq hw)
    go_ret
    exact ⟨rfl, Ha.out.2⟩
  · rw [if_neg he]
    have hne := Lib.hid he
    have Hrd := Lib.hid (read_off hr2 he (.func (.func 36) #[] #[.pointer (some ⟨w.heap.size, 0, none⟩), .pointer (some ⟨w.heap.size + 1, 0, none⟩)]))
    have dn := cell_row h2.2 0
    simp only [List.getElem?_toArray, List.getElem?_cons_zero] at dn
    clear h h2 k2 hr2 he
    go_enter Try.func15, Try.ntmps15
    go_wp2_with (go_at_call 35; rw [← HW2.out]; refine Hrd.out.mono ?_; rintro e w3 ⟨rfl, rfl⟩)
    go_ret
    exact ⟨rfl, Hr2.out, Chg.of_below Hk2.out⟩
end Go.Proofs.Ytigfcmnknijobaa.Cod
