/- DERIVED. The contract of rules.Find: the label of a path. -/
import Derived.Test.YtmbcojpdigoojaaGreatDoorRulRows
import Derived.Test.YtmbcojpdigoojaaGreatDoorLabRows
import Derived.StillTailTactics
namespace Go.Proofs.YtmbcojpdigoojaaGreatDoor.Rul
open Go.RowKit Lab
/-- a label in the middle of a row, loaded as a whole. -/
noncomputable def loadLb (v : Value) : Sem Value := Instr.loadAt 34 v
theorem loadAtLb (v : Value) : Instr.loadAt 34 v = loadLb v := rfl
theorem loadLb_eq {w : World} {b o : Nat} {a : Int} {c : Nat} (h : w.rangeAt b o (lab a c).toList) : (loadLb (.pointer (some ⟨b, o, none⟩))).run Tryz.prog w = .ok (.agg (lab a c)) w := by
  unfold loadLb
  simp only [Instr.loadAt, Instr.sureAddr, Sem.run_bind, Sem.run_pure, Result.andThen_ok, run_loadVar_mid w b o 34 (lab a c).toList _ h Tryz.underlying34 rfl infoL]
attribute [irreducible] loadLb
attribute [local go_sem ↓ high] loadAtLb
/-- a rule's row: its text, its label. -/
theorem rule_row {w : World} {g : Nat} {r : Rl} (h : w.heap[g]? = some (.cells (rlc r) 48 (0, 0))) : w.cell? ⟨g, 0, none⟩ = some (.string r.p) ∧ w.rangeAt g 1 (lab r.a r.c).toList := by
  refine ⟨cell_row h 0, fun j v hv => ?_⟩
  rw [cell_row h]
  have hj : j < 2 := by have := (List.getElem?_eq_some_iff.1 hv).1; simpa using this
  have : j = 0 ∨ j = 1 := by omega
  rcases this with rfl | rfl <;> exact hv
/-- what the loop keeps. -/
structure FiI (st : Int × Nat) (N : Nat) (w wr : World) : Prop where
  res : wr.heap[N + 1]? = some (.cells (lab 0 0) 34 (0, 0))
  fnd : wr.heap[N + 1 + 1]? = some (.cells (lab st.1 st.2) 34 (0, 0))
  low : Below N w wr
theorem FiI.later {st : Int × Nat} {N : Nat} {w wr wx : World} (h : FiI st N w wr) (hb : Below wr.heap.size wr wx) : FiI st N w wx := by
  have h1 := (Array.getElem?_eq_some_iff.1 h.res).1
  have h2 := (Array.getElem?_eq_some_iff.1 h.fnd).1
  exact ⟨(hb.block _ h1).trans h.res, (hb.block _ h2).trans h.fnd, h.low.trans (hb.mono (by omega))⟩
theorem FiI.set {st : Int × Nat} {N : Nat} {w wr : World} (h : FiI st N w wr) (a : Int) (c : Nat) : FiI (a, c) N w (wr.setRow (N + 1 + 1) (lab a c)) :=
  ⟨by rw [setRow_ne (by omega)]; exact h.res, setRow_at h.fnd, Lab.below_setRow h.low (by omega) _⟩
set_option maxRecDepth 100000 in
set_option maxHeartbeats 2000000 in
theorem find_any (v : Int) (A : Option Addr) (n c : Nat) (rs : List Rl) (s : ByteArray) (wb w : World) (hn : rs.length = n) (hR : Ruls wb A c rs) (hwb : Below wb.heap.size wb w) (hL : Pth.Laid w) (hz : ∀ r ∈ rs, r.p.size ≤ 1000) (hs : s.size ≤ 1000) (hn9 : n ≤ 9223372036854775807) :
    Calls Tryz.prog 10 #[.agg (tabV v A n c), .string s] w fun e w' => e = .returned (.agg (lab (find s rs).1 (find s rs).2)) ∧ Below w.heap.size w w' := by
  obtain ⟨q, hq⟩ : ∃ q, q = find s rs := ⟨_, rfl⟩
  rw [← hq]
  have Hq := Lib.hid hq
  clear hq
  have Hn := Lib.hid hn
  have HR := Lib.hid hR
  have Hwb := Lib.hid hwb
  have HL := Lib.hid hL
  have Hz := Lib.hid hz
  have h3 := three_new w (.cells (tabV v A n c) 24) (.cells (lab 0 0) 34) (.cells (lab 0 0) 34)
  have k3 := below3 w (.cells (tabV v A n c) 24) (.cells (lab 0 0) 34) (.cells (lab 0 0) 34)
  obtain ⟨W3, hW3⟩ : ∃ W3, W3 = ((w.alloc (.cells (tabV v A n c) 24)).alloc (.cells (lab 0 0) 34)).alloc (.cells (lab 0 0) 34) := ⟨_, rfl⟩
  rw [← hW3] at h3 k3
  have c1 := cell_row h3.1 1
  have HW3 : Hid (((w.alloc (.cells (tabV v A n c) 24)).alloc (.cells #[.int .i64 0, .int .u64 0] 34)).alloc (.cells #[.int .i64 0, .int .u64 0] 34) = W3) := by show _ = _; rw [hW3]; rfl
  have Hst : Hid (FiI (findF s (rs.take 0)).2 w.heap.size w W3) := ⟨h3.2.1, by rw [List.take_zero]; exact h3.2.2, k3⟩
  clear hn hR hwb hL hz h3 k3 hW3
  go_enter Tryz.func10, Tryz.ntmps10
  go_upto_region 2 with fail
  rw [HW3.out]
  go_wp2
  go_loopw [6, 12] (fun lo i wr => ∃ k : Nat, k ≤ n ∧ i = .int .i64 k ∧ lo = .int .i64 (findF s (rs.take k)).1 ∧ Hid (FiI (findF s (rs.take k)).2 w.heap.size w wr)) (fun _ i _ => n - (intOf i).toNat)
  case atStart => exact ⟨0, by omega, rfl, by rw [List.take_zero]; rfl, Hst.out⟩
  case round =>
    obtain ⟨k, hk, rfl, rfl, hI⟩ := hrel
    clear c1 Hst
    by_cases hlt : k < n
    · have hltI : (k : Int) < n := by omega
      obtain ⟨r, hr⟩ : ∃ r, rs[k]? = some r := ⟨_, List.getElem?_eq_getElem (by have := Hn.out; omega)⟩
      have hrp := Hz.out r (List.mem_of_getElem? hr)
      have hstep : findF s (rs.take (k + 1)) = findStep s (findF s (rs.take k)) r := by rw [List.take_add_one, hr]; exact findF_snoc s _ r
      obtain ⟨b, off, hA, hb, hrange⟩ := HR.out.at hr
      have hlow := hI.out.low
      have Hr : Hid (wr.rangeAt b (off + k * 3) (rlc r).toList) := fun j u hu => (hlow.cell (p := ⟨b, off + k * 3 + j, none⟩) (Nat.lt_of_lt_of_le hb Hwb.out.size)).trans ((Hwb.out.cell (p := ⟨b, off + k * 3 + j, none⟩) hb).trans (hrange j u hu))
      have hcap1 : n ≤ c := by have := HR.out.1; have := Hn.out; omega
      obtain ⟨st, hst⟩ : ∃ st, st = findF s (rs.take k) := ⟨_, rfl⟩
      have hI2 := hI.out
      rw [← hst] at hstep hI2 ⊢
      obtain ⟨lo, fa, fc⟩ := st
      simp only at hI2
      have Hstep := Lib.hid hstep
      have HI := Lib.hid hI2
      have hlo : (r.p.size : Int) ≤ 1000 := by omega
      subst hA
      clear hr hstep hrange hlow hst hI hI2 hb
      go_upto_region 6 with (first
        | (with_reducible refine wpList_load_mid rfl 48 (.tmp 14) rfl b (off + k * 3) rfl (rlc r).toList _ Hr.out Tryz.underlying48 rfl infoR2 ?_)
        | (refine wpList_store_row rfl 48 (.tmp 8) (.tmp 15) rfl wr.heap.size (rlc r) rfl rfl 48 _ (Go.heap_alloc_new wr _) infoR rfl (rlc_one _) ?_; rw [World.setRow_alloc_new]))
      obtain ⟨w4, hw4⟩ : ∃ w4, w4 = wr.alloc (.cells (rlc r) 48) := ⟨_, rfl⟩
      have h4 : w4.heap[wr.heap.size]? = some (.cells (rlc r) 48 (0, 0)) := by rw [hw4]; exact Go.heap_alloc_new wr _
      have l4 : Below wr.heap.size wr w4 := by rw [hw4]; exact (Below.refl _ _).alloc (Nat.le_refl _) _
      rw [← hw4]
      clear hw4
      obtain ⟨bx, hbx⟩ : ∃ bx, bx = wr.heap.size := ⟨_, rfl⟩
      rw [← hbx] at h4 ⊢
      have hI4 := HI.out.later l4
      have cS := (rule_row h4).1
      have hlaid4 := HL.out.below (hI4.low) (Nat.le_refl _)
      have HI4 := Lib.hid hI4
      have H4 := Lib.hid h4
      have HL4 := Lib.hid hlaid4
      clear h4 l4 hI4 hbx hlaid4 HI Hr
      by_cases hgt : lo < (r.p.size : Int)
      · have HC := Lib.hid (covers_any r.p s w4 HL4.out (by omega) hs)
        cases hcv : cov r.p s with
        | true =>
          have hc := HC.out
          rw [hcv] at hc
          have HC2 := Lib.hid hc
          have hs2 : findF s (rs.take (k + 1)) = ((r.p.size : Int), r.a, r.c) := by rw [Hstep.out]; unfold findStep; rw [if_pos ⟨hgt, hcv⟩]
          have Hs2 := Lib.hid hs2
          clear hc hs2 HC hcv Hstep
          go_upto_region 7 with (go_at_call 25; refine HC2.out.mono ?_; rintro e w5 ⟨rfl, low5⟩; have HI5 := Lib.hid (HI4.out.later low5); have H5 := Lib.hid ((low5.block _ (Array.getElem?_eq_some_iff.1 H4.out).1).trans H4.out); clear low5)
          have d5 : Below w5.heap.size w5 w5.drew := (Below.refl _ _).drew
          have hI6 := HI5.out.later d5
          have h6 : w5.drew.heap[bx]? = some (.cells (rlc r) 48 (0, 0)) := H5.out
          have cS6 := (rule_row h6).1
          have cL6 := loadLb_eq (rule_row h6).2
          have HI6 := Lib.hid hI6
          clear d5 hI6 h6 cS
          refine wp_region_still_tail 6 (by kernel_rfl) (by kernel_rfl) ?_
          simp only [List.take_succ_cons, List.take_zero, List.drop_succ_cons, List.drop_zero]
          change wpStill _ _ w5.drew _ _ _
          repeat (refine wpStill_step (fun K hK => ?_); go_simp; refine hK _ ?_; clear hK K)
          refine wpStill_nil ?_
          change wpList _ _ _ _ _ w5.drew
          go_wp2_with (refine wpList_store_row rfl 34 (.tmp 5) (.tmp 31) rfl (w.heap.size + 1 + 1) (lab r.a r.c) rfl rfl 34 _ HI6.out.fnd infoL rfl (lab_one _ _) ?_)
          go_roundw
          case rel => exact ⟨k + 1, by omega, by go_num, by rw [Hs2.out], by rw [Hs2.out]; exact HI6.out.set _ _⟩
          case measure => simp [intOf]; omega
        | false =>
          have hc := HC.out
          rw [hcv] at hc
          have HC2 := Lib.hid hc
          have hs2 : findF s (rs.take (k + 1)) = (lo, fa, fc) := by rw [Hstep.out]; unfold findStep; rw [if_neg (fun e => by rw [hcv] at e; cases e.2)]
          have Hs2 := Lib.hid hs2
          clear hc hs2 HC hcv Hstep
          go_wp2_with (go_at_call 25; refine HC2.out.mono ?_; rintro e w5 ⟨rfl, low5⟩; have HI5 := Lib.hid (HI4.out.later low5); clear low5)
          go_roundw
          case rel => exact ⟨k + 1, by omega, by go_num, by rw [Hs2.out], by rw [Hs2.out]; exact HI5.out⟩
          case measure => simp [intOf]; omega
      · have hs2 : findF s (rs.take (k + 1)) = (lo, fa, fc) := by rw [Hstep.out]; unfold findStep; rw [if_neg (fun e => hgt e.1)]
        have Hs2 := Lib.hid hs2
        clear hs2 Hstep
        go_wp2
        go_roundw
        case rel => exact ⟨k + 1, by omega, by go_num, by rw [Hs2.out], by rw [Hs2.out]; exact HI4.out⟩
        case measure => simp [intOf]; omega
    · have hge : ¬ (k : Int) < n := by omega
      have ek : k = n := by omega
      have hI2 := hI.out
      rw [ek, List.take_of_length_le (Nat.le_of_eq Hn.out)] at hI2
      have hI3 : FiI q w.heap.size w wr := by rw [Hq.out]; exact hI2
      have HI3 := Lib.hid hI3
      clear hI hI2 hI3 ek hk hlt
      generalize findF s (List.take k rs) = fz
      go_wp2_with (first | (refine wpList_load_row rfl 34 (.tmp 5) rfl (w.heap.size + 1 + 1) rfl 34 (lab q.1 q.2) (0, 0) _ HI3.out.fnd Tryz.underlying34 rfl infoL ?_) | (refine wpList_store_row rfl 34 (.tmp 4) (.tmp 33) rfl (w.heap.size + 1) (lab q.1 q.2) rfl rfl 34 _ HI3.out.res infoL rfl (lab_one _ _) ?_))
      exact bodyPost_ret (v := .agg (lab q.1 q.2)) (results_cell_row rfl _ _ (w.heap.size + 1) 34 _ (0, 0) _ rfl (setRow_at HI3.out.res) Tryz.underlying34 rfl infoL) rfl ⟨rfl, Lab.below_setRow HI3.out.low (by omega) _⟩
end Go.Proofs.YtmbcojpdigoojaaGreatDoor.Rul
