/- DERIVED. The contract of sha.Mix: a state mixed with a block. -/
import Derived.Test.YtblgblhoolpmiaaDoorShaSched
import Derived.Deep.WholeRow
namespace Go.Proofs.YtblgblhoolpmiaaDoor
open Go.RowKit
/-- K0 to K63, as the row's list has them. -/
def KW : List Int := [1116352408, 1899447441, 3049323471, 3921009573, 961987163, 1508970993, 2453635748, 2870763221, 3624381080, 310598401, 607225278, 1426881987, 1925078388, 2162078206, 2614888103, 3248222580, 3835390401, 4022224774, 264347078, 604807628, 770255983, 1249150122, 1555081692, 1996064986, 2554220882, 2821834349, 2952996808, 3210313671, 3336571891, 3584528711, 113926993, 338241895, 666307205, 773529912, 1294757372, 1396182291, 1695183700, 1986661051, 2177026350, 2456956037, 2730485921, 2820302411, 3259730800, 3345764771, 3516065817, 3600352804, 4094571909, 275423344, 430227734, 506948616, 659060556, 883997877, 958139571, 1322822218, 1537002063, 1747873779, 1955562222, 2024104815, 2227730452, 2361852424, 2428436474, 2756734187, 3204031479, 3329325298]
/-- ahead of this block the tables lie. -/
def lim : Nat := max 0 1 + 1
/-- what the package's two tables hold. -/
structure Laid (w : World) : Prop where
  k : ∀ j, j < 64 → w.cell? ⟨1, j, none⟩ = some (.int .u32 (KW.getD j 0))
  s : ∀ j, j < 8 → w.cell? ⟨0, j, none⟩ = some (.int .u32 ([1779033703, 3144134277, 1013904242, 2773480762, 1359893119, 2600822924, 528734635, 1541459225].getD j 0))
  sz : lim ≤ w.heap.size
theorem Laid.below {w w' : World} (h : Laid w) {B : Nat} (hb : Below B w w') (hB : lim ≤ B) : Laid w' := by
  unfold lim at hB
  exact
  ⟨fun j hj => (hb.cell (p := ⟨1, j, none⟩) (show 1 < B by omega)).trans (h.k j hj), fun j hj => (hb.cell (p := ⟨0, j, none⟩) (show 0 < B by omega)).trans (h.s j hj), Nat.le_trans h.sz hb.size⟩
theorem info24 : (Tryd.prog.info? 24).map (·.size) = some 8 := by kernel_rfl
set_option maxRecDepth 100000 in
set_option maxHeartbeats 1000000 in
theorem mix_lit (a b c d e f g h : Int) (l : List Int) (hl : l.length = 64) (hb : InB l) (w : World) (hL : Laid w) :
    Calls Tryd.prog 10 #[.agg #[.int .u32 a, .int .u32 b, .int .u32 c, .int .u32 d, .int .u32 e, .int .u32 f, .int .u32 g, .int .u32 h], .agg (u8s l)] w
      fun e' w' => e' = .returned (.agg (u32s (mixK KW ⟨a, b, c, d, e, f, g, h⟩ l).list)) ∧ Below w.heap.size w w' := by
  have H64 : Hid (l.length = 64) := hl
  have Hb : Hid (InB l) := hb
  have HL : Hid (Laid w) := hL
  have hsz := hL.sz
  clear hl hb hL
  go_enter Tryd.func10, Tryd.ntmps10
  have h3 := three_new w (.cells #[.int .u32 a, .int .u32 b, .int .u32 c, .int .u32 d, .int .u32 e, .int .u32 f, .int .u32 g, .int .u32 h] 24) (.cells (u8s l) 25) (.cells #[.int .u32 0, .int .u32 0, .int .u32 0, .int .u32 0, .int .u32 0, .int .u32 0, .int .u32 0, .int .u32 0] 24)
  have b3 := below3 w (.cells #[.int .u32 a, .int .u32 b, .int .u32 c, .int .u32 d, .int .u32 e, .int .u32 f, .int .u32 g, .int .u32 h] 24) (.cells (u8s l) 25) (.cells #[.int .u32 0, .int .u32 0, .int .u32 0, .int .u32 0, .int .u32 0, .int .u32 0, .int .u32 0, .int .u32 0] 24)
  have H3 := Lib.hid h3
  have B3 := Lib.hid b3
  have Hsz : Hid ((Tryd.prog.info? 25).map (·.size) = some (u8s l).size) := by rw [u8s_size, H64.out]; exact info25
  clear h3 b3
  go_wp2_with (with_reducible refine wpList_load_row rfl 25 (.tmp 3) rfl (w.heap.size + 1) rfl 25 (u8s l) (0, 0) _ H3.out.2.1 Tryd.underlying25 rfl Hsz.out ?_)
  refine (schedule_any l H64.out Hb.out _).mono ?_
  rintro e' w1 ⟨rfl, hlow⟩
  have Hs55 : Hid ((Tryd.prog.info? 55).map (·.size) = some (u32s (sched l)).size) := by rw [u32s_size, sched_length]; exact info55
  go_wp2_with (refine wpList_store_row rfl 55 (.tmp 5) (.tmp 20) rfl w1.heap.size (u32s (sched l)) rfl rfl 55 _ (Go.heap_alloc_new _ _) Hs55.out (by rw [u32s_size, sched_length]; rfl) (u32s_one _) ?_; rw [World.setRow_alloc_new]; generalize hw2 : World.alloc w1 _ = w2; have Hw2 := Lib.hid hw2; clear hw2)
  have hb3 := B3.out
  have hs3 : (((w.alloc (.cells #[.int .u32 a, .int .u32 b, .int .u32 c, .int .u32 d, .int .u32 e, .int .u32 f, .int .u32 g, .int .u32 h] 24)).alloc (.cells (u8s l) 25)).alloc (.cells #[.int .u32 0, .int .u32 0, .int .u32 0, .int .u32 0, .int .u32 0, .int .u32 0, .int .u32 0, .int .u32 0] 24)).heap.size = w.heap.size + 3 := by simp
  have hs1 := hlow.size
  rw [hs3] at hlow hs1
  have hblk : w1.heap[w.heap.size]? = some (.cells #[.int .u32 a, .int .u32 b, .int .u32 c, .int .u32 d, .int .u32 e, .int .u32 f, .int .u32 g, .int .u32 h] 24) := (hlow.block _ (by omega)).trans H3.out.1
  have hres : w1.heap[w.heap.size + 1 + 1]? = some (.cells #[.int .u32 0, .int .u32 0, .int .u32 0, .int .u32 0, .int .u32 0, .int .u32 0, .int .u32 0, .int .u32 0] 24) := (hlow.block _ (by omega)).trans H3.out.2.2
  have low1 : Below w.heap.size w w1 := hb3.trans (hlow.mono (by omega))
  have hw2 := Hw2.out
  have low2 : Below w.heap.size w w2 := by rw [← hw2]; exact low1.alloc (by omega) _
  have blk2 : w2.heap[w.heap.size]? = some (.cells #[.int .u32 a, .int .u32 b, .int .u32 c, .int .u32 d, .int .u32 e, .int .u32 f, .int .u32 g, .int .u32 h] 24) := by rw [← hw2]; exact (Go.heap_alloc_old w1 _ (by omega)).trans hblk
  have res2 : w2.heap[w.heap.size + 1 + 1]? = some (.cells #[.int .u32 0, .int .u32 0, .int .u32 0, .int .u32 0, .int .u32 0, .int .u32 0, .int .u32 0, .int .u32 0] 24) := by rw [← hw2]; exact (Go.heap_alloc_old w1 _ (by omega)).trans hres
  have sch2 : w2.heap[w1.heap.size]? = some (.cells (u32s (sched l)) 55) := by rw [← hw2]; exact Go.heap_alloc_new w1 _
  have laid2 : Laid w2 := HL.out.below low2 hsz
  clear hw2 Hw2 low1 hres hblk hlow hs3 hb3 B3 H3 Hsz HL
  have c0 := cell_row blk2 0
  have c1 := cell_row blk2 1
  have c2 := cell_row blk2 2
  have c3 := cell_row blk2 3
  have c4 := cell_row blk2 4
  have c5 := cell_row blk2 5
  have c6 := cell_row blk2 6
  have c7 := cell_row blk2 7
  simp only [List.getElem?_toArray, List.getElem?_cons_zero, List.getElem?_cons_succ] at c0 c1 c2 c3 c4 c5 c6 c7
  have Blk2 := Lib.hid blk2
  have Res2 := Lib.hid res2
  have Sch2 := Lib.hid sch2
  clear blk2 res2 sch2
  go_wp2
  go_quiet (fail)
  go_wp2
  go_loopw [6, 7, 8, 9, 10, 11, 12, 13, 37] (fun v6 v7 v8 v9 v10 v11 v12 v13 i wr => ∃ (k n : Nat) (a' b' c' d' e' f' g' h' : Int), k ≤ 64 ∧ Hid (rounds KW l ⟨a, b, c, d, e, f, g, h⟩ k = ⟨a', b', c', d', e', f', g', h'⟩) ∧
      v6 = .int .u32 a' ∧ v7 = .int .u32 b' ∧ v8 = .int .u32 c' ∧ v9 = .int .u32 d' ∧ v10 = .int .u32 e' ∧ v11 = .int .u32 f' ∧ v12 = .int .u32 g' ∧ v13 = .int .u32 h' ∧ i = .int .i64 k ∧ Hid (wr = w2.drewN n)) (fun _ _ _ _ _ _ _ _ i _ => 64 - (intOf i).toNat)
  case atStart => exact ⟨0, nq, a, b, c, d, e, f, g, h, by omega, rfl, rfl, rfl, rfl, rfl, rfl, rfl, rfl, rfl, rfl, rfl⟩
  case round =>
    obtain ⟨k, n, a', b', c', d', e', f', g', h', hk, hst, rfl, rfl, rfl, rfl, rfl, rfl, rfl, rfl, rfl, hwr⟩ := hrel
    by_cases hlt : k < 64
    · have ck : wr.cell? ⟨1, k, none⟩ = some (.int .u32 (KW.getD k 0)) := by rw [hwr.out]; exact laid2.k k hlt
      have cs : wr.cell? ⟨w1.heap.size, k, none⟩ = some (.int .u32 (W l k)) := by
        rw [hwr.out]; show w2.cell? _ = _; rw [cell_row Sch2.out, u32s_get _ _ (by rw [sched_length]; exact hlt), W_of_sched]
      obtain ⟨Kk, hKk⟩ : ∃ x, x = KW.getD k 0 := ⟨_, rfl⟩
      rw [← hKk] at ck
      have HKk := Lib.hid hKk
      clear hKk
      have hlt' : (k : Int) < 64 := by omega
      go_wp2
      go_quiet ((go_at_call 29; exact Calls.quiet_of_same (right_same _ _ (by decide) (by decide) _)))
      go_wp2_with (go_at_call 29; refine (right_same _ _ (by decide) (by decide) _).mono ?_; rintro e0 w0 ⟨rfl, rfl⟩)
      go_roundw
      case rel => 
        refine ⟨k + 1, n + nq, _, _, _, _, _, _, _, _, by omega, ?_, rfl, rfl, rfl, rfl, rfl, rfl, rfl, rfl, by go_num, ?_⟩
        · exact rounds_step hst.out HKk.out
        · show wr.drewN nq = _
          rw [hwr.out, World.drewN_drewN]
      case measure => simp [intOf]; omega
    · have h64 : k = 64 := by omega
      rw [h64] at hst
      clear h64 hk
      obtain ⟨w5, hw5⟩ : ∃ w5, w5 = wr := ⟨_, rfl⟩
      subst hw5
      have dc : ∀ j, w2.cell? ⟨w.heap.size, j, none⟩ = w5.cell? ⟨w.heap.size, j, none⟩ := fun j => by rw [hwr.out]; rfl
      rw [dc] at c0 c1 c2 c3 c4 c5 c6 c7
      have hres : w5.heap[w.heap.size + 1 + 1]? = some (.cells #[.int .u32 0, .int .u32 0, .int .u32 0, .int .u32 0, .int .u32 0, .int .u32 0, .int .u32 0, .int .u32 0] 24) := by rw [hwr.out]; exact Res2.out
      have Hres := Lib.hid hres
      have low5 : Below w.heap.size w w5 := by rw [hwr.out]; exact ⟨low2.os, low2.tape, low2.output, low2.size, low2.block⟩
      clear dc hres
      go_wp2_with (refine wpList_store_row rfl 24 (.tmp 4) (.tmp 134) rfl (w.heap.size + 1 + 1) (u32s (mixK KW ⟨a, b, c, d, e, f, g, h⟩ l).list) rfl (by rw [mixK_eq hst.out]; rfl) 24 _ Hres.out info24 rfl (u32s_one _) ?_)
      exact bodyPost_ret (v := .agg (u32s (mixK KW ⟨a, b, c, d, e, f, g, h⟩ l).list)) (results_cell_row rfl _ _ (w.heap.size + 1 + 1) 24 _ (0, 0) _ rfl (setRow_heap w5 _ _ _ _ _ Hres.out) Tryd.underlying24 rfl info24) rfl ⟨rfl, below_setRow low5 (by omega) _⟩
/-- sha.Mix: what it returns. -/
theorem mix_any (s : W8) (l : List Int) (hl : l.length = 64) (hb : InB l) (w : World) (hL : Laid w) :
    Calls Tryd.prog 10 #[.agg (u32s s.list), .agg (u8s l)] w fun e' w' => e' = .returned (.agg (u32s (mixK KW s l).list)) ∧ Below w.heap.size w w' :=
  mix_lit s.a s.b s.c s.d s.e s.f s.g s.h l hl hb w hL
end Go.Proofs.YtblgblhoolpmiaaDoor
