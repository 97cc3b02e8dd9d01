/- DERIVED. The contracts of chacha.word and chacha.stateOf. -/
import Derived.Test.YtdkfofnkacmliaaDoorChaQuarter
import Derived.Deep.DeepMust
import Derived.Laws.Tables
import Derived.StillTailTactics
import Derived.Laws.CopyOwn
namespace Go.Proofs.YtdkfofnkacmliaaDoor.Cha
open Go.RowKit
set_option maxHeartbeats 400000 in
theorem word_any (g off len cap : Nat) (a b c d : Int) (hl : 4 ≤ len) (w : World)
    (h0 : w.cell? ⟨g, off, none⟩ = some (.int .u8 a)) (h1 : w.cell? ⟨g, off + 1, none⟩ = some (.int .u8 b)) (h2 : w.cell? ⟨g, off + 2, none⟩ = some (.int .u8 c)) (h3 : w.cell? ⟨g, off + 3, none⟩ = some (.int .u8 d))
    (ha : 0 ≤ a ∧ a < 256) (hb : 0 ≤ b ∧ b < 256) (hc : 0 ≤ c ∧ c < 256) (hd : 0 ≤ d ∧ d < 256) :
    Calls Tryd.prog 23 #[.slice (some ⟨g, off, none⟩) len cap] w fun e w' => e = .returned (.int .u32 (word4 a b c d)) ∧ ∃ n, w' = w.drewN n := by
  obtain ⟨ha0, ha1⟩ := ha
  obtain ⟨hb0, hb1⟩ := hb
  obtain ⟨hc0, hc1⟩ := hc
  obtain ⟨hd0, hd1⟩ := hd
  have l0 : (0 : Int) < len := by omega
  have l1 : (1 : Int) < len := by omega
  have l2 : (2 : Int) < len := by omega
  have l3 : (3 : Int) < len := by omega
  go_enter Tryd.func23, Tryd.ntmps23
  go_wp2
  go_quiet (fail)
  go_wp2
  go_ret
  exact ⟨rfl, nq, rfl⟩
/-- key[4*k:] of an array of n bytes. -/
theorem slice_arr {T : Nat} (n : Nat) (hu : Tryd.prog.underlying T = some (.array n 5)) (wr : World) (g k : Nat) (h : 4 * k < n) : (Instr.sliceAt T (.pointer (some ⟨g, 0, none⟩)) (some (.int .i64 (4 * (k : Int)))) none none).run Tryd.prog wr = .ok (.slice (some ⟨g, 4 * k, none⟩) (n - 4 * k) (n - 4 * k)) wr := by
  have h1 : (4 * (k : Int)).toNat = 4 * k := by omega
  have h2 : ¬ n = 4 * k := by omega
  have h3 : 0 ≤ 4 * (k : Int) := by omega
  have h4 : 4 * (k : Int) ≤ n := by omega
  have hs : ∀ w', (sizeOf 5).run Tryd.prog w' = .ok 1 w' := fun _ => by kernel_rfl
  simp [Instr.sliceAt, Instr.sureAddr, run_underlying hu, Instr.sliceBounds, Instr.sliceBound, asIntOf, h1, h2, h3, h4, hs, Addr.add]
  intro h
  exact h.symm
/-- what the loops of stateOf keep. -/
structure SInv (K Nn l : List Int) (B : Nat) (w wr : World) : Prop where
  key : wr.heap[B]? = some (.cells (u8s K) 25 (0, 0))
  nonce : wr.heap[B + 1]? = some (.cells (u8s Nn) 27 (0, 0))
  res : ∃ Z : List Int, Z.length = 16 ∧ wr.heap[B + 1 + 1]? = some (.cells (u32s Z) 51 (0, 0))
  row : wr.heap[B + 1 + 1 + 1]? = some (.cells (u32s l) 51 (0, 0))
  low : Below B w wr
theorem SInv.drewN {K Nn l : List Int} {B : Nat} {w wr : World} (h : SInv K Nn l B w wr) (n : Nat) : SInv K Nn l B w (wr.drewN n) := ⟨h.key, h.nonce, h.res, h.row, Below.drewN h.low n⟩
theorem SInv.set {K Nn l : List Int} {B : Nat} {w wr : World} (h : SInv K Nn l B w wr) (k : Nat) (v : Int) : SInv K Nn (l.set k v) B w (wr.setCell ⟨B + 1 + 1 + 1, k, none⟩ (.int .u32 v)) := by
  obtain ⟨Z, hZ, hz⟩ := h.res
  refine ⟨?_, ?_, ⟨Z, hZ, ?_⟩, row32_set h.row k v, h.low.setCell (by simp; omega) _⟩
  · rw [heap_setCell_other _ _ _ _ (by simp; omega)]; exact h.key
  · rw [heap_setCell_other _ _ _ _ (by simp)]; exact h.nonce
  · rw [heap_setCell_other _ _ _ _ (by simp)]; exact hz
theorem infoS : (Tryd.prog.info? 51).map (·.size) = some 16 := by kernel_rfl
set_option maxRecDepth 100000 in
set_option maxHeartbeats 1000000 in
theorem stateOf_any (K Nn : List Int) (c : Int) (hK : K.length = 32) (hN : Nn.length = 12) (bK : InB K) (bN : InB Nn) (w : World) :
    Calls Tryd.prog 17 #[.agg (u8s K), .int .u32 c, .agg (u8s Nn)] w fun e' w' => e' = .returned (.agg (u32s (stL K c Nn))) ∧ Below w.heap.size w w' := by
  have HK := Lib.hid hK
  have HN := Lib.hid hN
  have BK := Lib.hid bK
  have BN := Lib.hid bN
  clear hK hN bK bN
  go_enter Tryd.func17, Tryd.ntmps17
  go_wp2
  go_loopw [12] (fun i wr => ∃ k : Nat, k ≤ 8 ∧ i = .int .i64 k ∧ SInv K Nn (stK K c k) w.heap.size w wr) (fun i _ => 8 - (intOf i).toNat)
  case atStart =>
    have h4 := four_new w
    exact ⟨0, Nat.zero_le _, rfl, (h4 _ _ _ _).1, (h4 _ _ _ _).2.1, ⟨[0, 0, 0, 0, 0, 0, 0, 0, 0, 0, 0, 0, 0, 0, 0, 0], rfl, (h4 _ _ _ _).2.2.1⟩, (h4 _ _ _ _).2.2.2, below4 _ _ _ _ _⟩
  case round =>
    obtain ⟨k, hk, rfl, hinv⟩ := hrel
    by_cases hlt : k < 8
    · have c0 := row8_cell hinv.key (4 * k) (by rw [HK.out]; omega)
      have c1 := row8_cell hinv.key (4 * k + 1) (by rw [HK.out]; omega)
      have c2 := row8_cell hinv.key (4 * k + 2) (by rw [HK.out]; omega)
      have c3 := row8_cell hinv.key (4 * k + 3) (by rw [HK.out]; omega)
      have Hc : Hid (Calls Tryd.prog 23 #[.slice (some ⟨w.heap.size, 4 * k, none⟩) (32 - 4 * k) (32 - 4 * k)] wr fun e w' => e = .returned (.int .u32 (wordAt K k)) ∧ ∃ n, w' = wr.drewN n) :=
        word_any _ _ _ _ _ _ _ _ (by omega) _ c0 c1 c2 c3 (BK.out _) (BK.out _) (BK.out _) (BK.out _)
      have hsl := slice_arr 32 Tryd.underlying25 wr w.heap.size k (by omega)
      have hv := row32_cell hinv.row (4 + k) (by rw [stK_length]; omega)
      have hfz := free_row hinv.row (4 + k)
      clear c0 c1 c2 c3
      go_wp2_with (go_at_call 23; refine Hc.out.mono ?_; rintro e w' ⟨rfl, n, rfl⟩)
      go_roundw
      case rel => exact ⟨k + 1, by omega, by go_num, ((hinv.drewN _).set _ _)⟩
      case measure => simp [intOf]; omega
    · have h8 : k = 8 := by omega
      rw [h8] at hinv
      have H8 := Lib.hid h8
      clear h8 hk
      obtain ⟨w1, hw1⟩ : ∃ w1, w1 = wr := ⟨_, rfl⟩
      subst hw1
      go_wp2
      go_loopw [23] (fun i wr => ∃ k : Nat, k ≤ 3 ∧ i = .int .i64 k ∧ SInv K Nn (stN K c Nn k) w.heap.size w wr) (fun i _ => 3 - (intOf i).toNat)
      case atStart => exact ⟨0, Nat.zero_le _, rfl, hinv⟩
      case round =>
        clear hinv
        obtain ⟨k, hk, rfl, hinv⟩ := hrel
        by_cases hlt : k < 3
        · have c0 := row8_cell hinv.nonce (4 * k) (by rw [HN.out]; omega)
          have c1 := row8_cell hinv.nonce (4 * k + 1) (by rw [HN.out]; omega)
          have c2 := row8_cell hinv.nonce (4 * k + 2) (by rw [HN.out]; omega)
          have c3 := row8_cell hinv.nonce (4 * k + 3) (by rw [HN.out]; omega)
          have Hc : Hid (Calls Tryd.prog 23 #[.slice (some ⟨w.heap.size + 1, 4 * k, none⟩) (12 - 4 * k) (12 - 4 * k)] wr fun e w' => e = .returned (.int .u32 (wordAt Nn k)) ∧ ∃ n, w' = wr.drewN n) :=
            word_any _ _ _ _ _ _ _ _ (by omega) _ c0 c1 c2 c3 (BN.out _) (BN.out _) (BN.out _) (BN.out _)
          have hsl := slice_arr 12 Tryd.underlying27 wr (w.heap.size + 1) k (by omega)
          have hv := row32_cell hinv.row (13 + k) (by rw [stN_length]; omega)
          have hfz := free_row hinv.row (13 + k)
          clear c0 c1 c2 c3
          go_wp2_with (go_at_call 23; refine Hc.out.mono ?_; rintro e w' ⟨rfl, n, rfl⟩)
          go_roundw
          case rel => exact ⟨k + 1, by omega, by go_num, ((hinv.drewN _).set _ _)⟩
          case measure => simp [intOf]; omega
        · have h8 : k = 3 := by omega
          rw [h8] at hinv
          have H3 := Lib.hid h8
          clear h8 hk
          obtain ⟨Z, hZ, hz⟩ := hinv.res
          have hr : wr.heap[w.heap.size + 1 + 1 + 1]? = some (.cells (u32s (stL K c Nn)) 51 (0, 0)) := hinv.row
          have low := hinv.low
          have hrow := setRow_heap wr _ _ (u32s (stL K c Nn)) _ _ hz
          have hlow : Below w.heap.size w (wr.setRow (w.heap.size + 1 + 1) (u32s (stL K c Nn))) := below_setRow low (by omega) _
          have hsz : (Tryd.prog.info? 51).map (·.size) = some (u32s (stL K c Nn)).size := by rw [u32s_size, stL_length]; exact infoS
          have hzz : (u32s Z).size = (u32s (stL K c Nn)).size := by rw [u32s_size, u32s_size, stL_length, hZ]
          have Hsz := Lib.hid hsz
          have Hzz := Lib.hid hzz
          have Hr := Lib.hid hr
          have Hz := Lib.hid hz
          have Hrow := Lib.hid hrow
          clear hsz hzz hr hz hrow hZ hinv
          go_wp2_with (first | (with_reducible refine wpList_load_row rfl 51 (.tmp 7) rfl (w.heap.size + 1 + 1 + 1) rfl 51 (u32s (stL K c Nn)) (0, 0) _ Hr.out Tryd.underlying51 rfl Hsz.out ?_) | (with_reducible refine wpList_store_row rfl 51 (.tmp 6) (.tmp 34) rfl (w.heap.size + 1 + 1) (u32s (stL K c Nn)) rfl rfl 51 (u32s Z) Hz.out Hsz.out Hzz.out (u32s_one _) ?_))
          exact bodyPost_ret (v := .agg (u32s (stL K c Nn))) (results_cell_row rfl _ _ (w.heap.size + 1 + 1) 51 _ (0, 0) _ rfl Hrow.out Tryd.underlying51 rfl Hsz.out) rfl ⟨rfl, hlow⟩
end Go.Proofs.YtdkfofnkacmliaaDoor.Cha
