/- DERIVED. The walk of the law ChachaKnown. -/
import Derived.Test.YtdkfofnkacmliaaDoorChaGiven
import Derived.Test.YtdkfofnkacmliaaDoorChaAwake
import Derived.Deep.DeepCutAuto
import Derived.Deep.RegionWith
import Derived.Laws.MakeOwn
namespace Go.Proofs.YtdkfofnkacmliaaDoor.Cha
open Go.RowKit
def no0 : List Int := [0, 0, 0, 0, 0, 0, 0, 0, 0, 0, 0, 0]
theorem want_at (k : Nat) (hk : k < 16) : (blockL givenL 1 noN).getD k 0 = wantL.getD k 0 := by
  rw [← ex_block]
  simp [List.getD_eq_getElem?_getD, hk]
theorem cells65 : madeCells (Value.cells (.int .u8 0)) 65 = u8s (List.replicate 65 0) := by kernel_rfl
theorem cells64 : madeCells (Value.cells (.int .u8 0)) 64 = u8s (List.replicate 64 0) := by kernel_rfl
theorem mk65 (w : World) : (Instr.makeSlice 38 (.int .i64 65) (.int .i64 65)).run Tryd.prog w = .ok (.slice (some ⟨w.heap.size, 0, none⟩) 65 65) (w.alloc (.cells (u8s (List.replicate 65 0)) 5)) := by
  obtain ⟨i0, hi, hz0, hz1, hz2⟩ := info_parts info8
  have h := run_make (P := Tryd.prog) w 38 5 i0 (.int .u8 0) Tryd.underlying38 hi hz0 .i64 .i64 65 65 (by omega) (by omega) (by rw [hz2]; omega) (by omega)
  rw [hz1] at h
  rw [h, ← cells65]
  rfl
theorem mk64 (w : World) : (Instr.makeSlice 38 (.int .i64 64) (.int .i64 64)).run Tryd.prog w = .ok (.slice (some ⟨w.heap.size, 0, none⟩) 64 64) (w.alloc (.cells (u8s (List.replicate 64 0)) 5)) := by
  obtain ⟨i0, hi, hz0, hz1, hz2⟩ := info_parts info8
  have h := run_make (P := Tryd.prog) w 38 5 i0 (.int .u8 0) Tryd.underlying38 hi hz0 .i64 .i64 64 64 (by omega) (by omega) (by rw [hz2]; omega) (by omega)
  rw [hz1] at h
  rw [h, ← cells64]
  rfl
theorem no0_in : InB no0 := by intro j; match j with | 0 | 1 | 2 | 3 | 4 | 5 | 6 | 7 | 8 | 9 | 10 | 11 => simp [no0] | n + 12 => simp [no0]
theorem noN_in : InB noN := by intro j; match j with | 0 | 1 | 2 | 3 | 4 | 5 | 6 | 7 | 8 | 9 | 10 | 11 => simp [noN] | n + 12 => simp [noN]
theorem zeros_in (n : Nat) : InB (List.replicate n 0) := by
  intro j
  by_cases h : j < n
  · simp [List.getD_eq_getElem?_getD, h]
  · rw [getD_out _ _ (by simp; omega)]; omega
def SomePtr (P : Option Addr → Nat → Prop) (v : Value) (n : Nat) : Prop := ∃ A c, v = .slice A n c ∧ P A c
/-- Stream(given(), 1<<32-1, Nonce{}, a slice of 65 bytes): too few counters. -/
theorem s65 (A : Option Addr) (c : Nat) (w : World) : Calls Tryd.prog 12 #[.agg (u8s givenL), .int .u32 4294967295, .agg #[.int .u8 0, .int .u8 0, .int .u8 0, .int .u8 0, .int .u8 0, .int .u8 0, .int .u8 0, .int .u8 0, .int .u8 0, .int .u8 0, .int .u8 0, .int .u8 0], .slice A 65 c] w fun e w' => e = .returned (.tuple #[.slice none 0 0, .int .i64 13]) ∧ Below w.heap.size w w' :=
  stream_no givenL no0 4294967295 A 65 c (by omega) (by omega) (by omega) (by decide) w
theorem s64 (A : Option Addr) (c : Nat) (w : World) (hm : c ≤ maxLen) (L : List Int) (hl : L.length = 64) (hB : Byt w A c L) (hL : Laid w) : Calls Tryd.prog 12 #[.agg (u8s givenL), .int .u32 4294967295, .agg #[.int .u8 0, .int .u8 0, .int .u8 0, .int .u8 0, .int .u8 0, .int .u8 0, .int .u8 0, .int .u8 0, .int .u8 0, .int .u8 0, .int .u8 0, .int .u8 0], .slice A 64 c] w fun e w' => ∃ A' c', e = .returned (.tuple #[.slice A' 64 c', .int .i64 0]) ∧ Below w.heap.size w w' :=
  (stream_any givenL no0 L 4294967295 A 64 c givenL_length rfl givenL_in no0_in hl (by omega) hm (by omega) (by omega) (by decide) w hB hL).mono fun _ _ ⟨A', c', h1, _, h3⟩ => ⟨A', c', h1, h3⟩
theorem s0 (w : World) (hL : Laid w) : Calls Tryd.prog 12 #[.agg (u8s givenL), .int .u32 4294967295, .agg #[.int .u8 0, .int .u8 0, .int .u8 0, .int .u8 0, .int .u8 0, .int .u8 0, .int .u8 0, .int .u8 0, .int .u8 0, .int .u8 0, .int .u8 0, .int .u8 0], .slice none 0 0] w fun e w' => ∃ A' c', e = .returned (.tuple #[.slice A' 0 c', .int .i64 0]) ∧ Below w.heap.size w w' :=
  (stream_any givenL no0 [] 4294967295 none 0 0 givenL_length rfl givenL_in no0_in rfl (by omega) (by unfold maxLen; omega) (by omega) (by omega) (by decide) w ⟨Nat.le_refl _, fun _ => rfl, fun h => absurd h (Nat.lt_irrefl 0)⟩ hL).mono fun _ _ ⟨A', c', h1, _, h3⟩ => ⟨A', c', h1, h3⟩
theorem byt_row8 {w : World} {g t n : Nat} {l : List Int} (h : w.heap[g]? = some (.cells (u8s l) t (0, 0))) (hn : l.length = n) : Byt w (some ⟨g, 0, none⟩) n l :=
  ⟨by omega, (fun h => by cases h), fun _ => ⟨g, 0, rfl, (Array.getElem?_eq_some_iff.1 h).1, fun j hj => by rw [Nat.zero_add, cell_row h, u8s_get _ _ hj]⟩⟩
theorem low_a {w w3 w4 : World} (h : Below w.heap.size w w3) (h4 : Below w3.drew.heap.size w3.drew w4) (o : Obj) : Below w.heap.size w (w4.alloc o) := (h.drew.trans (h4.mono h.size)).alloc (Nat.le_trans h.size h4.size) o
theorem low_b {w w3 w4 : World} {o : Obj} (h : Below w.heap.size w w3) (h4 : Below (w3.alloc o).drew.heap.size (w3.alloc o).drew w4) : Below w.heap.size w w4 := ((h.alloc h.size o).drew).trans (h4.mono (h.alloc h.size o).size)
theorem row_b {w3 w4 : World} {l : List Int} {t : Nat} (h4 : Below (w3.alloc (.cells (u8s l) t)).drew.heap.size (w3.alloc (.cells (u8s l) t)).drew w4) : w4.heap[w3.heap.size]? = some (.cells (u8s l) t (0, 0)) :=
  (h4.block _ (show w3.heap.size < (w3.alloc (.cells (u8s l) t)).heap.size by simp)).trans (Go.heap_alloc_new w3 _)
set_option maxRecDepth 100000 in
set_option maxHeartbeats 4000000 in
theorem known_walk (w : World) (hL : Laid w) : Calls Tryd.prog 5 #[] w fun e w' => e = .returned (.bool true) ∧ Below w.heap.size w w' := by
  have HL := Lib.hid hL
  have hlt := hL.lt
  have hblk := block_any givenL noN 1 givenL_length rfl givenL_in noN_in
  obtain ⟨Bl, hBl⟩ : ∃ Bl, Bl = blockL givenL 1 noN := ⟨_, rfl⟩
  rw [← hBl] at hblk
  have Hblk := Lib.hid hblk
  have Hlen : Hid (Bl.length = 64) := by show _ = _; rw [hBl]; exact blockL_length _ _ _
  have Hi : Hid ((Tryd.prog.info? 31).map (·.size) = some (u8s Bl).size) := by show _ = _; rw [u8s_size, Hlen.out]; exact info64
  have HBl := Lib.hid hBl
  clear hL hblk hBl
  go_enter Tryd.func5, Tryd.ntmps5
  go_wp2_with (first
    | (go_at_call 14; refine (given_any _).mono ?_; rintro e w1 ⟨rfl, low1⟩; have Low1 := Lib.hid low1; clear low1)
    | (go_at_call 9; refine (Hblk.out w1 (HL.out.below Low1.out hlt)).mono ?_; rintro e w2 ⟨rfl, low2⟩; have Low2 := Lib.hid low2; clear low2)
    | (refine wpList_store_row rfl 31 (.tmp 1) (.tmp 12) rfl w2.heap.size (u8s Bl) rfl rfl 31 _ (Go.heap_alloc_new w2 _) Hi.out (by simp [u8s_size, Hlen.out]) (u8s_one _) ?_; rw [World.setRow_alloc_new]))
  have l1 := Low1.out.trans (Low2.out.mono Low1.out.size)
  have h2 := two_new w2 (.cells (u8s Bl) 31) (.cells (u8s wantL) 46)
  have k2 : Below w2.heap.size w2 ((w2.alloc (.cells (u8s Bl) 31)).alloc (.cells (u8s wantL) 46)) := ((Below.refl _ _).alloc (Nat.le_refl _) _).alloc (by simp) _
  have hlow2 := l1.trans (k2.mono l1.size)
  have H2 := Lib.hid h2
  have Hlow2 := Lib.hid hlow2
  clear l1 h2 k2 hlow2 Hblk
  go_loopw [3] (fun i wr => ∃ k : Nat, k ≤ 16 ∧ i = .int .i64 k ∧ Hid (wr.heap[w2.heap.size]? = some (.cells (u8s Bl) 31 (0, 0)) ∧ wr.heap[w2.heap.size + 1]? = some (.cells (u8s wantL) 46 (0, 0)) ∧ Below w.heap.size w wr)) (fun i _ => 16 - (intOf i).toNat)
  case atStart => exact ⟨0, Nat.zero_le _, rfl, H2.out.1, H2.out.2, Hlow2.out⟩
  case round =>
    clear H2 Hlow2
    obtain ⟨k, hk, rfl, hr⟩ := hrel
    by_cases hlt16 : k < 16
    · obtain ⟨x, hx⟩ : ∃ x, x = wantL.getD k 0 := ⟨_, rfl⟩
      have c1 : wr.cell? ⟨w2.heap.size, k, none⟩ = some (.int .u8 x) := by rw [row8_cell hr.out.1 k (by rw [Hlen.out]; omega), HBl.out, want_at k hlt16, hx]
      have c2 : wr.cell? ⟨w2.heap.size + 1, k, none⟩ = some (.int .u8 x) := by rw [row8_cell hr.out.2.1 k hlt16, hx]
      have hlt' : (k : Int) < 16 := by omega
      clear hx
      go_wp2
      go_quiet (fail)
      go_wp2
      go_roundw
      case rel => exact ⟨k + 1, by omega, by go_num, hr.out.1, hr.out.2.1, Below.drewN hr.out.2.2 nq⟩
      case measure => simp [intOf]; omega
    · have Hlow := Lib.hid hr.out.2.2
      have hlt2 : ¬ (k : Int) < 16 := by omega
      clear hr hk
      obtain ⟨w3, hw3⟩ : ∃ w3, w3 = wr := ⟨_, rfl⟩
      subst hw3
      go_upto_region 8 with (fail)
      go_cut [4, 5] (fun s4 s5 wx => s4 = .slice none 0 0 ∧ s5 = .int .i64 13 ∧ Hid (Below w.heap.size w wx))
      case first =>
        have hmk := mk65
        go_region_with (first
          | (go_at_call 14; refine (given_any _).mono ?_; rintro e w4 ⟨rfl, low4⟩; have Low4 := Lib.hid low4; clear low4)
          | (go_at_call 12; refine (s65 _ _ _).mono ?_; rintro e w5 ⟨rfl, low5⟩; have Low5 := Lib.hid low5; clear low5))
        all_goals
          go_wp2_with fail
          go_meet
        · exact ⟨rfl, rfl, (low_a Hlow.out Low4.out _).trans (Low5.out.mono (low_a Hlow.out Low4.out _).size)⟩
        · exact ⟨rfl, rfl, (low_b Hlow.out Low4.out).trans (Low5.out.mono (low_b Hlow.out Low4.out).size)⟩
      case rest =>
        obtain ⟨rfl, rfl, hl4⟩ := hcut
        rename World => w6
        go_upto_region 9 with (fail)
        go_cut [6, 7] (fun s6 s7 wx => s7 = .int .i64 0 ∧ (∃ A c, s6 = .slice A 64 c) ∧ Hid (Below w.heap.size w wx))
        case first =>
          have hmk := mk64
          go_region_with (first
            | (go_at_call 14; refine (given_any _).mono ?_; rintro e w7 ⟨rfl, low7⟩; have Low7 := Lib.hid low7; clear low7)
            | (go_at_call 12; refine (s64 _ _ _ (by unfold maxLen; omega) (List.replicate 64 0) (by simp) (byt_row8 (Go.heap_alloc_new w7 _) (by simp)) (HL.out.below (low_a hl4.out Low7.out _) hlt)).mono ?_; rintro e w8 ⟨A', c', rfl, low8⟩; have Low8 := Lib.hid low8; clear low8)
            | (go_at_call 12; refine (s64 _ _ _ (by unfold maxLen; omega) (List.replicate 64 0) (by simp) (byt_row8 (row_b Low7.out) (by simp)) (HL.out.below (low_b hl4.out Low7.out) hlt)).mono ?_; rintro e w8 ⟨A', c', rfl, low8⟩; have Low8 := Lib.hid low8; clear low8))
          all_goals
            go_wp2_with fail
            go_meet
          · exact ⟨rfl, ⟨_, _, rfl⟩, (low_a hl4.out Low7.out _).trans (Low8.out.mono (low_a hl4.out Low7.out _).size)⟩
          · exact ⟨rfl, ⟨_, _, rfl⟩, (low_b hl4.out Low7.out).trans (Low8.out.mono (low_b hl4.out Low7.out).size)⟩
        case rest =>
          obtain ⟨rfl, ⟨A6, c6, rfl⟩, hl5⟩ := hcut
          rename World => w9
          go_wp2_with (first
            | (go_at_call 14; refine (given_any _).mono ?_; rintro e w10 ⟨rfl, low10⟩; have Low10 : Hid (Below w.heap.size w w10) := hl5.out.trans (low10.mono hl5.out.size); clear low10)
            | (go_at_call 12; refine (s0 _ (HL.out.below Low10.out hlt)).mono ?_; rintro e w11 ⟨A7, c7, rfl, low11⟩; have Low11 : Hid (Below w.heap.size w w11) := Low10.out.trans (low11.mono Low10.out.size); clear low11)
            | (go_at_call 11; refine (awake_any _).mono ?_; rintro e w12 ⟨rfl, low12⟩; have Low12 : Hid (Below w.heap.size w w12) := Low11.out.trans (low12.mono Low11.out.size); clear low12))
          go_ret
          exact ⟨rfl, Low12.out⟩
end Go.Proofs.YtdkfofnkacmliaaDoor.Cha
