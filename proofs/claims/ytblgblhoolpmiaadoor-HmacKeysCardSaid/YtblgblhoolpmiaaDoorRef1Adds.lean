/- DERIVED. The contracts of the reference's Adds and Start of layer 1: the constants. -/
import Derived.Test.YtblgblhoolpmiaaDoorRef1Primes
import Derived.Test.YtblgblhoolpmiaaDoorRef1Root
namespace Go.Proofs.YtblgblhoolpmiaaDoor
open Go.RowKit
theorem root3_at (j : Nat) (h : j < 64) (w : World) : Calls Tryd.prog 27 #[.int .u64 (PR.getD j 0), .int .i64 3] w fun e w' => e = .returned (.int .u32 (KW.getD j 0)) ∧ w = w' := by
  have hr := R3_all ⟨j, h⟩
  have hp := PR_in j h
  have hs := fun k hk => roots3_all ⟨j, h⟩ ⟨k, hk⟩
  simp only at hr hs
  rw [← hr.2.2]
  exact root_any 3 _ _ (.inr rfl) ⟨by omega, by omega⟩ hr.1 hr.2.1 hs w
theorem root2_at (j : Nat) (h : j < 8) (w : World) : Calls Tryd.prog 27 #[.int .u64 (PR.getD j 0), .int .i64 2] w fun e w' => e = .returned (.int .u32 (S0.list.getD j 0)) ∧ w = w' := by
  have hr := R2_all ⟨j, h⟩
  have hp := PR_in j (by omega)
  have hs := fun k hk => roots2_all ⟨j, h⟩ ⟨k, hk⟩
  simp only at hr hs
  rw [← hr.2.2]
  exact root_any 2 _ _ (.inl rfl) ⟨by omega, by omega⟩ hr.1 hr.2.1 hs w
theorem KW_length : KW.length = 64 := rfl
set_option maxRecDepth 100000 in
set_option maxHeartbeats 1000000 in
theorem adds_any (w : World) :
    Calls Tryd.prog 31 #[] w fun e w' => ∃ g cap, e = .returned (.slice (some ⟨g, 0, none⟩) 64 cap) ∧ w.heap.size ≤ g ∧ RowK .u32 w' g KW ∧ Below w.heap.size w w' := by
  obtain ⟨i32, hi32, hz320, hz321, hz322⟩ := partsK info32k
  have gi := Lib.hid hi32
  have gz0 := Lib.hid hz320
  have gz1 := Lib.hid hz321
  have gz2 := Lib.hid hz322
  clear hi32 hz320 hz321 hz322
  go_enter Tryd.func31, Tryd.ntmps31
  go_wp2_with (go_at_call 26; refine (primes_any 64 (by decide) (by decide) _).mono ?_; rintro e w1 ⟨g, cap, rfl, hg, hrow, low⟩; rw [List.take_of_length_le (Nat.le_of_eq PR_length)] at hrow; have Hrow := Lib.hid hrow; have Low := Lib.hid low; clear hrow low)
  go_loopw [1, 3] (fun v i wr => ∃ j : Nat, j ≤ 64 ∧ i = .int .i64 j ∧ Hid (wr.ownsRow w1.heap.size 22 1 v j (valsK .u32 (KW.take j)) ∧ Below w1.heap.size w1 wr)) (fun _ i _ => 64 - (intOf i).toNat)
  case atStart => exact ⟨0, by omega, rfl, World.ownsRow_nil _ _ _ _, Below.refl _ _⟩
  case round =>
    obtain ⟨j, hj, rfl, hr⟩ := hrel
    by_cases hlt : j < 64
    · have hltI : (j : Int) < 64 := by omega
      obtain ⟨x, hx⟩ : ∃ x, PR.getD j 0 = x := ⟨_, rfl⟩
      obtain ⟨y, hy⟩ : ∃ y, KW.getD j 0 = y := ⟨_, rfl⟩
      have cell : wr.cell? ⟨g, j, none⟩ = some (.int .u64 x) := by rw [← hx]; exact (Hrow.out.later hr.out.2).2 j (by rw [PR_length]; exact hlt)
      have hroot := root3_at j hlt wr
      rw [hx, hy] at hroot
      have Hroot := Lib.hid hroot
      have hmore : KW.take j ++ [y] = KW.take (j + 1) := by
        rw [← hy]; exact take_getD (by rw [KW_length]; exact hlt)
      have Hmore := Lib.hid hmore
      clear hroot hmore hx hy
      go_wp2_with (first
        | (go_at_call 27; refine Hroot.out.mono ?_; rintro e w' ⟨rfl, rfl⟩)
        | (at_builtin; refine wpList_append_mine rfl (.tmp 15) (.tmp 17) 59 rfl w1.heap.size 22 i32 (.int .u32 0) 4 Tryd.underlying59 gi.out gz0.out gz1.out gz2.out rfl (by decide) _ j (KW.take j) y rfl hr.out.1 rfl (by omega) hr.out.2.size ?_; intro v' w' hgr; have Hgr := Lib.hid hgr; clear hgr))
      go_roundw
      case rel => exact ⟨j + 1, by omega, by go_num, by rw [← Hmore.out]; exact ⟨Hgr.out.own, Hgr.out.low _ _ hr.out.2 (Nat.le_refl _)⟩⟩
      case measure => simp [intOf]; omega
    · obtain rfl : j = 64 := by omega
      have own := hr.out.1
      rw [List.take_of_length_le (Nat.le_of_eq KW_length)] at own
      obtain ⟨g2, c2, rfl, _, hg2, hrow2⟩ := own_rowK own rfl (by decide)
      have low2 : Below w.heap.size w wr := Low.out.trans (hr.out.2.mono Low.out.size)
      have hsz := Low.out.size
      have Hrow2 := Lib.hid hrow2
      have Low2 := Lib.hid low2
      clear own hr hrow2 low2
      go_wp2
      go_ret
      exact ⟨g2, c2, rfl, by omega, Hrow2.out, Low2.out⟩
/-- what Start's loop keeps. -/
structure StI (B k : Nat) (w1 wr : World) : Prop where
  res : ∃ Z : Array Value, Z.size = 8 ∧ wr.heap[B]? = some (.cells Z 23 (0, 0))
  row : ∃ S : Array Value, Holds S 8 k (fun j => S0.list.getD j 0) ∧ wr.heap[B + 1]? = some (.cells S 23 (0, 0))
  low : Below B w1 wr
  old : ∀ g, B + 1 < g → g < w1.heap.size → wr.heap[g]? = w1.heap[g]?
theorem StI.set {B k : Nat} {w1 wr : World} (x : StI B k w1 wr) (hk : k < 8) (v : Int) (hv : v = S0.list.getD k 0) : StI B (k + 1) w1 (wr.setCell ⟨B + 1, k, none⟩ (.int .u32 v)) := by
  obtain ⟨S, hS, hr⟩ := x.row
  obtain ⟨Z, hZ, hz⟩ := x.res
  refine ⟨⟨Z, hZ, ?_⟩, ⟨_, hS.set hk v hv, heap_setCell_same _ _ _ _ _ _ hr⟩, x.low.setCell (by simp) _, fun g h1 h2 => ?_⟩
  · rw [heap_setCell_other _ _ _ _ (by simp)]; exact hz
  · rw [heap_setCell_other _ _ _ _ (by simp; omega)]; exact x.old g h1 h2
theorem S0_length : S0.list.length = 8 := rfl
set_option maxRecDepth 100000 in
set_option maxHeartbeats 1000000 in
theorem rstart_any (w : World) :
    Calls Tryd.prog 9 #[] w fun e w' => e = .returned (.agg (u32s S0.list)) ∧ Below w.heap.size w w' := by
  go_enter Tryd.func9, Tryd.ntmps9
  have h2 := two_new w (.cells #[.int .u32 0, .int .u32 0, .int .u32 0, .int .u32 0, .int .u32 0, .int .u32 0, .int .u32 0, .int .u32 0] 23) (.cells #[.int .u32 0, .int .u32 0, .int .u32 0, .int .u32 0, .int .u32 0, .int .u32 0, .int .u32 0, .int .u32 0] 23)
  have k2 : Below w.heap.size w ((w.alloc (.cells #[.int .u32 0, .int .u32 0, .int .u32 0, .int .u32 0, .int .u32 0, .int .u32 0, .int .u32 0, .int .u32 0] 23)).alloc (.cells #[.int .u32 0, .int .u32 0, .int .u32 0, .int .u32 0, .int .u32 0, .int .u32 0, .int .u32 0, .int .u32 0] 23)) := ((Below.refl _ _).alloc (Nat.le_refl _) _).alloc (by simp) _
  have s2 : ((w.alloc (.cells #[.int .u32 0, .int .u32 0, .int .u32 0, .int .u32 0, .int .u32 0, .int .u32 0, .int .u32 0, .int .u32 0] 23)).alloc (.cells #[.int .u32 0, .int .u32 0, .int .u32 0, .int .u32 0, .int .u32 0, .int .u32 0, .int .u32 0, .int .u32 0] 23)).heap.size = w.heap.size + 2 := by simp
  have H2 := Lib.hid h2
  have K2 := Lib.hid k2
  have S2 := Lib.hid s2
  clear h2 k2 s2
  go_wp2_with (go_at_call 26; refine (primes_any 8 (by decide) (by decide) _).mono ?_; rintro e w1 ⟨g, cap, rfl, hg, hrow, low⟩; have Hrow := Lib.hid hrow; have Low := Lib.hid low; have Hg := Lib.hid hg; clear hrow low hg)
  have hst : StI w.heap.size 0 w1 w1 := ⟨⟨_, by rfl, (Low.out.block _ (by rw [S2.out]; omega)).trans H2.out.1⟩, ⟨_, Holds.nil _ _ _ (by rfl), (Low.out.block _ (by rw [S2.out]; omega)).trans H2.out.2⟩, Below.refl _ _, fun _ _ _ => rfl⟩
  have hlow1 : Below w.heap.size w w1 := K2.out.trans (Low.out.mono (by rw [S2.out]; omega))
  have hgg : w.heap.size + 1 < g := by have := Hg.out; rw [S2.out] at this; omega
  have Hst := Lib.hid hst
  have Hlow1 := Lib.hid hlow1
  clear hst hlow1 H2 K2 Low Hg
  go_loopw [3] (fun i wr => ∃ j : Nat, j ≤ 8 ∧ i = .int .i64 j ∧ Hid (StI w.heap.size j w1 wr)) (fun i _ => 8 - (intOf i).toNat)
  case atStart => exact ⟨0, by omega, rfl, Hst.out⟩
  case round =>
    obtain ⟨j, hj, rfl, hr⟩ := hrel
    by_cases hlt : j < 8
    · have hltI : (j : Int) < 8 := by omega
      obtain ⟨x, hx⟩ : ∃ x, PR.getD j 0 = x := ⟨_, rfl⟩
      obtain ⟨y, hy⟩ : ∃ y, S0.list.getD j 0 = y := ⟨_, rfl⟩
      have cell : wr.cell? ⟨g, j, none⟩ = some (.int .u64 x) := by
        rw [← hx, World.cell?_of_block (hr.out.old g hgg Hrow.out.1), Hrow.out.2 j (by rw [List.length_take, PR_length]; omega)]
        simp [List.getD_eq_getElem?_getD, hlt]
      have hroot := root2_at j hlt wr
      rw [hx, hy] at hroot
      have Hroot := Lib.hid hroot
      have Hy := Lib.hid hy
      obtain ⟨S, hS, hrw⟩ := hr.out.row
      obtain ⟨v, hv⟩ : ∃ v, wr.cell? ⟨w.heap.size + 1, j, none⟩ = some v := by
        rw [cell_row hrw]; exact ⟨_, Array.getElem?_eq_getElem (by rw [hS.1]; omega)⟩
      have hfz := free_row hrw j
      clear hroot hx hy hS hrw
      go_wp2_with (go_at_call 27; refine Hroot.out.mono ?_; rintro e w' ⟨rfl, rfl⟩)
      go_roundw
      case rel => exact ⟨j + 1, by omega, by go_num, hr.out.set hlt _ Hy.out.symm⟩
      case measure => simp [intOf]; omega
    · obtain rfl : j = 8 := by omega
      obtain ⟨S, hS, hr2⟩ := hr.out.row
      obtain ⟨Z, hZ, hz⟩ := hr.out.res
      have low : Below w.heap.size w wr := Hlow1.out.trans (hr.out.low.mono (Nat.le_refl _))
      have hS' : S = u32s S0.list := hS.whole rfl (fun j hj => rfl)
      subst hS'
      obtain ⟨L, hL⟩ : ∃ L, L = S0.list := ⟨_, rfl⟩
      rw [← hL] at hr2
      have hsz : (Tryd.prog.info? 23).map (·.size) = some (u32s L).size := by rw [u32s_size, hL, S0_length]; exact info23
      have hzz : Z.size = (u32s L).size := by rw [u32s_size, hL, S0_length]; exact hZ
      have Hsz := Lib.hid hsz
      have Hzz := Lib.hid hzz
      have Hr := Lib.hid hr2
      have Hz := Lib.hid hz
      have HL := Lib.hid hL
      clear hr hz hS hZ hr2 hsz hzz hL
      go_wp2_with (first | (refine wpList_load_row rfl 23 (.tmp 1) rfl (w.heap.size + 1) rfl 23 (u32s L) (0, 0) _ Hr.out Tryd.underlying23 rfl Hsz.out ?_) | (refine wpList_store_row rfl 23 (.tmp 0) (.tmp 16) rfl w.heap.size (u32s L) rfl rfl 23 Z Hz.out Hsz.out Hzz.out (u32s_one _) ?_))
      rw [← HL.out]
      exact bodyPost_ret (v := .agg (u32s L)) (results_cell_row rfl _ _ w.heap.size 23 _ (0, 0) _ rfl (setRow_heap wr _ _ _ _ _ Hz.out) Tryd.underlying23 rfl Hsz.out) rfl ⟨rfl, below_setRow low (Nat.le_refl _) _⟩
end Go.Proofs.YtblgblhoolpmiaaDoor
