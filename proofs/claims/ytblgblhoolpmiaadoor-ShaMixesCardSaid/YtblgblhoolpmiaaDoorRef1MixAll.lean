/- DERIVED. The contract of the reference's Mix of layer 1. -/
import Derived.Test.YtblgblhoolpmiaaDoorRef1Sum
import Derived.Deep.RegionWith
namespace Go.Proofs.YtblgblhoolpmiaaDoor
open Go.RowKit
noncomputable def store8A (p x : Value) : Sem Unit := Instr.storeAt 23 p x
theorem storeAt8A (p x : Value) : Instr.storeAt 23 p x = store8A p x := rfl
theorem store8A_eq {w : World} {g : Nat} {L Y : List Int} (hl : L.length = 8) (hy : Y.length = 8) (h : w.heap[g]? = some (.cells (u32s L) 23 (0, 0))) : (store8A (.pointer (some ⟨g, 0, none⟩)) (.agg (u32s Y))).run Tryd.prog w = .ok () (w.setRow g (u32s Y)) := by
  have hi : (Tryd.prog.info? 23).map (·.size) = some (u32s Y).size := by rw [u32s_size, hy]; exact info23
  unfold store8A
  simp only [Instr.storeAt, Instr.sureAddr, Sem.run_bind, Sem.run_pure, Result.andThen_ok, run_storeVar_row w g 23 23 _ (u32s Y) h hi (by rw [u32s_size, u32s_size, hl, hy]) (u32s_one _)]
attribute [irreducible] store8A
attribute [local go_sem ↓ high] loadAt8A storeAt8A
set_option maxRecDepth 100000 in
set_option maxHeartbeats 2000000 in
theorem rMix_any (s : W8) (l : List Int) (hb : InB l) (gb off cap : Nat) (w : World) (hgb : gb < w.heap.size) (hc : ∀ j, j < 64 → w.cell? ⟨gb, off + j, none⟩ = some (.int .u8 (l.getD j 0))) :
    Calls Tryd.prog 11 #[.agg (u32s s.list), .slice (some ⟨gb, off, none⟩) 64 cap] w fun e' w' => e' = .returned (.agg (u32s (mixK KW s l).list)) ∧ Below w.heap.size w w' := by
  obtain ⟨S, hS⟩ : ∃ S, S = s.list := ⟨_, rfl⟩
  have hS8 : S.length = 8 := by rw [hS]; rfl
  obtain ⟨R, hR⟩ : ∃ R, R = (mixK KW s l).list := ⟨_, rfl⟩
  have hR8 : R.length = 8 := by rw [hR]; rfl
  rw [← hS, ← hR]
  have hz : (#[.int .u32 0, .int .u32 0, .int .u32 0, .int .u32 0, .int .u32 0, .int .u32 0, .int .u32 0, .int .u32 0] : Array Value) = u32s [0, 0, 0, 0, 0, 0, 0, 0] := rfl
  have h2 := two_new w (.cells (u32s S) 23) (.cells #[.int .u32 0, .int .u32 0, .int .u32 0, .int .u32 0, .int .u32 0, .int .u32 0, .int .u32 0, .int .u32 0] 23)
  have k2 : Below w.heap.size w ((w.alloc (.cells (u32s S) 23)).alloc (.cells #[.int .u32 0, .int .u32 0, .int .u32 0, .int .u32 0, .int .u32 0, .int .u32 0, .int .u32 0, .int .u32 0] 23)) := ((Below.refl _ _).alloc (Nat.le_refl _) _).alloc (by simp) _
  have s2 : ((w.alloc (.cells (u32s S) 23)).alloc (.cells #[.int .u32 0, .int .u32 0, .int .u32 0, .int .u32 0, .int .u32 0, .int .u32 0, .int .u32 0, .int .u32 0] 23)).heap.size = w.heap.size + 2 := by simp
  obtain ⟨W2, hW2⟩ : ∃ W2, W2 = ((w.alloc (.cells (u32s S) 23)).alloc (.cells #[.int .u32 0, .int .u32 0, .int .u32 0, .int .u32 0, .int .u32 0, .int .u32 0, .int .u32 0, .int .u32 0] 23)) := ⟨_, rfl⟩
  rw [← hW2] at h2 k2 s2
  have d2 : Below W2.heap.size W2 W2.drew := (Below.refl _ _).drew
  have keep : ∀ wx : World, Below W2.heap.size W2 wx → (load8A (.pointer (some ⟨w.heap.size, 0, none⟩))).run Tryd.prog wx = .ok (.agg (u32s S)) wx ∧ wx.heap[w.heap.size + 1]? = some (.cells (u32s [0, 0, 0, 0, 0, 0, 0, 0]) 23 (0, 0)) ∧ Below w.heap.size w wx := fun wx hbx =>
    ⟨load8A_eq hS8 ((hbx.block _ (by rw [s2]; omega)).trans h2.1), by rw [← hz]; exact (hbx.block _ (by rw [s2]; omega)).trans h2.2, k2.trans (hbx.mono k2.size)⟩
  have l0 := (keep _ d2).1
  have hmix : ∀ (wx : World) (ga capa : Nat), Below W2.heap.size W2 wx → RowK .u32 wx ga KW → Calls Tryd.prog 30 #[.agg (u32s S), .slice (some ⟨gb, off, none⟩) 64 cap, .slice (some ⟨ga, 0, none⟩) 64 capa] wx fun e' w' => e' = .returned (.agg (u32s R)) ∧ Below wx.heap.size wx w' := fun wx ga capa hbx hA => by
    have hl := (keep wx hbx).2.2
    rw [hS, hR]
    exact rmix_any s l hb gb off cap ga capa wx (Nat.lt_of_lt_of_le hgb hl.size) (fun j hj => (hl.cell (p := ⟨gb, off + j, none⟩) hgb).trans (hc j hj)) hA
  have Keep := Lib.hid keep
  have Hmix := Lib.hid hmix
  have HW2 := Lib.hid hW2
  have D2 := Lib.hid d2
  have HR8 := Lib.hid hR8
  have HRi : Hid ((Tryd.prog.info? 23).map (·.size) = some (u32s R).size) := by show _ = _; rw [u32s_size, hR8]; exact info23
  clear hS hS8 hR hR8 hz h2 k2 s2 keep hmix hW2 d2 hb hc
  go_enter Tryd.func11, Tryd.ntmps11
  go_upto_region 1 with fail
  rw [← HW2.out]
  go_region_with (first
    | (go_at_call 31; refine (adds_any _).mono ?_; rintro e w1 ⟨ga, capa, rfl, hga, hrow, low⟩; have Low1 := Lib.hid (D2.out.trans (low.mono D2.out.size)); have l1 := (Keep.out w1 Low1.out).1; have Hrow := Lib.hid hrow; clear hrow low hga)
    | (go_at_call 30; refine (Hmix.out w1 ga capa Low1.out Hrow.out).mono ?_; rintro e w7 ⟨rfl, low7⟩; have Low7 := Lib.hid (Low1.out.trans (low7.mono Low1.out.size)); have st7 := store8A_eq (Y := R) rfl HR8.out (Keep.out w7 Low7.out).2.1; clear low7))
  all_goals
    go_wp2
    exact bodyPost_ret (v := .agg (u32s R)) (results_cell_row rfl _ _ (w.heap.size + 1) 23 _ (0, 0) _ rfl (setRow_heap w7 _ _ _ _ _ (Keep.out w7 Low7.out).2.1) Tryd.underlying23 rfl HRi.out) rfl ⟨rfl, below_setRow (Keep.out w7 Low7.out).2.2 (by omega) _⟩
end Go.Proofs.YtblgblhoolpmiaaDoor
