/- DERIVED. The contract of the reference's Derive of layer 2; parts in a row of the call's own. -/
import Derived.Test.YtblgblhoolpmiaaDoorRef2Derive
namespace Go.Proofs.YtblgblhoolpmiaaDoor
open Go.RowKit
theorem PartsAt.later {w w' : World} {Ap : Option Addr} {ps : List Part} (h : PartsAt w Ap ps) (hb : Below w.heap.size w w') : PartsAt w' Ap ps :=
  ⟨fun j hj => by
    obtain ⟨g, off, e, hg, hc⟩ := h.row j hj
    exact ⟨g, off, e, Nat.lt_of_lt_of_le hg hb.size, (hb.cell (p := ⟨g, off + j, none⟩) hg).trans hc⟩, fun j hj => ⟨(h.byt j hj).1.below hb (Nat.le_refl _), (h.byt j hj).2⟩⟩
theorem parts_of_own {w : World} {base n : Nat} {v : Value} {L : List Part} (h : w.ownsRow base 26 1 v n (valP L)) (hl : L.length = n) (hb : ∀ j (hj : j < L.length), Byt w L[j].A L[j].c L[j].M ∧ InB L[j].M) : ∃ A c, v = .slice A n c ∧ (A = none → c = 0) ∧ PartsAt w A L := by
  by_cases h0 : 0 < n
  · obtain ⟨g, c, hv, _, _, hg, hc⟩ := own_parts h hl h0
    exact ⟨_, c, hv, (fun h => by cases h), fun j hj => ⟨g, 0, rfl, hg, by rw [Nat.zero_add]; exact hc j hj⟩, hb⟩
  · obtain rfl : n = 0 := by omega
    obtain rfl : L = [] := List.eq_nil_of_length_eq_zero hl
    obtain ⟨_, h⟩ := h
    rcases h with ⟨h, _⟩ | ⟨g, cap, cur, hv, _⟩
    · exact ⟨none, 0, h, fun _ => rfl, fun j hj => absurd hj (Nat.not_lt_zero _), fun j hj => absurd hj (Nat.not_lt_zero _)⟩
    · exact ⟨_, cap, hv, (fun h => by cases h), fun j hj => absurd hj (Nat.not_lt_zero _), fun j hj => absurd hj (Nat.not_lt_zero _)⟩
set_option maxRecDepth 100000 in
set_option maxHeartbeats 2000000 in
theorem rderive_any (k : List Int) (s : ByteArray) (Ap : Option Addr) (cp m : Nat) (ps : List Part) (w : World) (hk : k.length = 32) (hb : InB k) (hm : ps.length = m) (hc : Ap = none → cp = 0) (hP : PartsAt w Ap ps) (hT : (canonL (bytesOf s) ps).length ≤ 40000) :
    Calls Tryd.prog 25 #[.agg (u8s k), .string s, .slice Ap m cp] w fun e w' => e = .returned (.agg (u8s (hmacL k (canonL (bytesOf s) ps)))) ∧ Below w.heap.size w w' := by
  obtain ⟨i8, hi8, hz80, hz81, hz82⟩ := partsK info8k
  have gi := Lib.hid hi8
  have gz0 := Lib.hid hz80
  have gz1 := Lib.hid hz81
  have gz2 := Lib.hid hz82
  have hcan : ∀ W : World, Below w.heap.size w W → Calls Tryd.prog 44 #[.string s, .slice Ap m cp] W fun e w' => ∃ A c, e = .returned (.slice A (canonL (bytesOf s) ps).length c) ∧ Byt w' A c (canonL (bytesOf s) ps) ∧ Below W.heap.size W w' :=
    fun W hbw => rcanon_any s Ap cp m ps w W hm hc hP hbw hT
  have hQin : InB (canonL (bytesOf s) ps) := canonL_in (bytesOf_in s) hP.byt
  obtain ⟨Q, hQ⟩ : ∃ Q, Q = canonL (bytesOf s) ps := ⟨_, rfl⟩
  rw [← hQ] at hcan hQin hT ⊢
  obtain ⟨Y, hY⟩ : ∃ Y, Y = hmacL k Q := ⟨_, rfl⟩
  have hY32 : Y.length = 32 := by rw [hY, hmacL_length]
  rw [← hY]
  have h2 := two_new w (.cells (u8s k) 35) (.cells zero32 35)
  obtain ⟨W2, hW2⟩ : ∃ W2, W2 = (w.alloc (.cells (u8s k) 35)).alloc (.cells zero32 35) := ⟨_, rfl⟩
  have l2 : Below w.heap.size w W2 := by rw [hW2]; exact ((Below.refl _ _).alloc (Nat.le_refl _) _).alloc (by simp) _
  have s2 : W2.heap.size = w.heap.size + 2 := by rw [hW2]; simp
  rw [← hW2] at h2
  have HW2 : Hid ((w.alloc (.cells (u8s k) 35)).alloc (.cells #[.int .u8 0, .int .u8 0, .int .u8 0, .int .u8 0, .int .u8 0, .int .u8 0, .int .u8 0, .int .u8 0, .int .u8 0, .int .u8 0, .int .u8 0, .int .u8 0, .int .u8 0, .int .u8 0, .int .u8 0, .int .u8 0, .int .u8 0, .int .u8 0, .int .u8 0, .int .u8 0, .int .u8 0, .int .u8 0, .int .u8 0, .int .u8 0, .int .u8 0, .int .u8 0, .int .u8 0, .int .u8 0, .int .u8 0, .int .u8 0, .int .u8 0, .int .u8 0] 35) = W2) := hW2.symm
  have Hk := Lib.hid hk
  have Hb := Lib.hid hb
  have Hcan := Lib.hid hcan
  have HQin := Lib.hid hQin
  have HT := Lib.hid hT
  have HY := Lib.hid hY
  have HY32 := Lib.hid hY32
  have H2 := Lib.hid h2
  have L2 := Lib.hid l2
  have S2 := Lib.hid s2
  have HYi : Hid ((Tryd.prog.info? 35).map (·.size) = some (u8s Y).size) := by show _ = _; rw [u8s_size, hY32]; exact info35
  clear hi8 hz80 hz81 hz82 hk hb hm hc hP hcan hQin hT hQ hY hY32 h2 hW2 l2 s2
  go_enter Tryd.func25, Tryd.ntmps25
  go_upto_region 1 with fail
  rw [HW2.out]
  go_wp2
  go_loopw [7, 8] (fun v i wr => ∃ j : Nat, j ≤ 32 ∧ i = .int .i64 j ∧ Hid (wr.ownsRow W2.heap.size 5 1 v j (valsK .u8 (k.take j)) ∧ Below W2.heap.size W2 wr)) (fun _ i _ => 32 - (intOf i).toNat)
  case atStart => exact ⟨0, by omega, rfl, World.ownsRow_nil _ _ _ _, Below.refl _ _⟩
  case round =>
    obtain ⟨j, hj, rfl, hr⟩ := hrel
    by_cases hlt : j < 32
    · have hltI : (j : Int) < 32 := by omega
      obtain ⟨x, hx⟩ : ∃ x, x = k.getD j 0 := ⟨_, rfl⟩
      have cell : wr.cell? ⟨w.heap.size, j, none⟩ = some (.int .u8 x) := by rw [hx]; exact row8_cell ((hr.out.2.block _ (by rw [S2.out]; omega)).trans H2.out.1) j (by rw [Hk.out]; exact hlt)
      have hmore : k.take j ++ [x] = k.take (j + 1) := by rw [hx]; exact take_getD (by rw [Hk.out]; exact hlt)
      have Hmore := Lib.hid hmore
      clear hx hmore
      go_wp2_with (at_builtin; refine wpList_append_mine rfl (.tmp 13) (.tmp 17) 26 rfl W2.heap.size 5 i8 (.int .u8 0) 1 Tryd.underlying26 gi.out gz0.out gz1.out gz2.out rfl (by decide) _ j (k.take j) x rfl hr.out.1 rfl (by omega) hr.out.2.size ?_; intro v' w' hgr; have Hgr := Lib.hid hgr; clear hgr)
      go_roundw
      case rel => exact ⟨j + 1, by omega, by go_num, by rw [← Hmore.out]; exact ⟨Hgr.out.own, Hgr.out.low _ _ hr.out.2 (Nat.le_refl _)⟩⟩
      case measure => simp [intOf]; omega
    · have hge : ¬ (j : Int) < 32 := by omega
      have e32 : j = 32 := by omega
      have own := hr.out.1
      rw [e32, List.take_of_length_le (Nat.le_of_eq Hk.out)] at own
      obtain ⟨gK, cK, rfl, hcK, _, hrowK⟩ := own_rowK own Hk.out (by decide)
      have BytK := Lib.hid (hrowK.byt (c := cK) (by rw [Hk.out]; exact hcK))
      have LowK := Lib.hid (L2.out.trans (hr.out.2.mono L2.out.size))
      have LowZ := Lib.hid hr.out.2
      obtain ⟨w8, hw8⟩ : ∃ w8, w8 = wr := ⟨_, rfl⟩
      subst hw8
      clear own hr e32 hj hlt hrowK
      go_wp2_with (first
        | (go_at_call 44; refine (Hcan.out _ LowK.out).mono ?_; rintro e w5 ⟨A5, c5, rfl, byt5, low5⟩; have Byt5 := Lib.hid byt5; have BytK5 := Lib.hid (BytK.out.below low5 (Nat.le_refl _)); have Low5 := Lib.hid (LowZ.out.trans (low5.mono LowZ.out.size)); clear byt5 low5)
        | (go_at_call 21; refine (rhmac_any k Q (some ⟨gK, 0, none⟩) A5 cK 32 c5 Q.length w5 Hk.out rfl Hb.out HQin.out BytK5.out Byt5.out (by decide) HT.out).mono ?_; rintro e w6 ⟨rfl, low6⟩; rw [← HY.out]; have Low6 := Lib.hid (Low5.out.trans (low6.mono Low5.out.size)); have Hz := Lib.hid ((Low6.out.block _ (by rw [S2.out]; omega)).trans H2.out.2); clear low6)
        | (refine wpList_store_row rfl 35 (.tmp 6) (.tmp 23) rfl (w.heap.size + 1) (u8s Y) rfl rfl 35 _ Hz.out HYi.out (by rw [u8s_size, HY32.out]; rfl) (u8s_one _) ?_))
      exact bodyPost_ret (v := .agg (u8s Y)) (results_cell_row rfl _ _ (w.heap.size + 1) 35 _ (0, 0) _ rfl (setRow_heap w6 _ _ _ _ _ Hz.out) Tryd.underlying35 rfl HYi.out) rfl ⟨rfl, below_setRow (L2.out.trans (Low6.out.mono L2.out.size)) (by omega) _⟩
end Go.Proofs.YtblgblhoolpmiaaDoor
