/- DERIVED. The contract of hmac.Sum: a tag. -/
import Derived.Test.YtblgblhoolpmiaaDoorHmacTwo
import Derived.Deep.DeepCutAuto
import Derived.Deep.RegionWith
import Derived.Outline
namespace Go.Proofs.YtblgblhoolpmiaaDoor
open Go.RowKit
theorem byt_rowT {w : World} {g : Nat} {t : TypeId} {l : List Int} (h : w.heap[g]? = some (.cells (u8s l) t (0, 0))) {n : Nat} (hn : l.length = n) : Byt w (some ⟨g, 0, none⟩) n l :=
  ⟨by omega, (fun h => by cases h), fun _ => ⟨g, 0, rfl, (Array.getElem?_eq_some_iff.1 h).1, fun j hj => by rw [Nat.zero_add, cell_row h, u8s_get _ _ hj]⟩⟩
/-- a block and more bytes, one behind the other. -/
theorem conc1 (g : Nat) (A : Option Addr) (c m : Nat) (w : World) (Y T : List Int) (hY : Y.length = 64) (hT : T.length = m) (hm : m ≤ 40000) (hg : w.heap[g]? = some (.cells (u8s Y) 67 (0, 0))) (hB : Byt w A c T) :
    Calls Tryd.prog 40 #[.slice (some ⟨w.heap.size, 0, none⟩) 2 2] (w.alloc (.cells #[.slice (some ⟨g, 0, none⟩) 64 64, .slice A m c] 26)) fun e' w' => ∃ g' c', e' = .returned (.slice (some ⟨g', 0, none⟩) (64 + m) c') ∧ Byt w' (some ⟨g', 0, none⟩) c' (Y ++ T) ∧ Below w.heap.size w w' := by
  refine (concat_any (some ⟨g, 0, none⟩) A 64 c w.heap.size 64 m Y T _ hY hT (by omega) (by omega) (by omega) (Go.heap_alloc_new w _) ((byt_rowT hg hY).below ((Below.refl _ _).alloc (Nat.le_refl _) _) (Nat.le_refl _)) (hB.below ((Below.refl _ _).alloc (Nat.le_refl _) _) (Nat.le_refl _))).mono ?_
  rintro e w' ⟨g', c', he, hb, hl⟩
  exact ⟨g', c', he, hb, ((Below.refl _ _).alloc (Nat.le_refl _) _).trans (hl.mono (by simp))⟩
/-- a digest, stored as a whole. -/
noncomputable def store35 (a v : Value) : Sem Unit := Instr.storeAt 35 a v
theorem storeAt35 (a v : Value) : Instr.storeAt 35 a v = store35 a v := rfl
theorem store35_eq {w : World} {g : Nat} {old : Array Value} {l : List Int} (hl : l.length = 32) (ho : old.size = 32) (h : w.heap[g]? = some (.cells old 35 (0, 0))) :
    (store35 (.pointer (some ⟨g, 0, none⟩)) (.agg (u8s l))).run Tryd.prog w = .ok () (w.setRow g (u8s l)) := by
  unfold store35
  simp only [Instr.storeAt, Instr.sureAddr, Sem.run_bind, Sem.run_pure, Result.andThen_ok, run_storeVar_row w g 35 35 old (u8s l) h (by rw [u8s_size, hl]; exact info35) (by rw [u8s_size, hl, ho]) (u8s_one _)]
attribute [irreducible] store35
attribute [local go_sem ↓ high] storeAt35
/-- the region's invariant: the frame, and what is known of it. -/
def TwoI (A A2 : Option Addr) (c n c2 m N G : Nat) (X : List Int) (w : World) (l : Array Bool) (a : Act) (wx : World) : Prop :=
  ∃ (v11 v12 v13 v14 v6 v7 : Value) (g6 g7 : Nat), a = ⟨#[.slice A n c, .slice A2 m c2, undef, undef, .pointer (some ⟨N, 0, none⟩), .pointer (some ⟨G, 0, none⟩), v6, v7, undef, .slice A n c, .agg (u8s X), v11, v12, v13, v14, undef, undef, undef, undef, undef, undef, undef, undef, undef, undef], []⟩ ∧ Two l v11 v12 v13 v14 v6 v7 g6 g7 N G X (xorL 54 X) (xorL 92 X) w wx
set_option maxRecDepth 100000 in
set_option maxHeartbeats 1000000 in
theorem hmac_any (K T : List Int) (A A2 : Option Addr) (c n c2 m : Nat) (w : World) (hn : K.length = n) (hm : T.length = m) (hb : InB K) (hb2 : InB T) (hB : Byt w A c K) (hB2 : Byt w A2 c2 T) (hL : Laid w) (hx : n < 2305843009213693952) (hx2 : m ≤ 40000) :
    Calls Tryd.prog 20 #[.slice A n c, .slice A2 m c2] w fun e w' => e = .returned (.agg (u8s (hmacL K T))) ∧ Below w.heap.size w w' := by
  have hsz := hL.sz
  have b0 : Below w.heap.size w (w.alloc (.cells zero32 35)) := (Below.refl _ _).alloc (Nat.le_refl _) _
  have HC := Lib.hid (block_any K A c n (w.alloc (.cells zero32 35)) hn hb (hB.below b0 (Nat.le_refl _)) (hL.below b0 hsz) hx)
  have R0 := Lib.hid (Go.heap_alloc_new w (.cells zero32 35))
  have B0 := Lib.hid b0
  have HL := Lib.hid hL
  have Hm := Lib.hid hm
  have HB2 := Lib.hid hB2
  have Hb2 := Lib.hid hb2
  have Hb := Lib.hid hb.blockL
  have Hl := Lib.hid (blockL_length K)
  obtain ⟨X, hX⟩ : ∃ X, X = blockL K := ⟨_, rfl⟩
  rw [← hX] at HC Hl Hb
  have HX := Lib.hid hX
  have Hi : Hid ((Tryd.prog.info? 67).map (·.size) = some (u8s X).size) := by show _ = _; rw [u8s_size, Hl.out]; exact info79
  unfold zero32 at HC R0 B0
  clear hn hm hb hb2 hB hB2 hL b0 hX hx
  go_enter Tryd.func20, Tryd.ntmps20
  go_upto_region 2 with (first
    | (go_at_call 38; refine HC.out.mono ?_; rintro e w1 ⟨rfl, low1⟩; have R1 := Lib.hid ((low1.block _ (Array.getElem?_eq_some_iff.1 R0.out).1).trans R0.out); have Low1 := Lib.hid (B0.out.trans (low1.mono (by simp))); clear low1)
    | (refine wpList_store_row rfl 67 (.tmp 5) (.tmp 10) rfl w1.heap.size (u8s X) (by rfl) (by rfl) 67 _ (Go.heap_alloc_new w1 _) Hi.out (by rw [u8s_size, Hl.out]; rfl) (u8s_one _) ?_; rw [World.setRow_alloc_new]))
  simp only [Act.put]
  go_cut [6, 7] (fun s6 s7 wx => ∃ g6 g7 : Nat, s6 = .pointer (some ⟨g6, 0, none⟩) ∧ s7 = .pointer (some ⟨g7, 0, none⟩) ∧ Hid (wx.heap[g6]? = some (.cells (u8s (xorL 54 X)) 67 (0, 0))) ∧ Hid (wx.heap[g7]? = some (.cells (u8s (xorL 92 X)) 67 (0, 0))) ∧ Hid (wx.heap[w.heap.size]? = some (.cells zero32 35 (0, 0))) ∧ Hid (Below w.heap.size w wx))
  case first =>
    skip
    refine wp_region_any (by kernel_rfl) ?_
    change wpAny _ _ _ _ _ _ _ (World.drew _)
    refine wpAny_inv (TwoI A A2 c n c2 m w.heap.size w1.heap.size X w) ?_ (by kernel_rfl) ?_ ?_ _ _ _ _ (unlisted_none _) ?_
    · rintro l a wx ⟨_, _, _, _, _, _, _, _, _, h⟩
      exact h.sz
    · rintro l a wx ⟨v11, v12, v13, v14, v6, v7, g6, g7, rfl, h⟩ hall
      obtain ⟨rfl, _, h6⟩ := h.p4 (hall 4 (by decide))
      obtain ⟨rfl, _, h7⟩ := h.p5 (hall 5 (by decide))
      have e6 := hall 6 (by decide)
      have e7 := hall 7 (by decide)
      rw [e6] at h6
      rw [e7] at h7
      have hr := h.res
      have hl := h.low
      go_wp2_with fail
      go_meet
      exact ⟨g6, g7, rfl, rfl, h6, h7, hr, hl⟩
    · rintro l a wx i ⟨v11, v12, v13, v14, v6, v7, g6, g7, rfl, h⟩ hi hu hw
      have hi8 : i < 8 := hi
      obtain rfl | rfl | rfl | rfl | rfl | rfl | rfl | rfl : i = 0 ∨ i = 1 ∨ i = 2 ∨ i = 3 ∨ i = 4 ∨ i = 5 ∨ i = 6 ∨ i = 7 := by omega
      · refine wpOp_plain rfl rfl (wp_load_row 67 (.tmp 5) rfl w1.heap.size rfl 67 (u8s X) (0, 0) _ h.src Tryd.underlying67 rfl Hi.out ?_)
        exact ⟨_, _, _, _, _, _, g6, g7, rfl, h.same 0 (by omega) _ _ _ _ (.inl ⟨rfl, rfl⟩) (.inr ⟨by decide, rfl⟩) (.inr ⟨by decide, rfl⟩) (.inr ⟨by decide, rfl⟩) (Kept.refl _) (Below.refl _ _)⟩
      · obtain rfl := h.p0 (hw 0 (by kernel_rfl))
        refine wpOp_plain rfl rfl ?_
        go_simp
        go_at_call 39
        refine (masked_any X 54 Hl.out _).mono ?_
        rintro e w' ⟨rfl, low⟩
        exact ⟨_, _, _, _, _, _, g6, g7, rfl, h.same 1 (by omega) _ _ _ _ (.inr ⟨by decide, rfl⟩) (.inl ⟨rfl, rfl⟩) (.inr ⟨by decide, rfl⟩) (.inr ⟨by decide, rfl⟩) (Kept.below low) low⟩
      · refine wpOp_plain rfl rfl (wp_load_row 67 (.tmp 5) rfl w1.heap.size rfl 67 (u8s X) (0, 0) _ h.src Tryd.underlying67 rfl Hi.out ?_)
        exact ⟨_, _, _, _, _, _, g6, g7, rfl, h.same 2 (by omega) _ _ _ _ (.inr ⟨by decide, rfl⟩) (.inr ⟨by decide, rfl⟩) (.inl ⟨rfl, rfl⟩) (.inr ⟨by decide, rfl⟩) (Kept.refl _) (Below.refl _ _)⟩
      · obtain rfl := h.p2 (hw 2 (by kernel_rfl))
        refine wpOp_plain rfl rfl ?_
        go_simp
        go_at_call 39
        refine (masked_any X 92 Hl.out _).mono ?_
        rintro e w' ⟨rfl, low⟩
        exact ⟨_, _, _, _, _, _, g6, g7, rfl, h.same 3 (by omega) _ _ _ _ (.inr ⟨by decide, rfl⟩) (.inr ⟨by decide, rfl⟩) (.inr ⟨by decide, rfl⟩) (.inl ⟨rfl, rfl⟩) (Kept.below low) low⟩
      · refine wpOp_plain rfl rfl ?_
        go_simp
        exact ⟨_, _, _, _, _, _, _, g7, rfl, h.alloc6 hu⟩
      · refine wpOp_plain rfl rfl ?_
        go_simp
        exact ⟨_, _, _, _, _, _, g6, _, rfl, h.alloc7 hu⟩
      · obtain rfl := h.p1 (hw 1 (by kernel_rfl))
        have h4 := hw 4 (by kernel_rfl)
        have h5 := hw 5 (by kernel_rfl)
        obtain ⟨rfl, _, hr⟩ := h.p4 h4
        refine wpOp_plain rfl rfl (wp_store_row 67 (.tmp 6) (.tmp 12) rfl g6 (u8s (xorL 54 X)) rfl rfl 67 _ hr (by rw [u8s_size, xorL_length, Hl.out]; exact info79) (by rw [rowIf_size _ _ (by rw [xorL_length, Hl.out]), u8s_size, xorL_length, Hl.out]) (u8s_one _) ?_)
        exact ⟨_, _, _, _, _, _, g6, g7, rfl, h.store6 h4 h5⟩
      · obtain rfl := h.p3 (hw 3 (by kernel_rfl))
        have h4 := hw 4 (by kernel_rfl)
        have h5 := hw 5 (by kernel_rfl)
        obtain ⟨rfl, _, hr⟩ := h.p5 h5
        refine wpOp_plain rfl rfl (wp_store_row 67 (.tmp 7) (.tmp 14) rfl g7 (u8s (xorL 92 X)) rfl rfl 67 _ hr (by rw [u8s_size, xorL_length, Hl.out]; exact info79) (by rw [rowIf_size _ _ (by rw [xorL_length, Hl.out]), u8s_size, xorL_length, Hl.out]) (u8s_one _) ?_)
        exact ⟨_, _, _, _, _, _, g6, g7, rfl, h.store7 h4 h5⟩
    · refine ⟨undef, undef, undef, undef, undef, undef, 0, 0, rfl, ⟨rfl, fun h => absurd h (by decide), fun h => absurd h (by decide), fun h => absurd h (by decide), fun h => absurd h (by decide), fun h => absurd h (by decide), fun h => absurd h (by decide), fun h => absurd h (by decide), fun h => absurd h (by decide), fun h => absurd h (by decide), ?_, ?_, ?_, ?_⟩⟩
      · exact Go.heap_alloc_new w1 _
      · exact (Go.heap_alloc_old w1 _ (Array.getElem?_eq_some_iff.1 R1.out).1).trans R1.out
      · exact (Array.getElem?_eq_some_iff.1 R1.out).1
      · exact (Low1.out.alloc Low1.out.size _).drew
  case rest =>
    obtain ⟨g6, g7, rfl, rfl, h6, h7, hr, hl⟩ := hcut
    rename World => wx
    have c1 := conc1 g6 A2 c2 m wx (xorL 54 X) T (by rw [xorL_length, Hl.out]) Hm.out hx2 h6.out (HB2.out.below hl.out (Nat.le_refl _))
    have C1 := Lib.hid c1
    have Hin := Lib.hid ((Hb.out.xorL 54 (by decide) (by decide)).append Hb2.out)
    have Hlen : Hid ((xorL 54 X ++ T).length = 64 + m) := by show _ = _; rw [List.length_append, xorL_length, Hl.out, Hm.out]
    obtain ⟨S1, hS1⟩ : ∃ S1, S1 = sumL (xorL 54 X ++ T) := ⟨_, rfl⟩
    have HS1 := Lib.hid hS1
    have Hl1 : Hid (S1.length = 32) := by show _ = _; rw [hS1, sumL_length]
    have Hi1 : Hid (InB S1) := by show InB _; rw [hS1]; exact sumL_in _
    have HN := Lib.hid (Array.getElem?_eq_some_iff.1 hr.out).1
    clear c1 hS1
    go_upto_region 4 with (first
      | (go_at_call 40; refine C1.out.mono ?_; rintro e w2 ⟨g, c3, rfl, byt, low2⟩; have Low2 := Lib.hid (hl.out.trans (low2.mono hl.out.size)); have K2 := Lib.hid (Kept.below low2); have Byt2 := Lib.hid byt; clear byt low2)
      | (go_at_call 15; refine (sum_any (xorL 54 X ++ T) (some ⟨g, 0, none⟩) c3 (64 + m) w2 Hlen.out Hin.out Byt2.out (HL.out.below Low2.out hsz) (by omega)).mono ?_; rintro e w3 ⟨rfl, low3⟩; rw [← HS1.out]; have Low3 := Lib.hid (Low2.out.trans (low3.mono Low2.out.size)); have K3 := Lib.hid (Kept.below low3); clear low3)
      | (refine wpList_store_row rfl 35 (.tmp 8) (.tmp 19) rfl w3.heap.size (u8s S1) (by rfl) (by rfl) 35 _ (Go.heap_alloc_new w3 _) (by rw [u8s_size, Hl1.out]; exact info35) (by rw [u8s_size, Hl1.out]; rfl) (u8s_one _) ?_; rw [World.setRow_alloc_new]))
    simp only [Act.put]
    have h3 : (w3.alloc (.cells (u8s S1) 35)).heap[w3.heap.size]? = some (.cells (u8s S1) 35 (0, 0)) := Go.heap_alloc_new w3 _
    have k3 := Kept.alloc w3 (.cells (u8s S1) 35)
    have h7' := k3 _ _ (K3.out _ _ (K2.out _ _ h7.out))
    have hr' := k3 _ _ (K3.out _ _ (K2.out _ _ hr.out))
    have low4 := Low3.out.alloc Low3.out.size (.cells (u8s S1) 35)
    generalize World.alloc w3 _ = w4 at h3 h7' hr' low4 ⊢
    have C2 := Lib.hid (conc1 g7 (some ⟨w3.heap.size, 0, none⟩) 32 32 w4.drew (xorL 92 X) S1 (by rw [xorL_length, Hl.out]) Hl1.out (by omega) h7' (byt_rowT (w := w4.drew) h3 Hl1.out))
    have Hin2 := Lib.hid ((Hb.out.xorL 92 (by decide) (by decide)).append Hi1.out)
    have Hlen2 : Hid ((xorL 92 X ++ S1).length = 64 + 32) := by show _ = _; rw [List.length_append, xorL_length, Hl.out, Hl1.out]
    obtain ⟨S2, hS2⟩ : ∃ S2, S2 = sumL (xorL 92 X ++ S1) := ⟨_, rfl⟩
    have HS2 := Lib.hid hS2
    have Hl2 : Hid (S2.length = 32) := by show _ = _; rw [hS2, sumL_length]
    have HS3 : Hid (hmacL K T = S2) := by show _ = _; rw [hS2, HS1.out, HX.out]; rfl
    have Hr4 := Lib.hid hr'
    have Low4 := Lib.hid low4
    have H35 : Hid ((Tryd.prog.info? 35).map (·.size) = some (u8s S2).size) := by show _ = _; rw [u8s_size, Hl2.out]; exact info35
    clear h3 k3 h7' hr' low4 hS2
    go_region_with (first
      | (go_at_call 40; refine C2.out.mono ?_; rintro e w5 ⟨g', c5, rfl, byt, low5⟩; have Low5 := Lib.hid (Low4.out.drew.trans (low5.mono Low4.out.size)); have Byt5 := Lib.hid byt; have K5 := Lib.hid (Kept.below low5); clear byt low5)
      | (go_at_call 15; refine (sum_any (xorL 92 X ++ S1) (some ⟨g', 0, none⟩) c5 (64 + 32) w5 Hlen2.out Hin2.out Byt5.out (HL.out.below Low5.out hsz) (by omega)).mono ?_; rintro e w6 ⟨rfl, low6⟩; rw [← HS2.out]; have R6 := Lib.hid (Kept.below low6 _ _ (K5.out _ _ Hr4.out)); have st := store35_eq (l := S2) Hl2.out rfl R6.out; have Low6 := Lib.hid (Low5.out.trans (low6.mono Low5.out.size)); clear low6))
    all_goals
      go_wp2
      exact bodyPost_ret (v := .agg (u8s S2)) (results_cell_row rfl _ _ w.heap.size 35 _ (0, 0) _ rfl (setRow_heap w6 _ _ _ _ _ R6.out) Tryd.underlying35 rfl H35.out) rfl ⟨by rw [HS3.out], below_setRow Low6.out (Nat.le_refl _) _⟩
end Go.Proofs.YtblgblhoolpmiaaDoor
