/- DERIVED. chacha.Stream of no bytes, and where there are too few counters. -/
import Derived.Test.YtdkfofnkacmliaaDoorChaStream
namespace Go.Proofs.YtdkfofnkacmliaaDoor.Cha
open Go.RowKit
attribute [local go_sem] Oper.semAt_some
theorem own_slice0 {w : World} {base t : Nat} {v : Value} (h : w.ownsRow base t 1 v 0 []) : ∃ A c, v = .slice A 0 c ∧ Byt w A c [] := by
  obtain ⟨_, h⟩ := h
  rcases h with ⟨h, _⟩ | ⟨g', cap, cur, hv, _⟩
  · exact ⟨none, 0, h, Nat.le_refl _, fun _ => rfl, fun h => absurd h (Nat.lt_irrefl 0)⟩
  · exact ⟨_, cap, hv, Nat.zero_le _, (fun h => by cases h), fun h => absurd h (Nat.lt_irrefl 0)⟩
theorem blocks_zero (w : World) : Calls Tryd.prog 21 #[.int .i64 0] w fun e w' => e = .returned (.int .u64 0) ∧ w = w' := blocksOf_any 0 (by omega) w
set_option maxHeartbeats 1000000 in
theorem pieces_zero (m Bb Bc : Nat) (hm : 2 ≤ m) (A : Option Addr) (cap : Nat) (w : World) (hb : Boxed w Bb 38 (.slice A 0 cap)) :
    SeqStopsK Fence.wide m Tryd.prog 25 #[.pointer (some ⟨Bb, 0, none⟩), .pointer (some ⟨Bc, 0, none⟩)] (fun _ : Fin 0 => #[.int .u32 0, .int .u32 0]) (KpB Bb Bc) (fun ys => ys = []) (fun _ => True) 0 w := by
  intro l J Jx W hW _ _ _ h0
  have hbx : Boxed W Bb 38 (.slice A 0 cap) := (hW.block _ hb.lt).trans hb
  have hc := hbx.cell
  have H0 := Lib.hid h0
  clear hbx hb hW h0
  show CallsIn Fence.wide m Tryd.prog 25 #[.func (.yield l) #[] #[], .pointer (some ⟨Bb, 0, none⟩), .pointer (some ⟨Bc, 0, none⟩)] W _
  refine callsIn_of_wp Tryd.func25 rfl trivial ?_ rfl
  simp only [Tryd.ntmps25, List.size_toArray, List.length_cons, List.length_nil, Nat.reduceAdd, Nat.reduceSub, Array.replicate_succ, Array.replicate_zero, List.push_toArray, List.append_toArray, List.nil_append, List.cons_append]
  gi_wp2_with (refine ⟨trivial, (fun _ => by omega), ?_⟩; gi_at_call 21; refine (callsIn_wide.2 (blocks_zero _)).mono ?_; rintro e w' ⟨rfl, rfl⟩)
  gi_loopw [9] (fun i wr => i = .int .u64 0 ∧ Hid (wr = W)) (fun _ _ => 0)
  case atStart => exact ⟨rfl, rfl⟩
  case round =>
    obtain ⟨rfl, hw⟩ := hrel
    gi_wp2
    go_end0
    exact ⟨⟨_, rfl⟩, .inl ⟨[], rfl, by rw [hw.out]; exact H0.out⟩⟩
set_option maxRecDepth 100000 in
set_option maxHeartbeats 4000000 in
theorem stream_zero (K Nn : List Int) (c : Int) (A : Option Addr) (cap : Nat) (c0 : 0 ≤ c) (c1 : c < 4294967296) (w : World) :
    Calls Tryd.prog 12 #[.agg (u8s K), .int .u32 c, .agg (u8s Nn), .slice A 0 cap] w fun e' w' => ∃ A' c', e' = .returned (.tuple #[.slice A' 0 c', .int .i64 0]) ∧ Byt w' A' c' [] ∧ Below w.heap.size w w' := by
  obtain ⟨i0, hi, hz0, hz1, hz2⟩ := info_parts info8
  refine (callsIn_wide (n := 8)).1 ?_
  refine callsIn_of_wp_marks Tryd.func12 rfl trivial ?_ rfl
  simp only [Tryd.ntmps12, List.size_toArray, List.length_cons, List.length_nil, Nat.reduceAdd, Nat.reduceSub, Array.replicate_succ, Array.replicate_zero, List.push_toArray, List.append_toArray, List.nil_append, List.cons_append]
  gi_wp2_with (first
    | (refine ⟨trivial, ?_⟩; gi_at_call 21; refine (callsIn_wide.2 (blocks_zero _)).mono ?_; rintro e w' ⟨rfl, rfl⟩)
    | (refine wpListIn_make_own _ rfl _ _ 38 rfl (w.heap.size + 1 + 1) 5 i0 (.int .u8 0) 1 Tryd.underlying38 hi hz0 hz1 .i64 .i64 _ 0 rfl rfl rfl (by omega) (by unfold maxLen; omega) (by simp) ?_; intro w2 hown2 hgrow2; have Hown2 := Lib.hid hown2; have Hgrow2 := Lib.hid hgrow2; clear hown2 hgrow2)
    | (refine ⟨trivial, ?_⟩; gi_at_call 22; refine (callsIn_wide.2 (pieces_any _ 0 cap c _)).mono ?_; rintro e w' ⟨rfl, rfl⟩))
  have hW0 : SI K Nn [] (.slice A 0 cap) c w.heap.size w2.heap.size w (((w2.alloc (.cells #[.slice (some ⟨w.heap.size + 1 + 1, 0, none⟩) 0 0] 38)).alloc (.cells #[.int .u32 c] 22)).alloc (.cells #[.slice A 0 cap] 38)) := by
    have h2 := two_new w (.cells (u8s K) 25) (.cells (u8s Nn) 27)
    have h3 := three_new w2 (.cells #[.slice (some ⟨w.heap.size + 1 + 1, 0, none⟩) 0 0] 38) (.cells #[.int .u32 c] 22) (.cells #[.slice A 0 cap] 38)
    have k3 := below3 w2 (.cells #[.slice (some ⟨w.heap.size + 1 + 1, 0, none⟩) 0 0] 38) (.cells #[.int .u32 c] 22) (.cells #[.slice A 0 cap] 38)
    have hs := Hgrow2.out.size
    simp only [World.size_alloc] at hs
    have e1 : w2.heap[w.heap.size]? = _ := (Hgrow2.out.block _ (by simp; omega) (by simp)).trans h2.1
    have e2 : w2.heap[w.heap.size + 1]? = _ := (Hgrow2.out.block _ (by simp) (by simp)).trans h2.2
    have b2 : Below w.heap.size w w2 := (((Below.refl _ w).alloc (Nat.le_refl _) (.cells (u8s K) 25)).alloc (by simp) (.cells (u8s Nn) 27)).grown Hgrow2.out (by simp; omega) (fun k hk => by cases hk)
    have hown := ((Hown2.out.alloc (.cells #[.slice (some ⟨w.heap.size + 1 + 1, 0, none⟩) 0 0] 38)).alloc (.cells #[.int .u32 c] 22)).alloc (.cells #[.slice A 0 cap] 38)
    simp only [World.size_alloc] at hown
    exact ⟨⟨_, h3.1, hown⟩, (k3.block _ (by omega)).trans e1, (k3.block _ (by omega)).trans e2, h3.2.2, h3.2.1, by omega, b2.trans (k3.mono (by omega))⟩
  have HW0 := Lib.hid hW0
  have hbb := hW0.bb
  have hs2 : w.heap.size + 1 + 1 ≤ w2.heap.size := hW0.ob
  clear hW0
  refine wpIn_rangeFunc_ownF rfl (by omega) (gf := 25) (lb := #[.pointer (some ⟨w2.heap.size + 1 + 1, 0, none⟩), .pointer (some ⟨w2.heap.size + 1, 0, none⟩)]) rfl trivial (Go.Proofs.enters_of Tryd.func25 (by kernel_rfl) rfl)
    (pieces_zero 7 (w2.heap.size + 1 + 1) (w2.heap.size + 1) (by omega) A cap _ hbb) (fun h k => KpB.trans h k)
    (fun W l' o o' hl' ho hc hw => ⟨World.putObj_heap_other (by simp at hl'; omega), World.putObj_heap_other (by simp at hl'; omega)⟩) (Below.refl _ _) (fun _ => rfl)
    (fun pre W => SI K Nn [] (.slice A 0 cap) c w.heap.size w2.heap.size w W)
    (fun _ _ _ => False)
    (SI.own K Nn (fun _ => []) _ c w.heap.size w2.heap.size _ w (Nat.le_refl _) (by simp; omega))
    (fun _ _ _ _ _ hs _ _ => hs)
    HW0.out
    (fun x => { tmps := #[], defers := [] }) ?assign ?body ?done ?stop
  case assign =>
    intro l x W K hK
    exact x.elim0
  case body =>
    intro l pre x
    exact x.elim0
  case done =>
    rintro D ys W hD rfl hI hK
    have hI' : SI K Nn [] (.slice A 0 cap) c w.heap.size w2.heap.size w W := hI
    obtain ⟨v, hv, hrow⟩ := hI'.box
    have hrow2 := ownsRow_putObj hrow (.deferred none) hK rfl
    obtain ⟨A', c', rfl, hbyt⟩ := own_slice0 hrow2
    have hc := hv.cell
    have Hbyt := Lib.hid hbyt
    have Hlow : Hid (Below w.heap.size w (W.putObj D (.deferred none))) := hI'.low.trans (belowK_b (w := w) (Nat.le_refl _) W D _ _ (by simp at hD; omega) hK rfl rfl)
    have HK := Lib.hid hK
    clear hrow hrow2 hbyt hI hI' hv hK HW0
    gi_wp2
    refine ⟨by simp, .inl ⟨_, _, rfl, run_takeDeferred HK.out, ?_⟩⟩
    exact ⟨_, results_tmp2 rfl _ _ _, A', c', rfl, Hbyt.out, Hlow.out⟩
  case stop =>
    rintro D c pre W _ _ h _
    exact h.elim
set_option maxRecDepth 100000 in
set_option maxHeartbeats 1000000 in
/-- there are too few counters. -/
theorem stream_no (K Nn : List Int) (c : Int) (A : Option Addr) (n cap : Nat) (hsm : n ≤ 100000) (c0 : 0 ≤ c) (c1 : c < 4294967296) (cb : ¬ c + (nbl n : Nat) ≤ 4294967296) (w : World) :
    Calls Tryd.prog 12 #[.agg (u8s K), .int .u32 c, .agg (u8s Nn), .slice A n cap] w fun e' w' => e' = .returned (.tuple #[.slice none 0 0, .int .i64 13]) ∧ Below w.heap.size w w' := by
  have HBL := Lib.hid (blocksOf_any n (by omega))
  have hgt : 4294967296 < c + ((nbl n : Nat) : Int) := by omega
  have hnb : ((nbl n : Nat) : Int) ≤ 100000 := by unfold nbl; omega
  have c1' : c ≤ 4294967295 := by omega
  clear cb c1 hsm
  refine (callsIn_wide (n := 8)).1 ?_
  refine callsIn_of_wp_marks Tryd.func12 rfl trivial ?_ rfl
  simp only [Tryd.ntmps12, List.size_toArray, List.length_cons, List.length_nil, Nat.reduceAdd, Nat.reduceSub, Array.replicate_succ, Array.replicate_zero, List.push_toArray, List.append_toArray, List.nil_append, List.cons_append]
  gi_wp2_with (refine ⟨trivial, ?_⟩; gi_at_call 21; refine (callsIn_wide.2 (HBL.out _)).mono ?_; rintro e w' ⟨rfl, rfl⟩)
  exact ⟨_, results_tmp2 rfl _ _ _, rfl, ((Below.refl _ _).alloc (Nat.le_refl _) _).alloc (by simp) _⟩
/-- chacha.Stream: what it returns. -/
theorem stream_any (K Nn L : List Int) (c : Int) (A : Option Addr) (n cap : Nat) (hK : K.length = 32) (hN : Nn.length = 12) (bK : InB K) (bN : InB Nn) (hl : L.length = n) (hsm : n ≤ 100000) (c0 : 0 ≤ c) (c1 : c < 4294967296) (cb : c + (nbl n : Nat) ≤ 4294967296) (w : World) (hB : Byt w A cap L) (hL : Laid w) :
    Calls Tryd.prog 12 #[.agg (u8s K), .int .u32 c, .agg (u8s Nn), .slice A n cap] w fun e' w' => ∃ A' c', e' = .returned (.tuple #[.slice A' n c', .int .i64 0]) ∧ Byt w' A' c' (streamL K c Nn L) ∧ Below w.heap.size w w' := by
  by_cases h0 : n = 0
  · subst h0
    obtain rfl : L = [] := List.eq_nil_of_length_eq_zero hl
    exact stream_zero K Nn c A cap c0 c1 w
  · refine (stream_new K Nn L c A n cap hK hN bK bN hl (by omega) hsm c0 cb w hB hL).mono ?_
    rintro e w' ⟨g, c', h1, h2, h3, _⟩
    exact ⟨_, c', h1, h2, h3⟩
end Go.Proofs.YtdkfofnkacmliaaDoor.Cha
