/- DERIVED. Texts of ours, merged: XChaStreamNo XChaBackMath XSealSpec XSealFew XSealNum. -/
import Derived.Test.YtgkmbamoffolgaaDoorMseal10
import Derived.Laws.BytesArg
import Derived.Test.YtgkmbamoffolgaaDoorMseal5
/- DERIVED. chacha.Stream of no bytes, and where there are too few counters. -/
namespace Go.Proofs.YtgkmbamoffolgaaDoor.Cha
open Go.RowKit
attribute [local go_sem] Oper.semAt_some
theorem own_slice0 {w : World} {base t : Nat} {v : Value} (h : w.ownsRow base t 1 v 0 []) : ∃ A c, v = .slice A 0 c ∧ Byt w A c [] := by
  obtain ⟨_, h⟩ := h
  rcases h with ⟨h, _⟩ | ⟨g', cap, cur, hv, _⟩
  · exact ⟨none, 0, h, Nat.le_refl _, fun _ => rfl, fun h => absurd h (Nat.lt_irrefl 0)⟩
  · exact ⟨_, cap, hv, Nat.zero_le _, (fun h => by cases h), fun h => absurd h (Nat.lt_irrefl 0)⟩
theorem blocks_zero (w : World) : Calls Tryd.prog 50 #[.int .i64 0] w fun e w' => e = .returned (.int .u64 0) ∧ w = w' := blocksOf_any 0 (by omega) w
set_option maxHeartbeats 1000000 in
theorem pieces_zero (m Bb Bc : Nat) (hm : 2 ≤ m) (A : Option Addr) (cap : Nat) (w : World) (hb : Boxed w Bb 24 (.slice A 0 cap)) :
    SeqStopsK Fence.wide m Tryd.prog 62 #[.pointer (some ⟨Bb, 0, none⟩), .pointer (some ⟨Bc, 0, none⟩)] (fun _ : Fin 0 => #[.int .u32 0, .int .u32 0]) (KpB Bb Bc) (fun ys => ys = []) (fun _ => True) 0 w := by
  intro l J Jx W hW _ _ _ h0
  have hbx : Boxed W Bb 24 (.slice A 0 cap) := (hW.block _ hb.lt).trans hb
  have hc := hbx.cell
  have H0 := Lib.hid h0
  clear hbx hb hW h0
  show CallsIn Fence.wide m Tryd.prog 62 #[.func (.yield l) #[] #[], .pointer (some ⟨Bb, 0, none⟩), .pointer (some ⟨Bc, 0, none⟩)] W _
  refine callsIn_of_wp Tryd.func62 rfl trivial ?_ rfl
  simp only [Tryd.ntmps62, List.size_toArray, List.length_cons, List.length_nil, Nat.reduceAdd, Nat.reduceSub, Array.replicate_succ, Array.replicate_zero, List.push_toArray, List.append_toArray, List.nil_append, List.cons_append]
  gi_wp2_with (refine ⟨trivial, (fun _ => by omega), ?_⟩; gi_at_call 50; refine (callsIn_wide.2 (blocks_zero _)).mono ?_; rintro e w' ⟨rfl, rfl⟩)
  gi_loopw [9] (fun i wr => i = .int .u64 0 ∧ Hid (wr = W)) (fun _ _ => 0)
  case atStart => exact ⟨rfl, rfl⟩
  case round =>
    obtain ⟨rfl, hw⟩ := hrel
    gi_wp2
    go_end0
    exact ⟨⟨_, rfl⟩, .inl ⟨[], rfl, by rw [hw.out]; exact H0.out⟩⟩
set_option maxRecDepth 100000 in
set_option maxHeartbeats 4000000 in
theorem stream_zero (K Nn : List Int) (c : Int) (A : Option Addr) (cap : Nat) (c0 : 0 ≤ c) (c1 : c < 4294967296) (w : World) :
    Calls Tryd.prog 39 #[.agg (u8s K), .int .u32 c, .agg (u8s Nn), .slice A 0 cap] w fun e' w' => ∃ A' c', e' = .returned (.tuple #[.slice A' 0 c', .int .i64 0]) ∧ Byt w' A' c' [] ∧ Below w.heap.size w w' := by
  obtain ⟨i0, hi, hz0, hz1, hz2⟩ := info_parts info8
  refine (callsIn_wide (n := 8)).1 ?_
  refine callsIn_of_wp_marks Tryd.func39 rfl trivial ?_ rfl
  simp only [Tryd.ntmps39, List.size_toArray, List.length_cons, List.length_nil, Nat.reduceAdd, Nat.reduceSub, Array.replicate_succ, Array.replicate_zero, List.push_toArray, List.append_toArray, List.nil_append, List.cons_append]
  gi_wp2_with (first
    | (refine ⟨trivial, ?_⟩; gi_at_call 50; refine (callsIn_wide.2 (blocks_zero _)).mono ?_; rintro e w' ⟨rfl, rfl⟩)
    | (refine wpListIn_make_own _ rfl _ _ 24 rfl (w.heap.size + 1 + 1) 5 i0 (.int .u8 0) 1 Tryd.underlying24 hi hz0 hz1 .i64 .i64 _ 0 rfl rfl rfl (by omega) (by unfold maxLen; omega) (by simp) ?_; intro w2 hown2 hgrow2; have Hown2 := Lib.hid hown2; have Hgrow2 := Lib.hid hgrow2; clear hown2 hgrow2)
    | (refine ⟨trivial, ?_⟩; gi_at_call 51; refine (callsIn_wide.2 (pieces_any _ 0 cap c _)).mono ?_; rintro e w' ⟨rfl, rfl⟩))
  have hW0 : SI K Nn [] (.slice A 0 cap) c w.heap.size w2.heap.size w (((w2.alloc (.cells #[.slice (some ⟨w.heap.size + 1 + 1, 0, none⟩) 0 0] 24)).alloc (.cells #[.int .u32 c] 26)).alloc (.cells #[.slice A 0 cap] 24)) := by
    have h2 := two_new w (.cells (u8s K) 23) (.cells (u8s Nn) 68)
    have h3 := three_new w2 (.cells #[.slice (some ⟨w.heap.size + 1 + 1, 0, none⟩) 0 0] 24) (.cells #[.int .u32 c] 26) (.cells #[.slice A 0 cap] 24)
    have k3 := below3 w2 (.cells #[.slice (some ⟨w.heap.size + 1 + 1, 0, none⟩) 0 0] 24) (.cells #[.int .u32 c] 26) (.cells #[.slice A 0 cap] 24)
    have hs := Hgrow2.out.size
    simp only [World.size_alloc] at hs
    have e1 : w2.heap[w.heap.size]? = _ := (Hgrow2.out.block _ (by simp; omega) (by simp)).trans h2.1
    have e2 : w2.heap[w.heap.size + 1]? = _ := (Hgrow2.out.block _ (by simp) (by simp)).trans h2.2
    have b2 : Below w.heap.size w w2 := (((Below.refl _ w).alloc (Nat.le_refl _) (.cells (u8s K) 23)).alloc (by simp) (.cells (u8s Nn) 68)).grown Hgrow2.out (by simp; omega) (fun k hk => by cases hk)
    have hown := ((Hown2.out.alloc (.cells #[.slice (some ⟨w.heap.size + 1 + 1, 0, none⟩) 0 0] 24)).alloc (.cells #[.int .u32 c] 26)).alloc (.cells #[.slice A 0 cap] 24)
    simp only [World.size_alloc] at hown
    exact ⟨⟨_, h3.1, hown⟩, (k3.block _ (by omega)).trans e1, (k3.block _ (by omega)).trans e2, h3.2.2, h3.2.1, by omega, b2.trans (k3.mono (by omega))⟩
  have HW0 := Lib.hid hW0
  have hbb := hW0.bb
  have hs2 : w.heap.size + 1 + 1 ≤ w2.heap.size := hW0.ob
  clear hW0
  refine wpIn_rangeFunc_ownF rfl (by omega) (gf := 62) (lb := #[.pointer (some ⟨w2.heap.size + 1 + 1, 0, none⟩), .pointer (some ⟨w2.heap.size + 1, 0, none⟩)]) rfl trivial (Go.Proofs.enters_of Tryd.func62 (by kernel_rfl) rfl)
    (pieces_zero 7 (w2.heap.size + 1 + 1) (w2.heap.size + 1) (by omega) A cap _ hbb) (fun h k => KpB.trans h k)
    (fun W l' o o' hl' ho hc hw => ⟨World.putObj_heap_other (by simp at hl'; omega), World.putObj_heap_other (by simp at hl'; omega)⟩) (Below.refl _ _) (fun _ => rfl)
    (fun pre W => SI K Nn [] (.slice A 0 cap) c w.heap.size w2.heap.size w W)
    (fun _ _ _ => False)
    (SI.own K Nn (fun _ => []) _ c w.heap.size w2.heap.size _ w (Nat.le_refl _) (by simp; omega))
    (fun _ _ _ _ _ hs _ _ => hs)
    HW0.out
    (fun x => { tmps := #[], defers := [] }) ?assign ?body ?done ?stop
  case assign =>
    intro l x W K hK
    exact x.elim0
  case body =>
    intro l pre x
    exact x.elim0
  case done =>
    rintro D ys W hD rfl hI hK
    have hI' : SI K Nn [] (.slice A 0 cap) c w.heap.size w2.heap.size w W := hI
    obtain ⟨v, hv, hrow⟩ := hI'.box
    have hrow2 := ownsRow_putObj hrow (.deferred none) hK rfl
    obtain ⟨A', c', rfl, hbyt⟩ := own_slice0 hrow2
    have hc := hv.cell
    have Hbyt := Lib.hid hbyt
    have Hlow : Hid (Below w.heap.size w (W.putObj D (.deferred none))) := hI'.low.trans (belowK_b (w := w) (Nat.le_refl _) W D _ _ (by simp at hD; omega) hK rfl rfl)
    have HK := Lib.hid hK
    clear hrow hrow2 hbyt hI hI' hv hK HW0
    gi_wp2
    refine ⟨by simp, .inl ⟨_, _, rfl, run_takeDeferred HK.out, ?_⟩⟩
    exact ⟨_, results_tmp2 rfl _ _ _, A', c', rfl, Hbyt.out, Hlow.out⟩
  case stop =>
    rintro D c pre W _ _ h _
    exact h.elim
set_option maxRecDepth 100000 in
set_option maxHeartbeats 1000000 in
/-- there are too few counters. -/
theorem stream_no (K Nn : List Int) (c : Int) (A : Option Addr) (n cap : Nat) (hsm : n ≤ 200000) (c0 : 0 ≤ c) (c1 : c < 4294967296) (cb : ¬ c + (nbl n : Nat) ≤ 4294967296) (w : World) :
    Calls Tryd.prog 39 #[.agg (u8s K), .int .u32 c, .agg (u8s Nn), .slice A n cap] w fun e' w' => e' = .returned (.tuple #[.slice none 0 0, .int .i64 13]) ∧ Below w.heap.size w w' := by
  have HBL := Lib.hid (blocksOf_any n (by omega))
  have hgt : 4294967296 < c + ((nbl n : Nat) : Int) := by omega
  have hnb : ((nbl n : Nat) : Int) ≤ 200000 := by unfold nbl; omega
  have c1' : c ≤ 4294967295 := by omega
  clear cb c1 hsm
  refine (callsIn_wide (n := 8)).1 ?_
  refine callsIn_of_wp_marks Tryd.func39 rfl trivial ?_ rfl
  simp only [Tryd.ntmps39, List.size_toArray, List.length_cons, List.length_nil, Nat.reduceAdd, Nat.reduceSub, Array.replicate_succ, Array.replicate_zero, List.push_toArray, List.append_toArray, List.nil_append, List.cons_append]
  gi_wp2_with (refine ⟨trivial, ?_⟩; gi_at_call 50; refine (callsIn_wide.2 (HBL.out _)).mono ?_; rintro e w' ⟨rfl, rfl⟩)
  exact ⟨_, results_tmp2 rfl _ _ _, rfl, ((Below.refl _ _).alloc (Nat.le_refl _) _).alloc (by simp) _⟩
/-- chacha.Stream: what it returns. -/
theorem stream_any (K Nn L : List Int) (c : Int) (A : Option Addr) (n cap : Nat) (hK : K.length = 32) (hN : Nn.length = 12) (bK : InB K) (bN : InB Nn) (hl : L.length = n) (hsm : n ≤ 200000) (c0 : 0 ≤ c) (c1 : c < 4294967296) (cb : c + (nbl n : Nat) ≤ 4294967296) (w : World) (hB : Byt w A cap L) (hL : Laid w) :
    Calls Tryd.prog 39 #[.agg (u8s K), .int .u32 c, .agg (u8s Nn), .slice A n cap] w fun e' w' => ∃ A' c', e' = .returned (.tuple #[.slice A' n c', .int .i64 0]) ∧ Byt w' A' c' (streamL K c Nn L) ∧ Below w.heap.size w w' := by
  by_cases h0 : n = 0
  · subst h0
    obtain rfl : L = [] := List.eq_nil_of_length_eq_zero hl
    exact stream_zero K Nn c A cap c0 c1 w
  · refine (stream_new K Nn L c A n cap hK hN bK bN hl (by omega) hsm c0 cb w hB hL).mono ?_
    rintro e w' ⟨g, c', h1, h2, h3, _⟩
    exact ⟨_, c', h1, h2, h3⟩
end Go.Proofs.YtgkmbamoffolgaaDoor.Cha
/- DERIVED. What a stream's stream is; a stream's beginning; a stream from a later block on. -/
namespace Go.Proofs.YtgkmbamoffolgaaDoor.Cha
open Go.RowKit
theorem xor8_back {a k : Int} (h1 : 0 ≤ a) (h2 : a < 256) (h3 : 0 ≤ k) (h4 : k < 256) : bits .xor .u8 (bits .xor .u8 a k) k = a := by
  have hx : (0 : Int) ≤ bits .xor .u8 a k ∧ bits .xor .u8 a k < 256 := by
    rw [u8_xor a k h1 h2 h3 h4]
    have : a.toNat ^^^ k.toNat < 2 ^ 8 := Nat.xor_lt_two_pow (by omega) (by omega)
    omega
  rw [u8_xor _ k hx.1 hx.2 h3 h4, u8_xor a k h1 h2 h3 h4, Int.toNat_natCast, Nat.xor_assoc, Nat.xor_self, Nat.xor_zero]
  omega
theorem strF_in (K : List Int) (c : Int) (Nn L : List Int) (hL : InB L) (j : Nat) : 0 ≤ strF K c Nn L j ∧ strF K c Nn L j < 256 := by
  have ha := hL j
  have hk := blockL_in K (c + (j / 64 : Nat)) Nn (j % 64)
  unfold strF
  rw [u8_xor _ _ ha.1 ha.2 hk.1 hk.2]
  have : (L.getD j 0).toNat ^^^ ((blockL K (c + (j / 64 : Nat)) Nn).getD (j % 64) 0).toNat < 2 ^ 8 := Nat.xor_lt_two_pow (by omega) (by omega)
  omega
theorem streamL_in (K : List Int) (c : Int) (Nn L : List Int) (hL : InB L) : InB (streamL K c Nn L) := by
  intro j
  by_cases h : j < L.length
  · rw [streamL_getD _ _ _ _ _ h]; exact strF_in K c Nn L hL j
  · rw [getD_out _ _ (by rw [streamL_length]; omega)]; omega
theorem stream_twice (K : List Int) (c : Int) (Nn L : List Int) (hL : InB L) : streamL K c Nn (streamL K c Nn L) = L := by
  apply List.ext_getElem (by rw [streamL_length, streamL_length])
  intro j h1 h2
  have e1 : (streamL K c Nn (streamL K c Nn L))[j] = (streamL K c Nn (streamL K c Nn L)).getD j 0 := by simp [List.getD_eq_getElem?_getD, h1]
  have e2 : L[j] = L.getD j 0 := by simp [List.getD_eq_getElem?_getD, h2]
  rw [e1, e2, streamL_getD _ _ _ _ _ (by rw [streamL_length]; exact h2)]
  unfold strF
  rw [streamL_getD _ _ _ _ _ h2]
  exact xor8_back (hL j).1 (hL j).2 (blockL_in _ _ _ _).1 (blockL_in _ _ _ _).2
theorem stream_take (K : List Int) (c : Int) (Nn L : List Int) (k : Nat) (hk : k ≤ L.length) : streamL K c Nn (L.take k) = (streamL K c Nn L).take k := by
  apply List.ext_getElem?
  intro j
  rw [List.getElem?_take]
  unfold streamL
  rw [List.getElem?_map, List.getElem?_map, List.length_take]
  by_cases h : j < k
  · rw [if_pos h, List.getElem?_range (by rw [Nat.min_eq_left hk]; exact h), List.getElem?_range (by omega)]
    simp only [Option.map_some]
    unfold strF
    rw [show (L.take k).getD j 0 = L.getD j 0 by simp [List.getD_eq_getElem?_getD, h]]
  · rw [if_neg h, List.getElem?_eq_none (by rw [List.length_range, Nat.min_eq_left hk]; omega)]
    simp only [Option.map_none]
theorem stream_drop (K : List Int) (c : Int) (Nn L : List Int) (q : Nat) : streamL K (c + (q : Nat)) Nn (L.drop (64 * q)) = (streamL K c Nn L).drop (64 * q) := by
  apply List.ext_getElem?
  intro j
  rw [List.getElem?_drop]
  unfold streamL
  rw [List.getElem?_map, List.getElem?_map, List.length_drop]
  by_cases h : j < L.length - 64 * q
  · rw [List.getElem?_range h, List.getElem?_range (by omega)]
    simp only [Option.map_some]
    unfold strF
    rw [show (L.drop (64 * q)).getD j 0 = L.getD (64 * q + j) 0 by simp [List.getD_eq_getElem?_getD, List.getElem?_drop], show (64 * q + j) / 64 = q + j / 64 by omega, show (64 * q + j) % 64 = j % 64 by omega, show c + ((q : Nat) : Int) + ((j / 64 : Nat) : Int) = c + ((q + j / 64 : Nat) : Int) by omega]
  · rw [List.getElem?_eq_none (by simp; omega), List.getElem?_eq_none (by simp; omega)]
    simp only [Option.map_none]
/-- a slice of bytes as a text, empty ones let in. -/
theorem conv_any {w : World} {A : Option Addr} {c n : Nat} {L : List Int} (hB : Byt w A c L) (hn : L.length = n) : (convert 24 9 (.slice A n c)).run Tryd.prog w = .ok (.string (strOfNums L)) w := by
  by_cases h0 : 0 < n
  · obtain ⟨g, off, rfl, _, hc⟩ := hB.2.2 (by omega)
    exact run_convert_bytes_arg w 24 5 Tryd.underlying24 Tryd.underlying5 g off n c L hn (fun i hi => hc i (by omega)) 9 Tryd.underlying9
  · obtain rfl : n = 0 := by omega
    obtain rfl : L = [] := List.eq_nil_of_length_eq_zero hn
    cases A with
    | none => exact run_convert_bytes_nil w 24 5 Tryd.underlying24 Tryd.underlying5 0 c 9 Tryd.underlying9
    | some a =>
      rw [run_convert_bytes_string w 24 9 5 _ 0 c Tryd.underlying24 Tryd.underlying5 Tryd.underlying9]
      simp [Conv.bytesToString, loadCells, loadCellsFrom, strOfNums]
      rfl
/-- a slice's beginning. -/
theorem byt_take {w : World} {A : Option Addr} {c : Nat} {L : List Int} (h : Byt w A c L) (k : Nat) : Byt w A c (L.take k) := by
  obtain ⟨h1, h2, h3⟩ := h
  refine ⟨by rw [List.length_take]; omega, h2, fun h0 => ?_⟩
  rw [List.length_take] at h0
  obtain ⟨g, off, e, hg, hc⟩ := h3 (by omega)
  refine ⟨g, off, e, hg, fun j hj => ?_⟩
  rw [List.length_take] at hj
  rw [hc j (by omega)]
  simp [List.getD_eq_getElem?_getD, show j < k by omega]
theorem nbl_mono {a b : Nat} (h : a ≤ b) : nbl a ≤ nbl b := by unfold nbl; omega
theorem nbl_drop {n q : Nat} (h : 64 * q < n) : nbl n = q + nbl (n - 64 * q) := by unfold nbl; omega
theorem streamL_nil (K : List Int) (c : Int) (Nn : List Int) : streamL K c Nn [] = [] := rfl
end Go.Proofs.YtgkmbamoffolgaaDoor.Cha
/- DERIVED. Sealed records (layer 11), on plain lists; no program but chapter 3's stream and chapter 2's tags. -/
namespace Go.Proofs.YtgkmbamoffolgaaDoor.Seal
open Go.RowKit
/-- the bucket: at most k doublings are left. -/
def bkA (n : Nat) : Nat → Nat → Nat
  | 0, b => b
  | k + 1, b => if b < n + 4 then bkA n k (2 * b) else b
def bkt (n : Nat) : Nat := bkA n 11 64
def bktI (n : Int) : Int := if n < 0 ∨ 131068 < n then 0 else (bkt n.toNat : Int)
/-- what the loop keeps: k doublings are left. -/
def BkI (n b : Nat) : Prop := ∃ k, bkA n k b = bkt n ∧ b * 2 ^ k = 131072
theorem BkI.start (n : Nat) : BkI n 64 := ⟨11, rfl, by decide⟩
theorem BkI.next {n b : Nat} (h : BkI n b) (hb : b < n + 4) (hn : n ≤ 131068) : BkI n (2 * b) := by
  obtain ⟨k, hk, he⟩ := h
  cases k with
  | zero => simp at he; omega
  | succ k =>
    refine ⟨k, ?_, ?_⟩
    · rw [← hk]; show _ = (if b < n + 4 then _ else _); rw [if_pos hb]
    · rw [← he, Nat.pow_succ]; rw [Nat.mul_comm 2 b, Nat.mul_assoc, Nat.mul_comm 2]
theorem BkI.le {n b : Nat} (h : BkI n b) : b ≤ 131072 := by
  obtain ⟨k, _, he⟩ := h
  rw [← he]; exact Nat.le_mul_of_pos_right _ (Nat.two_pow_pos _)
theorem BkI.pos {n b : Nat} (h : BkI n b) : 0 < b := by
  obtain ⟨k, _, he⟩ := h
  rcases Nat.eq_zero_or_pos b with rfl | h
  · simp at he
  · exact h
theorem BkI.end {n b : Nat} (h : BkI n b) (hb : ¬ b < n + 4) : b = bkt n := by
  obtain ⟨k, hk, _⟩ := h
  cases k with
  | zero => exact hk
  | succ k => rw [← hk]; show _ = (if b < n + 4 then _ else _); rw [if_neg hb]
/-- what buckets are. -/
theorem bkt_is (n : Nat) (hn : n ≤ 131068) : n + 4 ≤ bkt n ∧ (∃ j, j < 12 ∧ bkt n = 64 * 2 ^ j) := by
  have go : ∀ k j b, b = 64 * 2 ^ j → j + k = 11 → n + 4 ≤ bkA n k b ∧ ∃ j, j < 12 ∧ bkA n k b = 64 * 2 ^ j := by
    intro k
    induction k with
    | zero => intro j b hb hj; obtain rfl : j = 11 := by omega
              refine ⟨?_, 11, by decide, hb⟩
              show n + 4 ≤ b
              rw [hb]; show n + 4 ≤ 131072; omega
    | succ k ih =>
      intro j b hb hj
      show n + 4 ≤ (if b < n + 4 then _ else _) ∧ ∃ j, j < 12 ∧ (if b < n + 4 then _ else _) = 64 * 2 ^ j
      by_cases h : b < n + 4
      · rw [if_pos h]
        exact ih (j + 1) (2 * b) (by rw [hb, Nat.pow_succ]; omega) (by omega)
      · rw [if_neg h]
        exact ⟨by omega, j, by omega, hb⟩
  exact go 11 0 64 rfl rfl
theorem bkt_ge {n : Nat} (hn : n ≤ 131068) : n + 4 ≤ bkt n := (bkt_is n hn).1
theorem bkt_le {n : Nat} (hn : n ≤ 131068) : bkt n ≤ 131072 ∧ 64 ≤ bkt n := by
  obtain ⟨_, j, hj, e⟩ := bkt_is n hn
  rw [e]
  have h1 : 2 ^ j ≤ 2 ^ 11 := Nat.pow_le_pow_right (by decide) (by omega)
  have h2 : 0 < 2 ^ j := Nat.two_pow_pos _
  exact ⟨by omega, by omega⟩
/-- the buckets: 64 to 131072. -/
def isBk (n : Int) : Prop := n = 64 ∨ n = 128 ∨ n = 256 ∨ n = 512 ∨ n = 1024 ∨ n = 2048 ∨ n = 4096 ∨ n = 8192 ∨ n = 16384 ∨ n = 32768 ∨ n = 65536 ∨ n = 131072
instance (n : Int) : Decidable (isBk n) := by unfold isBk; infer_instance
theorem bkt_bk {n : Nat} (hn : n ≤ 131068) : isBk (bkt n : Int) := by
  obtain ⟨_, j, hj, e⟩ := bkt_is n hn
  rw [e]
  obtain rfl | rfl | rfl | rfl | rfl | rfl | rfl | rfl | rfl | rfl | rfl | rfl : j = 0 ∨ j = 1 ∨ j = 2 ∨ j = 3 ∨ j = 4 ∨ j = 5 ∨ j = 6 ∨ j = 7 ∨ j = 8 ∨ j = 9 ∨ j = 10 ∨ j = 11 := by omega
  all_goals decide
theorem isBk_iff (n : Int) : isBk n ↔ 64 ≤ n ∧ bktI (n - 4) = n := by
  constructor
  · rintro (rfl | rfl | rfl | rfl | rfl | rfl | rfl | rfl | rfl | rfl | rfl | rfl) <;> decide
  · rintro ⟨h1, h2⟩
    unfold bktI at h2
    split at h2
    · omega
    · rename_i h3
      rw [← h2]
      exact bkt_bk (by omega)
/-- a number as so many bytes, the greatest first. -/
def numL (n : Nat) : Nat → List Int
  | 0 => []
  | k + 1 => ((n / 256 ^ k % 256 : Nat) : Int) :: numL n k
theorem numL_length (n k : Nat) : (numL n k).length = k := by
  induction k with
  | zero => rfl
  | succ k ih => simp [numL, ih]
theorem numL_in (n k : Nat) : InB (numL n k) := by
  induction k with
  | zero => intro j; simp [numL]
  | succ k ih =>
    intro j
    cases j with
    | zero => simp [numL]; omega
    | succ j => simpa [numL] using ih j
/-- the number of four bytes. -/
def be4 (L : List Int) : Int := L.getD 0 0 * 16777216 + L.getD 1 0 * 65536 + L.getD 2 0 * 256 + L.getD 3 0
theorem numL4 (n : Nat) : numL n 4 = [((n / 16777216 % 256 : Nat) : Int), ((n / 65536 % 256 : Nat) : Int), ((n / 256 % 256 : Nat) : Int), ((n % 256 : Nat) : Int)] := by
  simp [numL]
theorem be4_numL (n : Nat) (h : n < 4294967296) : be4 (numL n 4) = n := by
  rw [numL4]; simp [be4]; omega
theorem be4_in {L : List Int} (h : InB L) : 0 ≤ be4 L ∧ be4 L < 4294967296 := by
  have := h 0; have := h 1; have := h 2; have := h 3
  unfold be4; omega
theorem numL_be4 {L : List Int} (h : InB L) (hl : L.length = 4) : numL (be4 L).toNat 4 = L := by
  obtain ⟨a, b, c, d, rfl⟩ : ∃ a b c d, L = [a, b, c, d] := by
    match L, hl with
    | [a, b, c, d], _ => exact ⟨a, b, c, d, rfl⟩
  have h0 := h 0; have h1 := h 1; have h2 := h 2; have h3 := h 3
  simp at h0 h1 h2 h3
  rw [numL4]
  simp only [be4, List.getD_cons_zero, List.getD_cons_succ]
  congr 1
  · omega
  congr 1
  · omega
  congr 1
  · omega
  congr 1
  · omega
theorem getD_take4 {L : List Int} {n j : Nat} (h : j < n) : (L.take n).getD j 0 = L.getD j 0 := by
  simp [List.getD_eq_getElem?_getD, h]
theorem be4_take (L : List Int) : be4 (L.take 4) = be4 L := by
  unfold be4
  rw [getD_take4 (by decide), getD_take4 (by decide), getD_take4 (by decide), getD_take4 (by decide)]
def zeros (n : Nat) : List Int := List.replicate n 0
theorem zeros_in (n : Nat) : InB (zeros n) := by
  intro j; unfold zeros
  rw [List.getD_eq_getElem?_getD, List.getElem?_replicate]; split <;> simp
/-- the padded plaintext. -/
def padL (L : List Int) : List Int := numL L.length 4 ++ (L ++ zeros (bkt L.length - 4 - L.length))
theorem padL_length {L : List Int} (h : L.length ≤ 131068) : (padL L).length = bkt L.length := by
  have := bkt_ge h
  simp [padL, numL_length, zeros]; omega
theorem padL_in {L : List Int} (h : InB L) : InB (padL L) := (numL_in _ _).append (h.append (zeros_in _))
/-- the record whose padded plaintext it is. -/
def unpad (P : List Int) : Option (List Int) :=
  if bktI (be4 P) = P.length ∧ P.drop (4 + (be4 P).toNat) = zeros (P.length - (4 + (be4 P).toNat)) then some ((P.drop 4).take (be4 P).toNat) else none
theorem be4_pad (L : List Int) (h : L.length ≤ 131068) : be4 (padL L) = L.length := by
  have e : be4 (padL L) = be4 (numL L.length 4) := by
    rw [← be4_take]; unfold padL
    rw [List.take_append_of_le_length (by rw [numL_length]; exact Nat.le_refl _), List.take_of_length_le (by rw [numL_length]; exact Nat.le_refl _)]
  rw [e, be4_numL _ (by omega)]
theorem pad_drop4 (L : List Int) : (padL L).drop 4 = L ++ zeros (bkt L.length - 4 - L.length) := by
  unfold padL
  rw [List.drop_append_of_le_length (by rw [numL_length]; exact Nat.le_refl _), List.drop_of_length_le (by rw [numL_length]; exact Nat.le_refl _), List.nil_append]
theorem unpad_pad (L : List Int) (h : L.length ≤ 131068) : unpad (padL L) = some L := by
  have hg := bkt_ge h
  unfold unpad
  rw [be4_pad L h, padL_length h, Int.toNat_natCast, if_pos, pad_drop4, List.take_append_of_le_length (Nat.le_refl _), List.take_length]
  refine ⟨?_, ?_⟩
  · unfold bktI; rw [if_neg (by omega), Int.toNat_natCast]
  · rw [← List.drop_drop, pad_drop4, List.drop_append_of_le_length (Nat.le_refl _), List.drop_length, List.nil_append]
    congr 1; omega
theorem pad_unpad {P L : List Int} (hP : InB P) (h : unpad P = some L) : P = padL L ∧ L.length ≤ 131068 ∧ be4 P = L.length := by
  unfold unpad at h
  split at h
  · rename_i hc
    obtain ⟨h1, h2⟩ := hc
    cases h
    have hb := be4_in hP
    obtain ⟨n, hn⟩ : ∃ n : Nat, be4 P = n := ⟨(be4 P).toNat, by omega⟩
    rw [hn] at h1 h2 ⊢
    rw [Int.toNat_natCast] at h2 ⊢
    have hb1 : n ≤ 131068 := by
      unfold bktI at h1
      split at h1
      · exfalso
        have h0 : P = [] := List.eq_nil_of_length_eq_zero (by omega)
        subst h0
        have : be4 [] = 0 := by decide
        omega
      · omega
    have hbk : bkt n = P.length := by
      unfold bktI at h1
      rw [if_neg (by omega), Int.toNat_natCast] at h1; omega
    have hge := bkt_ge hb1
    have hl : ((P.drop 4).take n).length = n := by rw [List.length_take, List.length_drop]; omega
    refine ⟨?_, by omega, by rw [hl]⟩
    have h4 : P = P.take 4 ++ (P.drop 4) := (List.take_append_drop 4 P).symm
    unfold padL
    rw [hl, hbk]
    have e1 : numL n 4 = P.take 4 := by
      have := numL_be4 (L := P.take 4) (hP.take 4) (by rw [List.length_take]; omega)
      rw [be4_take, hn, Int.toNat_natCast] at this
      exact this
    rw [e1]
    have e2 : (P.drop 4).take n ++ zeros (P.length - 4 - n) = P.drop 4 := by
      have h3 : P.drop (4 + n) = (P.drop 4).drop n := by rw [List.drop_drop]
      rw [show P.length - 4 - n = P.length - (4 + n) by omega, ← h2, h3, List.take_append_drop]
    rw [e2, List.take_append_drop]
  · cases h
/-- a place's nonce; the keys; the body; the tag. -/
def nonceL (pos ep : Nat) : List Int := numL ep 4 ++ numL pos 8
theorem nonceL_length (pos ep : Nat) : (nonceL pos ep).length = 12 := by simp [nonceL, numL_length]
theorem nonceL_in (pos ep : Nat) : InB (nonceL pos ep) := (numL_in _ _).append (numL_in _ _)
def encName : List Int := [101, 110, 99, 114, 121, 112, 116]
def tagName : List Int := [116, 97, 103]
def keyL (k nm cx : List Int) : List Int := hmacL k (partL nm ++ partL cx)
def bodyL (k cx : List Int) (pos ep : Nat) (P : List Int) : List Int := Cha.streamL (keyL k encName cx) 1 (nonceL pos ep) P
def taggedL (cx : List Int) (pos ep : Nat) (B : List Int) : List Int := numL cx.length 4 ++ cx ++ numL pos 8 ++ numL ep 4 ++ B
def tagL (k cx : List Int) (pos ep : Nat) (B : List Int) : List Int := hmacL (keyL k tagName cx) (taggedL cx pos ep B)
def sealL (k cx : List Int) (pos ep : Nat) (L : List Int) : List Int := numL ep 4 ++ bodyL k cx pos ep (padL L) ++ tagL k cx pos ep (bodyL k cx pos ep (padL L))
/-- what is opened: none is ErrTamper. -/
def openL (k cx : List Int) (pos : Nat) (S : List Int) : Option (List Int × Nat) :=
  if isBk ((S.length : Int) - 36) then
    if tagL k cx pos (be4 S).toNat ((S.drop 4).take (S.length - 36)) = S.drop (S.length - 32) then
      (unpad (bodyL k cx pos (be4 S).toNat ((S.drop 4).take (S.length - 36)))).map fun L => (L, (be4 S).toNat)
    else none
  else none
end Go.Proofs.YtgkmbamoffolgaaDoor.Seal
/- DERIVED. The contracts of seal.Bucket, Most, isBucket, read. -/
namespace Go.Proofs.YtgkmbamoffolgaaDoor.Seal
open Go.RowKit
theorem most_any (w : World) : Calls Tryd.prog 17 #[] w fun e w' => e = .returned (.int .i64 131068) ∧ w = w' := by
  go_enter Tryd.func17, Tryd.ntmps17
  go_wp2
  go_ret
  exact ⟨rfl, rfl⟩
theorem ret_i64 {a b : Int} (h : a = b) : Ending.returned (.int .i64 a) = .returned (.int .i64 b) := by rw [h]
set_option maxRecDepth 100000 in
theorem bucket_any (n : Int) (w : World) : Calls Tryd.prog 13 #[.int .i64 n] w fun e w' => e = .returned (.int .i64 (bktI n)) ∧ w = w' := by
  by_cases h0 : n < 0
  · have e : Hid (0 = bktI n) := by unfold Hid bktI; rw [if_pos (Or.inl h0)]
    go_enter Tryd.func13, Tryd.ntmps13
    go_wp2
    go_ret
    exact ⟨ret_i64 e.out, rfl⟩
  by_cases h1 : 131068 < n
  · have e : Hid (0 = bktI n) := by unfold Hid bktI; rw [if_pos (Or.inr h1)]
    go_enter Tryd.func13, Tryd.ntmps13
    go_wp2_with (go_at_call 17; refine (most_any _).mono ?_; rintro e w' ⟨rfl, rfl⟩)
    go_ret
    exact ⟨ret_i64 e.out, rfl⟩
  obtain ⟨m, rfl⟩ : ∃ m : Nat, n = m := ⟨n.toNat, by omega⟩
  have hm : m ≤ 131068 := by omega
  have E : Hid (((bkt m : Nat) : Int) = bktI m) := by unfold Hid bktI; rw [if_neg (by omega), Int.toNat_natCast]
  have h1' : ¬ (131068 < (m : Int)) := by omega
  go_enter Tryd.func13, Tryd.ntmps13
  go_upto_region 4 with (go_at_call 17; refine (most_any _).mono ?_; rintro e w' ⟨rfl, rfl⟩)
  go_loopw [3] (fun v wr => ∃ b : Nat, v = .int .i64 b ∧ Hid (BkI m b) ∧ wr = w) (fun v _ => 131072 - (intOf v).toNat)
  case atStart => exact ⟨64, rfl, BkI.start m, rfl⟩
  case round =>
    obtain ⟨b, rfl, hb, rfl⟩ := hrel
    have hle := hb.out.le
    have hps := hb.out.pos
    have hmI : (m : Int) ≤ 131068 := by omega
    have hbI : (b : Int) ≤ 131072 := by omega
    by_cases hlt : b < m + 4
    · have hltI : (b : Int) < 4 + (m : Int) := by omega
      have Hn := Lib.hid (hb.out.next hlt hm)
      have hn2 := Hn.out.le
      have hn2I : 2 * (b : Int) ≤ 131072 := by omega
      go_wp2
      refine ⟨⟨2 * b, by go_num, Hn.out, trivial⟩, by simp [intOf]; omega⟩
    · have hltI : ¬ (b : Int) < 4 + (m : Int) := by omega
      have He := Lib.hid (hb.out.end hlt)
      go_wp2
      go_ret
      exact ⟨ret_i64 (by rw [He.out, E.out]), rfl⟩
theorem isBk_pos {n : Int} (h : isBk n) : 64 ≤ n ∧ n ≤ 131072 ∧ bktI (n - 4) = n := by
  refine ⟨((isBk_iff n).1 h).1, ?_, ((isBk_iff n).1 h).2⟩
  rcases h with rfl | rfl | rfl | rfl | rfl | rfl | rfl | rfl | rfl | rfl | rfl | rfl <;> decide
set_option maxRecDepth 100000 in
theorem isBucket_any (n : Int) (h1 : -36 ≤ n) (hmx : n ≤ 9223372036854775807) (w : World) : Calls Tryd.prog 30 #[.int .i64 n] w fun e w' => e = .returned (.bool (decide (isBk n))) ∧ w = w' := by
  by_cases h0 : n < 64
  · have e : decide (isBk n) = false := decide_eq_false fun h => by have := isBk_pos h; omega
    rw [e]
    have h0' : ¬ (64 : Int) ≤ n := by omega
    go_enter Tryd.func30, Tryd.ntmps30
    go_wp2
    go_ret
    exact ⟨rfl, rfl⟩
  have h0' : (64 : Int) ≤ n := by omega
  obtain ⟨z, hz⟩ : ∃ z, z = bktI (n - 4) := ⟨_, rfl⟩
  have hb : Hid (∀ w, Calls Tryd.prog 13 #[.int .i64 (n - 4)] w fun e w' => e = .returned (.int .i64 z) ∧ w = w') := fun w => by rw [hz]; exact bucket_any (n - 4) w
  have e : decide (isBk n) = decide (z = n) := by
    have := isBk_iff n
    rw [← hz] at this
    by_cases h2 : z = n
    · rw [decide_eq_true h2, decide_eq_true (this.2 ⟨h0', h2⟩)]
    · rw [decide_eq_false h2, decide_eq_false fun h => h2 (this.1 h).2]
  rw [e]
  clear e hz
  by_cases h2 : z = n
  · subst h2
    rw [decide_eq_true rfl]
    go_enter Tryd.func30, Tryd.ntmps30
    go_wp2_with (go_at_call 13; refine (hb.out _).mono ?_; rintro e w' ⟨rfl, rfl⟩)
    go_ret
    simp
  · rw [decide_eq_false h2]
    have hne : (z == n) = false := beq_eq_false_iff_ne.2 h2
    go_enter Tryd.func30, Tryd.ntmps30
    go_wp2_with (go_at_call 13; refine (hb.out _).mono ?_; rintro e w' ⟨rfl, rfl⟩)
    go_ret
    simp
end Go.Proofs.YtgkmbamoffolgaaDoor.Seal
/- DERIVED. The contracts of seal.number and seal.read. -/
namespace Go.Proofs.YtgkmbamoffolgaaDoor.Seal
open Go.RowKit
theorem info8 : (Tryd.prog.info? 5).map (fun i => (i.zero, i.size, i.bytes)) = some (some (.int .u8 0), 1, 1) := by kernel_rfl
theorem made_zeros (n : Nat) : madeCells (Value.cells (.int .u8 0)) n = u8s (zeros n) := by
  apply Array.ext_getElem?
  intro j
  by_cases h : j < n
  · simp [madeCells, u8s, zeros, h, Value.cells, Nat.mod_one]
  · simp [madeCells, u8s, zeros, h]
theorem mk_any (n : Nat) (hn : n ≤ 4294967296) (w : World) : (Instr.makeSlice 24 (.int .i64 n) (.int .i64 n)).run Tryd.prog w = .ok (.slice (some ⟨w.heap.size, 0, none⟩) n n) (w.alloc (.cells (u8s (zeros n)) 5)) := by
  obtain ⟨i0, hi, hz0, hz1, hz2⟩ := info_parts info8
  have h := run_make (P := Tryd.prog) w 24 5 i0 (.int .u8 0) Tryd.underlying24 hi hz0 .i64 .i64 n n (by omega) (by omega) (by rw [hz2]; omega) (by omega)
  rw [hz1] at h
  rw [h, Int.toNat_natCast, Nat.mul_one, made_zeros]
/-- what the loop has written behind i rounds. -/
def numI (n k i : Nat) : List Int := zeros (k - i) ++ numL n i
theorem numI_length {n k i : Nat} (h : i ≤ k) : (numI n k i).length = k := by simp [numI, zeros, numL_length]; omega
theorem numI_set {n k i : Nat} (h : i < k) : (numI n k i).set (k - 1 - i) ((n / 256 ^ i % 256 : Nat) : Int) = numI n k (i + 1) := by
  unfold numI zeros
  obtain ⟨m, hm⟩ : ∃ m, k - i = m + 1 := ⟨k - i - 1, by omega⟩
  rw [hm, show k - 1 - i = m by omega, show k - (i + 1) = m by omega, List.replicate_succ', List.append_assoc, List.set_append_right _ _ (by simp), List.length_replicate, Nat.sub_self]
  rfl
theorem shr_wrap (n i : Nat) : (n : Int) / 2 ^ (8 * i) % 256 = ((n / 256 ^ i % 256 : Nat) : Int) := by
  have e : (2 : Int) ^ (8 * i) = ((256 ^ i : Nat) : Int) := by
    rw [Int.pow_mul]; simp
  rw [e]; omega
set_option maxRecDepth 100000 in
set_option maxHeartbeats 1000000 in
theorem number_any (n k : Nat) (hk : k ≤ 8) (hn : n < 18446744073709551616) (w : World) : Calls Tryd.prog 26 #[.int .u64 (n : Int), .int .i64 (k : Int)] w fun e w' => e = .returned (.slice (some ⟨w.heap.size, 0, none⟩) k k) ∧ w'.heap[w.heap.size]? = some (.cells (u8s (numL n k)) 5 (0, 0)) ∧ Below w.heap.size w w' := by
  have km := Lib.hid (fun w => mk_any k (by omega) w)
  have hkI : (k : Int) ≤ 8 := by omega
  have hnI : (n : Int) < 18446744073709551616 := by omega
  go_enter Tryd.func26, Tryd.ntmps26
  have km0 := km.out w
  go_upto_region 3 with (fail)
  have r0 := Go.heap_alloc_new w (.cells (u8s (zeros k)) 5)
  have b0 : Below w.heap.size w (w.alloc (.cells (u8s (zeros k)) 5)) := (Below.refl _ _).alloc (Nat.le_refl _) _
  have s0 : w.heap.size < (w.alloc (.cells (u8s (zeros k)) 5)).heap.size := by rw [World.size_alloc]; omega
  clear km0 km
  generalize w.alloc _ = w0 at r0 b0 s0 ⊢
  go_loopw [11] (fun v wr => ∃ i : Nat, i ≤ k ∧ v = .int .i64 i ∧ Hid (wr.heap[w.heap.size]? = some (.cells (u8s (numI n k i)) 5 (0, 0))) ∧ Hid (Below w.heap.size w wr)) (fun v _ => k - (intOf v).toNat)
  case atStart => exact ⟨0, Nat.zero_le _, rfl, by show _ = _; rw [r0]; simp [numI, numL], b0⟩
  case round =>
    obtain ⟨i, hi, rfl, hr, hb⟩ := hrel
    clear r0 b0 s0
    by_cases hlt : i < k
    · have hltI : (i : Int) < (k : Int) := by omega
      obtain ⟨j, hj⟩ : ∃ j, j = k - 1 - i := ⟨_, rfl⟩
      have e : (k : Int) - 1 - (i : Int) = (j : Int) := by omega
      have hjk : (j : Int) < (k : Int) := by omega
      have hjn : j < k := by omega
      have hset := numI_set (n := n) hlt
      rw [← hj] at hset
      have hsh := shr_wrap n i
      obtain ⟨d, hd⟩ : ∃ d : Int, d = ((n / 256 ^ i % 256 : Nat) : Int) := ⟨_, rfl⟩
      rw [← hd] at hset hsh
      have hc := row8_cell hr.out j (by rw [numI_length hi]; exact hjn)
      have hf := free_row hr.out j
      have Hr2 := row8_set hr.out j d
      rw [hset] at Hr2
      have HR := Lib.hid Hr2
      have Hset := Lib.hid hset
      have hiI : (i : Int) < 8 := by omega
      clear Hr2 hset hd hj
      have Hsh := Lib.hid hsh
      clear hsh
      go_wp2
      rw [Hsh.out]
      exact ⟨⟨i + 1, by omega, by go_num, HR.out, Below.setCell (p := ⟨w.heap.size, j, none⟩) hb.out (Nat.le_refl _) _⟩, by simp [intOf]; omega⟩
    · have hltI : ¬ (i : Int) < (k : Int) := by omega
      obtain rfl : i = k := by omega
      go_wp2
      go_ret
      exact ⟨rfl, by have := hr.out; rwa [numI, Nat.sub_self, zeros, List.replicate_zero, List.nil_append] at this, hb.out⟩
theorem or_shift8 (a b i : Nat) (hb : b < 2 ^ i) : a * 2 ^ i ||| b = a * 2 ^ i + b := by
  have h := Nat.shiftLeft_add_eq_or_of_lt hb a
  rw [Nat.shiftLeft_eq] at h
  exact h.symm
theorem u32_sum8 (a b i : Nat) (hb : b < 2 ^ i) (ha : a * 2 ^ i < 4294967296) (hb2 : b < 4294967296) : bits .or .u32 ((a * 2 ^ i : Nat) : Int) (b : Int) = ((a * 2 ^ i + b : Nat) : Int) := by
  rw [u32_or_nat _ _ ha hb2, or_shift8 a b i hb]
theorem word4_be (a b c d : Int) (ha : 0 ≤ a ∧ a < 256) (hb : 0 ≤ b ∧ b < 256) (hc : 0 ≤ c ∧ c < 256) (hd : 0 ≤ d ∧ d < 256) : word4 a b c d = a * 16777216 + b * 65536 + c * 256 + d := by
  obtain ⟨A, rfl⟩ := Int.eq_ofNat_of_zero_le ha.1
  obtain ⟨B, rfl⟩ := Int.eq_ofNat_of_zero_le hb.1
  obtain ⟨C, rfl⟩ := Int.eq_ofNat_of_zero_le hc.1
  obtain ⟨D, rfl⟩ := Int.eq_ofNat_of_zero_le hd.1
  have h1 := u32_sum8 A (B * 65536) 24 (by omega) (by omega) (by omega)
  have h2 := u32_sum8 (A * 256 + B) (C * 256) 16 (by omega) (by omega) (by omega)
  have h3 := u32_sum8 ((A * 256 + B) * 256 + C) D 8 (by omega) (by omega) (by omega)
  unfold word4
  rw [show ((A : Int) * 16777216) = ((A * 2 ^ 24 : Nat) : Int) by omega, show ((B : Int) * 65536) = ((B * 65536 : Nat) : Int) by omega, h1,
    show ((A * 2 ^ 24 + B * 65536 : Nat) : Int) = (((A * 256 + B) * 2 ^ 16 : Nat) : Int) by omega, show ((C : Int) * 256) = ((C * 256 : Nat) : Int) by omega, h2,
    show (((A * 256 + B) * 2 ^ 16 + C * 256 : Nat) : Int) = ((((A * 256 + B) * 256 + C) * 2 ^ 8 : Nat) : Int) by omega, h3]
  omega
theorem read_cells (g off len cap : Nat) (a b c d : Int) (hl : 4 ≤ len) (w : World)
    (h0 : w.cell? ⟨g, off, none⟩ = some (.int .u8 a)) (h1 : w.cell? ⟨g, off + 1, none⟩ = some (.int .u8 b)) (h2 : w.cell? ⟨g, off + 2, none⟩ = some (.int .u8 c)) (h3 : w.cell? ⟨g, off + 3, none⟩ = some (.int .u8 d))
    (ha : 0 ≤ a ∧ a < 256) (hb : 0 ≤ b ∧ b < 256) (hc : 0 ≤ c ∧ c < 256) (hd : 0 ≤ d ∧ d < 256) :
    Calls Tryd.prog 31 #[.slice (some ⟨g, off, none⟩) len cap] w fun e w' => e = .returned (.int .u32 (word4 a b c d)) ∧ ∃ n, w' = w.drewN n := by
  obtain ⟨ha0, ha1⟩ := ha
  obtain ⟨hb0, hb1⟩ := hb
  obtain ⟨hc0, hc1⟩ := hc
  obtain ⟨hd0, hd1⟩ := hd
  have l0 : (0 : Int) < len := by omega
  have l1 : (1 : Int) < len := by omega
  have l2 : (2 : Int) < len := by omega
  have l3 : (3 : Int) < len := by omega
  go_enter Tryd.func31, Tryd.ntmps31
  go_wp2
  go_quiet (fail)
  go_wp2
  go_ret
  exact ⟨rfl, nq, rfl⟩
/-- read of a slice of four bytes or more. -/
theorem read_any (A : Option Addr) (n cap : Nat) (L : List Int) (w : World) (hB : Byt w A cap L) (hn : 4 ≤ n) (hl : 4 ≤ L.length) (hb : InB L) :
    Calls Tryd.prog 31 #[.slice A n cap] w fun e w' => e = .returned (.int .u32 (be4 L)) ∧ Below w.heap.size w w' := by
  obtain ⟨g, off, rfl, hg, hc⟩ := hB.2.2 (by omega)
  have h := read_cells g off n cap _ _ _ _ hn w (hc 0 (by omega)) (hc 1 (by omega)) (hc 2 (by omega)) (hc 3 (by omega)) (hb 0) (hb 1) (hb 2) (hb 3)
  refine h.mono ?_
  rintro e w' ⟨rfl, q, rfl⟩
  refine ⟨?_, Below.drewN (Below.refl _ _) q⟩
  rw [word4_be _ _ _ _ (hb 0) (hb 1) (hb 2) (hb 3)]
  rfl
end Go.Proofs.YtgkmbamoffolgaaDoor.Seal
