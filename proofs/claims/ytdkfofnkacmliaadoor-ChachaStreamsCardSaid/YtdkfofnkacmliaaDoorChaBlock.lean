/- DERIVED. The contract of chacha.Block. -/
import Derived.Test.YtdkfofnkacmliaaDoorChaRound
namespace Go.Proofs.YtdkfofnkacmliaaDoor.Cha
open Go.RowKit
/-- an array of words, at an index. -/
theorem index_arr32 {T : Nat} (n : Nat) (hu : Tryd.prog.underlying T = some (.array n 22)) (l : List Int) (hl : l.length = n) (k : Nat) (hk : k < n) (w : World) : (Instr.index T (.agg (u32s l)) (.int .i64 (k : Int))).run Tryd.prog w = .ok (.int .u32 (l.getD k 0)) w := by
  have ha : ∀ w', (isAgg 22).run Tryd.prog w' = .ok false w' := fun _ => by kernel_rfl
  have hs : ∀ w', (sizeOf 22).run Tryd.prog w' = .ok 1 w' := fun _ => by kernel_rfl
  simp [Instr.index, asIntOf, run_underlying hu, part, ha, hs, u32s_get l k (by omega)]
  exact fun h => absurd hk (by omega)
def zeros64 : List Int := List.replicate 64 0
/-- what the first loop of Block keeps. -/
structure BInv (S m : List Int) (B g : Nat) (w wr : World) : Prop where
  start : wr.heap[g]? = some (.cells (u32s S) 51 (0, 0))
  mixed : wr.heap[g + 1]? = some (.cells (u32s m) 51 (0, 0))
  res : wr.heap[B + 1 + 1]? = some (.cells (u8s zeros64) 31 (0, 0))
  hg : B + 1 + 1 < g
  low : Below B w wr
theorem BInv.next {S m m' : List Int} {B g : Nat} {w wr w' : World} (h : BInv S m B g w wr) (hb : Below wr.heap.size wr w') : BInv S m' B g w (w'.setRow (g + 1) (u32s m')) := by
  have h1 := (Array.getElem?_eq_some_iff.1 h.start).1
  have h2 := (Array.getElem?_eq_some_iff.1 h.mixed).1
  have h3 := (Array.getElem?_eq_some_iff.1 h.res).1
  have hg := h.hg
  refine ⟨?_, ?_, ?_, h.hg, below_setRow (h.low.trans (hb.mono (by omega))) (by omega) _⟩
  · rw [setRow_other _ _ _ _ (by omega)]; exact (hb.block _ h1).trans h.start
  · exact setRow_heap _ _ _ _ _ _ ((hb.block _ h2).trans h.mixed)
  · rw [setRow_other _ _ _ _ (by omega)]; exact (hb.block _ h3).trans h.res
/-- what the second loop keeps. -/
structure OInv (S M : List Int) (B g G k : Nat) (w wr : World) : Prop where
  start : wr.heap[g]? = some (.cells (u32s S) 51 (0, 0))
  res : wr.heap[B + 1 + 1]? = some (.cells (u8s zeros64) 31 (0, 0))
  row : ∃ C : Array Value, HoldsB C 64 (4 * k) (outF M S) ∧ wr.heap[G]? = some (.cells C 31 (0, 0))
  hg : B + 1 + 1 < g ∧ g < G
  low : Below B w wr
theorem OInv.set {S M : List Int} {B g G k : Nat} {w wr : World} (h : OInv S M B g G k w wr) (hk : k < 16) (x : Int) (hx : x = (M.getD k 0 + S.getD k 0) % 4294967296) :
    OInv S M B g G (k + 1) w ((((wr.setCell ⟨G, 4 * k, none⟩ (.int .u8 (x % 256))).setCell ⟨G, 4 * k + 1, none⟩ (.int .u8 (x / 256 % 256))).setCell ⟨G, 4 * k + 2, none⟩ (.int .u8 (x / 65536 % 256))).setCell ⟨G, 4 * k + 3, none⟩ (.int .u8 (x / 16777216))) := by
  obtain ⟨C, hC, hr⟩ := h.row
  have hf := outF_at M S k x hx
  have h3 : x / 16777216 = outF M S (4 * k + 3) := by rw [hf.2.2.2]; omega
  have hg := h.hg
  refine ⟨?_, ?_, ⟨_, (((hC.set (by omega) _ hf.1.symm).set (by omega) _ hf.2.1.symm).set (by omega) _ hf.2.2.1.symm).set (by omega) _ h3, ?_⟩, h.hg, (((h.low.setCell (by simp; omega) _).setCell (by simp; omega) _).setCell (by simp; omega) _).setCell (by simp; omega) _⟩
  · rw [heap_setCell_other _ _ _ _ (by simp; omega), heap_setCell_other _ _ _ _ (by simp; omega), heap_setCell_other _ _ _ _ (by simp; omega), heap_setCell_other _ _ _ _ (by simp; omega)]; exact h.start
  · rw [heap_setCell_other _ _ _ _ (by simp; omega), heap_setCell_other _ _ _ _ (by simp; omega), heap_setCell_other _ _ _ _ (by simp; omega), heap_setCell_other _ _ _ _ (by simp; omega)]; exact h.res
  · exact heap_setCell_same _ _ _ _ _ _ (heap_setCell_same _ _ _ _ _ _ (heap_setCell_same _ _ _ _ _ _ (heap_setCell_same _ _ _ _ _ _ hr)))
theorem info64 : (Tryd.prog.info? 31).map (·.size) = some 64 := by kernel_rfl
set_option maxRecDepth 100000 in
set_option maxHeartbeats 1000000 in
theorem block_any (K Nn : List Int) (c : Int) (hK : K.length = 32) (hN : Nn.length = 12) (bK : InB K) (bN : InB Nn) (w : World) (hL : Laid w) :
    Calls Tryd.prog 9 #[.agg (u8s K), .int .u32 c, .agg (u8s Nn)] w fun e' w' => e' = .returned (.agg (u8s (blockL K c Nn))) ∧ Below w.heap.size w w' := by
  have hlt := hL.lt
  have h3 := Lib.hid (three_new w)
  have b3 := Lib.hid (below3 w)
  have Hst := Lib.hid (stateOf_any K Nn c hK hN bK bN)
  have HsK : Hid ((Tryd.prog.info? 25).map (·.size) = some (u8s K).size) := by show _ = _; rw [u8s_size, hK]; kernel_rfl
  have HsN : Hid ((Tryd.prog.info? 27).map (·.size) = some (u8s Nn).size) := by show _ = _; rw [u8s_size, hN]; kernel_rfl
  have HL := Lib.hid hL
  obtain ⟨S, hS⟩ : ∃ S, S = stL K c Nn := ⟨_, rfl⟩
  rw [← hS] at Hst
  have HS := Lib.hid hS
  have Hl : Hid (S.length = 16) := by show _ = _; rw [hS, stL_length]
  have Hi : Hid ((Tryd.prog.info? 51).map (·.size) = some (u32s S).size) := by show _ = _; rw [u32s_size, Hl.out]; exact infoS
  clear hS hK hN bK bN hL
  go_enter Tryd.func9, Tryd.ntmps9
  go_upto_region 3 with (first
    | (with_reducible refine wpList_load_row rfl 25 (.tmp 3) rfl w.heap.size rfl 25 (u8s K) (0, 0) _ (h3.out _ _ _).1 Tryd.underlying25 rfl HsK.out ?_)
    | (with_reducible refine wpList_load_row rfl 27 (.tmp 5) rfl (w.heap.size + 1) rfl 27 (u8s Nn) (0, 0) _ (h3.out _ _ _).2.1 Tryd.underlying27 rfl HsN.out ?_)
    | (go_at_call 17; refine (Hst.out _).mono ?_; rintro e w1 ⟨rfl, low1⟩; have Low1 := Lib.hid low1; clear low1)
    | (with_reducible refine wpList_store_row rfl 51 (.tmp 7) (.tmp 15) rfl w1.heap.size (u32s S) rfl rfl 51 _ (Go.heap_alloc_new w1 _) Hi.out (by simp [u32s_size, Hl.out]) (u32s_one _) ?_; rw [World.setRow_alloc_new])
    | (with_reducible refine wpList_load_row rfl 51 (.tmp 7) rfl w1.heap.size rfl 51 (u32s S) (0, 0) _ (Go.heap_alloc_new w1 _) Tryd.underlying51 rfl Hi.out ?_)
    | (with_reducible refine wpList_store_row rfl 51 (.tmp 8) (.tmp 16) rfl (w1.heap.size + 1) (u32s S) rfl rfl 51 _ (two_new w1 _ _).2 Hi.out (by simp [u32s_size, Hl.out]) (u32s_one _) ?_))
  have low0 := b3.out (.cells (u8s K) 25) (.cells (u8s Nn) 27) (.cells (u8s zeros64) 31)
  have hz := (h3.out (.cells (u8s K) 25) (.cells (u8s Nn) 27) (.cells (u8s zeros64) 31)).2.2
  have hi0 : BInv S S w.heap.size w1.heap.size w (((w1.alloc (.cells (u32s S) 51)).alloc (.cells (u32s (List.replicate 16 0)) 51)).setRow (w1.heap.size + 1) (u32s S)) := by
    have l1 := Low1.out
    have hs := l1.size
    have hzlt := (Array.getElem?_eq_some_iff.1 hz).1
    have l2 := low0.trans (l1.mono low0.size)
    have hz1 : w1.heap[w.heap.size + 1 + 1]? = _ := (l1.block _ hzlt).trans hz
    have hzl := (Array.getElem?_eq_some_iff.1 hz1).1
    have k2 : Below w1.heap.size w1 ((w1.alloc (.cells (u32s S) 51)).alloc (.cells (u32s (List.replicate 16 0)) 51)) := ((Below.refl _ _).alloc (Nat.le_refl _) _).alloc (by simp) _
    have h2 := two_new w1 (.cells (u32s S) 51) (.cells (u32s (List.replicate 16 0)) 51)
    refine ⟨?_, setRow_heap _ _ _ _ _ _ h2.2, ?_, hzl, below_setRow (l2.trans (k2.mono l2.size)) (by have := l2.size; omega) _⟩
    · rw [setRow_other _ _ _ _ (by omega)]; exact h2.1
    · rw [setRow_other _ _ _ _ (by omega)]; exact (k2.block _ hzl).trans hz1
  have Hi0 := Lib.hid hi0
  clear low0 hz hi0 h3 b3 Low1 Hst
  go_wp2
  go_loopw [17] (fun i wr => ∃ k : Nat, k ≤ 10 ∧ i = .int .i64 k ∧ BInv S (drs S k) w.heap.size w1.heap.size w wr) (fun i _ => 10 - (intOf i).toNat)
  case atStart => exact ⟨0, Nat.zero_le _, rfl, Hi0.out⟩
  case round =>
    clear Hi0
    obtain ⟨k, hk, rfl, hinv⟩ := hrel
    have hlen : Hid ((drs S k).length = 16) := by show _ = _; rw [drs_length, Hl.out]
    have Hik : Hid ((Tryd.prog.info? 51).map (·.size) = some (u32s (drs S k)).size) := by show _ = _; rw [u32s_size, hlen.out]; exact infoS
    have Hik2 : Hid ((Tryd.prog.info? 51).map (·.size) = some (u32s (drs S (k + 1))).size) := by show _ = _; rw [u32s_size, drs_length, Hl.out]; exact infoS
    have Hinv := Lib.hid hinv
    clear hinv
    by_cases hlt10 : k < 10
    · go_wp2_with (first
        | (with_reducible refine wpList_load_row rfl 51 (.tmp 8) rfl (w1.heap.size + 1) rfl 51 (u32s (drs S k)) (0, 0) _ Hinv.out.mixed Tryd.underlying51 rfl Hik.out ?_)
        | (go_at_call 18; refine (doubleRound_any (drs S k) hlen.out _ (HL.out.below Hinv.out.low hlt)).mono ?_; rintro e w2 ⟨rfl, low2⟩; have Low2 := Lib.hid low2; clear low2)
        | (with_reducible refine wpList_store_row rfl 51 (.tmp 8) (.tmp 20) rfl (w1.heap.size + 1) (u32s (drs S (k + 1))) rfl rfl 51 _ ((Low2.out.block _ (Array.getElem?_eq_some_iff.1 Hinv.out.mixed).1).trans Hinv.out.mixed) Hik2.out (by rw [u32s_size, u32s_size, drs_length, drs_length]) (u32s_one _) ?_))
      go_roundw
      case rel => exact ⟨k + 1, by omega, by go_num, Hinv.out.next Low2.out⟩
      case measure => simp [intOf]; omega
    · have h10 : k = 10 := by omega
      rw [h10] at Hinv
      have H10 := Lib.hid h10
      clear h10 hk
      obtain ⟨M, hM⟩ : ∃ M, M = drs S 10 := ⟨_, rfl⟩
      have HM := Lib.hid hM
      rw [← hM] at Hinv
      have HMl : Hid (M.length = 16) := by show _ = _; rw [hM, drs_length, Hl.out]
      have HiM : Hid ((Tryd.prog.info? 51).map (·.size) = some (u32s M).size) := by show _ = _; rw [u32s_size, HMl.out]; exact infoS
      have hb9 : Below wr.heap.size wr (wr.alloc (.cells (u8s zeros64) 31)) := (Below.refl _ _).alloc (Nat.le_refl _) _
      have hm9 : (wr.alloc (.cells (u8s zeros64) 31)).heap[w1.heap.size + 1]? = some (.cells (u32s M) 51 (0, 0)) := (hb9.block _ (Array.getElem?_eq_some_iff.1 Hinv.out.mixed).1).trans Hinv.out.mixed
      have ho9 : OInv S M w.heap.size w1.heap.size wr.heap.size 0 w (wr.alloc (.cells (u8s zeros64) 31)) := by
        have s1 := (Array.getElem?_eq_some_iff.1 Hinv.out.start).1
        have s2 := (Array.getElem?_eq_some_iff.1 Hinv.out.res).1
        exact ⟨(hb9.block _ s1).trans Hinv.out.start, (hb9.block _ s2).trans Hinv.out.res, ⟨_, HoldsB.nil _ _ _ rfl, Go.heap_alloc_new _ _⟩, ⟨Hinv.out.hg, s1⟩, Hinv.out.low.trans (hb9.mono (by omega))⟩
      have Hm9 := Lib.hid hm9
      have Ho9 := Lib.hid ho9
      clear hM hb9 hm9 ho9 Hinv hlen Hik Hik2
      go_wp2_with (refine wpList_load_row rfl 51 (.tmp 8) rfl (w1.heap.size + 1) rfl 51 (u32s M) (0, 0) _ Hm9.out Tryd.underlying51 rfl HiM.out ?_)
      go_loopw [23] (fun i wx => ∃ k : Nat, k ≤ 16 ∧ i = .int .i64 k ∧ OInv S M w.heap.size w1.heap.size wr.heap.size k w wx) (fun i _ => 16 - (intOf i).toNat)
      case atStart => exact ⟨0, Nat.zero_le _, rfl, Ho9.out⟩
      case round =>
        clear Ho9 Hm9
        rename World => wx
        obtain ⟨k, hk, rfl, hinv⟩ := hrel
        by_cases hlt16 : k < 16
        · obtain ⟨C, hC, hr⟩ := hinv.row
          have hv : ∀ j, j < 64 → (wx.cell? ⟨wr.heap.size, j, none⟩).isSome = true := fun j hj => by
            rw [cell_row hr, Array.getElem?_eq_getElem (by rw [hC.1]; omega)]; rfl
          obtain ⟨v0, hv0⟩ := Option.isSome_iff_exists.1 (hv (4 * k) (by omega))
          obtain ⟨v1, hv1⟩ := Option.isSome_iff_exists.1 (hv (4 * k + 1) (by omega))
          obtain ⟨v2, hv2⟩ := Option.isSome_iff_exists.1 (hv (4 * k + 2) (by omega))
          obtain ⟨v3, hv3⟩ := Option.isSome_iff_exists.1 (hv (4 * k + 3) (by omega))
          have f0 := free_row hr (4 * k)
          have f1 := free_row hr (4 * k + 1)
          have f2 := free_row hr (4 * k + 2)
          have f3 := free_row hr (4 * k + 3)
          have hix := index_arr32 16 Tryd.underlying51 M HMl.out k hlt16 wx
          have hc := row32_cell hinv.start k (by rw [Hl.out]; exact hlt16)
          have hlt16' : (k : Int) < 16 := by omega
          obtain ⟨mk, hmk⟩ : ∃ mk, mk = M.getD k 0 := ⟨_, rfl⟩
          obtain ⟨sk, hsk⟩ : ∃ sk, sk = S.getD k 0 := ⟨_, rfl⟩
          rw [← hmk] at hix
          rw [← hsk] at hc
          have Hmk := Lib.hid hmk
          have Hsk := Lib.hid hsk
          clear hv hr hC hmk hsk
          go_upto_region 12 with (fail)
          generalize hx : (mk + sk) % 4294967296 = x
          have x0 : 0 ≤ x := by omega
          have x1 : x < 4294967296 := by omega
          have Hx : Hid (x = (M.getD k 0 + S.getD k 0) % 4294967296) := by show _ = _; rw [← Hmk.out, ← Hsk.out, hx]
          clear hx hix hc
          go_wp2
          go_roundw
          case rel => exact ⟨k + 1, by omega, by go_num, hinv.set hlt16 x Hx.out⟩
          case measure => simp [intOf]; omega
        · have h16 : k = 16 := by omega
          rw [h16] at hinv
          have H16 := Lib.hid h16
          clear h16 hk
          obtain ⟨C, hC, hr⟩ := hinv.row
          have hCe : C = u8s (blockL K c Nn) := hC.whole (blockL_length _ _ _) (fun j hj => by rw [HM.out, HS.out]; exact outL_getD _ _ j hj)
          rw [hCe] at hr
          have hrow := setRow_heap wx _ _ (u8s (blockL K c Nn)) _ _ hinv.res
          have hlow : Below w.heap.size w (wx.setRow (w.heap.size + 1 + 1) (u8s (blockL K c Nn))) := below_setRow hinv.low (by omega) _
          have Hsz : Hid ((Tryd.prog.info? 31).map (·.size) = some (u8s (blockL K c Nn)).size) := by show _ = _; rw [u8s_size, blockL_length]; exact info64
          have Hzz : Hid ((u8s zeros64).size = (u8s (blockL K c Nn)).size) := by show _ = _; rw [u8s_size, u8s_size, blockL_length]; rfl
          have Hr := Lib.hid hr
          have Hz := Lib.hid hinv.res
          have Hrow := Lib.hid hrow
          clear hCe hC hr hrow hinv
          go_wp2_with (first | (with_reducible refine wpList_load_row rfl 31 (.tmp 9) rfl wr.heap.size rfl 31 (u8s (blockL K c Nn)) (0, 0) _ Hr.out Tryd.underlying31 rfl Hsz.out ?_) | (with_reducible refine wpList_store_row rfl 31 (.tmp 6) (.tmp 59) rfl (w.heap.size + 1 + 1) (u8s (blockL K c Nn)) rfl rfl 31 (u8s zeros64) Hz.out Hsz.out Hzz.out (u8s_one _) ?_))
          exact bodyPost_ret (v := .agg (u8s (blockL K c Nn))) (results_cell_row rfl _ _ (w.heap.size + 1 + 1) 31 _ (0, 0) _ rfl Hrow.out Tryd.underlying31 rfl Hsz.out) rfl ⟨rfl, hlow⟩
end Go.Proofs.YtdkfofnkacmliaaDoor.Cha
