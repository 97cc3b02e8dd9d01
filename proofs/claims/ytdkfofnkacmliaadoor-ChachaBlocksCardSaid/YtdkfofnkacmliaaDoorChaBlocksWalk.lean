/- DERIVED. The walk of the law ChachaBlocks. Written by mkblocks.py. -/
import Derived.Test.YtdkfofnkacmliaaDoorRefChaBlock
import Derived.Test.YtdkfofnkacmliaaDoorChaAwake
namespace Go.Proofs.YtdkfofnkacmliaaDoor.Cha
open Go.RowKit
theorem eql_64 (l : List Int) (hl : l.length = 64) (w : World) : (binOp .eql 31 (.agg (u8s l)) (.agg (u8s l))).run Tryd.prog w = .ok (.bool true) w := by
  have h := Arr.eql_arr (k := .u8) Tryd.underlying5 (by kernel_rfl) (fun _ => by kernel_rfl) Tryd.underlying31 (by kernel_rfl) l l hl hl w
  rw [decide_eq_true rfl] at h
  exact h
theorem wpOp_want {P : Program} {ops : Array Oper} {Q : Exit → Act → World → Prop} {i : Nat} {o : Oper} {K : Act → World → Prop} {a : Act} {w : World} (ho : ops[i]? = some o) (hg : Region.wanted o (yielded ops a.tmps) = true) (h : Oper.wp P o a w K Q) : wpOp P ops Q i K a w :=
  wpOp_step ho (fun K' hK' => by rw [if_pos hg]; exact Oper.wp_mono hK' h)
/-- the law's boxes. -/
structure BX (a b c d : Int) (K Nn : List Int) (w wx : World) : Prop where
  four : wx.heap[w.heap.size]? = some (.cells #[.int .u32 a, .int .u32 b, .int .u32 c, .int .u32 d] 23 (0, 0))
  key : wx.heap[w.heap.size + 1]? = some (.cells (u8s K) 25 (0, 0))
  non : wx.heap[w.heap.size + 1 + 1]? = some (.cells (u8s Nn) 27 (0, 0))
  laid : Laid wx
  lq : 0 < w.heap.size
  low : Below w.heap.size w wx
theorem BX.later {a b c d : Int} {K Nn : List Int} {w wx wy : World} (h : BX a b c d K Nn w wx) (hb : Below wx.heap.size wx wy) : BX a b c d K Nn w wy := by
  have h1 := (Array.getElem?_eq_some_iff.1 h.four).1
  have h2 := (Array.getElem?_eq_some_iff.1 h.key).1
  have h3 := (Array.getElem?_eq_some_iff.1 h.non).1
  exact ⟨(hb.block _ h1).trans h.four, (hb.block _ h2).trans h.key, (hb.block _ h3).trans h.non, h.laid.below hb (by have := h.lq; omega), h.lq, h.low.trans (hb.mono (by omega))⟩
theorem dB_apart : apartB [25, 26, 27, 28, 29, 30, 31, 32, 33, 34, 35, 36, 37, 38, 39, 40, 41, 42, 43, 44, 45, 46, 47, 48, 6] = true := by decide
set_option maxRecDepth 100000 in
set_option maxHeartbeats 4000000 in
theorem blocks_walk (a b c d : Int) (K Nn : List Int) (hK : K.length = 32) (hN : Nn.length = 12) (bK : InB K) (bN : InB Nn) (w : World) (hL : Laid w) :
    Calls Tryd.prog 3 #[.agg #[.int .u32 a, .int .u32 b, .int .u32 c, .int .u32 d], .agg (u8s K), .agg (u8s Nn)] w fun e' w' => e' = .returned (.bool true) ∧ Below w.heap.size w w' := by
  have Hq1 := Lib.hid (rquarter_any a b c d)
  have Hq2 := Lib.hid (quarter_lit a b c d)
  obtain ⟨p, hp⟩ : ∃ p, p = qa2 a b c d := ⟨_, rfl⟩
  obtain ⟨q, hq⟩ : ∃ q, q = qb2 a b c d := ⟨_, rfl⟩
  obtain ⟨r, hr⟩ : ∃ r, r = qc2 a b c d := ⟨_, rfl⟩
  obtain ⟨s, hs⟩ : ∃ s, s = qd2 a b c d := ⟨_, rfl⟩
  rw [← hp, ← hq, ← hr, ← hs] at Hq1 Hq2
  obtain ⟨B, hB⟩ : ∃ B, B = blockL K a Nn := ⟨_, rfl⟩
  have Hb1 := Lib.hid (fun W hL => block_any K Nn a hK hN bK bN W hL)
  have Hb2 := Lib.hid (rblock_any K Nn a hK hN bK bN)
  rw [← hB] at Hb1 Hb2
  have he1 : ∀ W : World, (binOp .eql 31 (.agg (u8s B)) (.agg (u8s B))).run Tryd.prog W = .ok (.bool true) W := eql_64 B (by rw [hB]; exact blockL_length _ _ _)
  have he2 : ∀ W : World, (binOp .eql 23 (.agg #[.int .u32 p, .int .u32 q, .int .u32 r, .int .u32 s]) (.agg #[.int .u32 p, .int .u32 q, .int .u32 r, .int .u32 s])).run Tryd.prog W = .ok (.bool true) W := fun W => by
    have h := eql_four [p, q, r, s] [p, q, r, s] rfl rfl W
    rw [decide_eq_true rfl] at h
    exact h
  have HsK : Hid ((Tryd.prog.info? 25).map (·.size) = some (u8s K).size) := by show _ = _; rw [u8s_size, hK]; kernel_rfl
  have HsN : Hid ((Tryd.prog.info? 27).map (·.size) = some (u8s Nn).size) := by show _ = _; rw [u8s_size, hN]; kernel_rfl
  have hbx : BX a b c d K Nn w (((w.alloc (.cells #[.int .u32 a, .int .u32 b, .int .u32 c, .int .u32 d] 23)).alloc (.cells (u8s K) 25)).alloc (.cells (u8s Nn) 27)) := by
    have h3 := three_new w (.cells #[.int .u32 a, .int .u32 b, .int .u32 c, .int .u32 d] 23) (.cells (u8s K) 25) (.cells (u8s Nn) 27)
    have b3 := below3 w (.cells #[.int .u32 a, .int .u32 b, .int .u32 c, .int .u32 d] 23) (.cells (u8s K) 25) (.cells (u8s Nn) 27)
    exact ⟨h3.1, h3.2.1, h3.2.2, hL.below b3 hL.lt, hL.lt, b3⟩
  have Hbx := Lib.hid hbx
  obtain ⟨c0, c1, c2, c3⟩ := cells4 hbx.four
  clear hp hq hr hs hB hK hN bK bN hL hbx
  go_enter Tryd.func3, Tryd.ntmps3
  go_upto_region 2 with (go_at_call 7; refine (Hq1.out _).mono ?_; rintro e w0 ⟨rfl, rfl⟩)
  clear c0 c1 c2 c3
  refine wp_region_any (by kernel_rfl) ?_
  change wpAny _ _ _ _ _ _ _ (World.drew _)
  refine wpAny_inv (fun l A wx => Hid (l.size = 25 ∧ BX a b c d K Nn w wx) ∧ ∃ (z : Nat → Value), Hid (A = ⟨#[.agg #[.int .u32 a, .int .u32 b, .int .u32 c, .int .u32 d], .agg (u8s K), .agg (u8s Nn), .pointer (some ⟨w.heap.size, 0, none⟩), .pointer (some ⟨w.heap.size + 1, 0, none⟩), .pointer (some ⟨w.heap.size + 1 + 1, 0, none⟩), z 6, .int .u32 p, .int .u32 q, .int .u32 r, .int .u32 s, .tuple #[.int .u32 p, .int .u32 q, .int .u32 r, .int .u32 s], .pointer (some ⟨w.heap.size, 0, none⟩), .int .u32 a, .pointer (some ⟨w.heap.size, 1, none⟩), .int .u32 b, .pointer (some ⟨w.heap.size, 2, none⟩), .int .u32 c, .pointer (some ⟨w.heap.size, 3, none⟩), .int .u32 d, .tuple #[.int .u32 p, .int .u32 q, .int .u32 r, .int .u32 s], .int .u32 p, .int .u32 q, .int .u32 r, .int .u32 s, z 25, z 26, z 27, z 28, z 29, z 30, z 31, z 32, z 33, z 34, z 35, z 36, z 37, z 38, z 39, z 40, z 41, z 42, z 43, z 44, z 45, z 46, z 47, z 48], []⟩) ∧ Holding [25, 26, 27, 28, 29, 30, 31, 32, 33, 34, 35, 36, 37, 38, 39, 40, 41, 42, 43, 44, 45, 46, 47, 48, 6] [some (.agg #[.int .u32 a, .int .u32 b, .int .u32 c, .int .u32 d]), some (.agg #[.int .u32 p, .int .u32 q, .int .u32 r, .int .u32 s]), some (.int .u32 p), some (.int .u32 q), some (.int .u32 r), some (.int .u32 s), some (.agg #[.int .u32 p, .int .u32 q, .int .u32 r, .int .u32 s]), some (.bool true), some (.bool true), some (.agg (u8s K)), some (.pointer (some ⟨w.heap.size, 0, none⟩)), some (.int .u32 a), some (.agg (u8s Nn)), some (.agg (u8s B)), some (.agg (u8s K)), some (.pointer (some ⟨w.heap.size, 0, none⟩)), some (.int .u32 a), some (.agg (u8s Nn)), some (.agg (u8s B)), some (.bool true), some (.bool true), some (.bool true), some (.bool true), some (.bool true), some (.bool true)] l z) ?_ (by kernel_rfl) ?_ ?_ _ _ _ _ (unlisted_none _) ?_
  · rintro l A wx ⟨h, _⟩
    exact h.out.1
  · rintro l A wx ⟨h, z, ha, hz⟩ hall
    obtain rfl := ha.out
    have hx := h.out.2
    clear ha
    have e24 : z 6 = .bool true := hz 24 _ (hall 24 (by decide)) rfl
    have Hlow := Lib.hid hx.low
    clear hall hz h hx
    go_wp2
    go_ret
    exact ⟨by simp [e24], Hlow.out⟩
  · rintro l A wx i ⟨h, z, ha, hz⟩ hi hu hw
    obtain rfl := ha.out
    have hsz := Lib.hid h.out.1
    have hx := h.out.2
    clear ha h
    have hi25 : i < 25 := hi
    obtain rfl | rfl | rfl | rfl | rfl | rfl | rfl | rfl | rfl | rfl | rfl | rfl | rfl | rfl | rfl | rfl | rfl | rfl | rfl | rfl | rfl | rfl | rfl | rfl | rfl : i = 0 ∨ i = 1 ∨ i = 2 ∨ i = 3 ∨ i = 4 ∨ i = 5 ∨ i = 6 ∨ i = 7 ∨ i = 8 ∨ i = 9 ∨ i = 10 ∨ i = 11 ∨ i = 12 ∨ i = 13 ∨ i = 14 ∨ i = 15 ∨ i = 16 ∨ i = 17 ∨ i = 18 ∨ i = 19 ∨ i = 20 ∨ i = 21 ∨ i = 22 ∨ i = 23 ∨ i = 24 := by omega
    · refine wpOp_plain rfl rfl (wp_load_row 23 (.tmp 3) rfl (w.heap.size) rfl 23 #[.int .u32 a, .int .u32 b, .int .u32 c, .int .u32 d] (0, 0) _ hx.four Tryd.underlying23 rfl infoQ ?_)
      go_simp
      exact ⟨upd z 25 (.agg #[.int .u32 a, .int .u32 b, .int .u32 c, .int .u32 d]), (by unfold Hid; simp [upd]), hz.next dB_apart hsz.out 0 (by decide) _ (fun _ h => Option.some.inj h)⟩
    · have e0 : z 25 = .agg #[.int .u32 a, .int .u32 b, .int .u32 c, .int .u32 d] := hz 0 _ (hw 0 (by kernel_rfl)) rfl
      refine wpOp_plain rfl rfl ?_
      go_simp
      go_at_call 8
      refine (Hq2.out _).mono ?_
      rintro e w' ⟨rfl, low⟩
      exact ⟨⟨by simp [hsz.out], hx.later low⟩, upd z 26 (.agg #[.int .u32 p, .int .u32 q, .int .u32 r, .int .u32 s]), (by unfold Hid; simp [upd, e0]; rfl), hz.next dB_apart hsz.out 1 (by decide) _ (fun _ h => Option.some.inj h)⟩
    · refine wpOp_plain rfl rfl ?_
      go_simp
      exact ⟨upd z 27 (.int .u32 p), (by unfold Hid; simp [upd]), hz.next dB_apart hsz.out 2 (by decide) _ (fun _ h => Option.some.inj h)⟩
    · refine wpOp_plain rfl rfl ?_
      go_simp
      exact ⟨upd z 28 (.int .u32 q), (by unfold Hid; simp [upd]), hz.next dB_apart hsz.out 3 (by decide) _ (fun _ h => Option.some.inj h)⟩
    · refine wpOp_plain rfl rfl ?_
      go_simp
      exact ⟨upd z 29 (.int .u32 r), (by unfold Hid; simp [upd]), hz.next dB_apart hsz.out 4 (by decide) _ (fun _ h => Option.some.inj h)⟩
    · refine wpOp_plain rfl rfl ?_
      go_simp
      exact ⟨upd z 30 (.int .u32 s), (by unfold Hid; simp [upd]), hz.next dB_apart hsz.out 5 (by decide) _ (fun _ h => Option.some.inj h)⟩
    · have e2 : z 27 = .int .u32 p := hz 2 _ (hw 2 (by kernel_rfl)) rfl
      have e3 : z 28 = .int .u32 q := hz 3 _ (hw 3 (by kernel_rfl)) rfl
      have e4 : z 29 = .int .u32 r := hz 4 _ (hw 4 (by kernel_rfl)) rfl
      have e5 : z 30 = .int .u32 s := hz 5 _ (hw 5 (by kernel_rfl)) rfl
      refine wpOp_plain rfl rfl ?_
      go_simp
      exact ⟨upd z 31 (.agg #[.int .u32 p, .int .u32 q, .int .u32 r, .int .u32 s]), (by unfold Hid; simp [upd, e2, e3, e4, e5]), hz.next dB_apart hsz.out 6 (by decide) _ (fun _ h => Option.some.inj h)⟩
    · have e1 : z 26 = .agg #[.int .u32 p, .int .u32 q, .int .u32 r, .int .u32 s] := hz 1 _ (hw 1 (by kernel_rfl)) rfl
      have e6 : z 31 = .agg #[.int .u32 p, .int .u32 q, .int .u32 r, .int .u32 s] := hz 6 _ (hw 6 (by kernel_rfl)) rfl
      refine wpOp_plain rfl rfl ?_
      go_simp
      exact ⟨upd z 32 (.bool true), (by unfold Hid; simp [upd, e1, e6]), hz.next dB_apart hsz.out 7 (by decide) _ (fun _ h => Option.some.inj h)⟩
    · have e7 : z 32 = .bool true := hz 7 _ (hw 7 (by kernel_rfl)) rfl
      refine wpOp_plain rfl rfl ?_
      go_simp
      exact ⟨upd z 33 (.bool true), (by unfold Hid; simp [upd, e7]), hz.next dB_apart hsz.out 8 (by decide) _ (fun _ h => Option.some.inj h)⟩
    · have e8 : z 33 = .bool true := hz 8 _ (hw 8 (by kernel_rfl)) rfl
      refine wpOp_want rfl (by simp [Region.wanted, yielded, e8]) (wp_load_row 25 (.tmp 4) rfl (w.heap.size + 1) rfl 25 (u8s K) (0, 0) _ hx.key Tryd.underlying25 rfl HsK.out ?_)
      go_simp
      exact ⟨upd z 34 (.agg (u8s K)), (by unfold Hid; simp [upd, e8]), hz.next dB_apart hsz.out 9 (by decide) _ (fun _ h => Option.some.inj h)⟩
    · have e8 : z 33 = .bool true := hz 8 _ (hw 8 (by kernel_rfl)) rfl
      refine wpOp_want rfl (by simp [Region.wanted, yielded, e8]) ?_
      go_simp
      exact ⟨upd z 35 (.pointer (some ⟨w.heap.size, 0, none⟩)), (by unfold Hid; simp [upd, e8]), hz.next dB_apart hsz.out 10 (by decide) _ (fun _ h => Option.some.inj h)⟩
    · have e8 : z 33 = .bool true := hz 8 _ (hw 8 (by kernel_rfl)) rfl
      have e10 : z 35 = .pointer (some ⟨w.heap.size, 0, none⟩) := hz 10 _ (hw 10 (by kernel_rfl)) rfl
      obtain ⟨c0, _, _, _⟩ := cells4 hx.four
      refine wpOp_want rfl (by simp [Region.wanted, yielded, e8]) ?_
      go_simp
      exact ⟨upd z 36 (.int .u32 a), (by unfold Hid; simp [upd, e8, e10]), hz.next dB_apart hsz.out 11 (by decide) _ (fun _ h => Option.some.inj h)⟩
    · have e8 : z 33 = .bool true := hz 8 _ (hw 8 (by kernel_rfl)) rfl
      refine wpOp_want rfl (by simp [Region.wanted, yielded, e8]) (wp_load_row 27 (.tmp 5) rfl (w.heap.size + 1 + 1) rfl 27 (u8s Nn) (0, 0) _ hx.non Tryd.underlying27 rfl HsN.out ?_)
      go_simp
      exact ⟨upd z 37 (.agg (u8s Nn)), (by unfold Hid; simp [upd, e8]), hz.next dB_apart hsz.out 12 (by decide) _ (fun _ h => Option.some.inj h)⟩
    · have e8 : z 33 = .bool true := hz 8 _ (hw 8 (by kernel_rfl)) rfl
      have e9 : z 34 = .agg (u8s K) := hz 9 _ (hw 9 (by kernel_rfl)) rfl
      have e11 : z 36 = .int .u32 a := hz 11 _ (hw 11 (by kernel_rfl)) rfl
      have e12 : z 37 = .agg (u8s Nn) := hz 12 _ (hw 12 (by kernel_rfl)) rfl
      refine wpOp_want rfl (by simp [Region.wanted, yielded, e8]) ?_
      go_simp
      go_at_call 9
      refine (Hb1.out _ hx.laid).mono ?_
      rintro e w' ⟨rfl, low⟩
      exact ⟨⟨by simp [hsz.out], hx.later low⟩, upd z 38 (.agg (u8s B)), (by unfold Hid; simp [upd, e8, e9, e11, e12]), hz.next dB_apart hsz.out 13 (by decide) _ (fun _ h => Option.some.inj h)⟩
    · have e8 : z 33 = .bool true := hz 8 _ (hw 8 (by kernel_rfl)) rfl
      refine wpOp_want rfl (by simp [Region.wanted, yielded, e8]) (wp_load_row 25 (.tmp 4) rfl (w.heap.size + 1) rfl 25 (u8s K) (0, 0) _ hx.key Tryd.underlying25 rfl HsK.out ?_)
      go_simp
      exact ⟨upd z 39 (.agg (u8s K)), (by unfold Hid; simp [upd, e8]), hz.next dB_apart hsz.out 14 (by decide) _ (fun _ h => Option.some.inj h)⟩
    · have e8 : z 33 = .bool true := hz 8 _ (hw 8 (by kernel_rfl)) rfl
      refine wpOp_want rfl (by simp [Region.wanted, yielded, e8]) ?_
      go_simp
      exact ⟨upd z 40 (.pointer (some ⟨w.heap.size, 0, none⟩)), (by unfold Hid; simp [upd, e8]), hz.next dB_apart hsz.out 15 (by decide) _ (fun _ h => Option.some.inj h)⟩
    · have e8 : z 33 = .bool true := hz 8 _ (hw 8 (by kernel_rfl)) rfl
      have e15 : z 40 = .pointer (some ⟨w.heap.size, 0, none⟩) := hz 15 _ (hw 15 (by kernel_rfl)) rfl
      obtain ⟨c0, _, _, _⟩ := cells4 hx.four
      refine wpOp_want rfl (by simp [Region.wanted, yielded, e8]) ?_
      go_simp
      exact ⟨upd z 41 (.int .u32 a), (by unfold Hid; simp [upd, e8, e15]), hz.next dB_apart hsz.out 16 (by decide) _ (fun _ h => Option.some.inj h)⟩
    · have e8 : z 33 = .bool true := hz 8 _ (hw 8 (by kernel_rfl)) rfl
      refine wpOp_want rfl (by simp [Region.wanted, yielded, e8]) (wp_load_row 27 (.tmp 5) rfl (w.heap.size + 1 + 1) rfl 27 (u8s Nn) (0, 0) _ hx.non Tryd.underlying27 rfl HsN.out ?_)
      go_simp
      exact ⟨upd z 42 (.agg (u8s Nn)), (by unfold Hid; simp [upd, e8]), hz.next dB_apart hsz.out 17 (by decide) _ (fun _ h => Option.some.inj h)⟩
    · have e8 : z 33 = .bool true := hz 8 _ (hw 8 (by kernel_rfl)) rfl
      have e14 : z 39 = .agg (u8s K) := hz 14 _ (hw 14 (by kernel_rfl)) rfl
      have e16 : z 41 = .int .u32 a := hz 16 _ (hw 16 (by kernel_rfl)) rfl
      have e17 : z 42 = .agg (u8s Nn) := hz 17 _ (hw 17 (by kernel_rfl)) rfl
      refine wpOp_want rfl (by simp [Region.wanted, yielded, e8]) ?_
      go_simp
      go_at_call 10
      refine (Hb2.out _).mono ?_
      rintro e w' ⟨rfl, low⟩
      exact ⟨⟨by simp [hsz.out], hx.later low⟩, upd z 43 (.agg (u8s B)), (by unfold Hid; simp [upd, e8, e14, e16, e17]), hz.next dB_apart hsz.out 18 (by decide) _ (fun _ h => Option.some.inj h)⟩
    · have e8 : z 33 = .bool true := hz 8 _ (hw 8 (by kernel_rfl)) rfl
      have e13 : z 38 = .agg (u8s B) := hz 13 _ (hw 13 (by kernel_rfl)) rfl
      have e18 : z 43 = .agg (u8s B) := hz 18 _ (hw 18 (by kernel_rfl)) rfl
      refine wpOp_want rfl (by simp [Region.wanted, yielded, e8]) ?_
      go_simp
      exact ⟨upd z 44 (.bool true), (by unfold Hid; simp [upd, e8, e13, e18]), hz.next dB_apart hsz.out 19 (by decide) _ (fun _ h => Option.some.inj h)⟩
    · have e8 : z 33 = .bool true := hz 8 _ (hw 8 (by kernel_rfl)) rfl
      have e19 : z 44 = .bool true := hz 19 _ (hw 19 (by kernel_rfl)) rfl
      refine wpOp_plain rfl rfl ?_
      go_simp
      exact ⟨upd z 45 (.bool true), (by unfold Hid; simp [upd, e8, e19]), hz.next dB_apart hsz.out 20 (by decide) _ (fun _ h => Option.some.inj h)⟩
    · have e20 : z 45 = .bool true := hz 20 _ (hw 20 (by kernel_rfl)) rfl
      refine wpOp_plain rfl rfl ?_
      go_simp
      exact ⟨upd z 46 (.bool true), (by unfold Hid; simp [upd, e20]), hz.next dB_apart hsz.out 21 (by decide) _ (fun _ h => Option.some.inj h)⟩
    · have e21 : z 46 = .bool true := hz 21 _ (hw 21 (by kernel_rfl)) rfl
      refine wpOp_want rfl (by simp [Region.wanted, yielded, e21]) ?_
      go_simp
      go_at_call 11
      refine (awake_any _).mono ?_
      rintro e w' ⟨rfl, low⟩
      exact ⟨⟨by simp [hsz.out], hx.later low⟩, upd z 47 (.bool true), (by unfold Hid; simp [upd, e21]), hz.next dB_apart hsz.out 22 (by decide) _ (fun _ h => Option.some.inj h)⟩
    · have e21 : z 46 = .bool true := hz 21 _ (hw 21 (by kernel_rfl)) rfl
      have e22 : z 47 = .bool true := hz 22 _ (hw 22 (by kernel_rfl)) rfl
      refine wpOp_plain rfl rfl ?_
      go_simp
      exact ⟨upd z 48 (.bool true), (by unfold Hid; simp [upd, e21, e22]), hz.next dB_apart hsz.out 23 (by decide) _ (fun _ h => Option.some.inj h)⟩
    · have e23 : z 48 = .bool true := hz 23 _ (hw 23 (by kernel_rfl)) rfl
      refine wpOp_plain rfl rfl ?_
      go_simp
      exact ⟨upd z 6 (.bool true), (by unfold Hid; simp [upd, e23]), hz.next dB_apart hsz.out 24 (by decide) _ (fun _ h => Option.some.inj h)⟩
  · exact ⟨⟨rfl, Hbx.out.later (Below.refl _ _).drew⟩, fun x => (#[.agg #[.int .u32 a, .int .u32 b, .int .u32 c, .int .u32 d], .agg (u8s K), .agg (u8s Nn), .pointer (some ⟨w.heap.size, 0, none⟩), .pointer (some ⟨w.heap.size + 1, 0, none⟩), .pointer (some ⟨w.heap.size + 1 + 1, 0, none⟩), .bool false, .int .u32 p, .int .u32 q, .int .u32 r, .int .u32 s, .tuple #[.int .u32 p, .int .u32 q, .int .u32 r, .int .u32 s], .pointer (some ⟨w.heap.size, 0, none⟩), .int .u32 a, .pointer (some ⟨w.heap.size, 1, none⟩), .int .u32 b, .pointer (some ⟨w.heap.size, 2, none⟩), .int .u32 c, .pointer (some ⟨w.heap.size, 3, none⟩), .int .u32 d, .tuple #[.int .u32 p, .int .u32 q, .int .u32 r, .int .u32 s], .int .u32 p, .int .u32 q, .int .u32 r, .int .u32 s, undef, undef, undef, undef, undef, undef, undef, undef, undef, undef, undef, undef, undef, undef, undef, undef, undef, undef, undef, undef, undef, undef, undef, undef] : Array Value).getD x undef, rfl, Holding.start⟩
end Go.Proofs.YtdkfofnkacmliaaDoor.Cha
