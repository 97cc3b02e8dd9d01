/- DERIVED. The contract of segment.contextOf (mkctx.py writes this text). -/
import Derived.Test.YtkjhoanlkkcfkaaGreatDoorMsgt1
import Derived.Test.YtkjhoanlkkcfkaaGreatDoorMseg15
namespace Go.Proofs.YtkjhoanlkkcfkaaGreatDoor.Sgm
open Go.RowKit Str Cod
/-- a segment's context. -/
def ctxL (s : ByteArray) (lv : Int) (cp : Nat) : List Int := [] ++ (encN s.size ++ bOf s) ++ (encN (uN lv) ++ compL cp)
theorem nil_byt (w : World) : Byt w none 0 [] := ⟨Nat.le_refl _, fun _ => rfl, fun h => absurd h (Nat.lt_irrefl 0)⟩
theorem ctx_short {s : ByteArray} (h : s.size ≤ 100) : ([] ++ (encN s.size ++ bOf s)).length ≤ 200 := by
  have := encN_le s.size
  have := bOf_length s
  rw [List.nil_append, List.length_append]; omega
theorem ctxL_len {s : ByteArray} (h : s.size ≤ 100) (lv : Int) (cp : Nat) : (ctxL s lv cp).length ≤ 1000 := by
  have := ctx_short h
  have := encN_le (uN lv)
  have := compL_length cp
  simp only [List.length_append, ctxL] at *
  omega
theorem ctxL_in (s : ByteArray) (lv : Int) (cp : Nat) (h : s.size ≤ 100) : InB (ctxL s lv cp) := by
  unfold ctxL
  exact (InB.append (by intro j; simp) ((encN_in (by omega)).append (bOf_in s))).append ((encN_in (uN_lt lv)).append (compL_in cp))
theorem info_lab : (Tryz.prog.info? 27).map (·.size) = some 2 := by kernel_rfl
set_option maxRecDepth 100000 in
set_option maxHeartbeats 1000000 in
theorem contextOf_any (s : ByteArray) (lv : Int) (cp : Nat) (hs : s.size ≤ 100) (w : World) : Calls Tryz.prog 40 #[.string s, .agg #[.int .i64 lv, .int .u64 (cp : Nat)]] w fun e w' => ∃ v, e = .returned v ∧ NewB w.heap.size (ctxL s lv cp) v w' ∧ Below w.heap.size w w' := by
  have Hs : Hid (s.size ≤ 100) := hs
  have hl : Below w.heap.size w (w.alloc (.cells #[.int .i64 lv, .int .u64 (cp : Nat)] 27)) := (Below.refl _ _).alloc (Nat.le_refl _) _
  have Hl := Lib.hid hl
  have HL0 := Lib.hid (Go.heap_alloc_new w (.cells #[.int .i64 lv, .int .u64 (cp : Nat)] 27))
  have HsL := Lib.hid info_lab
  obtain ⟨T1, hT1⟩ : ∃ T1, [] ++ (encN s.size ++ bOf s) = T1 := ⟨_, rfl⟩
  obtain ⟨T2, hT2⟩ : ∃ T2, T1 ++ (encN (uN lv) ++ compL cp) = T2 := ⟨_, rfl⟩
  have hTl := ctx_short hs
  rw [hT1] at hTl
  unfold ctxL
  rw [hT1, hT2]
  have HT1 := Lib.hid hT1
  have HT2 := Lib.hid hT2
  have HTl := Lib.hid hTl
  clear hs hl hT1 hT2 hTl
  go_enter Tryz.func40, Tryz.ntmps40
  go_upto_region 1 with (fail)
  generalize w.alloc _ = w1 at Hl HL0 ⊢
  have apx : apartB [5, 6, 7, 8, 4] = true := by decide
  refine wp_region_any (by kernel_rfl) ?_
  change wpAny _ _ _ _ _ _ _ (World.drew _)
  refine wpAny_inv (fun ll aa wx => Hid (ll.size = 5 ∧ Below w1.heap.size w1 wx) ∧ ∃ (z : Nat → Value), Hid (aa = ⟨#[.string s, .agg #[.int .i64 lv, .int .u64 (cp : Nat)], undef, .pointer (some ⟨w.heap.size, 0, none⟩), z 4, z 5, z 6, z 7, z 8], []⟩) ∧ Holding [5, 6, 7, 8, 4] [some (.string s), none, some (.agg #[.int .i64 lv, .int .u64 (cp : Nat)]), none, none] ll z ∧ Whn ll 1 (SlB T1) (z 6) wx ∧ Whn ll 3 (NewB w1.heap.size T2) (z 8) wx ∧ Whn ll 4 (NewB w1.heap.size T2) (z 4) wx) ?_ (by kernel_rfl) ?_ ?_ _ _ _ _ (unlisted_none _) ?_
  · rintro ll aa wx ⟨hI, _⟩
    exact hI.out.1
  · rintro ll aa wx ⟨hI, z, ha, hz, hp1, hp3, hp4⟩ hall
    have hx := Lib.hid hI.out.2
    have e0 : z 5 = .string s := hz 0 _ (hall 0 (by decide)) rfl
    have e2 : z 7 = .agg #[.int .i64 lv, .int .u64 (cp : Nat)] := hz 2 _ (hall 2 (by decide)) rfl
    have p1 := hp1.get (hall 1 (by decide))
    have p3 := hp3.get (hall 3 (by decide))
    have p4 := hp4.get (hall 4 (by decide))
    clear hall hz hI hp1 hp3 hp4
    obtain rfl := ha.out
    clear ha
    clear apx
    have HX := Lib.hid hx.out
    have P4 := Lib.hid p4
    clear e0 e2 hx p1 p3 p4
    go_wp2
    go_ret
    exact ⟨_, rfl, P4.out.base Hl.out.size, Hl.out.trans (HX.out.mono Hl.out.size)⟩
  · rintro ll aa wx i ⟨hI, z, ha, hz, hp1, hp3, hp4⟩ hi hu hw
    obtain rfl := ha.out
    have hsz := Lib.hid hI.out.1
    have hx := Lib.hid hI.out.2
    clear ha hI
    have hin : i < 5 := hi
    obtain rfl | rfl | rfl | rfl | rfl : i = 0 ∨ i = 1 ∨ i = 2 ∨ i = 3 ∨ i = 4 := by omega
    · refine wpOp_plain rfl rfl ?_
      go_simp
      exact ⟨⟨by simp [hsz.out], hx.out⟩, upd z 5 (.string s), (by unfold Hid; simp [upd]), hz.next apx hsz.out 0 (by decide) _ (fun _ h => Option.some.inj h), hp1.keep (by decide), hp3.keep (by decide), hp4.keep (by decide)⟩
    · have e0 : z 5 = .string s := hz 0 _ (hw 0 (by kernel_rfl)) rfl
      refine wpOp_plain rfl rfl ?_
      go_simp
      go_at_call 76
      refine (text_any none 0 0 s [] (Nat.le_trans Hs.out (by decide)) rfl (by decide) wx (nil_byt wx)).mono ?_
      rintro e w8 ⟨vr, rfl, ho, low⟩; rw [HT1.out] at ho
      exact ⟨⟨by simp [hsz.out], hx.out.trans (low.mono hx.out.size)⟩, upd z 6 (vr), (by unfold Hid; simp [upd, e0]), hz.next apx hsz.out 1 (by decide) _ (fun _ h => by cases h), Whn.done ((NewB.sl (M := T1) ho)), (hp3.keep (by decide)).map (fun h => h.later low), (hp4.keep (by decide)).map (fun h => h.later low)⟩
    · have cl := (hx.out.block _ (Array.getElem?_eq_some_iff.1 HL0.out).1).trans HL0.out
      refine wpOp_plain rfl rfl (wp_load_row 27 (.tmp 3) rfl (w.heap.size) rfl 27 #[.int .i64 lv, .int .u64 (cp : Nat)] (0, 0) _ cl Tryz.underlying27 rfl HsL.out ?_)
      go_simp
      exact ⟨⟨by simp [hsz.out], hx.out⟩, upd z 7 (.agg #[.int .i64 lv, .int .u64 (cp : Nat)]), (by unfold Hid; simp [upd]), hz.next apx hsz.out 2 (by decide) _ (fun _ h => Option.some.inj h), hp1.keep (by decide), hp3.keep (by decide), hp4.keep (by decide)⟩
    · have e2 : z 7 = .agg #[.int .i64 lv, .int .u64 (cp : Nat)] := hz 2 _ (hw 2 (by kernel_rfl)) rfl
      have p1 := hp1.get (hw 1 (by kernel_rfl))
      obtain ⟨A9, c9, e9, b9⟩ := p1
      refine wpOp_plain rfl rfl ?_
      simp only [e9]
      go_simp
      go_at_call 75
      refine (label_any A9 _ c9 lv cp T1 rfl (by have := HTl.out; omega) wx b9).mono ?_
      rintro e w8 ⟨vr, rfl, ho, low⟩; rw [HT2.out] at ho
      exact ⟨⟨by simp [hsz.out], hx.out.trans (low.mono hx.out.size)⟩, upd z 8 (vr), (by unfold Hid; simp [upd, e2, e9]), hz.next apx hsz.out 3 (by decide) _ (fun _ h => by cases h), (hp1.keep (by decide)).map (fun h => h.later low), Whn.done (NewB.base ho hx.out.size), (hp4.keep (by decide)).map (fun h => h.later low)⟩
    · have p3 := hp3.get (hw 3 (by kernel_rfl))
      refine wpOp_plain rfl rfl ?_
      go_simp
      exact ⟨⟨by simp [hsz.out], hx.out⟩, upd z 4 (z 8), (by unfold Hid; simp [upd]), hz.next apx hsz.out 4 (by decide) _ (fun _ h => by cases h), hp1.keep (by decide), hp3.keep (by decide), Whn.done (p3)⟩
  · exact ⟨⟨rfl, (Below.refl _ _).drew⟩, fun xx => (#[.string s, .agg #[.int .i64 lv, .int .u64 (cp : Nat)], undef, .pointer (some ⟨w.heap.size, 0, none⟩), .slice none 0 0, undef, undef, undef, undef] : Array Value).getD xx undef, rfl, Holding.start, Whn.none (by decide), Whn.none (by decide), Whn.none (by decide)⟩
end Go.Proofs.YtkjhoanlkkcfkaaGreatDoor.Sgm
