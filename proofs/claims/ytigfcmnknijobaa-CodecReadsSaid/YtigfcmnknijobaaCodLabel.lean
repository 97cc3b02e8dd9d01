/- DERIVED. The contract of codec.Label. Written by mkcodec.py. -/
import Derived.Test.YtigfcmnknijobaaCodRows
namespace Go.Proofs.Ytigfcmnknijobaa.Cod
open Go.RowKit Str
set_option maxRecDepth 100000 in
set_option maxHeartbeats 1000000 in
theorem label_any (A : Option Addr) (x c : Nat) (lv : Int) (cp : Nat) (L : List Int) (hx : L.length = x) (hle : x ≤ 40000) (w : World) (hB : Byt w A c L) :
    Calls Try.prog 31 #[.slice A x c, .agg #[.int .i64 lv, .int .u64 (cp : Nat)]] w fun e w' => ∃ v, e = .returned v ∧ NewB w.heap.size (L ++ (encN (uN lv) ++ compL cp)) v w' ∧ Below w.heap.size w w' := by
  have HB0 : Hid (SlB L (.slice A x c) w) := ⟨A, c, by rw [hx], hB⟩
  have Hlen : Hid (0 < [L, encN (uN lv), compL cp].flatten.length ∧ [L, encN (uN lv), compL cp].flatten.length ≤ 50000) := by
    have := encN_le (uN lv)
    have := compL_length cp
    constructor <;> simp <;> omega
  have hwr : Hid (IntKind.u64.wrap lv = (uN lv : Nat)) := wrap_uN lv
  clear hx hB
  go_enter Try.func31, Try.ntmps31
  obtain ⟨w0, hw0⟩ : ∃ w0, w0 = w.alloc (.cells #[.int .i64 lv, .int .u64 (cp : Nat)] 34) := ⟨_, rfl⟩
  have hs0 : w0.heap.size = w.heap.size + 1 := by rw [hw0, World.size_alloc]
  have hb0 : w0.heap[w.heap.size]? = some (.cells #[.int .i64 lv, .int .u64 (cp : Nat)] 34 (0, 0)) := by rw [hw0]; exact Go.heap_alloc_new w _
  have low0 : Below w.heap.size w w0 := by rw [hw0]; exact (Below.refl _ _).alloc (Nat.le_refl _) _
  have Hi : Hid ((Try.prog.info? 75).map (·.size) = some (u8s (compL cp)).size) := info8x8
  have Hb0 := Lib.hid hb0
  have Low0 := Lib.hid low0
  have Hs0 := Lib.hid hs0
  clear hb0 low0 hs0
  go_upto_region 2 with (first
    | (go_at_call 48; rw [← hw0]; refine (comps_any cp w0).mono ?_; rintro e w1 ⟨rfl, low1⟩; have Low1 := Lib.hid low1; clear low1)
    | (refine wpList_store_row rfl 75 (.tmp 5) (.tmp 8) rfl w1.heap.size (u8s (compL cp)) rfl rfl 75 _ (Go.heap_alloc_new w1 _) Hi.out (by simp [u8s_size, compL_length]) (u8s_one _) ?_; rw [World.setRow_alloc_new]))
  have hb1 : w1.heap[w.heap.size]? = some (.cells #[.int .i64 lv, .int .u64 (cp : Nat)] 34 (0, 0)) := (Low1.out.block _ (by rw [Hs0.out]; omega)).trans Hb0.out
  have hs1 : w.heap.size + 1 ≤ w1.heap.size := by have := Low1.out.size; rw [Hs0.out] at this; exact this
  have hl1 : Below w.heap.size w w1 := Low0.out.trans (Low1.out.mono (by rw [Hs0.out]; omega))
  obtain ⟨w2, hw2⟩ : ∃ w2, w2 = w1.alloc (.cells (u8s (compL cp)) 75) := ⟨_, rfl⟩
  have hb2 : w2.heap[w.heap.size]? = some (.cells #[.int .i64 lv, .int .u64 (cp : Nat)] 34 (0, 0)) := by rw [hw2]; exact (Go.heap_alloc_old w1 _ (by omega)).trans hb1
  have hc2 : w2.heap[w1.heap.size]? = some (.cells (u8s (compL cp)) 75 (0, 0)) := by rw [hw2]; exact Go.heap_alloc_new w1 _
  have hl2 : Below w.heap.size w w2 := by rw [hw2]; exact hl1.alloc (by omega) _
  have hs2 : w.heap.size ≤ w2.heap.size := by rw [hw2, World.size_alloc]; omega
  have CC : Hid (w2.cell? ⟨w.heap.size, 0, none⟩ = some (.int .i64 lv)) := by show _ = _; rw [cell_row hb2]; rfl
  have HL : Hid (SlB L (.slice A x c) w2) := HB0.out.at hl2 (Nat.le_refl _)
  have Hl2 := Lib.hid hl2
  have hbase := Lib.hid hs2
  have HC : Hid (SlB (compL cp) (.slice (some ⟨w1.heap.size, 0, none⟩) 8 8) w2) := ⟨_, _, rfl, byt_rowT hc2 rfl⟩
  rw [← hw2]
  clear hw2 hb2 hc2 hl2 hb1 hl1 Low1 Low0 Hb0 Hs0 hs1 Hi hs2 HB0
  obtain ⟨gc, hgc⟩ : ∃ gc, gc = w1.heap.size := ⟨_, rfl⟩
  rw [← hgc] at HC ⊢
  clear hgc
  have apx : apartB [9, 10, 11, 12, 13, 14, 15, 16, 4] = true := by decide
  refine wp_region_any (by kernel_rfl) ?_
  change wpAny _ _ _ _ _ _ _ (World.drew _)
  refine wpAny_inv (fun ll aa wx => Hid (ll.size = 9 ∧ Below w2.heap.size w2 wx) ∧ ∃ (z : Nat → Value), Hid (aa = ⟨#[.slice A x c, .agg #[.int .i64 lv, .int .u64 (cp : Nat)], undef, .pointer (some ⟨w.heap.size, 0, none⟩), z 4, .pointer (some ⟨gc, 0, none⟩), .pointer (some ⟨w.heap.size, 1, none⟩), .int .u64 (cp : Nat), .agg (u8s (compL cp)), z 9, z 10, z 11, z 12, z 13, z 14, z 15, z 16], []⟩) ∧ Holding [9, 10, 11, 12, 13, 14, 15, 16, 4] [some (.slice A x c), some (.pointer (some ⟨w.heap.size, 0, none⟩)), some (.int .i64 lv), some (.int .u64 (uN lv : Nat)), none, some (.slice (some ⟨gc, 0, none⟩) 8 8), none, none, none] ll z ∧ Whn ll 4 (SlB (encN (uN lv))) (z 13) wx ∧ Whn ll 6 (RowsM [L, encN (uN lv), compL cp]) (z 15) wx ∧ Whn ll 7 (NewB w.heap.size (L ++ (encN (uN lv) ++ compL cp))) (z 16) wx ∧ Whn ll 8 (NewB w.heap.size (L ++ (encN (uN lv) ++ compL cp))) (z 4) wx) ?_ (by kernel_rfl) ?_ ?_ _ _ _ _ (unlisted_none _) ?_
  · rintro ll aa wx ⟨hI, _⟩
    exact hI.out.1
  · rintro ll aa wx ⟨hI, z, ha, hz, hp4, hp6, hp7, hp8⟩ hall
    have hx := Lib.hid hI.out.2
    have e0 : z 9 = .slice A x c := hz 0 _ (hall 0 (by decide)) rfl
    have e1 : z 10 = .pointer (some ⟨w.heap.size, 0, none⟩) := hz 1 _ (hall 1 (by decide)) rfl
    have e2 : z 11 = .int .i64 lv := hz 2 _ (hall 2 (by decide)) rfl
    have e3 : z 12 = .int .u64 (uN lv : Nat) := hz 3 _ (hall 3 (by decide)) rfl
    have e5 : z 14 = .slice (some ⟨gc, 0, none⟩) 8 8 := hz 5 _ (hall 5 (by decide)) rfl
    have p4 := hp4.get (hall 4 (by decide))
    have p6 := hp6.get (hall 6 (by decide))
    have p7 := hp7.get (hall 7 (by decide))
    have p8 := hp8.get (hall 8 (by decide))
    clear hall hz hI hp4 hp6 hp7 hp8
    obtain rfl := ha.out
    clear ha
    clear apx
    clear e0 e1 e2 e3 e5 p4 p6 p7
    have P8 := Lib.hid p8
    clear p8
    go_wp2
    go_ret
    exact ⟨_, rfl, P8.out, Hl2.out.trans (hx.out.mono hbase.out)⟩
  · rintro ll aa wx i ⟨hI, z, ha, hz, hp4, hp6, hp7, hp8⟩ hi hu hw
    obtain rfl := ha.out
    have hsz := Lib.hid hI.out.1
    have hx := Lib.hid hI.out.2
    clear ha hI
    have hin : i < 9 := hi
    obtain rfl | rfl | rfl | rfl | rfl | rfl | rfl | rfl | rfl : i = 0 ∨ i = 1 ∨ i = 2 ∨ i = 3 ∨ i = 4 ∨ i = 5 ∨ i = 6 ∨ i = 7 ∨ i = 8 := by omega
    · refine wpOp_plain rfl rfl ?_
      go_simp
      exact ⟨⟨by simp [hsz.out], hx.out⟩, upd z 9 (.slice A x c), (by unfold Hid; simp [upd]), hz.next apx hsz.out 0 (by decide) _ (fun _ h => Option.some.inj h), hp4.keep (by decide), hp6.keep (by decide), hp7.keep (by decide), hp8.keep (by decide)⟩
    · refine wpOp_plain rfl rfl ?_
      go_simp
      exact ⟨⟨by simp [hsz.out], hx.out⟩, upd z 10 (.pointer (some ⟨w.heap.size, 0, none⟩)), (by unfold Hid; simp [upd]), hz.next apx hsz.out 1 (by decide) _ (fun _ h => Option.some.inj h), hp4.keep (by decide), hp6.keep (by decide), hp7.keep (by decide), hp8.keep (by decide)⟩
    · have e1 : z 10 = .pointer (some ⟨w.heap.size, 0, none⟩) := hz 1 _ (hw 1 (by kernel_rfl)) rfl
      have cl : wx.cell? ⟨w.heap.size, 0, none⟩ = some (.int .i64 lv) := (hx.out.cell (p := ⟨w.heap.size, 0, none⟩) (World.block_lt_of_cell? _ _ CC.out)).trans CC.out
      refine wpOp_plain rfl rfl ?_
      go_simp
      exact ⟨⟨by simp [hsz.out], hx.out⟩, upd z 11 (.int .i64 lv), (by unfold Hid; simp [upd, e1]), hz.next apx hsz.out 2 (by decide) _ (fun _ h => Option.some.inj h), hp4.keep (by decide), hp6.keep (by decide), hp7.keep (by decide), hp8.keep (by decide)⟩
    · have e2 : z 11 = .int .i64 lv := hz 2 _ (hw 2 (by kernel_rfl)) rfl
      refine wpOp_plain rfl rfl ?_
      go_simp
      exact ⟨⟨by simp [hsz.out], hx.out⟩, upd z 12 (.int .u64 (uN lv : Nat)), (by unfold Hid; simp [upd, e2, hwr.out]), hz.next apx hsz.out 3 (by decide) _ (fun _ h => Option.some.inj h), hp4.keep (by decide), hp6.keep (by decide), hp7.keep (by decide), hp8.keep (by decide)⟩
    · have e3 : z 12 = .int .u64 (uN lv : Nat) := hz 3 _ (hw 3 (by kernel_rfl)) rfl
      refine wpOp_plain rfl rfl ?_
      go_simp
      go_at_call 47
      refine (digits_new (uN lv) (uN_lt lv) _).mono ?_
      rintro e w' ⟨vr, rfl, own, low⟩
      exact ⟨⟨by simp [hsz.out], hx.out.trans (low.mono hx.out.size)⟩, upd z 13 (vr), (by unfold Hid; simp [upd, e3]), hz.next apx hsz.out 4 (by decide) _ (fun _ h => by cases h), Whn.done (own.sl), (hp6.keep (by decide)).map (fun h => h.later low), (hp7.keep (by decide)).map (fun h => h.later low), (hp8.keep (by decide)).map (fun h => h.later low)⟩
    · refine wpOp_plain rfl rfl ?_
      go_simp
      exact ⟨⟨by simp [hsz.out], hx.out⟩, upd z 14 (.slice (some ⟨gc, 0, none⟩) 8 8), (by unfold Hid; simp [upd]), hz.next apx hsz.out 5 (by decide) _ (fun _ h => Option.some.inj h), hp4.keep (by decide), hp6.keep (by decide), hp7.keep (by decide), hp8.keep (by decide)⟩
    · have e0 : z 9 = .slice A x c := hz 0 _ (hw 0 (by kernel_rfl)) rfl
      have e5 : z 14 = .slice (some ⟨gc, 0, none⟩) 8 8 := hz 5 _ (hw 5 (by kernel_rfl)) rfl
      have p4 := hp4.get (hw 4 (by kernel_rfl))
      obtain ⟨A3, c3, e13, b3⟩ := p4
      refine wpOp_plain rfl rfl ?_
      go_simp
      have lown : Below wx.heap.size wx (wx.alloc (.cells #[.slice A x c, .slice A3 (encN (uN lv)).length c3, .slice (some ⟨gc, 0, none⟩) 8 8] 22)) := (Below.refl _ _).alloc (Nat.le_refl _) _
      exact ⟨⟨by simp [hsz.out], hx.out.trans (lown.mono hx.out.size)⟩, upd z 15 (.slice (some ⟨wx.heap.size, 0, none⟩) 3 3), (by unfold Hid; simp [upd, e0, e5, e13]), hz.next apx hsz.out 6 (by decide) _ (fun _ h => by cases h), (hp4.keep (by decide)).map (fun h => h.later lown), Whn.done (RowsM.three (HL.out.at hx.out (Nat.le_refl _)) ⟨A3, c3, rfl, b3⟩ (HC.out.at hx.out (Nat.le_refl _))), (hp7.keep (by decide)).map (fun h => h.later lown), (hp8.keep (by decide)).map (fun h => h.later lown)⟩
    · have p6 := hp6.get (hw 6 (by kernel_rfl))
      refine wpOp_plain rfl rfl ?_
      go_simp
      go_at_call 46
      refine (concat_rows _ _ _ p6 (by simp) Hlen.out.1 Hlen.out.2).mono ?_
      rintro e w' ⟨vr, rfl, own, low⟩
      exact ⟨⟨by simp [hsz.out], hx.out.trans (low.mono hx.out.size)⟩, upd z 16 (vr), (by unfold Hid; simp [upd]), hz.next apx hsz.out 7 (by decide) _ (fun _ h => by cases h), (hp4.keep (by decide)).map (fun h => h.later low), (hp6.keep (by decide)).map (fun h => h.later low), Whn.done (by have h := own.base (B' := w.heap.size) (Nat.le_trans hbase.out hx.out.size); have h2 : NewB w.heap.size (L ++ (encN (uN lv) ++ compL cp)) vr w' := (by simpa using h); exact h2), (hp8.keep (by decide)).map (fun h => h.later low)⟩
    · have p7 := hp7.get (hw 7 (by kernel_rfl))
      refine wpOp_plain rfl rfl ?_
      go_simp
      exact ⟨⟨by simp [hsz.out], hx.out⟩, upd z 4 (z 16), (by unfold Hid; simp [upd]), hz.next apx hsz.out 8 (by decide) _ (fun _ h => by cases h), hp4.keep (by decide), hp6.keep (by decide), hp7.keep (by decide), Whn.done (p7)⟩
  · exact ⟨⟨rfl, (Below.refl _ _).drew⟩, fun xx => (#[.slice A x c, .agg #[.int .i64 lv, .int .u64 (cp : Nat)], undef, .pointer (some ⟨w.heap.size, 0, none⟩), .slice none 0 0, .pointer (some ⟨gc, 0, none⟩), .pointer (some ⟨w.heap.size, 1, none⟩), .int .u64 (cp : Nat), .agg (u8s (compL cp)), undef, undef, undef, undef, undef, undef, undef, undef] : Array Value).getD xx undef, rfl, Holding.start, Whn.none (by decide), Whn.none (by decide), Whn.none (by decide), Whn.none (by decide)⟩
end Go.Proofs.Ytigfcmnknijobaa.Cod
