/- DERIVED. The contract of codec.Vertex. Written by mkcodec.py. -/
import Derived.Test.YtigfcmnknijobaaCodLabel
namespace Go.Proofs.Ytigfcmnknijobaa.Cod
open Go.RowKit Str
def vtxC (h : List Int) (n : Int) : Array Value := (h.map (Value.int .u8) ++ [Value.int .i64 n]).toArray
set_option maxRecDepth 100000 in
set_option maxHeartbeats 1000000 in
theorem vertex_any (A : Option Addr) (x c : Nat) (h : List Int) (n : Int) (L : List Int) (hh : h.length = 32) (hx : L.length = x) (hle : x ≤ 40000) (w : World) (hB : Byt w A c L) :
    Calls Try.prog 33 #[.slice A x c, .agg (vtxC h n)] w fun e w' => ∃ v, e = .returned v ∧ NewB w.heap.size (L ++ (h ++ encN (uN (n + 2)))) v w' ∧ Below w.heap.size w w' := by
  have HB0 : Hid (SlB L (.slice A x c) w) := ⟨A, c, by rw [hx], hB⟩
  have Hlen : Hid (0 < [L, h, encN (uN (n + 2))].flatten.length ∧ [L, h, encN (uN (n + 2))].flatten.length ≤ 50000) := by
    have := encN_le (uN (n + 2))
    constructor <;> simp <;> omega
  obtain ⟨a, ha⟩ : ∃ a, a = IntKind.u64.wrap n := ⟨_, rfl⟩
  have ha1 := Lib.hid ha.symm
  have hb1 : Hid (IntKind.u64.wrap (a + 2) = (uN (n + 2) : Nat)) := by show _ = _; rw [ha]; exact wrap_add2 n
  obtain ⟨w2, hw2⟩ : ∃ w2, w2 = w.alloc (.cells (vtxC h n) 55) := ⟨_, rfl⟩
  have hb0 : w2.heap[w.heap.size]? = some (.cells (vtxC h n) 55 (0, 0)) := by rw [hw2]; exact Go.heap_alloc_new w _
  have low0 : Below w.heap.size w w2 := by rw [hw2]; exact (Below.refl _ _).alloc (Nat.le_refl _) _
  have hs2 : w.heap.size ≤ w2.heap.size := low0.size
  have CC : Hid (w2.cell? ⟨w.heap.size, 32, none⟩ = some (.int .i64 n)) := by show _ = _; rw [cell_row hb0]; simp [vtxC, hh]
  have HL : Hid (SlB L (.slice A x c) w2) := HB0.out.at low0 (Nat.le_refl _)
  have HC : Hid (SlB h (.slice (some ⟨w.heap.size, 0, none⟩) 32 32) w2) := ⟨some ⟨w.heap.size, 0, none⟩, 32, by rw [hh], by omega, (fun h => by cases h), fun _ => ⟨w.heap.size, 0, rfl, (Array.getElem?_eq_some_iff.1 hb0).1, fun j hj => by rw [Nat.zero_add, cell_row hb0]; simp only [vtxC, List.getElem?_toArray]; rw [List.getElem?_append_left (by simpa using hj)]; simp [hj]⟩⟩
  have Hl2 := Lib.hid low0
  have hbase := Lib.hid hs2
  clear hx hB ha hb0 low0 hs2 HB0 hh
  go_enter Try.func33, Try.ntmps33
  go_upto_region 1 with (fail)
  rw [← hw2]
  clear hw2
  have apx : apartB [5, 6, 7, 8, 9, 10, 11, 12, 13, 14, 4] = true := by decide
  refine wp_region_any (by kernel_rfl) ?_
  change wpAny _ _ _ _ _ _ _ (World.drew _)
  refine wpAny_inv (fun ll aa wx => Hid (ll.size = 11 ∧ Below w2.heap.size w2 wx) ∧ ∃ (z : Nat → Value), Hid (aa = ⟨#[.slice A x c, .agg (vtxC h n), undef, .pointer (some ⟨w.heap.size, 0, none⟩), z 4, z 5, z 6, z 7, z 8, z 9, z 10, z 11, z 12, z 13, z 14], []⟩) ∧ Holding [5, 6, 7, 8, 9, 10, 11, 12, 13, 14, 4] [some (.slice A x c), some (.pointer (some ⟨w.heap.size, 0, none⟩)), some (.slice (some ⟨w.heap.size, 0, none⟩) 32 32), some (.pointer (some ⟨w.heap.size, 32, none⟩)), some (.int .i64 n), some (.int .u64 a), some (.int .u64 (uN (n + 2) : Nat)), none, none, none, none] ll z ∧ Whn ll 7 (SlB (encN (uN (n + 2)))) (z 12) wx ∧ Whn ll 8 (RowsM [L, h, encN (uN (n + 2))]) (z 13) wx ∧ Whn ll 9 (NewB w.heap.size (L ++ (h ++ encN (uN (n + 2))))) (z 14) wx ∧ Whn ll 10 (NewB w.heap.size (L ++ (h ++ encN (uN (n + 2))))) (z 4) wx) ?_ (by kernel_rfl) ?_ ?_ _ _ _ _ (unlisted_none _) ?_
  · rintro ll aa wx ⟨hI, _⟩
    exact hI.out.1
  · rintro ll aa wx ⟨hI, z, ha, hz, hp7, hp8, hp9, hp10⟩ hall
    have hx := Lib.hid hI.out.2
    have e0 : z 5 = .slice A x c := hz 0 _ (hall 0 (by decide)) rfl
    have e1 : z 6 = .pointer (some ⟨w.heap.size, 0, none⟩) := hz 1 _ (hall 1 (by decide)) rfl
    have e2 : z 7 = .slice (some ⟨w.heap.size, 0, none⟩) 32 32 := hz 2 _ (hall 2 (by decide)) rfl
    have e3 : z 8 = .pointer (some ⟨w.heap.size, 32, none⟩) := hz 3 _ (hall 3 (by decide)) rfl
    have e4 : z 9 = .int .i64 n := hz 4 _ (hall 4 (by decide)) rfl
    have e5 : z 10 = .int .u64 a := hz 5 _ (hall 5 (by decide)) rfl
    have e6 : z 11 = .int .u64 (uN (n + 2) : Nat) := hz 6 _ (hall 6 (by decide)) rfl
    have p7 := hp7.get (hall 7 (by decide))
    have p8 := hp8.get (hall 8 (by decide))
    have p9 := hp9.get (hall 9 (by decide))
    have p10 := hp10.get (hall 10 (by decide))
    clear hall hz hI hp7 hp8 hp9 hp10
    obtain rfl := ha.out
    clear ha
    clear apx
    clear e0 e1 e2 e3 e4 e5 e6 p7 p8 p9
    have P8 := Lib.hid p10
    clear p10
    go_wp2
    go_ret
    exact ⟨_, rfl, P8.out, Hl2.out.trans (hx.out.mono hbase.out)⟩
  · rintro ll aa wx i ⟨hI, z, ha, hz, hp7, hp8, hp9, hp10⟩ hi hu hw
    obtain rfl := ha.out
    have hsz := Lib.hid hI.out.1
    have hx := Lib.hid hI.out.2
    clear ha hI
    have hin : i < 11 := hi
    obtain rfl | rfl | rfl | rfl | rfl | rfl | rfl | rfl | rfl | rfl | rfl : i = 0 ∨ i = 1 ∨ i = 2 ∨ i = 3 ∨ i = 4 ∨ i = 5 ∨ i = 6 ∨ i = 7 ∨ i = 8 ∨ i = 9 ∨ i = 10 := by omega
    · refine wpOp_plain rfl rfl ?_
      go_simp
      exact ⟨⟨by simp [hsz.out], hx.out⟩, upd z 5 (.slice A x c), (by unfold Hid; simp [upd]), hz.next apx hsz.out 0 (by decide) _ (fun _ h => Option.some.inj h), hp7.keep (by decide), hp8.keep (by decide), hp9.keep (by decide), hp10.keep (by decide)⟩
    · refine wpOp_plain rfl rfl ?_
      go_simp
      exact ⟨⟨by simp [hsz.out], hx.out⟩, upd z 6 (.pointer (some ⟨w.heap.size, 0, none⟩)), (by unfold Hid; simp [upd]), hz.next apx hsz.out 1 (by decide) _ (fun _ h => Option.some.inj h), hp7.keep (by decide), hp8.keep (by decide), hp9.keep (by decide), hp10.keep (by decide)⟩
    · have e1 : z 6 = .pointer (some ⟨w.heap.size, 0, none⟩) := hz 1 _ (hw 1 (by kernel_rfl)) rfl
      refine wpOp_plain rfl rfl ?_
      go_simp
      exact ⟨⟨by simp [hsz.out], hx.out⟩, upd z 7 (.slice (some ⟨w.heap.size, 0, none⟩) 32 32), (by unfold Hid; simp [upd, e1]), hz.next apx hsz.out 2 (by decide) _ (fun _ h => Option.some.inj h), hp7.keep (by decide), hp8.keep (by decide), hp9.keep (by decide), hp10.keep (by decide)⟩
    · refine wpOp_plain rfl rfl ?_
      go_simp
      exact ⟨⟨by simp [hsz.out], hx.out⟩, upd z 8 (.pointer (some ⟨w.heap.size, 32, none⟩)), (by unfold Hid; simp [upd]), hz.next apx hsz.out 3 (by decide) _ (fun _ h => Option.some.inj h), hp7.keep (by decide), hp8.keep (by decide), hp9.keep (by decide), hp10.keep (by decide)⟩
    · have e3 : z 8 = .pointer (some ⟨w.heap.size, 32, none⟩) := hz 3 _ (hw 3 (by kernel_rfl)) rfl
      have cl : wx.cell? ⟨w.heap.size, 32, none⟩ = some (.int .i64 n) := (hx.out.cell (p := ⟨w.heap.size, 32, none⟩) (World.block_lt_of_cell? _ _ CC.out)).trans CC.out
      refine wpOp_plain rfl rfl ?_
      go_simp
      exact ⟨⟨by simp [hsz.out], hx.out⟩, upd z 9 (.int .i64 n), (by unfold Hid; simp [upd, e3]), hz.next apx hsz.out 4 (by decide) _ (fun _ h => Option.some.inj h), hp7.keep (by decide), hp8.keep (by decide), hp9.keep (by decide), hp10.keep (by decide)⟩
    · have e4 : z 9 = .int .i64 n := hz 4 _ (hw 4 (by kernel_rfl)) rfl
      refine wpOp_plain rfl rfl ?_
      go_simp
      exact ⟨⟨by simp [hsz.out], hx.out⟩, upd z 10 (.int .u64 a), (by unfold Hid; simp [upd, e4, ha1.out]), hz.next apx hsz.out 5 (by decide) _ (fun _ h => Option.some.inj h), hp7.keep (by decide), hp8.keep (by decide), hp9.keep (by decide), hp10.keep (by decide)⟩
    · have e5 : z 10 = .int .u64 a := hz 5 _ (hw 5 (by kernel_rfl)) rfl
      refine wpOp_plain rfl rfl ?_
      go_simp
      exact ⟨⟨by simp [hsz.out], hx.out⟩, upd z 11 (.int .u64 (uN (n + 2) : Nat)), (by unfold Hid; simp [upd, e5, hb1.out]), hz.next apx hsz.out 6 (by decide) _ (fun _ h => Option.some.inj h), hp7.keep (by decide), hp8.keep (by decide), hp9.keep (by decide), hp10.keep (by decide)⟩
    · have e6 : z 11 = .int .u64 (uN (n + 2) : Nat) := hz 6 _ (hw 6 (by kernel_rfl)) rfl
      refine wpOp_plain rfl rfl ?_
      go_simp
      go_at_call 47
      refine (digits_new (uN (n + 2)) (uN_lt _) _).mono ?_
      rintro e w' ⟨vr, rfl, own, low⟩
      exact ⟨⟨by simp [hsz.out], hx.out.trans (low.mono hx.out.size)⟩, upd z 12 (vr), (by unfold Hid; simp [upd, e6]), hz.next apx hsz.out 7 (by decide) _ (fun _ h => by cases h), Whn.done (own.sl), (hp8.keep (by decide)).map (fun h => h.later low), (hp9.keep (by decide)).map (fun h => h.later low), (hp10.keep (by decide)).map (fun h => h.later low)⟩
    · have e0 : z 5 = .slice A x c := hz 0 _ (hw 0 (by kernel_rfl)) rfl
      have e2 : z 7 = .slice (some ⟨w.heap.size, 0, none⟩) 32 32 := hz 2 _ (hw 2 (by kernel_rfl)) rfl
      have p7 := hp7.get (hw 7 (by kernel_rfl))
      obtain ⟨A3, c3, e13, b3⟩ := p7
      refine wpOp_plain rfl rfl ?_
      go_simp
      have lown : Below wx.heap.size wx (wx.alloc (.cells #[.slice A x c, .slice (some ⟨w.heap.size, 0, none⟩) 32 32, .slice A3 (encN (uN (n + 2))).length c3] 22)) := (Below.refl _ _).alloc (Nat.le_refl _) _
      exact ⟨⟨by simp [hsz.out], hx.out.trans (lown.mono hx.out.size)⟩, upd z 13 (.slice (some ⟨wx.heap.size, 0, none⟩) 3 3), (by unfold Hid; simp [upd, e0, e2, e13]), hz.next apx hsz.out 8 (by decide) _ (fun _ h => by cases h), (hp7.keep (by decide)).map (fun h => h.later lown), Whn.done (RowsM.three (HL.out.at hx.out (Nat.le_refl _)) (HC.out.at hx.out (Nat.le_refl _)) ⟨A3, c3, rfl, b3⟩), (hp9.keep (by decide)).map (fun h => h.later lown), (hp10.keep (by decide)).map (fun h => h.later lown)⟩
    · have p8 := hp8.get (hw 8 (by kernel_rfl))
      refine wpOp_plain rfl rfl ?_
      go_simp
      go_at_call 46
      refine (concat_rows _ _ _ p8 (by simp) Hlen.out.1 Hlen.out.2).mono ?_
      rintro e w' ⟨vr, rfl, own, low⟩
      exact ⟨⟨by simp [hsz.out], hx.out.trans (low.mono hx.out.size)⟩, upd z 14 (vr), (by unfold Hid; simp [upd]), hz.next apx hsz.out 9 (by decide) _ (fun _ h => by cases h), (hp7.keep (by decide)).map (fun h => h.later low), (hp8.keep (by decide)).map (fun h => h.later low), Whn.done (by have h9 := own.base (B' := w.heap.size) (Nat.le_trans hbase.out hx.out.size); have h2 : NewB w.heap.size (L ++ (h ++ encN (uN (n + 2)))) vr w' := (by simpa using h9); exact h2), (hp10.keep (by decide)).map (fun h => h.later low)⟩
    · have p9 := hp9.get (hw 9 (by kernel_rfl))
      refine wpOp_plain rfl rfl ?_
      go_simp
      exact ⟨⟨by simp [hsz.out], hx.out⟩, upd z 4 (z 14), (by unfold Hid; simp [upd]), hz.next apx hsz.out 10 (by decide) _ (fun _ h => by cases h), hp7.keep (by decide), hp8.keep (by decide), hp9.keep (by decide), Whn.done (p9)⟩
  · exact ⟨⟨rfl, (Below.refl _ _).drew⟩, fun xx => (#[.slice A x c, .agg (vtxC h n), undef, .pointer (some ⟨w.heap.size, 0, none⟩), .slice none 0 0, undef, undef, undef, undef, undef, undef, undef, undef, undef, undef] : Array Value).getD xx undef, rfl, Holding.start, Whn.none (by decide), Whn.none (by decide), Whn.none (by decide), Whn.none (by decide)⟩
end Go.Proofs.Ytigfcmnknijobaa.Cod
