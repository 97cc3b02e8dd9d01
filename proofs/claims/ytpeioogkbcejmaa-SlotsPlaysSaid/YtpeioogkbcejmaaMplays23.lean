/- DERIVED. Texts of ours, merged: XRef9Do5 XRef9Do. -/
import Derived.Test.YtpeioogkbcejmaaMplays18
import Derived.Test.YtpeioogkbcejmaaMplays20
import Derived.Test.YtpeioogkbcejmaaMplays4
import Derived.BigQuiet
import Derived.Test.YtpeioogkbcejmaaMplays21
import Derived.Test.YtpeioogkbcejmaaMplays22
/- DERIVED. Layer 9's law: play.do at one kind of act (written by a program). -/
namespace Go.Proofs.Ytpeioogkbcejmaa.Slt
open Go.RowKit Dsk
attribute [local go_sem ↓ high] loadAtM9
set_option maxRecDepth 100000 in
set_option maxHeartbeats 8000000 in
theorem do_put {w0 w : World} {pg : Nat} {K : DK} {M : MK} {D : DS} {x : X3} (h : PS w0 w pg K M D x) (a : Aw) (ok : a.Ok) (hk : kindA a = 5) (hx : -1000 ≤ x.from_ ∧ x.from_ ≤ 1000) (hy : -9223372036854775808 ≤ x.many ∧ x.many ≤ 1000) (hB : Byt w0 a.A a.cap a.L) (hlen : a.L.length ≤ 2000) :
    Calls Try.prog 10 #[.pointer (some ⟨pg, 0, none⟩), .agg a.c] w fun e w' => e = .returned (.bool true) ∧ ∃ D', PS w0 w' pg K M D' x ∧ D'.writes = D.writes := by
  have hrow := Go.heap_alloc_new w (.cells a.c 43)
  have hb1 : Below w.heap.size w (w.alloc (.cells a.c 43)) := (Below.refl _ _).alloc (Nat.le_refl _) _
  have c0 : (w.alloc (.cells a.c 43)).cell? ⟨w.heap.size, 0, none⟩ = some (.int .i64 a.what) := cell_row hrow 0
  obtain ⟨w1, hw1⟩ : ∃ w1, w1 = w.alloc (.cells a.c 43) := ⟨_, rfl⟩
  have Hw1 := Lib.hid hw1.symm
  rw [← hw1] at c0 hrow hb1
  have hps := h
  have Hps : Hid (∃ vl vr, PD w0 w1 pg K M D x vl vr ∧ ((vl = .pointer none ∧ vr = .pointer none) ∨ ∃ J I S, vl = .pointer (some ⟨J.g, 0, none⟩) ∧ vr = .pointer (some ⟨I.g, 0, none⟩) ∧ PLog w0 w1 pg K M D J I S)) := by
    obtain ⟨vl, vr, hp, hl⟩ := hps
    refine ⟨vl, vr, hp.later hb1, ?_⟩
    rcases hl with hl | ⟨J, I, S, e1, e2, hl⟩
    · exact .inl hl
    · exact .inr ⟨J, I, S, e1, e2, hl.later hb1⟩
  have Hold : Hid ((∀ q ∈ K.bl, q < w.heap.size) ∧ (∀ q ∈ M.bl, q < w.heap.size) ∧ pg < w.heap.size) := by
    obtain ⟨vl, vr, hp, _⟩ := h
    exact ⟨hp.klt.1, hp.klt.2, hp.plt⟩
  have Hrow := Lib.hid hrow
  have Hb1 := Lib.hid hb1
  have Hk := Lib.hid hk
  have Hok := Lib.hid ok
  obtain ⟨what, hwh⟩ : ∃ z, z = a.what := ⟨_, rfl⟩
  rw [← hwh] at c0
  obtain ⟨X, hX⟩ : ∃ X, X = a.c := ⟨_, rfl⟩
  rw [← hX] at Hw1 ⊢
  have HX := Lib.hid hX
  have Hwh := Lib.hid hwh
  have HB := Lib.hid hB
  have Hxy := Lib.hid (And.intro hx hy)
  obtain ⟨n, hn⟩ : ∃ n, n = a.L.length := ⟨_, rfl⟩
  rw [← hn] at hlen
  have Hn := Lib.hid hn
  clear hw1 hX hwh h hps hrow hb1 hk ok hB hn hx hy
  go_enter Try.func10, Try.ntmps10
  go_upto_region 1 with (fail)
  rw [Hw1.out]
  go_cut [15] from 11 to 73 (fun s15 wx => wx = w1 ∧ s15 = .int .i64 5)
  case first =>
    go_wp2
    go_meet
    exact ⟨rfl, by congr 1; rw [Hwh.out]; exact Hk.out⟩
  case rest =>
    obtain ⟨hwc, rfl⟩ := hcut
    subst hwc
    rename World => w1
    have hps := Hps.out
    clear Hps c0
    obtain ⟨vl, vr, hp, hl⟩ := hps
    have HP := Lib.hid hp
    have HL := Lib.hid hl
    have CT : Hid (w1.cell? ⟨w.heap.size, 19, none⟩ = some (.slice a.A n a.cap)) := by
      show _ = _
      rw [cell_row Hrow.out 19, aw_text Hok.out, Hn.out]
    have ct := CT.out
    have ca : w1.cell? ⟨w.heap.size, 2, none⟩ = some (.int .i64 a.at_) := by rw [cell_row Hrow.out 2]; rfl
    obtain ⟨c0, c1, _, _, _, _⟩ := hp.cells
    have HB1 := Lib.hid (HB.out.below hp.low (Nat.le_refl _))
    have Hin := Lib.hid Hok.out.inb
    have HA0 : Hid (∀ ad, a.A = some ad → 0 < a.L.length → ad.block < w0.heap.size) := fun ad hA hl0 => by
      obtain ⟨g, off, e, hg, _⟩ := HB.out.2.2 hl0
      rw [hA] at e
      cases e
      exact hg
    have Hat := Lib.hid Hok.out.at_.2
    obtain ⟨A, hA⟩ : ∃ A, A = a.A := ⟨_, rfl⟩
    obtain ⟨cp, hcp⟩ : ∃ c, c = a.cap := ⟨_, rfl⟩
    obtain ⟨t, ht⟩ : ∃ t, t = a.L := ⟨_, rfl⟩
    obtain ⟨z, hz⟩ : ∃ z, z = a.at_ := ⟨_, rfl⟩
    rw [← hA, ← hcp] at ct
    rw [← hA, ← hcp, ← ht] at HB1
    rw [← hA, ← ht] at HA0
    rw [← ht] at Hin
    rw [← hz] at ca Hat
    have Htn : Hid (t.length = n) := by show _ = _; rw [ht]; exact Hn.out.symm
    obtain ⟨wh, m, hrow, hml, hm16, hmi⟩ := hp.rd.row
    have cb := cell_row hrow 0
    rw [show ∀ (q N : Nat) (a b : Bool) (e : Int) (f : List Int), (rowR q N a b e f)[0]? = some (.slice (some ⟨q, 0, none⟩) N N) from fun _ _ _ _ _ _ => rfl] at cb
    obtain ⟨N, hN⟩ : ∃ N, N = D.data.length := ⟨_, rfl⟩
    rw [← hN] at cb
    have HN := Lib.hid hN
    have HlenN : Hid (N ≤ 2097152) := by rw [hN]; exact hp.dsk.ok.len
    clear hA hcp ht hz hp hl hrow hml hm16 hmi hN
    go_upto_region 12 with (fail)
    go_cut [122] from 90 to 122 (fun s122 wx => s122 = .bool (decide (z < 0 ∨ (N : Int) < wrap64 (z + (n : Int)) ∨ (N : Int) < z)) ∧ Below w1.heap.size w1 wx)
    case first =>
      by_cases h1 : z < 0
      · have d1 : decide (z < 0) = true := decide_eq_true h1
        have hd : decide (z < 0 ∨ (N : Int) < wrap64 (z + (n : Int)) ∨ (N : Int) < z) = true := decide_eq_true (.inl h1)
        have Hd := Lib.hid hd
        clear h1 hd
        go_big_quiet (fail)
        go_wp2
        go_meet
        exact ⟨by rw [Hd.out], Below.drewN (Below.refl _ _) _⟩
      · have d1 : decide (z < 0) = false := decide_eq_false h1
        by_cases h2 : (N : Int) < wrap64 (z + (n : Int))
        · have d2 : decide ((N : Int) < wrap64 (z + (n : Int))) = true := decide_eq_true h2
          have hd : decide (z < 0 ∨ (N : Int) < wrap64 (z + (n : Int)) ∨ (N : Int) < z) = true := decide_eq_true (.inr (.inl h2))
          have Hd := Lib.hid hd
          clear h1 h2 hd
          go_big_quiet (fail)
          go_wp2
          go_meet
          exact ⟨by rw [Hd.out], Below.drewN (Below.refl _ _) _⟩
        · have d2 : decide ((N : Int) < wrap64 (z + (n : Int))) = false := decide_eq_false h2
          have hd : decide (z < 0 ∨ (N : Int) < wrap64 (z + (n : Int)) ∨ (N : Int) < z) = decide ((N : Int) < z) := by simp [h1, h2]
          have Hd := Lib.hid hd
          clear h1 h2 hd
          go_big_quiet (fail)
          go_wp2
          go_meet
          exact ⟨by rw [Hd.out], Below.drewN (Below.refl _ _) _⟩
    case rest =>
    obtain ⟨rfl, hb2⟩ := hcut
    rename World => w2
    have Hb2 := Lib.hid hb2
    by_cases hbad : z < 0 ∨ (N : Int) < wrap64 (z + (n : Int)) ∨ (N : Int) < z
    · have hd : decide (z < 0 ∨ (N : Int) < wrap64 (z + (n : Int)) ∨ (N : Int) < z) = true := decide_eq_true hbad
      rw [hd]
      clear hbad hd hb2 ct ca c0 c1 cb
      go_wp2
      go_ret
      refine ⟨rfl, D, ⟨vl, vr, HP.out.later Hb2.out, ?_⟩, rfl⟩
      rcases HL.out with hl | ⟨J, I, S, e1, e2, hl⟩
      · exact .inl hl
      · exact .inr ⟨J, I, S, e1, e2, hl.later Hb2.out⟩
    · have hd : decide (z < 0 ∨ (N : Int) < wrap64 (z + (n : Int)) ∨ (N : Int) < z) = false := decide_eq_false hbad
      rw [hd]
      obtain ⟨k, hk⟩ : ∃ k : Nat, z = k := ⟨z.toNat, by omega⟩
      subst hk
      have hkn : k + n ≤ N := by
        have hN2 := HlenN.out
        have h1 : ¬ (N : Int) < wrap64 ((k : Int) + (n : Int)) := fun h => hbad (.inr (.inl h))
        have h2 : ¬ (N : Int) < (k : Int) := fun h => hbad (.inr (.inr h))
        rw [show wrap64 ((k : Int) + (n : Int)) = (k : Int) + (n : Int) by unfold wrap64; omega] at h1
        omega
      have Hkn := Lib.hid hkn
      have HP2 := Lib.hid (HP.out.later hb2)
      have hput := put_ok (w := w2.drew) (HP2.out.dsk.later (Below.refl _ _).drew) k n (by rw [← HN.out]; exact hkn) A cp t Htn.out Hin.out ((HB1.out.below hb2 (Nat.le_refl _)).below (Below.refl _ _).drew (Nat.le_refl _))
      unfold DK.ptr at hput
      have Hput := Lib.hid hput
      have CA2 : Hid (w2.cell? ⟨w.heap.size, 2, none⟩ = some (.int .i64 (k : Nat))) := (World.cell?_of_block (hb2.block _ (World.block_lt_of_cell? _ _ ca))).trans ca
      have CT2 : Hid (w2.cell? ⟨w.heap.size, 19, none⟩ = some (.slice A n cp)) := (World.cell?_of_block (hb2.block _ (World.block_lt_of_cell? _ _ ct))).trans ct
      have d0 : w2.drew.cell? ⟨pg, 0, none⟩ = some (.pointer (some ⟨K.g, 0, none⟩)) := HP2.out.cells.1
      have da : w2.drew.cell? ⟨w.heap.size, 2, none⟩ = some (.int .i64 (k : Nat)) := CA2.out
      have dt : w2.drew.cell? ⟨w.heap.size, 19, none⟩ = some (.slice A n cp) := CT2.out
      have HB2 := Lib.hid (HB1.out.below hb2 (Nat.le_refl _))
      clear hbad hd hb2 ct ca c0 c1 cb hput hkn
      go_upto_region 14 with (fail)
      go_cut [] from 123 to 131 (fun wx => Dsk wx K { D with data := splice D.data k t } ∧ Chg K.bl w2 wx)
      case first =>
        refine wp_region_still_tail 8 (by kernel_rfl) (by kernel_rfl) ?_
        simp only [List.take_succ_cons, List.take_zero, List.drop_succ_cons, List.drop_zero]
        change wpStill _ _ w2.drew _ _ _
        repeat (refine wpStill_step (fun K1 hK => ?_); go_simp; refine hK _ ?_; clear hK K1)
        refine wpStill_nil ?_
        change wpList _ _ _ _ _ w2.drew
        go_wp2_with (go_at_call 17; refine Hput.out.mono ?_; rintro e w3 ⟨rfl, hd3, hc3⟩; have Hd3 := Lib.hid hd3; have Hc3 := Lib.hid hc3; clear hd3 hc3)
        go_meet
        exact ⟨Hd3.out, (Chg.of_below (Below.refl _ _).drew).trans Hc3.out⟩
      case rest =>
      obtain ⟨hd3, hc3⟩ := hcut
      rename World => w3
      have Hd3 := Lib.hid hd3
      have Hc3 := Lib.hid hc3
      clear hd3 hc3 Hput d0 da dt
      go_upto_block 1 with (fail)
      have hr3 := HP2.out.rd.chg Hc3.out (fun q hq hm => HP2.out.km q hm hq)
      have hactK : w.heap.size ∉ K.bl := fun h => by have := Hold.out.1 _ h; exact absurd this (Nat.lt_irrefl _)
      have CP3 : Hid (w3.cell? ⟨pg, 1, none⟩ = some (.pointer (some ⟨M.g, 0, none⟩))) := by
        show _ = _
        rw [cell_row (Hc3.out.at HP2.out.row HP2.out.kp) 1]; rfl
      have CA3 : Hid (w3.cell? ⟨w.heap.size, 2, none⟩ = some (.int .i64 (k : Nat))) := (World.cell?_of_block (Hc3.out.block _ (World.block_lt_of_cell? _ _ CA2.out) hactK)).trans CA2.out
      have CT3 : Hid (w3.cell? ⟨w.heap.size, 19, none⟩ = some (.slice A n cp)) := (World.cell?_of_block (Hc3.out.block _ (World.block_lt_of_cell? _ _ CT2.out) hactK)).trans CT2.out
      have CB3 : Hid (w3.cell? ⟨M.g, 0, none⟩ = some (.slice (some ⟨M.b, 0, none⟩) N N)) := by
        obtain ⟨wh, m, hrow, _⟩ := hr3.row
        show _ = _
        rw [cell_row hrow 0, HN.out]; rfl
      have HB3 : Hid (Byt w3 A cp t) := byt_chg0 HB2.out Hc3.out (fun hl ad hA hm => by
        have h1 := HA0.out ad hA hl
        have := HP.out.kb _ hm; omega)
      have HAm : Hid (∀ ad, A = some ad → 0 < t.length → ad.block ∉ [M.b]) := fun ad hA hl hm => by
        have h1 := HA0.out ad hA hl
        have := HP.out.mb M.b (by simp [MK.bl])
        simp at hm; omega
      have Hpm : Hid (pg ∉ [M.b]) := fun h => HP.out.mp (by rw [List.mem_singleton.1 h]; simp [MK.bl])
      have Hgm : Hid (M.g ∉ [M.b]) := fun h => hr3.ne (List.mem_singleton.1 h)
      have Ham : Hid (w.heap.size ∉ [M.b]) := fun h => by have := Hold.out.2.1 M.b (by simp [MK.bl]); rw [List.mem_singleton] at h; omega
      have Hr3 := Lib.hid hr3
      have Hbody3 : Hid (w3.heap[M.b]? = some (.cells (splice (vals D.data) k (vals (t.take 0))).toArray 5 (0, 0))) := by
        show _ = _
        rw [hr3.body, List.take_zero, show vals [] = [] from rfl, show splice (vals D.data) k ([] : List Value) = vals D.data by simp [splice]]
      clear hr3 hactK CA2 CT2
      go_cut [6] from 132 to 155 (fun s6 wx => wx.heap[M.b]? = some (.cells (splice (vals D.data) k (vals t)).toArray 5 (0, 0)) ∧ Chg [M.b] w3 wx)
      case first =>
        go_wp2
        go_loopw [6] (fun v wr => ∃ i : Nat, i ≤ n ∧ v = .int .i64 i ∧ Hid (wr.heap[M.b]? = some (.cells (splice (vals D.data) k (vals (t.take i))).toArray 5 (0, 0)) ∧ Chg [M.b] w3 wr)) (fun v _ => n - (intOf v).toNat)
        case atStart => exact ⟨0, Nat.zero_le _, rfl, Hbody3.out, Chg.refl _ _⟩
        case round =>
          obtain ⟨i, hi, rfl, hrel⟩ := hrel
          have Hrel := hrel
          clear hrel Hbody3
          have hch := Hrel.out.2
          have CP : Hid (wr.cell? ⟨pg, 1, none⟩ = some (.pointer (some ⟨M.g, 0, none⟩))) := (World.cell?_of_block (hch.block _ (World.block_lt_of_cell? _ _ CP3.out) Hpm.out)).trans CP3.out
          have CA : Hid (wr.cell? ⟨w.heap.size, 2, none⟩ = some (.int .i64 (k : Nat))) := (World.cell?_of_block (hch.block _ (World.block_lt_of_cell? _ _ CA3.out) Ham.out)).trans CA3.out
          have CT : Hid (wr.cell? ⟨w.heap.size, 19, none⟩ = some (.slice A n cp)) := (World.cell?_of_block (hch.block _ (World.block_lt_of_cell? _ _ CT3.out) Ham.out)).trans CT3.out
          have CB : Hid (wr.cell? ⟨M.g, 0, none⟩ = some (.slice (some ⟨M.b, 0, none⟩) N N)) := (World.cell?_of_block (hch.block _ (World.block_lt_of_cell? _ _ CB3.out) Hgm.out)).trans CB3.out
          have ct := CT.out
          clear hch
          by_cases hlt : i < n
          · have hltI : (i : Int) < (n : Int) := by omega
            obtain ⟨g, off, rfl, hg, hcs⟩ := HB3.out.2.2 (by rw [Htn.out]; omega)
            have hcz := hcs i (by rw [Htn.out]; exact hlt)
            have Hgm2 : Hid (g ∉ [M.b]) := HAm.out _ rfl (by rw [Htn.out]; omega)
            obtain ⟨y, hy⟩ : ∃ y, y = t.getD i 0 := ⟨_, rfl⟩
            rw [← hy] at hcz
            have CZ : Hid (wr.cell? ⟨g, off + i, none⟩ = some (.int .u8 y)) := (World.cell?_of_block (Hrel.out.2.block _ (World.block_lt_of_cell? _ _ hcz) Hgm2.out)).trans hcz
            have Hy := Lib.hid hy
            have hN3 : k + t.length ≤ (vals D.data).length := by rw [vals_length, Htn.out, ← HN.out]; exact Hkn.out
            obtain ⟨q, hq⟩ : ∃ q, q = k + i := ⟨_, rfl⟩
            have HC0 : Hid (∃ y2, (splice (vals D.data) k (vals (t.take i))).toArray[q]? = some (.int .u8 y2)) := by
              have hl : (vals (t.take i)).length = i := by rw [vals_length, List.length_take, Htn.out]; omega
              have hqD : q < D.data.length := by have := Hkn.out; have := HN.out; omega
              refine ⟨D.data[q], ?_⟩
              rw [List.getElem?_toArray, splice_get _ _ _ (by rw [hl]; have := Htn.out; omega), hl, if_neg (by omega), if_neg (by omega)]
              simp [vals, hqD]
            have Hsm : Hid ((splice (vals D.data) k (vals (t.take i))).toArray.setIfInBounds q (.int .u8 y) = (splice (vals D.data) k (vals (t.take (i + 1)))).toArray) := by
              show _ = _
              rw [hq]
              exact splice_more _ k i t y (by rw [Htn.out]; exact hlt) hN3 Hy.out
            have hwq : IntKind.i64.wrap ((k : Int) + (i : Int)) = (q : Int) := by have := Hkn.out; have := HlenN.out; rw [IntKind.wrap_i64]; omega
            have hqN : q < N := by have := Hkn.out; omega
            have hqI : (q : Int) < (N : Int) := by omega
            clear hcs hcz hy hg hq hN3
            go_upto_region 18 with (fail)
            have apx : apartB [139, 140, 141, 142, 143, 144, 145, 146, 147, 148, 149, 150, 151, 152, 153, 154, 155, 1017] = true := by decide
            refine wp_region_any (by kernel_rfl) ?_
            change wpAny _ _ _ _ _ _ _ (World.drew _)
            refine wpAny_inv2 (fun ll aa wx => Hid (ll.size = 18 ∧ RelC 17 [M.b] wr ll wx) ∧ ∃ (z : Nat → Value), Hid (aa = ⟨#[.pointer (some ⟨pg, 0, none⟩), .agg X, undef, .pointer (some ⟨w.heap.size, 0, none⟩), .bool false, undef, .int .i64 (i : Nat), undef, undef, undef, undef, u11, u12, u13, u14, .int .i64 5, .bool false, .bool false, u18, u19, u20, u21, u22, u23, u24, u25, u26, u27, u28, u29, u30, u31, u32, u33, u34, u35, u36, u37, u38, u39, u40, u41, u42, u43, u44, u45, u46, u47, u48, u49, u50, u51, u52, u53, u54, u55, u56, u57, u58, u59, u60, u61, u62, u63, u64, u65, u66, .bool false, .bool false, u69, u70, u71, u72, u73, undef, undef, undef, undef, undef, undef, undef, undef, undef, undef, undef, undef, undef, undef, .bool true, .bool true, u90, u91, u92, u93, u94, u95, u96, u97, u98, u99, u100, u101, u102, u103, u104, u105, u106, u107, u108, u109, u110, u111, u112, u113, u114, u115, u116, u117, u118, u119, u120, u121, .bool false, u123, u124, u125, u126, u127, u128, u129, u130, u131, .int .i64 (i : Nat), .pointer (some ⟨w.heap.size, 19, none⟩), .slice (some ⟨g, off, none⟩) n cp, .int .i64 (n : Nat), .bool true, u137, u138, z 139, z 140, z 141, z 142, z 143, z 144, z 145, z 146, z 147, z 148, z 149, z 150, z 151, z 152, z 153, z 154, z 155, undef, undef, undef, undef, undef, undef, undef, undef, undef, undef, undef, undef, undef, undef, undef, undef, undef, undef, undef, undef, undef, undef, undef, undef, undef, undef, undef, undef, undef, undef, undef, undef, undef, undef, undef, undef, undef, undef, undef, undef, undef, undef, undef, undef, undef, undef, undef, undef, undef, undef, undef, undef, undef, undef, undef, undef, undef, undef, undef, undef, undef, undef, undef, undef, undef, undef, undef, undef, undef, undef, undef, undef, undef, undef, undef, undef, undef], []⟩) ∧ Holding [139, 140, 141, 142, 143, 144, 145, 146, 147, 148, 149, 150, 151, 152, 153, 154, 155, 1017] [some (.pointer (some ⟨pg, 0, none⟩)), some (.pointer (some ⟨pg, 0, none⟩)), some (.pointer (some ⟨pg, 1, none⟩)), some (.pointer (some ⟨M.g, 0, none⟩)), some (.pointer (some ⟨M.g, 0, none⟩)), some (.pointer (some ⟨M.g, 0, none⟩)), some (.slice (some ⟨M.b, 0, none⟩) N N), some (.pointer (some ⟨w.heap.size, 2, none⟩)), some (.int .i64 (k : Nat)), some (.int .i64 (i : Nat)), some (.int .i64 (q : Nat)), some (.pointer (some ⟨w.heap.size, 19, none⟩)), some (.slice (some ⟨g, off, none⟩) n cp), some (.int .i64 (i : Nat)), some (.pointer (some ⟨g, off + i, none⟩)), some (.int .u8 y), some (.pointer (some ⟨M.b, q, none⟩)), none] ll z ∧ Whn ll 17 (fun _ w => w.heap[M.b]? = some (.cells (splice (vals D.data) k (vals (t.take (i + 1)))).toArray 5 (0, 0))) (z 1017) wx) ?_ (by kernel_rfl) ?_ ?_ _ rfl _ _ ?_
            · rintro ll aa wx ⟨hI, _⟩
              exact hI.out.1
            · rintro ll aa wx ⟨hI, z, ha, hz, hp17⟩ hall
              have hx := Lib.hid hI.out.2
              have e0 : z 139 = .pointer (some ⟨pg, 0, none⟩) := hz 0 _ (hall 0 (by decide)) rfl
              have e1 : z 140 = .pointer (some ⟨pg, 0, none⟩) := hz 1 _ (hall 1 (by decide)) rfl
              have e2 : z 141 = .pointer (some ⟨pg, 1, none⟩) := hz 2 _ (hall 2 (by decide)) rfl
              have e3 : z 142 = .pointer (some ⟨M.g, 0, none⟩) := hz 3 _ (hall 3 (by decide)) rfl
              have e4 : z 143 = .pointer (some ⟨M.g, 0, none⟩) := hz 4 _ (hall 4 (by decide)) rfl
              have e5 : z 144 = .pointer (some ⟨M.g, 0, none⟩) := hz 5 _ (hall 5 (by decide)) rfl
              have e6 : z 145 = .slice (some ⟨M.b, 0, none⟩) N N := hz 6 _ (hall 6 (by decide)) rfl
              have e7 : z 146 = .pointer (some ⟨w.heap.size, 2, none⟩) := hz 7 _ (hall 7 (by decide)) rfl
              have e8 : z 147 = .int .i64 (k : Nat) := hz 8 _ (hall 8 (by decide)) rfl
              have e9 : z 148 = .int .i64 (i : Nat) := hz 9 _ (hall 9 (by decide)) rfl
              have e10 : z 149 = .int .i64 (q : Nat) := hz 10 _ (hall 10 (by decide)) rfl
              have e11 : z 150 = .pointer (some ⟨w.heap.size, 19, none⟩) := hz 11 _ (hall 11 (by decide)) rfl
              have e12 : z 151 = .slice (some ⟨g, off, none⟩) n cp := hz 12 _ (hall 12 (by decide)) rfl
              have e13 : z 152 = .int .i64 (i : Nat) := hz 13 _ (hall 13 (by decide)) rfl
              have e14 : z 153 = .pointer (some ⟨g, off + i, none⟩) := hz 14 _ (hall 14 (by decide)) rfl
              have e15 : z 154 = .int .u8 y := hz 15 _ (hall 15 (by decide)) rfl
              have e16 : z 155 = .pointer (some ⟨M.b, q, none⟩) := hz 16 _ (hall 16 (by decide)) rfl
              have p17 := hp17.get (hall 17 (by decide))
              clear hall hz hI hp17
              obtain rfl := ha.out
              clear ha
              clear apx
              clear e0 e1 e2 e3 e4 e5 e6 e7 e8 e9 e10 e11 e12 e13 e14 e15 e16
              go_wp2
              exact ⟨⟨i + 1, by omega, by go_num, p17, Hrel.out.2.trans hx.out.1⟩, by simp [intOf]; omega⟩
            · rintro ll aa wx i ⟨hI, z, ha, hz, hp17⟩ hcl hi hu hw
              obtain rfl := ha.out
              have hsz := Lib.hid hI.out.1
              have hx := Lib.hid hI.out.2
              clear ha hI
              have hin : i < 18 := hi
              obtain rfl | rfl | rfl | rfl | rfl | rfl | rfl | rfl | rfl | rfl | rfl | rfl | rfl | rfl | rfl | rfl | rfl | rfl : i = 0 ∨ i = 1 ∨ i = 2 ∨ i = 3 ∨ i = 4 ∨ i = 5 ∨ i = 6 ∨ i = 7 ∨ i = 8 ∨ i = 9 ∨ i = 10 ∨ i = 11 ∨ i = 12 ∨ i = 13 ∨ i = 14 ∨ i = 15 ∨ i = 16 ∨ i = 17 := by omega
              · refine wpOp_plain rfl rfl ?_
                go_simp
                exact ⟨⟨by simp [hsz.out], hx.out.same⟩, upd z 139 (.pointer (some ⟨pg, 0, none⟩)), (by unfold Hid; simp [upd]), hz.next apx hsz.out 0 (by decide) _ (fun _ h => Option.some.inj h), hp17.keep (by decide)⟩
              · have e0 : z 139 = .pointer (some ⟨pg, 0, none⟩) := hz 0 _ (hw 0 (by kernel_rfl)) rfl
                refine wpOp_plain rfl rfl ?_
                go_simp
                exact ⟨⟨by simp [hsz.out], hx.out.same⟩, upd z 140 (.pointer (some ⟨pg, 0, none⟩)), (by unfold Hid; simp [upd, e0]), hz.next apx hsz.out 1 (by decide) _ (fun _ h => Option.some.inj h), hp17.keep (by decide)⟩
              · have e1 : z 140 = .pointer (some ⟨pg, 0, none⟩) := hz 1 _ (hw 1 (by kernel_rfl)) rfl
                refine wpOp_plain rfl rfl ?_
                go_simp
                exact ⟨⟨by simp [hsz.out], hx.out.same⟩, upd z 141 (.pointer (some ⟨pg, 1, none⟩)), (by unfold Hid; simp [upd, e1]), hz.next apx hsz.out 2 (by decide) _ (fun _ h => Option.some.inj h), hp17.keep (by decide)⟩
              · have e2 : z 141 = .pointer (some ⟨pg, 1, none⟩) := hz 2 _ (hw 2 (by kernel_rfl)) rfl
                have cl := hx.out.cell CP.out Hpm.out
                refine wpOp_plain rfl rfl ?_
                go_simp
                exact ⟨⟨by simp [hsz.out], hx.out.same⟩, upd z 142 (.pointer (some ⟨M.g, 0, none⟩)), (by unfold Hid; simp [upd, e2]), hz.next apx hsz.out 3 (by decide) _ (fun _ h => Option.some.inj h), hp17.keep (by decide)⟩
              · have e3 : z 142 = .pointer (some ⟨M.g, 0, none⟩) := hz 3 _ (hw 3 (by kernel_rfl)) rfl
                refine wpOp_plain rfl rfl ?_
                go_simp
                exact ⟨⟨by simp [hsz.out], hx.out.same⟩, upd z 143 (.pointer (some ⟨M.g, 0, none⟩)), (by unfold Hid; simp [upd, e3]), hz.next apx hsz.out 4 (by decide) _ (fun _ h => Option.some.inj h), hp17.keep (by decide)⟩
              · have e4 : z 143 = .pointer (some ⟨M.g, 0, none⟩) := hz 4 _ (hw 4 (by kernel_rfl)) rfl
                refine wpOp_plain rfl rfl ?_
                go_simp
                exact ⟨⟨by simp [hsz.out], hx.out.same⟩, upd z 144 (.pointer (some ⟨M.g, 0, none⟩)), (by unfold Hid; simp [upd, e4]), hz.next apx hsz.out 5 (by decide) _ (fun _ h => Option.some.inj h), hp17.keep (by decide)⟩
              · have e5 : z 144 = .pointer (some ⟨M.g, 0, none⟩) := hz 5 _ (hw 5 (by kernel_rfl)) rfl
                have cl := hx.out.cell CB.out Hgm.out
                refine wpOp_plain rfl rfl ?_
                go_simp
                exact ⟨⟨by simp [hsz.out], hx.out.same⟩, upd z 145 (.slice (some ⟨M.b, 0, none⟩) N N), (by unfold Hid; simp [upd, e5]), hz.next apx hsz.out 6 (by decide) _ (fun _ h => Option.some.inj h), hp17.keep (by decide)⟩
              · refine wpOp_plain rfl rfl ?_
                go_simp
                exact ⟨⟨by simp [hsz.out], hx.out.same⟩, upd z 146 (.pointer (some ⟨w.heap.size, 2, none⟩)), (by unfold Hid; simp [upd]), hz.next apx hsz.out 7 (by decide) _ (fun _ h => Option.some.inj h), hp17.keep (by decide)⟩
              · have e7 : z 146 = .pointer (some ⟨w.heap.size, 2, none⟩) := hz 7 _ (hw 7 (by kernel_rfl)) rfl
                have cl := hx.out.cell CA.out Ham.out
                refine wpOp_plain rfl rfl ?_
                go_simp
                exact ⟨⟨by simp [hsz.out], hx.out.same⟩, upd z 147 (.int .i64 (k : Nat)), (by unfold Hid; simp [upd, e7]), hz.next apx hsz.out 8 (by decide) _ (fun _ h => Option.some.inj h), hp17.keep (by decide)⟩
              · refine wpOp_plain rfl rfl ?_
                go_simp
                exact ⟨⟨by simp [hsz.out], hx.out.same⟩, upd z 148 (.int .i64 (i : Nat)), (by unfold Hid; simp [upd]), hz.next apx hsz.out 9 (by decide) _ (fun _ h => Option.some.inj h), hp17.keep (by decide)⟩
              · have e8 : z 147 = .int .i64 (k : Nat) := hz 8 _ (hw 8 (by kernel_rfl)) rfl
                have e9 : z 148 = .int .i64 (i : Nat) := hz 9 _ (hw 9 (by kernel_rfl)) rfl
                refine wpOp_plain rfl rfl ?_
                go_simp
                exact ⟨⟨by simp [hsz.out], hx.out.same⟩, upd z 149 (.int .i64 (q : Nat)), (by unfold Hid; simp [upd, e8, e9]), hz.next apx hsz.out 10 (by decide) _ (fun _ h => Option.some.inj h), hp17.keep (by decide)⟩
              · refine wpOp_plain rfl rfl ?_
                go_simp
                exact ⟨⟨by simp [hsz.out], hx.out.same⟩, upd z 150 (.pointer (some ⟨w.heap.size, 19, none⟩)), (by unfold Hid; simp [upd]), hz.next apx hsz.out 11 (by decide) _ (fun _ h => Option.some.inj h), hp17.keep (by decide)⟩
              · have e11 : z 150 = .pointer (some ⟨w.heap.size, 19, none⟩) := hz 11 _ (hw 11 (by kernel_rfl)) rfl
                have cl := hx.out.cell CT.out Ham.out
                refine wpOp_plain rfl rfl ?_
                go_simp
                exact ⟨⟨by simp [hsz.out], hx.out.same⟩, upd z 151 (.slice (some ⟨g, off, none⟩) n cp), (by unfold Hid; simp [upd, e11]), hz.next apx hsz.out 12 (by decide) _ (fun _ h => Option.some.inj h), hp17.keep (by decide)⟩
              · refine wpOp_plain rfl rfl ?_
                go_simp
                exact ⟨⟨by simp [hsz.out], hx.out.same⟩, upd z 152 (.int .i64 (i : Nat)), (by unfold Hid; simp [upd]), hz.next apx hsz.out 13 (by decide) _ (fun _ h => Option.some.inj h), hp17.keep (by decide)⟩
              · have e12 : z 151 = .slice (some ⟨g, off, none⟩) n cp := hz 12 _ (hw 12 (by kernel_rfl)) rfl
                have e13 : z 152 = .int .i64 (i : Nat) := hz 13 _ (hw 13 (by kernel_rfl)) rfl
                refine wpOp_plain rfl rfl ?_
                go_simp
                exact ⟨⟨by simp [hsz.out], hx.out.same⟩, upd z 153 (.pointer (some ⟨g, off + i, none⟩)), (by unfold Hid; simp [upd, e12, e13]), hz.next apx hsz.out 14 (by decide) _ (fun _ h => Option.some.inj h), hp17.keep (by decide)⟩
              · have e14 : z 153 = .pointer (some ⟨g, off + i, none⟩) := hz 14 _ (hw 14 (by kernel_rfl)) rfl
                have cl := hx.out.cell CZ.out Hgm2.out
                refine wpOp_plain rfl rfl ?_
                go_simp
                exact ⟨⟨by simp [hsz.out], hx.out.same⟩, upd z 154 (.int .u8 y), (by unfold Hid; simp [upd, e14]), hz.next apx hsz.out 15 (by decide) _ (fun _ h => Option.some.inj h), hp17.keep (by decide)⟩
              · have e6 : z 145 = .slice (some ⟨M.b, 0, none⟩) N N := hz 6 _ (hw 6 (by kernel_rfl)) rfl
                have e10 : z 149 = .int .i64 (q : Nat) := hz 10 _ (hw 10 (by kernel_rfl)) rfl
                refine wpOp_plain rfl rfl ?_
                go_simp
                exact ⟨⟨by simp [hsz.out], hx.out.same⟩, upd z 155 (.pointer (some ⟨M.b, q, none⟩)), (by unfold Hid; simp [upd, e6, e10]), hz.next apx hsz.out 16 (by decide) _ (fun _ h => Option.some.inj h), hp17.keep (by decide)⟩
              · have e15 : z 154 = .int .u8 y := hz 15 _ (hw 15 (by kernel_rfl)) rfl
                have e16 : z 155 = .pointer (some ⟨M.b, q, none⟩) := hz 16 _ (hw 16 (by kernel_rfl)) rfl
                have hlow := hx.out.2 hu
                have hr := (hlow.block _ (Array.getElem?_eq_some_iff.1 Hrel.out.1).1).trans Hrel.out.1
                obtain ⟨y2, hy2⟩ := HC0.out
                have cl := (cell_row hr q).trans hy2
                have cf := free_row hr q
                have hst := heap_setCell_same _ M.b q _ _ (Value.int .u8 y) hr
                rw [Hsm.out] at hst
                clear hlow hr hy2
                refine wpOp_plain rfl rfl ?_
                go_simp
                obtain ⟨vr, hvr⟩ : ∃ vr, vr = undef := ⟨_, rfl⟩
                exact ⟨⟨by simp [hsz.out], hx.out.wr ((Chg.refl [M.b] wx).setCell (p := ⟨M.b, q, none⟩) (by simp) _) (by rw [hsz.out]; decide)⟩, upd z 1017 (vr), (by unfold Hid; simp [upd, e15, e16]), hz.next apx hsz.out 17 (by decide) _ (fun _ h => by cases h), Whn.done (hst)⟩
            · exact ⟨⟨rfl, RelC.start⟩, fun xx => (#[.pointer (some ⟨pg, 0, none⟩), .agg X, undef, .pointer (some ⟨w.heap.size, 0, none⟩), .bool false, undef, .int .i64 (i : Nat), undef, undef, undef, undef, u11, u12, u13, u14, .int .i64 5, .bool false, .bool false, u18, u19, u20, u21, u22, u23, u24, u25, u26, u27, u28, u29, u30, u31, u32, u33, u34, u35, u36, u37, u38, u39, u40, u41, u42, u43, u44, u45, u46, u47, u48, u49, u50, u51, u52, u53, u54, u55, u56, u57, u58, u59, u60, u61, u62, u63, u64, u65, u66, .bool false, .bool false, u69, u70, u71, u72, u73, undef, undef, undef, undef, undef, undef, undef, undef, undef, undef, undef, undef, undef, undef, .bool true, .bool true, u90, u91, u92, u93, u94, u95, u96, u97, u98, u99, u100, u101, u102, u103, u104, u105, u106, u107, u108, u109, u110, u111, u112, u113, u114, u115, u116, u117, u118, u119, u120, u121, .bool false, u123, u124, u125, u126, u127, u128, u129, u130, u131, .int .i64 (i : Nat), .pointer (some ⟨w.heap.size, 19, none⟩), .slice (some ⟨g, off, none⟩) n cp, .int .i64 (n : Nat), .bool true, u137, u138, u139, u140, u141, u142, u143, u144, u145, u146, u147, u148, u149, u150, u151, u152, u153, u154, u155, undef, undef, undef, undef, undef, undef, undef, undef, undef, undef, undef, undef, undef, undef, undef, undef, undef, undef, undef, undef, undef, undef, undef, undef, undef, undef, undef, undef, undef, undef, undef, undef, undef, undef, undef, undef, undef, undef, undef, undef, undef, undef, undef, undef, undef, undef, undef, undef, undef, undef, undef, undef, undef, undef, undef, undef, undef, undef, undef, undef, undef, undef, undef, undef, undef, undef, undef, undef, undef, undef, undef, undef, undef, undef, undef, undef, undef] : Array Value).getD xx undef, rfl, Holding.start, Whn.none (by decide)⟩
          · have hltI : ¬ (i : Int) < (n : Int) := by omega
            obtain rfl : i = n := by omega
            have hrw := Hrel.out
            rw [← Htn.out, List.take_length] at hrw
            have Hrw := Lib.hid hrw
            clear hrw
            go_wp2
            go_meet
            exact Hrw.out
      case rest =>
      obtain ⟨hrw, hch⟩ := hcut
      rename World => w4
      have hps : PD w0 w4 pg K M { D with data := splice D.data k t } x vl vr := by
        have hN3 : k + t.length ≤ D.data.length := by rw [Htn.out, ← HN.out]; exact Hkn.out
        have hc : Chg (K.bl ++ M.bl) w2 w4 := (Hc3.out.mono (fun q hq => .inl (List.mem_append_left _ hq))).trans (hch.mono (fun q hq => .inl (List.mem_append_right _ (by simp at hq; subst hq; simp [MK.bl]))))
        have hd4 := Hd3.out.chg hch (fun hm => by simp at hm; exact HP.out.km K.g (by simp [DK.bl]) (by rw [hm]; simp [MK.bl])) (fun hm => by simp at hm; exact HP.out.km K.h (by simp [DK.bl]) (by rw [hm]; simp [MK.bl]))
        refine HP2.out.disk hc hd4 ⟨?_, ?_, Hr3.out.ne, Hr3.out.wb⟩
        · obtain ⟨wh, m, h1, h2⟩ := Hr3.out.row
          refine ⟨wh, m, ?_, h2⟩
          have := hch.at h1 Hgm.out
          rw [show ({ D with data := splice D.data k t } : DS).data.length = D.data.length from splice_len _ _ _ hN3]
          exact this
        · have := hrw
          have hs := splice_vals D.data t [] k hN3
          rw [List.append_nil, List.append_nil] at hs
          rw [hs] at this
          exact this
      have Hop := Lib.hid (play_open hps Hxy.out.1 Hxy.out.2)
      clear hps hrw hch
      go_wp2_with (go_at_call 9; refine Hop.out.mono ?_; rintro e w5 ⟨rfl, hps⟩; have Hps := Lib.hid hps; clear hps)
      go_ret
      exact ⟨rfl, _, Hps.out, rfl⟩
end Go.Proofs.Ytpeioogkbcejmaa.Slt
/- DERIVED. Layer 9's law: play.do, whatever the act. -/
namespace Go.Proofs.Ytpeioogkbcejmaa.Slt
open Go.RowKit Dsk
theorem do_any {w0 w : World} {pg : Nat} {K : DK} {M : MK} {D : DS} {x : X3} (h : PS w0 w pg K M D x) (a : Aw) (ok : a.Ok) (hx : -1000 ≤ x.from_ ∧ x.from_ ≤ 1000) (hy : -9223372036854775808 ≤ x.many ∧ x.many ≤ 1000) (hB : Byt w0 a.A a.cap a.L) (hlen : a.L.length ≤ 2000) (hwr : D.writes ≤ 400000000000) :
    Calls Try.prog 10 #[.pointer (some ⟨pg, 0, none⟩), .agg a.c] w fun e w' => e = .returned (.bool true) ∧ ∃ D', PS w0 w' pg K M D' x ∧ D'.writes ≤ D.writes + 20 := by
  by_cases k3 : kindA a = 3
  · refine (do_cut h a ok k3).mono ?_
    rintro e w' ⟨rfl, D', hp, e⟩
    exact ⟨rfl, D', hp, by omega⟩
  · by_cases k4 : kindA a = 4
    · refine (do_restart h a ok k4 hx hy).mono ?_
      rintro e w' ⟨rfl, hp⟩
      exact ⟨rfl, _, hp, by show D.writes ≤ _; omega⟩
    · by_cases k5 : kindA a = 5
      · refine (do_put h a ok k5 hx hy hB hlen).mono ?_
        rintro e w' ⟨rfl, D', hp, e⟩
        exact ⟨rfl, D', hp, by omega⟩
      · exact do_append h a ok rfl k3 k4 k5 hB hlen hwr
end Go.Proofs.Ytpeioogkbcejmaa.Slt
