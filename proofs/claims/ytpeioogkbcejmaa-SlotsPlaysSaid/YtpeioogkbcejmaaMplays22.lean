/- DERIVED. Texts of ours, merged: XRef9Do4. -/
import Derived.Test.YtpeioogkbcejmaaMplays18
/- DERIVED. Layer 9's law: play.do at one kind of act (written by a program). -/
namespace Go.Proofs.Ytpeioogkbcejmaa.Slt
open Go.RowKit Dsk
attribute [local go_sem ↓ high] loadAtM9
set_option maxRecDepth 100000 in
set_option maxHeartbeats 8000000 in
theorem do_restart {w0 w : World} {pg : Nat} {K : DK} {M : MK} {D : DS} {x : X3} (h : PS w0 w pg K M D x) (a : Aw) (ok : a.Ok) (hk : kindA a = 4) (hx : -1000 ≤ x.from_ ∧ x.from_ ≤ 1000) (hy : -9223372036854775808 ≤ x.many ∧ x.many ≤ 1000) :
    Calls Try.prog 10 #[.pointer (some ⟨pg, 0, none⟩), .agg a.c] w fun e w' => e = .returned (.bool true) ∧ PS w0 w' pg K M (restD D) x := by
  have hrow := Go.heap_alloc_new w (.cells a.c 43)
  have hb1 : Below w.heap.size w (w.alloc (.cells a.c 43)) := (Below.refl _ _).alloc (Nat.le_refl _) _
  have c0 : (w.alloc (.cells a.c 43)).cell? ⟨w.heap.size, 0, none⟩ = some (.int .i64 a.what) := cell_row hrow 0
  obtain ⟨w1, hw1⟩ : ∃ w1, w1 = w.alloc (.cells a.c 43) := ⟨_, rfl⟩
  have Hw1 := Lib.hid hw1.symm
  rw [← hw1] at c0 hrow hb1
  have hps := h
  have Hps : Hid (∃ vl vr, PD w0 w1 pg K M D x vl vr ∧ ((vl = .pointer none ∧ vr = .pointer none) ∨ ∃ J I S, vl = .pointer (some ⟨J.g, 0, none⟩) ∧ vr = .pointer (some ⟨I.g, 0, none⟩) ∧ PLog w0 w1 pg K M D J I S)) := by
    obtain ⟨vl, vr, hp, hl⟩ := hps
    refine ⟨vl, vr, hp.later hb1, ?_⟩
    rcases hl with hl | ⟨J, I, S, e1, e2, hl⟩
    · exact .inl hl
    · exact .inr ⟨J, I, S, e1, e2, hl.later hb1⟩
  have Hold : Hid ((∀ q ∈ K.bl, q < w.heap.size) ∧ (∀ q ∈ M.bl, q < w.heap.size) ∧ pg < w.heap.size) := by
    obtain ⟨vl, vr, hp, _⟩ := h
    exact ⟨hp.klt.1, hp.klt.2, hp.plt⟩
  have Hrow := Lib.hid hrow
  have Hb1 := Lib.hid hb1
  have Hk := Lib.hid hk
  have Hok := Lib.hid ok
  obtain ⟨what, hwh⟩ : ∃ z, z = a.what := ⟨_, rfl⟩
  rw [← hwh] at c0
  obtain ⟨X, hX⟩ : ∃ X, X = a.c := ⟨_, rfl⟩
  rw [← hX] at Hw1 ⊢
  have HX := Lib.hid hX
  have Hwh := Lib.hid hwh
  clear hw1 hX hwh h hps hrow hb1 hk ok
  go_enter Try.func10, Try.ntmps10
  go_upto_region 1 with (fail)
  rw [Hw1.out]
  go_cut [15] from 11 to 73 (fun s15 wx => wx = w1 ∧ s15 = .int .i64 4)
  case first =>
    go_wp2
    go_meet
    exact ⟨rfl, by congr 1; rw [Hwh.out]; exact Hk.out⟩
  case rest =>
    obtain ⟨hwc, rfl⟩ := hcut
    subst hwc
    rename World => w1
    have hps := Hps.out
    clear Hps c0
    obtain ⟨vl, vr, hp, hl⟩ := hps
    have HP := Lib.hid hp
    have c0 := hp.cells.1
    clear hp hl
    go_upto_region 8 with (fail)
    go_cut [] from 16 to 73 (fun wx => Dsk wx K (restD D) ∧ Chg K.bl w1 wx)
    case first =>
      go_wp2_with (go_at_call 20; refine (restart_any HP.out.dsk).mono ?_; rintro e w2 ⟨rfl, hd2, hc2⟩; have Hd2 := Lib.hid hd2; have Hc2 := Lib.hid hc2; clear hd2 hc2)
      go_meet
      exact ⟨Hd2.out, Hc2.out⟩
    case rest =>
    obtain ⟨hd2, hc2⟩ := hcut
    rename World => w2
    have Hd2 := Lib.hid hd2
    have Hc2 := Lib.hid hc2
    clear hd2 hc2
    have hr2 := HP.out.rd.chg Hc2.out (fun q hq hm => HP.out.km q hm hq)
    obtain ⟨wh, m, hrow2, hml, hm16, hmi⟩ := hr2.row
    have Hr2 := Lib.hid hr2
    have Hrow2 := Lib.hid hrow2
    have Hmm := Lib.hid (And.intro hm16 hmi)
    have CX1 : Hid (w2.cell? ⟨pg, 1, none⟩ = some (.pointer (some ⟨M.g, 0, none⟩))) := by
      have := Hc2.out.at HP.out.row HP.out.kp
      show _ = _
      rw [cell_row this 1]; rfl
    have Hpm : Hid (pg ≠ M.g) := fun e => HP.out.mp (by rw [e]; simp [MK.bl])
    clear c0 hr2 hrow2 hml hm16 hmi
    go_upto_region 9 with (fail)
    go_cut [] from 74 to 85 (fun wx => wx.heap[M.g]? = some (.cells (rowR M.b D.data.length false false wh m) 36 (0, 0)) ∧ Chg [M.g] w2 wx)
    case first =>
      have apx : apartB [74, 75, 76, 77, 78, 79, 80, 81, 82, 83, 1010, 84, 85, 1013] = true := by decide
      refine wp_region_any (by kernel_rfl) ?_
      change wpAny _ _ _ _ _ _ _ (World.drew _)
      refine wpAny_inv2 (fun ll aa wx => Hid (ll.size = 14 ∧ RS M D.data.length 10 D.off false 13 D.laid false wh m w2 ll wx) ∧ ∃ (z : Nat → Value), Hid (aa = ⟨#[.pointer (some ⟨pg, 0, none⟩), .agg X, undef, .pointer (some ⟨w.heap.size, 0, none⟩), .bool false, undef, undef, undef, undef, undef, undef, u11, u12, u13, u14, .int .i64 4, u16, u17, u18, u19, u20, u21, u22, u23, u24, u25, u26, u27, u28, u29, u30, u31, u32, u33, u34, u35, u36, u37, u38, u39, u40, u41, u42, u43, u44, u45, u46, u47, u48, u49, u50, u51, u52, u53, u54, u55, u56, u57, u58, u59, u60, u61, u62, u63, u64, u65, u66, u67, u68, u69, u70, u71, u72, u73, z 74, z 75, z 76, z 77, z 78, z 79, z 80, z 81, z 82, z 83, z 84, z 85, undef, undef, undef, undef, undef, undef, undef, undef, undef, undef, undef, undef, undef, undef, undef, undef, undef, undef, undef, undef, undef, undef, undef, undef, undef, undef, undef, undef, undef, undef, undef, undef, undef, undef, undef, undef, undef, undef, undef, undef, undef, undef, undef, undef, undef, undef, undef, undef, undef, undef, undef, undef, undef, undef, undef, undef, undef, undef, undef, undef, undef, undef, undef, undef, undef, undef, undef, undef, undef, undef, undef, undef, undef, undef, undef, undef, undef, undef, undef, undef, undef, undef, undef, undef, undef, undef, undef, undef, undef, undef, undef, undef, undef, undef, undef, undef, undef, undef, undef, undef, undef, undef, undef, undef, undef, undef, undef, undef, undef, undef, undef, undef, undef, undef, undef, undef, undef, undef, undef, undef, undef, undef, undef, undef, undef, undef, undef, undef, undef, undef, undef, undef, undef, undef, undef, undef, undef, undef, undef, undef, undef, undef, undef, undef, undef, undef, undef], []⟩) ∧ Holding [74, 75, 76, 77, 78, 79, 80, 81, 82, 83, 1010, 84, 85, 1013] [some (.pointer (some ⟨pg, 0, none⟩)), some (.pointer (some ⟨pg, 0, none⟩)), some (.pointer (some ⟨pg, 1, none⟩)), some (.pointer (some ⟨M.g, 0, none⟩)), some (.pointer (some ⟨pg, 0, none⟩)), some (.pointer (some ⟨pg, 0, none⟩)), some (.pointer (some ⟨pg, 1, none⟩)), some (.pointer (some ⟨M.g, 0, none⟩)), some (.pointer (some ⟨M.g, 0, none⟩)), some (.pointer (some ⟨M.g, 1, none⟩)), none, some (.pointer (some ⟨M.g, 0, none⟩)), some (.pointer (some ⟨M.g, 2, none⟩)), none] ll z ∧ Whn ll 13 (fun _ w => w.heap[M.g]? = some (.cells (rowR M.b D.data.length false false wh m) 36 (0, 0))) (z 1013) wx) ?_ (by kernel_rfl) ?_ ?_ _ rfl _ _ ?_
      · rintro ll aa wx ⟨hI, _⟩
        exact hI.out.1
      · rintro ll aa wx ⟨hI, z, ha, hz, hp13⟩ hall
        have hx := Lib.hid hI.out.2
        have e0 : z 74 = .pointer (some ⟨pg, 0, none⟩) := hz 0 _ (hall 0 (by decide)) rfl
        have e1 : z 75 = .pointer (some ⟨pg, 0, none⟩) := hz 1 _ (hall 1 (by decide)) rfl
        have e2 : z 76 = .pointer (some ⟨pg, 1, none⟩) := hz 2 _ (hall 2 (by decide)) rfl
        have e3 : z 77 = .pointer (some ⟨M.g, 0, none⟩) := hz 3 _ (hall 3 (by decide)) rfl
        have e4 : z 78 = .pointer (some ⟨pg, 0, none⟩) := hz 4 _ (hall 4 (by decide)) rfl
        have e5 : z 79 = .pointer (some ⟨pg, 0, none⟩) := hz 5 _ (hall 5 (by decide)) rfl
        have e6 : z 80 = .pointer (some ⟨pg, 1, none⟩) := hz 6 _ (hall 6 (by decide)) rfl
        have e7 : z 81 = .pointer (some ⟨M.g, 0, none⟩) := hz 7 _ (hall 7 (by decide)) rfl
        have e8 : z 82 = .pointer (some ⟨M.g, 0, none⟩) := hz 8 _ (hall 8 (by decide)) rfl
        have e9 : z 83 = .pointer (some ⟨M.g, 1, none⟩) := hz 9 _ (hall 9 (by decide)) rfl
        have e11 : z 84 = .pointer (some ⟨M.g, 0, none⟩) := hz 11 _ (hall 11 (by decide)) rfl
        have e12 : z 85 = .pointer (some ⟨M.g, 2, none⟩) := hz 12 _ (hall 12 (by decide)) rfl
        have p13 := hp13.get (hall 13 (by decide))
        clear hall hz hI hp13
        obtain rfl := ha.out
        clear ha
        clear apx
        clear e0 e1 e2 e3 e4 e5 e6 e7 e8 e9 e11 e12
        go_wp2
        go_meet
        exact ⟨p13, hx.out.chg⟩
      · rintro ll aa wx i ⟨hI, z, ha, hz, hp13⟩ hcl hi hu hw
        obtain rfl := ha.out
        have hsz := Lib.hid hI.out.1
        have hx := Lib.hid hI.out.2
        clear ha hI
        have hin : i < 14 := hi
        obtain rfl | rfl | rfl | rfl | rfl | rfl | rfl | rfl | rfl | rfl | rfl | rfl | rfl | rfl : i = 0 ∨ i = 1 ∨ i = 2 ∨ i = 3 ∨ i = 4 ∨ i = 5 ∨ i = 6 ∨ i = 7 ∨ i = 8 ∨ i = 9 ∨ i = 10 ∨ i = 11 ∨ i = 12 ∨ i = 13 := by omega
        · refine wpOp_plain rfl rfl ?_
          go_simp
          exact ⟨⟨by simp [hsz.out], hx.out.same (by decide) (by decide)⟩, upd z 74 (.pointer (some ⟨pg, 0, none⟩)), (by unfold Hid; simp [upd]), hz.next apx hsz.out 0 (by decide) _ (fun _ h => Option.some.inj h), hp13.keep (by decide)⟩
        · have e0 : z 74 = .pointer (some ⟨pg, 0, none⟩) := hz 0 _ (hw 0 (by kernel_rfl)) rfl
          refine wpOp_plain rfl rfl ?_
          go_simp
          exact ⟨⟨by simp [hsz.out], hx.out.same (by decide) (by decide)⟩, upd z 75 (.pointer (some ⟨pg, 0, none⟩)), (by unfold Hid; simp [upd, e0]), hz.next apx hsz.out 1 (by decide) _ (fun _ h => Option.some.inj h), hp13.keep (by decide)⟩
        · have e1 : z 75 = .pointer (some ⟨pg, 0, none⟩) := hz 1 _ (hw 1 (by kernel_rfl)) rfl
          refine wpOp_plain rfl rfl ?_
          go_simp
          exact ⟨⟨by simp [hsz.out], hx.out.same (by decide) (by decide)⟩, upd z 76 (.pointer (some ⟨pg, 1, none⟩)), (by unfold Hid; simp [upd, e1]), hz.next apx hsz.out 2 (by decide) _ (fun _ h => Option.some.inj h), hp13.keep (by decide)⟩
        · have e2 : z 76 = .pointer (some ⟨pg, 1, none⟩) := hz 2 _ (hw 2 (by kernel_rfl)) rfl
          have cl := hx.out.cell CX1.out Hpm.out
          refine wpOp_plain rfl rfl ?_
          go_simp
          exact ⟨⟨by simp [hsz.out], hx.out.same (by decide) (by decide)⟩, upd z 77 (.pointer (some ⟨M.g, 0, none⟩)), (by unfold Hid; simp [upd, e2]), hz.next apx hsz.out 3 (by decide) _ (fun _ h => Option.some.inj h), hp13.keep (by decide)⟩
        · refine wpOp_plain rfl rfl ?_
          go_simp
          exact ⟨⟨by simp [hsz.out], hx.out.same (by decide) (by decide)⟩, upd z 78 (.pointer (some ⟨pg, 0, none⟩)), (by unfold Hid; simp [upd]), hz.next apx hsz.out 4 (by decide) _ (fun _ h => Option.some.inj h), hp13.keep (by decide)⟩
        · have e4 : z 78 = .pointer (some ⟨pg, 0, none⟩) := hz 4 _ (hw 4 (by kernel_rfl)) rfl
          refine wpOp_plain rfl rfl ?_
          go_simp
          exact ⟨⟨by simp [hsz.out], hx.out.same (by decide) (by decide)⟩, upd z 79 (.pointer (some ⟨pg, 0, none⟩)), (by unfold Hid; simp [upd, e4]), hz.next apx hsz.out 5 (by decide) _ (fun _ h => Option.some.inj h), hp13.keep (by decide)⟩
        · have e5 : z 79 = .pointer (some ⟨pg, 0, none⟩) := hz 5 _ (hw 5 (by kernel_rfl)) rfl
          refine wpOp_plain rfl rfl ?_
          go_simp
          exact ⟨⟨by simp [hsz.out], hx.out.same (by decide) (by decide)⟩, upd z 80 (.pointer (some ⟨pg, 1, none⟩)), (by unfold Hid; simp [upd, e5]), hz.next apx hsz.out 6 (by decide) _ (fun _ h => Option.some.inj h), hp13.keep (by decide)⟩
        · have e6 : z 80 = .pointer (some ⟨pg, 1, none⟩) := hz 6 _ (hw 6 (by kernel_rfl)) rfl
          have cl := hx.out.cell CX1.out Hpm.out
          refine wpOp_plain rfl rfl ?_
          go_simp
          exact ⟨⟨by simp [hsz.out], hx.out.same (by decide) (by decide)⟩, upd z 81 (.pointer (some ⟨M.g, 0, none⟩)), (by unfold Hid; simp [upd, e6]), hz.next apx hsz.out 7 (by decide) _ (fun _ h => Option.some.inj h), hp13.keep (by decide)⟩
        · have e3 : z 77 = .pointer (some ⟨M.g, 0, none⟩) := hz 3 _ (hw 3 (by kernel_rfl)) rfl
          refine wpOp_plain rfl rfl ?_
          go_simp
          exact ⟨⟨by simp [hsz.out], hx.out.same (by decide) (by decide)⟩, upd z 82 (.pointer (some ⟨M.g, 0, none⟩)), (by unfold Hid; simp [upd, e3]), hz.next apx hsz.out 8 (by decide) _ (fun _ h => Option.some.inj h), hp13.keep (by decide)⟩
        · have e8 : z 82 = .pointer (some ⟨M.g, 0, none⟩) := hz 8 _ (hw 8 (by kernel_rfl)) rfl
          refine wpOp_plain rfl rfl ?_
          go_simp
          exact ⟨⟨by simp [hsz.out], hx.out.same (by decide) (by decide)⟩, upd z 83 (.pointer (some ⟨M.g, 1, none⟩)), (by unfold Hid; simp [upd, e8]), hz.next apx hsz.out 9 (by decide) _ (fun _ h => Option.some.inj h), hp13.keep (by decide)⟩
        · have e9 : z 83 = .pointer (some ⟨M.g, 1, none⟩) := hz 9 _ (hw 9 (by kernel_rfl)) rfl
          have hr := hx.out.row
          have cl := cell_row hr 1
          have cf := free_row hr 1
          rw [show ∀ (q : Nat) (a b : Bool) (e : Int) (f : List Int), (rowR M.b q a b e f)[1]? = some (.bool a) from fun _ _ _ _ _ => rfl] at cl
          refine wpOp_plain rfl rfl ?_
          go_simp
          obtain ⟨vr, hvr⟩ : ∃ vr, vr = undef := ⟨_, rfl⟩
          exact ⟨⟨by simp [hsz.out], RS.st1 (q1 := 10) (q2 := 13) hx.out (by rw [hsz.out]; decide) (by decide)⟩, upd z 1010 (vr), (by unfold Hid; simp [upd, e9]), hz.next apx hsz.out 10 (by decide) _ (fun _ h => by cases h), Whn.never (by decide) (fun hl => hcl 13 10 hl (by kernel_rfl)) hu⟩
        · have e7 : z 81 = .pointer (some ⟨M.g, 0, none⟩) := hz 7 _ (hw 7 (by kernel_rfl)) rfl
          refine wpOp_plain rfl rfl ?_
          go_simp
          exact ⟨⟨by simp [hsz.out], hx.out.same (by decide) (by decide)⟩, upd z 84 (.pointer (some ⟨M.g, 0, none⟩)), (by unfold Hid; simp [upd, e7]), hz.next apx hsz.out 11 (by decide) _ (fun _ h => Option.some.inj h), hp13.keep (by decide)⟩
        · have e11 : z 84 = .pointer (some ⟨M.g, 0, none⟩) := hz 11 _ (hw 11 (by kernel_rfl)) rfl
          refine wpOp_plain rfl rfl ?_
          go_simp
          exact ⟨⟨by simp [hsz.out], hx.out.same (by decide) (by decide)⟩, upd z 85 (.pointer (some ⟨M.g, 2, none⟩)), (by unfold Hid; simp [upd, e11]), hz.next apx hsz.out 12 (by decide) _ (fun _ h => Option.some.inj h), hp13.keep (by decide)⟩
        · have e12 : z 85 = .pointer (some ⟨M.g, 2, none⟩) := hz 12 _ (hw 12 (by kernel_rfl)) rfl
          have hr := hx.out.row
          have cl := cell_row hr 2
          have cf := free_row hr 2
          rw [show ∀ (q : Nat) (a b : Bool) (e : Int) (f : List Int), (rowR M.b q a b e f)[2]? = some (.bool b) from fun _ _ _ _ _ => rfl] at cl
          have hst := heap_setCell_same _ M.g 2 _ _ (Value.bool false) hr
          rw [rowR_has, hw 10 (by kernel_rfl), if_pos rfl] at hst
          refine wpOp_plain rfl rfl ?_
          go_simp
          obtain ⟨vr, hvr⟩ : ∃ vr, vr = undef := ⟨_, rfl⟩
          exact ⟨⟨by simp [hsz.out], RS.st2 (q1 := 10) (q2 := 13) hx.out (by rw [hsz.out]; decide) (by decide)⟩, upd z 1013 (vr), (by unfold Hid; simp [upd, e12]), hz.next apx hsz.out 13 (by decide) _ (fun _ h => by cases h), Whn.done (hst)⟩
      · exact ⟨⟨rfl, RS.start Hrow2.out⟩, fun xx => (#[.pointer (some ⟨pg, 0, none⟩), .agg X, undef, .pointer (some ⟨w.heap.size, 0, none⟩), .bool false, undef, undef, undef, undef, undef, undef, u11, u12, u13, u14, .int .i64 4, u16, u17, u18, u19, u20, u21, u22, u23, u24, u25, u26, u27, u28, u29, u30, u31, u32, u33, u34, u35, u36, u37, u38, u39, u40, u41, u42, u43, u44, u45, u46, u47, u48, u49, u50, u51, u52, u53, u54, u55, u56, u57, u58, u59, u60, u61, u62, u63, u64, u65, u66, u67, u68, u69, u70, u71, u72, u73, undef, undef, undef, undef, undef, undef, undef, undef, undef, undef, undef, undef, undef, undef, undef, undef, undef, undef, undef, undef, undef, undef, undef, undef, undef, undef, undef, undef, undef, undef, undef, undef, undef, undef, undef, undef, undef, undef, undef, undef, undef, undef, undef, undef, undef, undef, undef, undef, undef, undef, undef, undef, undef, undef, undef, undef, undef, undef, undef, undef, undef, undef, undef, undef, undef, undef, undef, undef, undef, undef, undef, undef, undef, undef, undef, undef, undef, undef, undef, undef, undef, undef, undef, undef, undef, undef, undef, undef, undef, undef, undef, undef, undef, undef, undef, undef, undef, undef, undef, undef, undef, undef, undef, undef, undef, undef, undef, undef, undef, undef, undef, undef, undef, undef, undef, undef, undef, undef, undef, undef, undef, undef, undef, undef, undef, undef, undef, undef, undef, undef, undef, undef, undef, undef, undef, undef, undef, undef, undef, undef, undef, undef, undef, undef, undef, undef, undef, undef, undef, undef, undef, undef, undef, undef, undef, undef, undef, undef, undef] : Array Value).getD xx undef, rfl, Holding.start, Whn.none (by decide)⟩
    case rest =>
      obtain ⟨hrw, hch⟩ := hcut
      rename World => w3
      have hla : (restD D).laid = true → wh = (restD D).whole ∧ m = (restD D).mask := fun h => by cases h
      have hrd : RD w3 M (restD D) := ⟨⟨wh, m, hrw, hla, Hmm.out.1, Hmm.out.2⟩, hch.at Hr2.out.body (fun h => Hr2.out.ne (List.mem_singleton.1 h).symm), Hr2.out.ne, by show (0 : Int) ≤ 0 ∧ (0 : Int) ≤ 9223372036854775807; decide⟩
      have hpd : PD w0 w3 pg K M (restD D) x vl vr := by
        have hc : Chg (M.g :: K.bl) w1 w3 := (Hc2.out.mono (fun q hq => .inl (List.mem_cons_of_mem _ hq))).trans (hch.mono (fun q hq => .inl (by simp at hq; subst hq; exact List.mem_cons_self ..)))
        refine ⟨hc.at HP.out.row (fun hm => ?_), Hd2.out.chg hch (fun hm => ?_) (fun hm => ?_), hrd, HP.out.km, HP.out.kp, HP.out.mp, hc.below HP.out.low HP.out.low.size (fun q hq => ?_), HP.out.kb, HP.out.mb, HP.out.pb⟩
        · rcases List.mem_cons.1 hm with e | hm
          · exact Hpm.out e
          · exact HP.out.kp hm
        · simp at hm; exact HP.out.km K.g (by simp [DK.bl]) (by rw [hm]; simp [MK.bl])
        · simp at hm; exact HP.out.km K.h (by simp [DK.bl]) (by rw [hm]; simp [MK.bl])
        · rcases List.mem_cons.1 hq with rfl | hq
          · exact HP.out.mb _ (by simp [MK.bl])
          · exact HP.out.kb q hq
      have Hpd := Lib.hid hpd
      clear hrd hpd hrw hch
      go_wp2_with (go_at_call 9; refine (play_open Hpd.out hx hy).mono ?_; rintro e w4 ⟨rfl, hps4⟩; have P4 := Lib.hid hps4; clear hps4)
      go_ret
      exact ⟨rfl, P4.out⟩
end Go.Proofs.Ytpeioogkbcejmaa.Slt
