/- DERIVED. Texts of ours, merged: XRef9POpen XRef9POp. -/
import Derived.Test.YtpeioogkbcejmaaMplays16
import Derived.Test.YtpeioogkbcejmaaMplays5
import Derived.Deep.DeepCutAuto
/- DERIVED. Layer 9's law: play.open (mkref9popen.py writes this text). -/
namespace Go.Proofs.Ytpeioogkbcejmaa.Slt
open Go.RowKit Dsk
/-- what holds of a value, and goes on to hold while nothing old changes. -/
structure Mo where
  p : Value → World → Prop
  mono : ∀ x w w', p x w → Below w.heap.size w w' → p x w'
def PP (P : Mo) (v : Value) (w : World) : Prop := P.p v w
theorem PP.later {P : Mo} {v : Value} {w w' : World} (h : PP P v w) (hb : Below w.heap.size w w') : PP P v w' := P.mono _ _ _ h hb
def OT (P : Mo) (E : Int) (v : Value) (w : World) : Prop := ∃ x, v = .tuple #[x, .int .i64 E] ∧ PP P x w
theorem OT.later {P : Mo} {E : Int} {v : Value} {w w' : World} (h : OT P E v w) (hb : Below w.heap.size w w') : OT P E v w' := by
  obtain ⟨x, e, h⟩ := h
  exact ⟨x, e, h.later hb⟩
set_option maxRecDepth 100000 in
set_option maxHeartbeats 8000000 in
theorem play_open_gen {w0 w : World} {pg : Nat} {K : DK} {M : MK} {D : DS} {x : X3} {vl vr : Value} (h : PD w0 w pg K M D x vl vr) (E : Int) (P : Mo) (Q : Value → Mo)
    (o1 : ∀ wx : World, Below w.heap.size w wx → Calls Try.prog 18 #[.pointer (some ⟨K.g, 0, none⟩), .int .i64 x.from_, .int .i64 x.many] wx fun e w' => ∃ v, e = .returned (.tuple #[v, .int .i64 E]) ∧ PP P v w' ∧ Below wx.heap.size wx w')
    (o2 : ∀ (v1 : Value) (wx : World), PP P v1 wx → Below w.heap.size w wx → Calls Try.prog 24 #[.pointer (some ⟨M.g, 0, none⟩), .int .i64 x.from_, .int .i64 x.many] wx fun e w' => ∃ v, e = .returned (.tuple #[v, .int .i64 E]) ∧ PP (Q v1) v w' ∧ Below wx.heap.size wx w')
    (hv : (E ≠ 0 ∧ ∀ v w, PP P v w → v = .pointer none) ∨ (E = 0 ∧ ∀ v w, PP P v w → ∃ g, v = .pointer (some ⟨g, 0, none⟩))) (hv2 : ∀ v1 v w, PP (Q v1) v w → ∃ a, v = .pointer a) :
    Calls Try.prog 9 #[.pointer (some ⟨pg, 0, none⟩)] w fun e w' => e = .returned (.bool true) ∧ ∃ ul ur w2, PP P ul w2 ∧ PP (Q ul) ur w2 ∧ PD w0 w' pg K M D x ul ur ∧ Chg [pg] w2 w' ∧ Below w.heap.size w w2 := by
  have hp := pne
  have HP := Lib.hid h
  have Ho1 := Lib.hid o1
  have Ho2 := Lib.hid o2
  have Hv := Lib.hid hv
  have Hv2 := Lib.hid hv2
  have CX0 := Lib.hid h.cells.1
  have CX5 := Lib.hid h.cells.2.2.2.2.1
  have CX6 := Lib.hid h.cells.2.2.2.2.2
  clear h o1 o2 hv hv2
  go_enter Try.func9, Try.ntmps9
  go_upto_region 1 with (fail)
  go_cut [3, 4] from 7 to 24 (fun s3 s4 wx => PP P s3 wx ∧ s4 = .int .i64 E ∧ Below w.heap.size w wx)
  case first =>
    have apx : apartB [8, 9, 10, 11, 12, 13, 14, 15, 16, 17, 18, 19, 20, 21, 22, 7, 23, 24, 3, 4] = true := by decide
    refine wp_region_any (by kernel_rfl) ?_
    change wpAny _ _ _ _ _ _ _ (World.drew _)
    refine wpAny_inv (fun ll aa wx => Hid (ll.size = 20 ∧ Below w.heap.size w wx) ∧ ∃ (z : Nat → Value), Hid (aa = ⟨#[.pointer (some ⟨pg, 0, none⟩), undef, .bool false, z 3, z 4, undef, undef, z 7, z 8, z 9, z 10, z 11, z 12, z 13, z 14, z 15, z 16, z 17, z 18, z 19, z 20, z 21, z 22, z 23, z 24, undef, undef, undef, undef, undef, undef, undef, undef, undef, undef, undef, undef, undef, undef, undef, undef, undef, undef, undef, undef, undef, undef, undef, undef, undef, undef, undef, undef, undef, undef, undef, undef, undef, undef, undef, undef], []⟩) ∧ Holding [8, 9, 10, 11, 12, 13, 14, 15, 16, 17, 18, 19, 20, 21, 22, 7, 23, 24, 3, 4] [some (.pointer (some ⟨pg, 0, none⟩)), some (.pointer (some ⟨pg, 0, none⟩)), some (.pointer (some ⟨pg, 0, none⟩)), some (.pointer (some ⟨K.g, 0, none⟩)), some (.pointer (some ⟨pg, 0, none⟩)), some (.pointer (some ⟨pg, 0, none⟩)), some (.pointer (some ⟨pg, 4, none⟩)), some (.pointer (some ⟨pg, 5, none⟩)), some (.int .i64 x.from_), some (.pointer (some ⟨pg, 0, none⟩)), some (.pointer (some ⟨pg, 0, none⟩)), some (.pointer (some ⟨pg, 4, none⟩)), some (.pointer (some ⟨pg, 6, none⟩)), some (.int .i64 x.many), none, none, none, some (.int .i64 E), none, some (.int .i64 E)] ll z ∧ Whn ll 14 (OT P E) (z 22) wx ∧ Whn ll 15 (OT P E) (z 7) wx ∧ Whn ll 16 (PP P) (z 23) wx ∧ Whn ll 18 (PP P) (z 3) wx) ?_ (by kernel_rfl) ?_ ?_ _ _ _ _ (unlisted_none _) ?_
    · rintro ll aa wx ⟨hI, _⟩
      exact hI.out.1
    · rintro ll aa wx ⟨hI, z, ha, hz, hp14, hp15, hp16, hp18⟩ hall
      have hx := Lib.hid hI.out.2
      have e0 : z 8 = .pointer (some ⟨pg, 0, none⟩) := hz 0 _ (hall 0 (by decide)) rfl
      have e1 : z 9 = .pointer (some ⟨pg, 0, none⟩) := hz 1 _ (hall 1 (by decide)) rfl
      have e2 : z 10 = .pointer (some ⟨pg, 0, none⟩) := hz 2 _ (hall 2 (by decide)) rfl
      have e3 : z 11 = .pointer (some ⟨K.g, 0, none⟩) := hz 3 _ (hall 3 (by decide)) rfl
      have e4 : z 12 = .pointer (some ⟨pg, 0, none⟩) := hz 4 _ (hall 4 (by decide)) rfl
      have e5 : z 13 = .pointer (some ⟨pg, 0, none⟩) := hz 5 _ (hall 5 (by decide)) rfl
      have e6 : z 14 = .pointer (some ⟨pg, 4, none⟩) := hz 6 _ (hall 6 (by decide)) rfl
      have e7 : z 15 = .pointer (some ⟨pg, 5, none⟩) := hz 7 _ (hall 7 (by decide)) rfl
      have e8 : z 16 = .int .i64 x.from_ := hz 8 _ (hall 8 (by decide)) rfl
      have e9 : z 17 = .pointer (some ⟨pg, 0, none⟩) := hz 9 _ (hall 9 (by decide)) rfl
      have e10 : z 18 = .pointer (some ⟨pg, 0, none⟩) := hz 10 _ (hall 10 (by decide)) rfl
      have e11 : z 19 = .pointer (some ⟨pg, 4, none⟩) := hz 11 _ (hall 11 (by decide)) rfl
      have e12 : z 20 = .pointer (some ⟨pg, 6, none⟩) := hz 12 _ (hall 12 (by decide)) rfl
      have e13 : z 21 = .int .i64 x.many := hz 13 _ (hall 13 (by decide)) rfl
      have e17 : z 24 = .int .i64 E := hz 17 _ (hall 17 (by decide)) rfl
      have e19 : z 4 = .int .i64 E := hz 19 _ (hall 19 (by decide)) rfl
      have p14 := hp14.get (hall 14 (by decide))
      have p15 := hp15.get (hall 15 (by decide))
      have p16 := hp16.get (hall 16 (by decide))
      have p18 := hp18.get (hall 18 (by decide))
      clear hall hz hI hp14 hp15 hp16 hp18
      obtain rfl := ha.out
      clear ha
      clear apx
      clear e0 e1 e2 e3 e4 e5 e6 e7 e8 e9 e10 e11 e12 e13 e17
      go_wp2
      go_meet
      exact ⟨p18, by simp [e19], hx.out⟩
    · rintro ll aa wx i ⟨hI, z, ha, hz, hp14, hp15, hp16, hp18⟩ hi hu hw
      obtain rfl := ha.out
      have hsz := Lib.hid hI.out.1
      have hx := Lib.hid hI.out.2
      clear ha hI
      have hin : i < 20 := hi
      obtain rfl | rfl | rfl | rfl | rfl | rfl | rfl | rfl | rfl | rfl | rfl | rfl | rfl | rfl | rfl | rfl | rfl | rfl | rfl | rfl : i = 0 ∨ i = 1 ∨ i = 2 ∨ i = 3 ∨ i = 4 ∨ i = 5 ∨ i = 6 ∨ i = 7 ∨ i = 8 ∨ i = 9 ∨ i = 10 ∨ i = 11 ∨ i = 12 ∨ i = 13 ∨ i = 14 ∨ i = 15 ∨ i = 16 ∨ i = 17 ∨ i = 18 ∨ i = 19 := by omega
      · refine wpOp_plain rfl rfl ?_
        go_simp
        exact ⟨⟨by simp [hsz.out], hx.out⟩, upd z 8 (.pointer (some ⟨pg, 0, none⟩)), (by unfold Hid; simp [upd]), hz.next apx hsz.out 0 (by decide) _ (fun _ h => Option.some.inj h), hp14.keep (by decide), hp15.keep (by decide), hp16.keep (by decide), hp18.keep (by decide)⟩
      · have e0 : z 8 = .pointer (some ⟨pg, 0, none⟩) := hz 0 _ (hw 0 (by kernel_rfl)) rfl
        refine wpOp_plain rfl rfl ?_
        go_simp
        exact ⟨⟨by simp [hsz.out], hx.out⟩, upd z 9 (.pointer (some ⟨pg, 0, none⟩)), (by unfold Hid; simp [upd, e0]), hz.next apx hsz.out 1 (by decide) _ (fun _ h => Option.some.inj h), hp14.keep (by decide), hp15.keep (by decide), hp16.keep (by decide), hp18.keep (by decide)⟩
      · have e1 : z 9 = .pointer (some ⟨pg, 0, none⟩) := hz 1 _ (hw 1 (by kernel_rfl)) rfl
        refine wpOp_plain rfl rfl ?_
        go_simp
        exact ⟨⟨by simp [hsz.out], hx.out⟩, upd z 10 (.pointer (some ⟨pg, 0, none⟩)), (by unfold Hid; simp [upd, e1]), hz.next apx hsz.out 2 (by decide) _ (fun _ h => Option.some.inj h), hp14.keep (by decide), hp15.keep (by decide), hp16.keep (by decide), hp18.keep (by decide)⟩
      · have e2 : z 10 = .pointer (some ⟨pg, 0, none⟩) := hz 2 _ (hw 2 (by kernel_rfl)) rfl
        have cl : wx.cell? ⟨pg, 0, none⟩ = some (.pointer (some ⟨K.g, 0, none⟩)) := (hx.out.cell (p := ⟨pg, 0, none⟩) (World.block_lt_of_cell? _ _ CX0.out)).trans CX0.out
        refine wpOp_plain rfl rfl ?_
        go_simp
        exact ⟨⟨by simp [hsz.out], hx.out⟩, upd z 11 (.pointer (some ⟨K.g, 0, none⟩)), (by unfold Hid; simp [upd, e2]), hz.next apx hsz.out 3 (by decide) _ (fun _ h => Option.some.inj h), hp14.keep (by decide), hp15.keep (by decide), hp16.keep (by decide), hp18.keep (by decide)⟩
      · refine wpOp_plain rfl rfl ?_
        go_simp
        exact ⟨⟨by simp [hsz.out], hx.out⟩, upd z 12 (.pointer (some ⟨pg, 0, none⟩)), (by unfold Hid; simp [upd]), hz.next apx hsz.out 4 (by decide) _ (fun _ h => Option.some.inj h), hp14.keep (by decide), hp15.keep (by decide), hp16.keep (by decide), hp18.keep (by decide)⟩
      · have e4 : z 12 = .pointer (some ⟨pg, 0, none⟩) := hz 4 _ (hw 4 (by kernel_rfl)) rfl
        refine wpOp_plain rfl rfl ?_
        go_simp
        exact ⟨⟨by simp [hsz.out], hx.out⟩, upd z 13 (.pointer (some ⟨pg, 0, none⟩)), (by unfold Hid; simp [upd, e4]), hz.next apx hsz.out 5 (by decide) _ (fun _ h => Option.some.inj h), hp14.keep (by decide), hp15.keep (by decide), hp16.keep (by decide), hp18.keep (by decide)⟩
      · have e5 : z 13 = .pointer (some ⟨pg, 0, none⟩) := hz 5 _ (hw 5 (by kernel_rfl)) rfl
        refine wpOp_plain rfl rfl ?_
        go_simp
        exact ⟨⟨by simp [hsz.out], hx.out⟩, upd z 14 (.pointer (some ⟨pg, 4, none⟩)), (by unfold Hid; simp [upd, e5]), hz.next apx hsz.out 6 (by decide) _ (fun _ h => Option.some.inj h), hp14.keep (by decide), hp15.keep (by decide), hp16.keep (by decide), hp18.keep (by decide)⟩
      · have e6 : z 14 = .pointer (some ⟨pg, 4, none⟩) := hz 6 _ (hw 6 (by kernel_rfl)) rfl
        refine wpOp_plain rfl rfl ?_
        go_simp
        exact ⟨⟨by simp [hsz.out], hx.out⟩, upd z 15 (.pointer (some ⟨pg, 5, none⟩)), (by unfold Hid; simp [upd, e6]), hz.next apx hsz.out 7 (by decide) _ (fun _ h => Option.some.inj h), hp14.keep (by decide), hp15.keep (by decide), hp16.keep (by decide), hp18.keep (by decide)⟩
      · have e7 : z 15 = .pointer (some ⟨pg, 5, none⟩) := hz 7 _ (hw 7 (by kernel_rfl)) rfl
        have cl : wx.cell? ⟨pg, 5, none⟩ = some (.int .i64 x.from_) := (hx.out.cell (p := ⟨pg, 5, none⟩) (World.block_lt_of_cell? _ _ CX5.out)).trans CX5.out
        refine wpOp_plain rfl rfl ?_
        go_simp
        exact ⟨⟨by simp [hsz.out], hx.out⟩, upd z 16 (.int .i64 x.from_), (by unfold Hid; simp [upd, e7]), hz.next apx hsz.out 8 (by decide) _ (fun _ h => Option.some.inj h), hp14.keep (by decide), hp15.keep (by decide), hp16.keep (by decide), hp18.keep (by decide)⟩
      · refine wpOp_plain rfl rfl ?_
        go_simp
        exact ⟨⟨by simp [hsz.out], hx.out⟩, upd z 17 (.pointer (some ⟨pg, 0, none⟩)), (by unfold Hid; simp [upd]), hz.next apx hsz.out 9 (by decide) _ (fun _ h => Option.some.inj h), hp14.keep (by decide), hp15.keep (by decide), hp16.keep (by decide), hp18.keep (by decide)⟩
      · have e9 : z 17 = .pointer (some ⟨pg, 0, none⟩) := hz 9 _ (hw 9 (by kernel_rfl)) rfl
        refine wpOp_plain rfl rfl ?_
        go_simp
        exact ⟨⟨by simp [hsz.out], hx.out⟩, upd z 18 (.pointer (some ⟨pg, 0, none⟩)), (by unfold Hid; simp [upd, e9]), hz.next apx hsz.out 10 (by decide) _ (fun _ h => Option.some.inj h), hp14.keep (by decide), hp15.keep (by decide), hp16.keep (by decide), hp18.keep (by decide)⟩
      · have e10 : z 18 = .pointer (some ⟨pg, 0, none⟩) := hz 10 _ (hw 10 (by kernel_rfl)) rfl
        refine wpOp_plain rfl rfl ?_
        go_simp
        exact ⟨⟨by simp [hsz.out], hx.out⟩, upd z 19 (.pointer (some ⟨pg, 4, none⟩)), (by unfold Hid; simp [upd, e10]), hz.next apx hsz.out 11 (by decide) _ (fun _ h => Option.some.inj h), hp14.keep (by decide), hp15.keep (by decide), hp16.keep (by decide), hp18.keep (by decide)⟩
      · have e11 : z 19 = .pointer (some ⟨pg, 4, none⟩) := hz 11 _ (hw 11 (by kernel_rfl)) rfl
        refine wpOp_plain rfl rfl ?_
        go_simp
        exact ⟨⟨by simp [hsz.out], hx.out⟩, upd z 20 (.pointer (some ⟨pg, 6, none⟩)), (by unfold Hid; simp [upd, e11]), hz.next apx hsz.out 12 (by decide) _ (fun _ h => Option.some.inj h), hp14.keep (by decide), hp15.keep (by decide), hp16.keep (by decide), hp18.keep (by decide)⟩
      · have e12 : z 20 = .pointer (some ⟨pg, 6, none⟩) := hz 12 _ (hw 12 (by kernel_rfl)) rfl
        have cl : wx.cell? ⟨pg, 6, none⟩ = some (.int .i64 x.many) := (hx.out.cell (p := ⟨pg, 6, none⟩) (World.block_lt_of_cell? _ _ CX6.out)).trans CX6.out
        refine wpOp_plain rfl rfl ?_
        go_simp
        exact ⟨⟨by simp [hsz.out], hx.out⟩, upd z 21 (.int .i64 x.many), (by unfold Hid; simp [upd, e12]), hz.next apx hsz.out 13 (by decide) _ (fun _ h => Option.some.inj h), hp14.keep (by decide), hp15.keep (by decide), hp16.keep (by decide), hp18.keep (by decide)⟩
      · have e3 : z 11 = .pointer (some ⟨K.g, 0, none⟩) := hz 3 _ (hw 3 (by kernel_rfl)) rfl
        have e8 : z 16 = .int .i64 x.from_ := hz 8 _ (hw 8 (by kernel_rfl)) rfl
        have e13 : z 21 = .int .i64 x.many := hz 13 _ (hw 13 (by kernel_rfl)) rfl
        refine wpOp_plain rfl rfl ?_
        go_simp
        go_at_call 18
        refine (Ho1.out wx hx.out).mono ?_
        rintro e w' ⟨v, rfl, hpv, low⟩; obtain ⟨vr, hvr⟩ : ∃ vr, vr = Value.tuple #[v, .int .i64 E] := ⟨_, rfl⟩; rw [← hvr]; have sl : OT P E vr w' := ⟨v, hvr, hpv⟩
        exact ⟨⟨by simp [hsz.out], hx.out.trans (low.mono hx.out.size)⟩, upd z 22 (vr), (by unfold Hid; simp [upd, e3, e8, e13]), hz.next apx hsz.out 14 (by decide) _ (fun _ h => by cases h), Whn.done (sl), (hp15.keep (by decide)).map (fun h => h.later low), (hp16.keep (by decide)).map (fun h => h.later low), (hp18.keep (by decide)).map (fun h => h.later low)⟩
      · have p14 := hp14.get (hw 14 (by kernel_rfl))
        have h9 := p14
        refine wpOp_plain rfl rfl ?_
        go_simp
        obtain ⟨vr, hvr⟩ : ∃ vr, vr = z 22 := ⟨_, rfl⟩
        rw [← hvr] at h9 ⊢
        exact ⟨⟨by simp [hsz.out], hx.out⟩, upd z 7 (vr), (by unfold Hid; simp [upd, hvr]), hz.next apx hsz.out 15 (by decide) _ (fun _ h => by cases h), hp14.keep (by decide), Whn.done (h9), hp16.keep (by decide), hp18.keep (by decide)⟩
      · have p15 := hp15.get (hw 15 (by kernel_rfl))
        obtain ⟨x9, e15, hx9⟩ := p15
        refine wpOp_plain rfl rfl ?_
        go_simp
        obtain ⟨vr, hvr⟩ : ∃ vr, vr = x9 := ⟨_, rfl⟩
        rw [← hvr] at hx9 ⊢
        exact ⟨⟨by simp [hsz.out], hx.out⟩, upd z 23 (vr), (by unfold Hid; simp [upd, e15, hvr]), hz.next apx hsz.out 16 (by decide) _ (fun _ h => by cases h), hp14.keep (by decide), hp15.keep (by decide), Whn.done (hx9), hp18.keep (by decide)⟩
      · have p15 := hp15.get (hw 15 (by kernel_rfl))
        obtain ⟨x9, e15, hx9⟩ := p15
        refine wpOp_plain rfl rfl ?_
        go_simp
        exact ⟨⟨by simp [hsz.out], hx.out⟩, upd z 24 (.int .i64 E), (by unfold Hid; simp [upd, e15]), hz.next apx hsz.out 17 (by decide) _ (fun _ h => Option.some.inj h), hp14.keep (by decide), hp15.keep (by decide), hp16.keep (by decide), hp18.keep (by decide)⟩
      · have p16 := hp16.get (hw 16 (by kernel_rfl))
        have h9 := p16
        refine wpOp_plain rfl rfl ?_
        go_simp
        obtain ⟨vr, hvr⟩ : ∃ vr, vr = z 23 := ⟨_, rfl⟩
        rw [← hvr] at h9 ⊢
        exact ⟨⟨by simp [hsz.out], hx.out⟩, upd z 3 (vr), (by unfold Hid; simp [upd, hvr]), hz.next apx hsz.out 18 (by decide) _ (fun _ h => by cases h), hp14.keep (by decide), hp15.keep (by decide), hp16.keep (by decide), Whn.done (h9)⟩
      · have e17 : z 24 = .int .i64 E := hz 17 _ (hw 17 (by kernel_rfl)) rfl
        refine wpOp_plain rfl rfl ?_
        go_simp
        exact ⟨⟨by simp [hsz.out], hx.out⟩, upd z 4 (.int .i64 E), (by unfold Hid; simp [upd, e17]), hz.next apx hsz.out 19 (by decide) _ (fun _ h => Option.some.inj h), hp14.keep (by decide), hp15.keep (by decide), hp16.keep (by decide), hp18.keep (by decide)⟩
    · exact ⟨⟨rfl, (Below.refl _ _).drew⟩, fun xx => (#[.pointer (some ⟨pg, 0, none⟩), undef, .bool false, undef, undef, undef, undef, undef, undef, undef, undef, undef, undef, undef, undef, undef, undef, undef, undef, undef, undef, undef, undef, undef, undef, undef, undef, undef, undef, undef, undef, undef, undef, undef, undef, undef, undef, undef, undef, undef, undef, undef, undef, undef, undef, undef, undef, undef, undef, undef, undef, undef, undef, undef, undef, undef, undef, undef, undef, undef, undef] : Array Value).getD xx undef, rfl, Holding.start, Whn.none (by decide), Whn.none (by decide), Whn.none (by decide), Whn.none (by decide)⟩
  case rest =>
    obtain ⟨hp3, rfl, hb1⟩ := hcut
    rename World => w1
    have HP1 := Lib.hid (HP.out.later hb1)
    have Hp3 := Lib.hid hp3
    have Hb1 := Lib.hid hb1
    have CX1 := Lib.hid HP1.out.cells.2.1
    have CX5 := Lib.hid HP1.out.cells.2.2.2.2.1
    have CX6 := Lib.hid HP1.out.cells.2.2.2.2.2
    clear hp3 hb1 Ho1 CX0
    go_upto_region 2 with (fail)
    go_cut [5, 6] from 25 to 42 (fun s5 s6 wx => PP (Q u3) s5 wx ∧ s6 = .int .i64 E ∧ Below w1.heap.size w1 wx)
    case first =>
      have apx : apartB [26, 27, 28, 29, 30, 31, 32, 33, 34, 35, 36, 37, 38, 39, 40, 25, 41, 42, 5, 6] = true := by decide
      refine wp_region_any (by kernel_rfl) ?_
      change wpAny _ _ _ _ _ _ _ (World.drew _)
      refine wpAny_inv (fun ll aa wx => Hid (ll.size = 20 ∧ Below w1.heap.size w1 wx) ∧ ∃ (z : Nat → Value), Hid (aa = ⟨#[.pointer (some ⟨pg, 0, none⟩), undef, .bool false, u3, .int .i64 E, z 5, z 6, u7, u8, u9, u10, u11, u12, u13, u14, u15, u16, u17, u18, u19, u20, u21, u22, u23, u24, z 25, z 26, z 27, z 28, z 29, z 30, z 31, z 32, z 33, z 34, z 35, z 36, z 37, z 38, z 39, z 40, z 41, z 42, undef, undef, undef, undef, undef, undef, undef, undef, undef, undef, undef, undef, undef, undef, undef, undef, undef, undef], []⟩) ∧ Holding [26, 27, 28, 29, 30, 31, 32, 33, 34, 35, 36, 37, 38, 39, 40, 25, 41, 42, 5, 6] [some (.pointer (some ⟨pg, 0, none⟩)), some (.pointer (some ⟨pg, 0, none⟩)), some (.pointer (some ⟨pg, 1, none⟩)), some (.pointer (some ⟨M.g, 0, none⟩)), some (.pointer (some ⟨pg, 0, none⟩)), some (.pointer (some ⟨pg, 0, none⟩)), some (.pointer (some ⟨pg, 4, none⟩)), some (.pointer (some ⟨pg, 5, none⟩)), some (.int .i64 x.from_), some (.pointer (some ⟨pg, 0, none⟩)), some (.pointer (some ⟨pg, 0, none⟩)), some (.pointer (some ⟨pg, 4, none⟩)), some (.pointer (some ⟨pg, 6, none⟩)), some (.int .i64 x.many), none, none, none, some (.int .i64 E), none, some (.int .i64 E)] ll z ∧ Whn ll 14 (OT (Q u3) E) (z 40) wx ∧ Whn ll 15 (OT (Q u3) E) (z 25) wx ∧ Whn ll 16 (PP (Q u3)) (z 41) wx ∧ Whn ll 18 (PP (Q u3)) (z 5) wx) ?_ (by kernel_rfl) ?_ ?_ _ _ _ _ (unlisted_none _) ?_
      · rintro ll aa wx ⟨hI, _⟩
        exact hI.out.1
      · rintro ll aa wx ⟨hI, z, ha, hz, hp14, hp15, hp16, hp18⟩ hall
        have hx := Lib.hid hI.out.2
        have e0 : z 26 = .pointer (some ⟨pg, 0, none⟩) := hz 0 _ (hall 0 (by decide)) rfl
        have e1 : z 27 = .pointer (some ⟨pg, 0, none⟩) := hz 1 _ (hall 1 (by decide)) rfl
        have e2 : z 28 = .pointer (some ⟨pg, 1, none⟩) := hz 2 _ (hall 2 (by decide)) rfl
        have e3 : z 29 = .pointer (some ⟨M.g, 0, none⟩) := hz 3 _ (hall 3 (by decide)) rfl
        have e4 : z 30 = .pointer (some ⟨pg, 0, none⟩) := hz 4 _ (hall 4 (by decide)) rfl
        have e5 : z 31 = .pointer (some ⟨pg, 0, none⟩) := hz 5 _ (hall 5 (by decide)) rfl
        have e6 : z 32 = .pointer (some ⟨pg, 4, none⟩) := hz 6 _ (hall 6 (by decide)) rfl
        have e7 : z 33 = .pointer (some ⟨pg, 5, none⟩) := hz 7 _ (hall 7 (by decide)) rfl
        have e8 : z 34 = .int .i64 x.from_ := hz 8 _ (hall 8 (by decide)) rfl
        have e9 : z 35 = .pointer (some ⟨pg, 0, none⟩) := hz 9 _ (hall 9 (by decide)) rfl
        have e10 : z 36 = .pointer (some ⟨pg, 0, none⟩) := hz 10 _ (hall 10 (by decide)) rfl
        have e11 : z 37 = .pointer (some ⟨pg, 4, none⟩) := hz 11 _ (hall 11 (by decide)) rfl
        have e12 : z 38 = .pointer (some ⟨pg, 6, none⟩) := hz 12 _ (hall 12 (by decide)) rfl
        have e13 : z 39 = .int .i64 x.many := hz 13 _ (hall 13 (by decide)) rfl
        have e17 : z 42 = .int .i64 E := hz 17 _ (hall 17 (by decide)) rfl
        have e19 : z 6 = .int .i64 E := hz 19 _ (hall 19 (by decide)) rfl
        have p14 := hp14.get (hall 14 (by decide))
        have p15 := hp15.get (hall 15 (by decide))
        have p16 := hp16.get (hall 16 (by decide))
        have p18 := hp18.get (hall 18 (by decide))
        clear hall hz hI hp14 hp15 hp16 hp18
        obtain rfl := ha.out
        clear ha
        clear apx
        clear e0 e1 e2 e3 e4 e5 e6 e7 e8 e9 e10 e11 e12 e13 e17
        go_wp2
        go_meet
        exact ⟨p18, by simp [e19], hx.out⟩
      · rintro ll aa wx i ⟨hI, z, ha, hz, hp14, hp15, hp16, hp18⟩ hi hu hw
        obtain rfl := ha.out
        have hsz := Lib.hid hI.out.1
        have hx := Lib.hid hI.out.2
        clear ha hI
        have hin : i < 20 := hi
        obtain rfl | rfl | rfl | rfl | rfl | rfl | rfl | rfl | rfl | rfl | rfl | rfl | rfl | rfl | rfl | rfl | rfl | rfl | rfl | rfl : i = 0 ∨ i = 1 ∨ i = 2 ∨ i = 3 ∨ i = 4 ∨ i = 5 ∨ i = 6 ∨ i = 7 ∨ i = 8 ∨ i = 9 ∨ i = 10 ∨ i = 11 ∨ i = 12 ∨ i = 13 ∨ i = 14 ∨ i = 15 ∨ i = 16 ∨ i = 17 ∨ i = 18 ∨ i = 19 := by omega
        · refine wpOp_plain rfl rfl ?_
          go_simp
          exact ⟨⟨by simp [hsz.out], hx.out⟩, upd z 26 (.pointer (some ⟨pg, 0, none⟩)), (by unfold Hid; simp [upd]), hz.next apx hsz.out 0 (by decide) _ (fun _ h => Option.some.inj h), hp14.keep (by decide), hp15.keep (by decide), hp16.keep (by decide), hp18.keep (by decide)⟩
        · have e0 : z 26 = .pointer (some ⟨pg, 0, none⟩) := hz 0 _ (hw 0 (by kernel_rfl)) rfl
          refine wpOp_plain rfl rfl ?_
          go_simp
          exact ⟨⟨by simp [hsz.out], hx.out⟩, upd z 27 (.pointer (some ⟨pg, 0, none⟩)), (by unfold Hid; simp [upd, e0]), hz.next apx hsz.out 1 (by decide) _ (fun _ h => Option.some.inj h), hp14.keep (by decide), hp15.keep (by decide), hp16.keep (by decide), hp18.keep (by decide)⟩
        · have e1 : z 27 = .pointer (some ⟨pg, 0, none⟩) := hz 1 _ (hw 1 (by kernel_rfl)) rfl
          refine wpOp_plain rfl rfl ?_
          go_simp
          exact ⟨⟨by simp [hsz.out], hx.out⟩, upd z 28 (.pointer (some ⟨pg, 1, none⟩)), (by unfold Hid; simp [upd, e1]), hz.next apx hsz.out 2 (by decide) _ (fun _ h => Option.some.inj h), hp14.keep (by decide), hp15.keep (by decide), hp16.keep (by decide), hp18.keep (by decide)⟩
        · have e2 : z 28 = .pointer (some ⟨pg, 1, none⟩) := hz 2 _ (hw 2 (by kernel_rfl)) rfl
          have cl : wx.cell? ⟨pg, 1, none⟩ = some (.pointer (some ⟨M.g, 0, none⟩)) := (hx.out.cell (p := ⟨pg, 1, none⟩) (World.block_lt_of_cell? _ _ CX1.out)).trans CX1.out
          refine wpOp_plain rfl rfl ?_
          go_simp
          exact ⟨⟨by simp [hsz.out], hx.out⟩, upd z 29 (.pointer (some ⟨M.g, 0, none⟩)), (by unfold Hid; simp [upd, e2]), hz.next apx hsz.out 3 (by decide) _ (fun _ h => Option.some.inj h), hp14.keep (by decide), hp15.keep (by decide), hp16.keep (by decide), hp18.keep (by decide)⟩
        · refine wpOp_plain rfl rfl ?_
          go_simp
          exact ⟨⟨by simp [hsz.out], hx.out⟩, upd z 30 (.pointer (some ⟨pg, 0, none⟩)), (by unfold Hid; simp [upd]), hz.next apx hsz.out 4 (by decide) _ (fun _ h => Option.some.inj h), hp14.keep (by decide), hp15.keep (by decide), hp16.keep (by decide), hp18.keep (by decide)⟩
        · have e4 : z 30 = .pointer (some ⟨pg, 0, none⟩) := hz 4 _ (hw 4 (by kernel_rfl)) rfl
          refine wpOp_plain rfl rfl ?_
          go_simp
          exact ⟨⟨by simp [hsz.out], hx.out⟩, upd z 31 (.pointer (some ⟨pg, 0, none⟩)), (by unfold Hid; simp [upd, e4]), hz.next apx hsz.out 5 (by decide) _ (fun _ h => Option.some.inj h), hp14.keep (by decide), hp15.keep (by decide), hp16.keep (by decide), hp18.keep (by decide)⟩
        · have e5 : z 31 = .pointer (some ⟨pg, 0, none⟩) := hz 5 _ (hw 5 (by kernel_rfl)) rfl
          refine wpOp_plain rfl rfl ?_
          go_simp
          exact ⟨⟨by simp [hsz.out], hx.out⟩, upd z 32 (.pointer (some ⟨pg, 4, none⟩)), (by unfold Hid; simp [upd, e5]), hz.next apx hsz.out 6 (by decide) _ (fun _ h => Option.some.inj h), hp14.keep (by decide), hp15.keep (by decide), hp16.keep (by decide), hp18.keep (by decide)⟩
        · have e6 : z 32 = .pointer (some ⟨pg, 4, none⟩) := hz 6 _ (hw 6 (by kernel_rfl)) rfl
          refine wpOp_plain rfl rfl ?_
          go_simp
          exact ⟨⟨by simp [hsz.out], hx.out⟩, upd z 33 (.pointer (some ⟨pg, 5, none⟩)), (by unfold Hid; simp [upd, e6]), hz.next apx hsz.out 7 (by decide) _ (fun _ h => Option.some.inj h), hp14.keep (by decide), hp15.keep (by decide), hp16.keep (by decide), hp18.keep (by decide)⟩
        · have e7 : z 33 = .pointer (some ⟨pg, 5, none⟩) := hz 7 _ (hw 7 (by kernel_rfl)) rfl
          have cl : wx.cell? ⟨pg, 5, none⟩ = some (.int .i64 x.from_) := (hx.out.cell (p := ⟨pg, 5, none⟩) (World.block_lt_of_cell? _ _ CX5.out)).trans CX5.out
          refine wpOp_plain rfl rfl ?_
          go_simp
          exact ⟨⟨by simp [hsz.out], hx.out⟩, upd z 34 (.int .i64 x.from_), (by unfold Hid; simp [upd, e7]), hz.next apx hsz.out 8 (by decide) _ (fun _ h => Option.some.inj h), hp14.keep (by decide), hp15.keep (by decide), hp16.keep (by decide), hp18.keep (by decide)⟩
        · refine wpOp_plain rfl rfl ?_
          go_simp
          exact ⟨⟨by simp [hsz.out], hx.out⟩, upd z 35 (.pointer (some ⟨pg, 0, none⟩)), (by unfold Hid; simp [upd]), hz.next apx hsz.out 9 (by decide) _ (fun _ h => Option.some.inj h), hp14.keep (by decide), hp15.keep (by decide), hp16.keep (by decide), hp18.keep (by decide)⟩
        · have e9 : z 35 = .pointer (some ⟨pg, 0, none⟩) := hz 9 _ (hw 9 (by kernel_rfl)) rfl
          refine wpOp_plain rfl rfl ?_
          go_simp
          exact ⟨⟨by simp [hsz.out], hx.out⟩, upd z 36 (.pointer (some ⟨pg, 0, none⟩)), (by unfold Hid; simp [upd, e9]), hz.next apx hsz.out 10 (by decide) _ (fun _ h => Option.some.inj h), hp14.keep (by decide), hp15.keep (by decide), hp16.keep (by decide), hp18.keep (by decide)⟩
        · have e10 : z 36 = .pointer (some ⟨pg, 0, none⟩) := hz 10 _ (hw 10 (by kernel_rfl)) rfl
          refine wpOp_plain rfl rfl ?_
          go_simp
          exact ⟨⟨by simp [hsz.out], hx.out⟩, upd z 37 (.pointer (some ⟨pg, 4, none⟩)), (by unfold Hid; simp [upd, e10]), hz.next apx hsz.out 11 (by decide) _ (fun _ h => Option.some.inj h), hp14.keep (by decide), hp15.keep (by decide), hp16.keep (by decide), hp18.keep (by decide)⟩
        · have e11 : z 37 = .pointer (some ⟨pg, 4, none⟩) := hz 11 _ (hw 11 (by kernel_rfl)) rfl
          refine wpOp_plain rfl rfl ?_
          go_simp
          exact ⟨⟨by simp [hsz.out], hx.out⟩, upd z 38 (.pointer (some ⟨pg, 6, none⟩)), (by unfold Hid; simp [upd, e11]), hz.next apx hsz.out 12 (by decide) _ (fun _ h => Option.some.inj h), hp14.keep (by decide), hp15.keep (by decide), hp16.keep (by decide), hp18.keep (by decide)⟩
        · have e12 : z 38 = .pointer (some ⟨pg, 6, none⟩) := hz 12 _ (hw 12 (by kernel_rfl)) rfl
          have cl : wx.cell? ⟨pg, 6, none⟩ = some (.int .i64 x.many) := (hx.out.cell (p := ⟨pg, 6, none⟩) (World.block_lt_of_cell? _ _ CX6.out)).trans CX6.out
          refine wpOp_plain rfl rfl ?_
          go_simp
          exact ⟨⟨by simp [hsz.out], hx.out⟩, upd z 39 (.int .i64 x.many), (by unfold Hid; simp [upd, e12]), hz.next apx hsz.out 13 (by decide) _ (fun _ h => Option.some.inj h), hp14.keep (by decide), hp15.keep (by decide), hp16.keep (by decide), hp18.keep (by decide)⟩
        · have e3 : z 29 = .pointer (some ⟨M.g, 0, none⟩) := hz 3 _ (hw 3 (by kernel_rfl)) rfl
          have e8 : z 34 = .int .i64 x.from_ := hz 8 _ (hw 8 (by kernel_rfl)) rfl
          have e13 : z 39 = .int .i64 x.many := hz 13 _ (hw 13 (by kernel_rfl)) rfl
          refine wpOp_plain rfl rfl ?_
          go_simp
          go_at_call 24
          refine (Ho2.out u3 wx (Hp3.out.later hx.out) (Hb1.out.trans (hx.out.mono Hb1.out.size))).mono ?_
          rintro e w' ⟨v, rfl, hpv, low⟩; obtain ⟨vr, hvr⟩ : ∃ vr, vr = Value.tuple #[v, .int .i64 E] := ⟨_, rfl⟩; rw [← hvr]; have sl : OT (Q u3) E vr w' := ⟨v, hvr, hpv⟩
          exact ⟨⟨by simp [hsz.out], hx.out.trans (low.mono hx.out.size)⟩, upd z 40 (vr), (by unfold Hid; simp [upd, e3, e8, e13]), hz.next apx hsz.out 14 (by decide) _ (fun _ h => by cases h), Whn.done (sl), (hp15.keep (by decide)).map (fun h => h.later low), (hp16.keep (by decide)).map (fun h => h.later low), (hp18.keep (by decide)).map (fun h => h.later low)⟩
        · have p14 := hp14.get (hw 14 (by kernel_rfl))
          have h9 := p14
          refine wpOp_plain rfl rfl ?_
          go_simp
          obtain ⟨vr, hvr⟩ : ∃ vr, vr = z 40 := ⟨_, rfl⟩
          rw [← hvr] at h9 ⊢
          exact ⟨⟨by simp [hsz.out], hx.out⟩, upd z 25 (vr), (by unfold Hid; simp [upd, hvr]), hz.next apx hsz.out 15 (by decide) _ (fun _ h => by cases h), hp14.keep (by decide), Whn.done (h9), hp16.keep (by decide), hp18.keep (by decide)⟩
        · have p15 := hp15.get (hw 15 (by kernel_rfl))
          obtain ⟨x9, e15, hx9⟩ := p15
          refine wpOp_plain rfl rfl ?_
          go_simp
          obtain ⟨vr, hvr⟩ : ∃ vr, vr = x9 := ⟨_, rfl⟩
          rw [← hvr] at hx9 ⊢
          exact ⟨⟨by simp [hsz.out], hx.out⟩, upd z 41 (vr), (by unfold Hid; simp [upd, e15, hvr]), hz.next apx hsz.out 16 (by decide) _ (fun _ h => by cases h), hp14.keep (by decide), hp15.keep (by decide), Whn.done (hx9), hp18.keep (by decide)⟩
        · have p15 := hp15.get (hw 15 (by kernel_rfl))
          obtain ⟨x9, e15, hx9⟩ := p15
          refine wpOp_plain rfl rfl ?_
          go_simp
          exact ⟨⟨by simp [hsz.out], hx.out⟩, upd z 42 (.int .i64 E), (by unfold Hid; simp [upd, e15]), hz.next apx hsz.out 17 (by decide) _ (fun _ h => Option.some.inj h), hp14.keep (by decide), hp15.keep (by decide), hp16.keep (by decide), hp18.keep (by decide)⟩
        · have p16 := hp16.get (hw 16 (by kernel_rfl))
          have h9 := p16
          refine wpOp_plain rfl rfl ?_
          go_simp
          obtain ⟨vr, hvr⟩ : ∃ vr, vr = z 41 := ⟨_, rfl⟩
          rw [← hvr] at h9 ⊢
          exact ⟨⟨by simp [hsz.out], hx.out⟩, upd z 5 (vr), (by unfold Hid; simp [upd, hvr]), hz.next apx hsz.out 18 (by decide) _ (fun _ h => by cases h), hp14.keep (by decide), hp15.keep (by decide), hp16.keep (by decide), Whn.done (h9)⟩
        · have e17 : z 42 = .int .i64 E := hz 17 _ (hw 17 (by kernel_rfl)) rfl
          refine wpOp_plain rfl rfl ?_
          go_simp
          exact ⟨⟨by simp [hsz.out], hx.out⟩, upd z 6 (.int .i64 E), (by unfold Hid; simp [upd, e17]), hz.next apx hsz.out 19 (by decide) _ (fun _ h => Option.some.inj h), hp14.keep (by decide), hp15.keep (by decide), hp16.keep (by decide), hp18.keep (by decide)⟩
      · exact ⟨⟨rfl, (Below.refl _ _).drew⟩, fun xx => (#[.pointer (some ⟨pg, 0, none⟩), undef, .bool false, u3, .int .i64 E, undef, undef, u7, u8, u9, u10, u11, u12, u13, u14, u15, u16, u17, u18, u19, u20, u21, u22, u23, u24, undef, undef, undef, undef, undef, undef, undef, undef, undef, undef, undef, undef, undef, undef, undef, undef, undef, undef, undef, undef, undef, undef, undef, undef, undef, undef, undef, undef, undef, undef, undef, undef, undef, undef, undef, undef] : Array Value).getD xx undef, rfl, Holding.start, Whn.none (by decide), Whn.none (by decide), Whn.none (by decide), Whn.none (by decide)⟩
    case rest =>
      obtain ⟨hp5, rfl, hb2⟩ := hcut
      rename World => w2
      have HP2 := Lib.hid (HP1.out.later hb2)
      have Hp3b := Lib.hid (Hp3.out.later hb2)
      have Hp5 := Lib.hid hp5
      have Hb2 := Lib.hid (Hb1.out.trans (hb2.mono Hb1.out.size))
      clear hp5 hb2 Ho2 CX1 CX5 CX6 Hp3 Hb1 HP1
      obtain ⟨_, _, k2, k3, _, _⟩ := HP2.out.cells
      have f2 := free_row HP2.out.row 2
      have f3 := free_row HP2.out.row 3
      obtain ⟨ar, har⟩ := Hv2.out _ _ _ Hp5.out
      subst har
      rcases Hv.out with ⟨hE, hn⟩ | ⟨hE, hn⟩
      · have hu := hn _ _ Hp3b.out
        subst hu
        have hEb : (E == 0) = false := beq_eq_false_iff_ne.2 hE
        clear hn Hv Hv2
        go_wp2
        go_ret
        exact ⟨rfl, _, _, w2, Hp3b.out, Hp5.out, (HP2.out.set _ _).1, (HP2.out.set _ _).2, Hb2.out⟩
      · obtain ⟨gl, hu⟩ := hn _ _ Hp3b.out
        subst hu hE
        clear hn Hv Hv2
        go_wp2
        go_ret
        exact ⟨rfl, _, _, w2, Hp3b.out, Hp5.out, (HP2.out.set _ _).1, (HP2.out.set _ _).2, Hb2.out⟩
end Go.Proofs.Ytpeioogkbcejmaa.Slt
/- DERIVED. Layer 9's law: play.open. -/
namespace Go.Proofs.Ytpeioogkbcejmaa.Slt
open Go.RowKit Dsk
def nilM : Mo := ⟨fun v _ => v = .pointer none, fun _ _ _ h _ => h⟩
def lgM (K : DK) (S : LS) (B : Nat) : Mo := ⟨fun v w => ∃ J : LK, v = .pointer (some ⟨J.g, 0, none⟩) ∧ Lg w K J S ∧ ∀ q ∈ J.bl ++ J.tx, B ≤ q ∧ q < w.heap.size, fun _ _ _ h hb => by
  obtain ⟨J, e, h, hq⟩ := h
  exact ⟨J, e, h.later hb, fun q hm => ⟨(hq q hm).1, Nat.lt_of_lt_of_le (hq q hm).2 hb.size⟩⟩⟩
def bothM (K : DK) (M : MK) (S : LS) (B : Nat) (v1 : Value) : Mo := ⟨fun v w => ∃ J I : LK, v1 = .pointer (some ⟨J.g, 0, none⟩) ∧ Lg w K J S ∧ (∀ q ∈ J.bl ++ J.tx, B ≤ q ∧ q < w.heap.size) ∧ v = .pointer (some ⟨I.g, 0, none⟩) ∧ RL w M I S ∧ (∀ q ∈ I.bl ++ I.tx, B ≤ q ∧ q < w.heap.size) ∧ ∀ q ∈ J.bl ++ J.tx, q ∉ I.bl ++ I.tx, fun _ _ _ h hb => by
  obtain ⟨J, I, e1, h1, h2, e2, h3, h4, h5⟩ := h
  exact ⟨J, I, e1, h1.later hb, fun q hm => ⟨(h2 q hm).1, Nat.lt_of_lt_of_le (h2 q hm).2 hb.size⟩, e2, h3.later hb, fun q hm => ⟨(h4 q hm).1, Nat.lt_of_lt_of_le (h4 q hm).2 hb.size⟩, h5⟩⟩
theorem lg_lt {w : World} {K : DK} {J : LK} {S : LS} (h : Lg w K J S) : ∀ q ∈ J.bl ++ J.tx, q < w.heap.size := by
  intro q hq
  rcases List.mem_append.1 hq with hq | hq
  · simp only [LK.bl, List.mem_cons, Option.mem_toList] at hq
    rcases hq with rfl | hq
    · exact h.toLg0.glt
    · exact (h.toLg0.own.lt q hq).2
  · exact h.toLg0.tlt q hq
theorem rl_lt {w : World} {M : MK} {J : LK} {S : LS} (h : RL w M J S) : ∀ q ∈ J.bl ++ J.tx, q < w.heap.size := by
  intro q hq
  rcases List.mem_append.1 hq with hq | hq
  · simp only [LK.bl, List.mem_cons, Option.mem_toList] at hq
    rcases hq with rfl | hq
    · exact h.glt
    · exact (h.own.lt q hq).2
  · exact h.tlt q hq
theorem PD.klt {w0 w : World} {pg : Nat} {K : DK} {M : MK} {D : DS} {x : X3} {vl vr : Value} (h : PD w0 w pg K M D x vl vr) : (∀ q ∈ K.bl, q < w.heap.size) ∧ ∀ q ∈ M.bl, q < w.heap.size := by
  constructor <;> intro q hq
  · simp [DK.bl] at hq
    rcases hq with rfl | rfl
    · exact h.dsk.glt
    · exact h.dsk.hlt
  · simp [MK.bl] at hq
    rcases hq with rfl | rfl
    · exact h.rd.glt
    · exact h.rd.blt
theorem play_open {w0 w : World} {pg : Nat} {K : DK} {M : MK} {D : DS} {x : X3} {vl vr : Value} (h : PD w0 w pg K M D x vl vr) (hx : -1000 ≤ x.from_ ∧ x.from_ ≤ 1000) (hy : -9223372036854775808 ≤ x.many ∧ x.many ≤ 1000) :
    Calls Try.prog 9 #[.pointer (some ⟨pg, 0, none⟩)] w fun e w' => e = .returned (.bool true) ∧ PS w0 w' pg K M D x := by
  rcases open_cases h.dsk.ok x.from_ x.many hx hy with ⟨E, hE, ho1, ho2⟩ | ⟨S, hend, ho1, ho2⟩
  · refine (play_open_gen h E nilM (fun _ => nilM) (fun wx hb => ?_) (fun _ wx _ hb => ?_) (.inl ⟨hE, fun v w h => h⟩) (fun _ v w h => ⟨_, h⟩)).mono ?_
    · exact (ho1 wx K (h.dsk.later hb)).mono fun _ _ ⟨e, hb⟩ => ⟨_, e, rfl, hb⟩
    · exact (ho2 wx M (h.rd.later hb)).mono fun _ _ ⟨e, hb⟩ => ⟨_, e, rfl, hb⟩
    · rintro e w' ⟨rfl, ul, ur, w2, hu, hr, hp, _, _⟩
      exact ⟨rfl, ul, ur, hp, .inl ⟨hu, hr⟩⟩
  · refine (play_open_gen h 0 (lgM K S w.heap.size) (bothM K M S w.heap.size) (fun wx hb => ?_) (fun v1 wx hp hb => ?_) (.inr ⟨rfl, fun v w ⟨J, e, _⟩ => ⟨J.g, e⟩⟩) (fun _ v w ⟨J, I, _, _, _, e, _⟩ => ⟨_, e⟩)).mono ?_
    · refine (ho1 wx K (h.dsk.later hb)).mono ?_
      rintro e w' ⟨J, rfl, hl, h1, h2, hb2⟩
      refine ⟨_, rfl, ⟨J, rfl, hl, fun q hq => ⟨?_, lg_lt hl q hq⟩⟩, hb2⟩
      rcases List.mem_append.1 hq with hq | hq
      · exact Nat.le_trans hb.size (h1 q hq)
      · exact Nat.le_trans hb.size (h2 q hq)
    · obtain ⟨J, e1, hl, hq1⟩ := hp
      refine (ho2 wx M (h.rd.later hb)).mono ?_
      rintro e w' ⟨I, rfl, hr, h1, h2, hb2⟩
      have hi : ∀ q ∈ I.bl ++ I.tx, wx.heap.size ≤ q := fun q hq => (List.mem_append.1 hq).elim (h1 q) (h2 q)
      exact ⟨_, rfl, ⟨J, I, e1, hl.later hb2, fun q hq => ⟨(hq1 q hq).1, Nat.lt_of_lt_of_le (hq1 q hq).2 hb2.size⟩, rfl, hr, fun q hq => ⟨Nat.le_trans hb.size (hi q hq), rl_lt hr q hq⟩, fun q hq hm => by have := (hq1 q hq).2; have := hi q hm; omega⟩, hb2⟩
    · rintro e w' ⟨rfl, ul, ur, w2, _, ⟨J, I, e1, hl, hJ, e2, hr, hI, hJI⟩, hp, hc, hb⟩
      have hk := h.klt.1
      have hm := h.klt.2
      have hpl := h.plt
      have hlow := h.low.size
      have hpJ : pg ∉ J.bl ++ J.tx := fun hm => by have := (hJ _ hm).1; omega
      have hpI : pg ∉ I.bl ++ I.tx := fun hm => by have := (hI _ hm).1; omega
      refine ⟨rfl, ul, ur, hp, .inr ⟨J, I, S, e1, e2, ⟨lg_chg hl hc (fun q hq hm => ?_) (fun q hq hm => ?_), hr.chg hc (fun q hq hm => ?_) (fun q hq hm => ?_), hend, fun q hq => ⟨fun hmm => ?_, hJI q hq, fun e => hpJ (e ▸ hq), Nat.le_trans hlow (hJ q hq).1, Nat.lt_of_lt_of_le (hJ q hq).2 hc.size⟩, fun q hq => ⟨fun hkk => ?_, fun e => hpI (e ▸ hq), Nat.le_trans hlow (hI q hq).1, Nat.lt_of_lt_of_le (hI q hq).2 hc.size⟩⟩⟩⟩
      · simp at hm; subst hm; exact hpJ (List.mem_append_left _ hq)
      · simp at hm; subst hm; exact hpJ (List.mem_append_right _ hq)
      · simp at hm; subst hm; exact hpI (List.mem_append_left _ hq)
      · simp at hm; subst hm; exact hpI (List.mem_append_right _ hq)
      · have := (hJ q hq).1; have := hm q hmm; omega
      · have := (hI q hq).1; have := hk q hkk; omega
end Go.Proofs.Ytpeioogkbcejmaa.Slt
