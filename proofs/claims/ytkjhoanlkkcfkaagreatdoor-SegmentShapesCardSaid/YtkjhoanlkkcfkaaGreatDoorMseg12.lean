/- DERIVED. Texts of ours, merged: XSealSeal XSealUnpad. -/
import Derived.Test.YtkjhoanlkkcfkaaGreatDoorMseg11
import Derived.WalkSpells
/- DERIVED. The contract of seal.Seal (mkseal.py writes this text). -/
namespace Go.Proofs.YtkjhoanlkkcfkaaGreatDoor.Seal
open Go.RowKit
/-- a row of a call's own that reads as these bytes. -/
def OwnB (B : Nat) (L : List Int) (v : Value) (w : World) : Prop := w.ownsRow B 5 1 v L.length (vals L)
theorem OwnB.later {B : Nat} {L : List Int} {v : Value} {w w' : World} (h : OwnB B L v w) (hb : Below w.heap.size w w') : OwnB B L v w' := by
  obtain ⟨h1, h⟩ := h
  refine ⟨h1, ?_⟩
  rcases h with h | ⟨g, cap, cur, h1, h2, h3, h4, h5, h6, h7⟩
  · exact .inl h
  · exact .inr ⟨g, cap, cur, h1, h2, (hb.block _ (Array.getElem?_eq_some_iff.1 h3).1).trans h3, h4, h5, h6, h7⟩
theorem OwnB.base {B B' : Nat} {L : List Int} {v : Value} {w : World} (h : OwnB B L v w) (hB : B' ≤ B) : OwnB B' L v w := by
  obtain ⟨h1, h⟩ := h
  refine ⟨h1, ?_⟩
  rcases h with h | ⟨g, cap, cur, h1, h2, h3⟩
  · exact .inl h
  · exact .inr ⟨g, cap, cur, h1, Nat.le_trans hB h2, h3⟩
theorem OwnB.sl {B : Nat} {L : List Int} {v : Value} {w : World} (h : OwnB B L v w) : SlB L v w := own_slb h
theorem padded_sl {A : Option Addr} {n c B : Nat} {L : List Int} {w : World} (hB : B = bkt n) (hn : L.length = n) (hm : n ≤ 131068) (hb : Byt w A c L) : Calls Tryz.prog 90 #[.slice A n c, .int .i64 (B : Int)] w fun e w' => ∃ v, e = .returned v ∧ SlB (padL L) v w' ∧ Below w.heap.size w w' := by
  refine (padded_any A n c B L hn hm hB w hb).mono ?_
  rintro e w' ⟨rfl, hr, low⟩
  have hl : (padL L).length = B := by rw [padL_length (by rw [hn]; exact hm), hn, hB]
  exact ⟨_, rfl, ⟨_, B, by rw [hl], byt_rowF hr hl⟩, low⟩
theorem joined_own {w : World} {g : Nat} {ps : List Part} {T : List Int} (hP : PartsAt w (some ⟨g, 0, none⟩) ps) (hT : catL ps = T) (hn : ps.length ≤ 100) (hl : T.length ≤ 400000) : Calls Tryz.prog 92 #[.slice (some ⟨g, 0, none⟩) ps.length ps.length] w fun e w' => ∃ v, e = .returned v ∧ OwnB w.heap.size T v w' ∧ Below w.heap.size w w' := by
  subst hT
  exact joined_any _ _ _ ps rfl hn w hP hl
theorem join3 {w : World} {A1 A2 A3 : Option Addr} {c1 c2 ep : Nat} {BB TT : List Int} (b1 : Byt w A1 c1 (numL ep 4)) (b2 : Byt w A2 c2 BB) (hB : InB BB) (b3 : Byt w A3 32 TT) (hT : InB TT) (ht : TT.length = 32) :
    JoinB (numL ep 4 ++ BB ++ TT) (.slice (some ⟨w.heap.size, 0, none⟩) 3 3) (w.alloc (.cells #[.slice A1 (numL ep 4).length c1, .slice A2 BB.length c2, .slice A3 32 32] 38)) := by
  rw [← ht] at b3 ⊢
  have lown := Below.alloc (Below.refl w.heap.size w) (Nat.le_refl _) (.cells #[.slice A1 (numL ep 4).length c1, .slice A2 BB.length c2, .slice A3 TT.length TT.length] 38)
  refine ⟨w.heap.size, [⟨A1, c1, numL ep 4⟩, ⟨A2, c2, BB⟩, ⟨A3, TT.length, TT⟩], rfl, partsAt_row _ (Go.heap_alloc_new w _) rfl ?_, by simp [catL], by simp⟩
  intro p hp
  simp only [List.mem_cons, List.not_mem_nil, or_false] at hp
  rcases hp with rfl | rfl | rfl
  · exact ⟨b1.below lown (Nat.le_refl _), numL_in _ _⟩
  · exact ⟨b2.below lown (Nat.le_refl _), hB⟩
  · exact ⟨b3.below lown (Nat.le_refl _), hT⟩
theorem bodyL_length (k C : List Int) (pos ep : Nat) (L : List Int) : (bodyL k C pos ep L).length = L.length := Cha.streamL_length _ _ _ _
theorem bodyL_in {k C : List Int} {pos ep : Nat} {L : List Int} (h : InB L) : InB (bodyL k C pos ep L) := Cha.streamL_in _ _ _ _ h
theorem tagL_length (k C : List Int) (pos ep : Nat) (B : List Int) : (tagL k C pos ep B).length = 32 := hmacL_length _ _
theorem tagL_in (k C : List Int) (pos ep : Nat) (B : List Int) : InB (tagL k C pos ep B) := hmacL_in _ _
theorem sealL_length (k C : List Int) (pos ep : Nat) {L : List Int} (h : L.length ≤ 131068) : (sealL k C pos ep L).length = 36 + bkt L.length := by
  unfold sealL
  rw [List.length_append, List.length_append, numL_length, bodyL_length, tagL_length, padL_length h]; omega
theorem sealL_in {k C : List Int} {pos ep : Nat} {L : List Int} (h : InB L) : InB (sealL k C pos ep L) := ((numL_in _ _).append (bodyL_in (padL_in h))).append (tagL_in _ _ _ _ _)
/-- longer than any bucket holds. -/
theorem seal_no (k : List Int) (sl : Value) (pos ep : Nat) (A2 : Option Addr) (m c2 : Nat) (hm : 131068 < m) (w : World) :
    Calls Tryz.prog 59 #[.agg (u8s k), .agg #[sl, .int .u64 (pos : Nat), .int .u32 (ep : Nat)], .slice A2 m c2] w fun e w' => e = .returned (.tuple #[.slice none 0 0, .int .i64 3]) ∧ Below w.heap.size w w' := by
  have hb : Hid (∀ w, Calls Tryz.prog 88 #[.int .i64 (m : Nat)] w fun e w' => e = .returned (.int .i64 0) ∧ w = w') := fun w => by
    have h := bucket_any (m : Nat) w
    rwa [show bktI (m : Nat) = 0 by unfold bktI; rw [if_pos (by omega)]] at h
  have HX := Lib.hid (below_two w (.cells (u8s k) 24) (.cells #[sl, .int .u64 (pos : Nat), .int .u32 (ep : Nat)] 110))
  clear hm
  go_enter Tryz.func59, Tryz.ntmps59
  go_wp2_with (go_at_call 88; refine (hb.out _).mono ?_; rintro e w' ⟨rfl, rfl⟩)
  go_ret2
  exact ⟨rfl, HX.out⟩
set_option maxRecDepth 100000 in
set_option maxHeartbeats 8000000 in
theorem seal_ok (k C L : List Int) (pos ep : Nat) (A A2 : Option Addr) (n c m c2 : Nat) (w : World) (hk : k.length = 32) (hb : InB k) (hC : C.length = n) (hCb : InB C) (hn : n ≤ 1000) (hL : L.length = m) (hLb : InB L) (hm : m ≤ 131068) (hp : pos < 18446744073709551616 ∧ ep < 4294967296) (hB1 : Byt w A c C) (hB2 : Byt w A2 c2 L) (hLd : SLaid w) :
    Calls Tryz.prog 59 #[.agg (u8s k), .agg #[.slice A n c, .int .u64 (pos : Nat), .int .u32 (ep : Nat)], .slice A2 m c2] w fun e w' => ∃ v, e = .returned (.tuple #[v, .int .i64 0]) ∧ OwnB w.heap.size (sealL k C pos ep L) v w' ∧ Below w.heap.size w w' := by
  obtain ⟨SS, hSS⟩ : ∃ SS, SS = sealL k C pos ep L := ⟨_, rfl⟩
  obtain ⟨BB, hBB⟩ : ∃ BB, BB = bodyL k C pos ep (padL L) := ⟨_, rfl⟩
  obtain ⟨TT, hTT⟩ : ∃ TT, TT = tagL k C pos ep BB := ⟨_, rfl⟩
  obtain ⟨B, hB⟩ : ∃ B, B = bkt m := ⟨_, rfl⟩
  have hSS2 : numL ep 4 ++ BB ++ TT = SS := by rw [hSS, hTT, hBB]; rfl
  have hle := bkt_le hm
  rw [← hB] at hle
  have hBl : BB.length = B := by rw [hBB, bodyL_length, padL_length (by rw [hL]; exact hm), hL, hB]
  rw [← hSS]
  have HSS2 := Lib.hid hSS2
  have HBk := Lib.hid hB
  have HBB := Lib.hid hBB.symm
  have HTc : Hid (tagL k C pos ep BB = TT) := hTT.symm
  have HTT : Hid (TT.length = 32 ∧ InB TT) := ⟨by rw [hTT]; exact tagL_length _ _ _ _ _, by rw [hTT]; exact tagL_in _ _ _ _ _⟩
  have HBi : Hid (BB.length ≤ 131072 ∧ InB BB) := ⟨by omega, by rw [hBB]; exact bodyL_in (padL_in hLb)⟩
  have HPd : Hid ((padL L).length ≤ 131072 ∧ InB (padL L)) := ⟨by rw [padL_length (by rw [hL]; exact hm), hL, ← hB]; exact hle.1, padL_in hLb⟩
  have HSl : Hid (SS.length ≤ 400000 ∧ True) := ⟨by rw [hSS, sealL_length _ _ _ _ (by rw [hL]; exact hm), hL, ← hB]; omega, trivial⟩
  have Hk : Hid (k.length = 32 ∧ InB k) := ⟨hk, hb⟩
  have HCC : Hid (C.length = n ∧ InB C) := ⟨hC, hCb⟩
  have HL2 : Hid (L.length = m ∧ m ≤ 131068 ∧ InB L) := ⟨hL, hm, hLb⟩
  have HpE := Lib.hid hp
  have HB10 := Lib.hid hB1
  have HB20 := Lib.hid hB2
  have HLD0 := Lib.hid hLd
  have HsK0 : Hid ((Tryz.prog.info? 24).map (·.size) = some (u8s k).size) := by show _ = _; rw [u8s_size, hk]; exact infoH
  have HsT : Hid ((Tryz.prog.info? 24).map (·.size) = some (u8s TT).size) := by show _ = _; rw [u8s_size, HTT.out.1]; exact infoH
  have hbk : Hid (∀ w, Calls Tryz.prog 88 #[.int .i64 (m : Nat)] w fun e w' => e = .returned (.int .i64 (B : Nat)) ∧ w = w') := fun w => by
    have h := bucket_any (m : Nat) w
    rwa [show bktI (m : Nat) = (B : Nat) by unfold bktI; rw [if_neg (by omega), Int.toNat_natCast, hB]] at h
  have hB0 : ¬ (B : Int) = 0 := by omega
  have hB0n : ¬ B = 0 := by omega
  clear hSS hBB hTT hB hSS2 hle hBl hk hb hC hCb hL hLb hB1 hB2 hLd hp
  go_enter Tryz.func59, Tryz.ntmps59
  go_upto_region 4 with (go_at_call 88; refine (hbk.out _).mono ?_; rintro e w' ⟨rfl, rfl⟩)
  have hlow4 := below_two w (.cells (u8s k) 24) (.cells #[.slice A n c, .int .u64 (pos : Nat), .int .u32 (ep : Nat)] 110)
  have hK4 := (two_new w (.cells (u8s k) 24) (.cells #[.slice A n c, .int .u64 (pos : Nat), .int .u32 (ep : Nat)] 110)).1
  have hPL := (two_new w (.cells (u8s k) 24) (.cells #[.slice A n c, .int .u64 (pos : Nat), .int .u32 (ep : Nat)] 110)).2
  generalize World.alloc _ _ = w4 at hlow4 hK4 hPL ⊢
  have HLow4 := Lib.hid hlow4
  have HK4 := Lib.hid hK4
  have HPL := Lib.hid hPL
  have HB1 := Lib.hid (HB10.out.below hlow4 (Nat.le_refl _))
  have HB2 := Lib.hid (HB20.out.below hlow4 (Nat.le_refl _))
  have HLD := Lib.hid (HLD0.out.later hlow4)
  clear hlow4 hK4 hPL HB10 HB20 HLD0
  go_cut [9] from 16 to 21 (fun s9 wx => SlB BB s9 wx ∧ Below w4.heap.size w4 wx)
  case first =>
    have apx : apartB [16, 17, 18, 19, 20, 21, 9] = true := by decide
    refine wp_region_any (by kernel_rfl) ?_
    change wpAny _ _ _ _ _ _ _ (World.drew _)
    refine wpAny_inv (fun ll aa wx => Hid (ll.size = 7 ∧ Below w4.heap.size w4 wx) ∧ ∃ (z : Nat → Value), Hid (aa = ⟨#[.agg (u8s k), .agg #[.slice A n c, .int .u64 (pos : Nat), .int .u32 (ep : Nat)], .slice A2 m c2, .pointer (some ⟨w.heap.size, 0, none⟩), .pointer (some ⟨w.heap.size + 1, 0, none⟩), undef, .slice none 0 0, .int .i64 0, .int .i64 (B : Nat), z 9, undef, .slice A2 m c2, .int .i64 (m : Nat), .int .i64 (B : Nat), .int .i64 (B : Nat), .bool ((B : Int) == 0), z 16, z 17, z 18, z 19, z 20, z 21, undef, undef, undef, undef, undef, undef, undef, undef, undef, undef, undef, undef], []⟩) ∧ Holding [16, 17, 18, 19, 20, 21, 9] [some (.agg (u8s k)), some (.agg #[.slice A n c, .int .u64 (pos : Nat), .int .u32 (ep : Nat)]), some (.slice A2 m c2), some (.int .i64 (B : Nat)), none, none, none] ll z ∧ Whn ll 4 (SlB (padL L)) (z 20) wx ∧ Whn ll 5 (SlB BB) (z 21) wx ∧ Whn ll 6 (SlB BB) (z 9) wx) ?_ (by kernel_rfl) ?_ ?_ _ _ _ _ (unlisted_none _) ?_
    · rintro ll aa wx ⟨hI, _⟩
      exact hI.out.1
    · rintro ll aa wx ⟨hI, z, ha, hz, hp4, hp5, hp6⟩ hall
      have hx := Lib.hid hI.out.2
      have e0 : z 16 = .agg (u8s k) := hz 0 _ (hall 0 (by decide)) rfl
      have e1 : z 17 = .agg #[.slice A n c, .int .u64 (pos : Nat), .int .u32 (ep : Nat)] := hz 1 _ (hall 1 (by decide)) rfl
      have e2 : z 18 = .slice A2 m c2 := hz 2 _ (hall 2 (by decide)) rfl
      have e3 : z 19 = .int .i64 (B : Nat) := hz 3 _ (hall 3 (by decide)) rfl
      have p4 := hp4.get (hall 4 (by decide))
      have p5 := hp5.get (hall 5 (by decide))
      have p6 := hp6.get (hall 6 (by decide))
      clear hall hz hI hp4 hp5 hp6
      obtain rfl := ha.out
      clear ha
      clear apx
      have HX := Lib.hid hx.out
      have HS := Lib.hid p6
      clear e0 e1 e2 e3 hx p4 p5 p6
      go_wp2
      go_meet
      exact ⟨HS.out, HX.out⟩
    · rintro ll aa wx i ⟨hI, z, ha, hz, hp4, hp5, hp6⟩ hi hu hw
      obtain rfl := ha.out
      have hsz := Lib.hid hI.out.1
      have hx := Lib.hid hI.out.2
      clear ha hI
      have hin : i < 7 := hi
      obtain rfl | rfl | rfl | rfl | rfl | rfl | rfl : i = 0 ∨ i = 1 ∨ i = 2 ∨ i = 3 ∨ i = 4 ∨ i = 5 ∨ i = 6 := by omega
      · have cl := (hx.out.block _ (Array.getElem?_eq_some_iff.1 HK4.out).1).trans HK4.out
        refine wpOp_plain rfl rfl (wp_load_row 24 (.tmp 3) rfl (w.heap.size) rfl 24 (u8s k) (0, 0) _ cl Tryz.underlying24 rfl HsK0.out ?_)
        go_simp
        exact ⟨⟨by simp [hsz.out], hx.out⟩, upd z 16 (.agg (u8s k)), (by unfold Hid; simp [upd]), hz.next apx hsz.out 0 (by decide) _ (fun _ h => Option.some.inj h), hp4.keep (by decide), hp5.keep (by decide), hp6.keep (by decide)⟩
      · have cl := (hx.out.block _ (Array.getElem?_eq_some_iff.1 HPL.out).1).trans HPL.out
        refine wpOp_plain rfl rfl (wp_load_row 110 (.tmp 4) rfl (w.heap.size + 1) rfl 110 #[.slice A n c, .int .u64 (pos : Nat), .int .u32 (ep : Nat)] (0, 0) _ cl Tryz.underlying110 rfl infoP ?_)
        go_simp
        exact ⟨⟨by simp [hsz.out], hx.out⟩, upd z 17 (.agg #[.slice A n c, .int .u64 (pos : Nat), .int .u32 (ep : Nat)]), (by unfold Hid; simp [upd]), hz.next apx hsz.out 1 (by decide) _ (fun _ h => Option.some.inj h), hp4.keep (by decide), hp5.keep (by decide), hp6.keep (by decide)⟩
      · refine wpOp_plain rfl rfl ?_
        go_simp
        exact ⟨⟨by simp [hsz.out], hx.out⟩, upd z 18 (.slice A2 m c2), (by unfold Hid; simp [upd]), hz.next apx hsz.out 2 (by decide) _ (fun _ h => Option.some.inj h), hp4.keep (by decide), hp5.keep (by decide), hp6.keep (by decide)⟩
      · refine wpOp_plain rfl rfl ?_
        go_simp
        exact ⟨⟨by simp [hsz.out], hx.out⟩, upd z 19 (.int .i64 (B : Nat)), (by unfold Hid; simp [upd]), hz.next apx hsz.out 3 (by decide) _ (fun _ h => Option.some.inj h), hp4.keep (by decide), hp5.keep (by decide), hp6.keep (by decide)⟩
      · have e2 : z 18 = .slice A2 m c2 := hz 2 _ (hw 2 (by kernel_rfl)) rfl
        have e3 : z 19 = .int .i64 (B : Nat) := hz 3 _ (hw 3 (by kernel_rfl)) rfl
        refine wpOp_plain rfl rfl ?_
        go_simp
        go_at_call 90
        refine (padded_sl HBk.out HL2.out.1 HL2.out.2.1 (HB2.out.below hx.out (Nat.le_refl _))).mono ?_
        rintro e w8 ⟨vr, rfl, hsb, low⟩
        exact ⟨⟨by simp [hsz.out], hx.out.trans (low.mono hx.out.size)⟩, upd z 20 (vr), (by unfold Hid; simp [upd, e2, e3]), hz.next apx hsz.out 4 (by decide) _ (fun _ h => by cases h), Whn.done (hsb), (hp5.keep (by decide)).map (fun h => h.later low), (hp6.keep (by decide)).map (fun h => h.later low)⟩
      · have e0 : z 16 = .agg (u8s k) := hz 0 _ (hw 0 (by kernel_rfl)) rfl
        have e1 : z 17 = .agg #[.slice A n c, .int .u64 (pos : Nat), .int .u32 (ep : Nat)] := hz 1 _ (hw 1 (by kernel_rfl)) rfl
        have p4 := hp4.get (hw 4 (by kernel_rfl))
        obtain ⟨A9, c9, e9, b9⟩ := p4
        refine wpOp_plain rfl rfl ?_
        simp only [e9]
        go_simp
        go_at_call 89
        refine (ciphered_any k C (padL L) pos ep A A9 n c _ c9 wx Hk.out.1 Hk.out.2 HCC.out.1 HCC.out.2 hn rfl HPd.out.1 HpE.out (HB1.out.below hx.out (Nat.le_refl _)) b9 (HLD.out.later hx.out)).mono ?_
        rintro e w8 ⟨vr, rfl, hsb, low⟩
        exact ⟨⟨by simp [hsz.out], hx.out.trans (low.mono hx.out.size)⟩, upd z 21 (vr), (by unfold Hid; simp [upd, e0, e1, e9]), hz.next apx hsz.out 5 (by decide) _ (fun _ h => by cases h), (hp4.keep (by decide)).map (fun h => h.later low), Whn.done (HBB.out ▸ hsb), (hp6.keep (by decide)).map (fun h => h.later low)⟩
      · have p5 := hp5.get (hw 5 (by kernel_rfl))
        obtain ⟨A9, c9, e9, b9⟩ := p5
        refine wpOp_plain rfl rfl ?_
        go_simp
        exact ⟨⟨by simp [hsz.out], hx.out⟩, upd z 9 (.slice A9 BB.length c9), (by unfold Hid; simp [upd, e9]), hz.next apx hsz.out 6 (by decide) _ (fun _ h => by cases h), hp4.keep (by decide), hp5.keep (by decide), Whn.done (⟨A9, c9, rfl, b9⟩)⟩
    · exact ⟨⟨rfl, (Below.refl _ _).drew⟩, fun xx => (#[.agg (u8s k), .agg #[.slice A n c, .int .u64 (pos : Nat), .int .u32 (ep : Nat)], .slice A2 m c2, .pointer (some ⟨w.heap.size, 0, none⟩), .pointer (some ⟨w.heap.size + 1, 0, none⟩), undef, .slice none 0 0, .int .i64 0, .int .i64 (B : Nat), undef, undef, .slice A2 m c2, .int .i64 (m : Nat), .int .i64 (B : Nat), .int .i64 (B : Nat), .bool ((B : Int) == 0), undef, undef, undef, undef, undef, undef, undef, undef, undef, undef, undef, undef, undef, undef, undef, undef, undef, undef] : Array Value).getD xx undef, (by rfl), Holding.start, Whn.none (by decide), Whn.none (by decide), Whn.none (by decide)⟩
  case rest =>
    obtain ⟨⟨A9, c9, rfl, b9⟩, hlow⟩ := hcut
    have B9 := Lib.hid b9
    have HLc := Lib.hid hlow
    clear hlow b9
    go_upto_region 6 with (first
      | (go_at_call 91; refine (tagOf_any k C BB pos ep A A9 n c BB.length c9 wc Hk.out.1 Hk.out.2 HCC.out.1 HCC.out.2 hn rfl HBi.out.2 HBi.out.1 HpE.out (HB1.out.below HLc.out (Nat.le_refl _)) B9.out (HLD.out.later HLc.out)).mono ?_; rintro e w5 ⟨rfl, hb5⟩; rw [HTc.out]; have Hb5 := Lib.hid hb5; clear hb5)
      | (refine wpList_store_new rfl (.tmp 10) (.tmp 25) rfl TT HTT.out.1 _ (by rfl) (by rfl) (by rfl) ?_; intro w6 hr6 hb6; have HT6 := Lib.hid hr6; have Hb6 := Lib.hid hb6; clear hr6 hb6)
      | (refine wpList_load_row rfl 24 (.tmp 3) rfl w.heap.size rfl 24 (u8s k) (0, 0) _ ((HLc.out.block _ (Array.getElem?_eq_some_iff.1 HK4.out).1).trans HK4.out) Tryz.underlying24 rfl HsK0.out ?_)
      | (refine wpList_load_row rfl 110 (.tmp 4) rfl (w.heap.size + 1) rfl 110 #[.slice A n c, .int .u64 (pos : Nat), .int .u32 (ep : Nat)] (0, 0) _ ((HLc.out.block _ (Array.getElem?_eq_some_iff.1 HPL.out).1).trans HPL.out) Tryz.underlying110 rfl infoP ?_))
    have hl56 : Below w4.heap.size w4 w6 := HLc.out.trans ((Hb5.out.mono HLc.out.size).trans (Hb6.out.mono (Nat.le_trans HLc.out.size Hb5.out.size)))
    have HLow6 := Lib.hid (HLow4.out.trans (hl56.mono HLow4.out.size))
    have HPL6 : Hid (w6.heap[w.heap.size + 1]? = some (.cells #[.slice A n c, .int .u64 (pos : Nat), .int .u32 (ep : Nat)] 110 (0, 0))) := (hl56.block _ (Array.getElem?_eq_some_iff.1 HPL.out).1).trans HPL.out
    have Hb9 := Lib.hid (B9.out.below (Hb5.out.trans (Hb6.out.mono Hb5.out.size)) (Nat.le_refl _))
    have heI : (ep : Int) < 4294967296 := by have := HpE.out.2; omega
    have hwe : IntKind.u64.wrap (ep : Int) = ep := by simp [IntKind.wrap, IntKind.bits, IntKind.signed]; omega
    clear hl56 Hb5 Hb6 HLc HPL HK4 B9
    have apx : apartB [26, 27, 28, 29, 30, 31, 32, 33, 6, 7] = true := by decide
    refine wp_region_any (by kernel_rfl) ?_
    change wpAny _ _ _ _ _ _ _ (World.drew _)
    refine wpAny_inv (fun ll aa wx => Hid (ll.size = 10 ∧ Below w6.heap.size w6 wx) ∧ ∃ (z : Nat → Value), Hid (aa = ⟨#[.agg (u8s k), .agg #[.slice A n c, .int .u64 (pos : Nat), .int .u32 (ep : Nat)], .slice A2 m c2, .pointer (some ⟨w.heap.size, 0, none⟩), .pointer (some ⟨w.heap.size + 1, 0, none⟩), undef, z 6, z 7, .int .i64 (B : Nat), .slice A9 BB.length c9, .pointer (some ⟨w5.heap.size, 0, none⟩), .slice A2 m c2, .int .i64 (m : Nat), .int .i64 (B : Nat), .int .i64 (B : Nat), .bool false, u16, u17, u18, u19, u20, u21, .agg (u8s k), .agg #[.slice A n c, .int .u64 (pos : Nat), .int .u32 (ep : Nat)], .slice A9 BB.length c9, .agg (u8s TT), z 26, z 27, z 28, z 29, z 30, z 31, z 32, z 33], []⟩) ∧ Holding [26, 27, 28, 29, 30, 31, 32, 33, 6, 7] [some (.pointer (some ⟨w.heap.size + 1, 2, none⟩)), some (.int .u32 (ep : Nat)), some (.int .u64 (ep : Nat)), none, some (.slice A9 BB.length c9), some (.slice (some ⟨w5.heap.size, 0, none⟩) 32 32), none, none, none, some (.int .i64 0)] ll z ∧ Whn ll 3 (SlB (numL ep 4)) (z 29) wx ∧ Whn ll 6 (JoinB SS) (z 32) wx ∧ Whn ll 7 (OwnB w.heap.size SS) (z 33) wx ∧ Whn ll 8 (OwnB w.heap.size SS) (z 6) wx) ?_ (by kernel_rfl) ?_ ?_ _ _ _ _ (unlisted_none _) ?_
    · rintro ll aa wx ⟨hI, _⟩
      exact hI.out.1
    · rintro ll aa wx ⟨hI, z, ha, hz, hp3, hp6, hp7, hp8⟩ hall
      have hx := Lib.hid hI.out.2
      have e0 : z 26 = .pointer (some ⟨w.heap.size + 1, 2, none⟩) := hz 0 _ (hall 0 (by decide)) rfl
      have e1 : z 27 = .int .u32 (ep : Nat) := hz 1 _ (hall 1 (by decide)) rfl
      have e2 : z 28 = .int .u64 (ep : Nat) := hz 2 _ (hall 2 (by decide)) rfl
      have e4 : z 30 = .slice A9 BB.length c9 := hz 4 _ (hall 4 (by decide)) rfl
      have e5 : z 31 = .slice (some ⟨w5.heap.size, 0, none⟩) 32 32 := hz 5 _ (hall 5 (by decide)) rfl
      have e9 : z 7 = .int .i64 0 := hz 9 _ (hall 9 (by decide)) rfl
      have p3 := hp3.get (hall 3 (by decide))
      have p6 := hp6.get (hall 6 (by decide))
      have p7 := hp7.get (hall 7 (by decide))
      have p8 := hp8.get (hall 8 (by decide))
      clear hall hz hI hp3 hp6 hp7 hp8
      obtain rfl := ha.out
      clear ha
      clear apx
      have HX := Lib.hid hx.out
      have HS := Lib.hid p8
      have E9 := Lib.hid e9
      clear e0 e1 e2 e4 e5 e9 hx p3 p6 p7 p8
      go_wp2
      go_ret2
      refine ⟨z 6, ?_, HS.out, HLow6.out.trans (HX.out.mono HLow6.out.size)⟩
      show Ending.returned (.tuple #[z 6, z 7]) = _
      rw [E9.out]
    · rintro ll aa wx i ⟨hI, z, ha, hz, hp3, hp6, hp7, hp8⟩ hi hu hw
      obtain rfl := ha.out
      have hsz := Lib.hid hI.out.1
      have hx := Lib.hid hI.out.2
      clear ha hI
      have hin : i < 10 := hi
      obtain rfl | rfl | rfl | rfl | rfl | rfl | rfl | rfl | rfl | rfl : i = 0 ∨ i = 1 ∨ i = 2 ∨ i = 3 ∨ i = 4 ∨ i = 5 ∨ i = 6 ∨ i = 7 ∨ i = 8 ∨ i = 9 := by omega
      · refine wpOp_plain rfl rfl ?_
        go_simp
        exact ⟨⟨by simp [hsz.out], hx.out⟩, upd z 26 (.pointer (some ⟨w.heap.size + 1, 2, none⟩)), (by unfold Hid; simp [upd]), hz.next apx hsz.out 0 (by decide) _ (fun _ h => Option.some.inj h), hp3.keep (by decide), hp6.keep (by decide), hp7.keep (by decide), hp8.keep (by decide)⟩
      · have e0 : z 26 = .pointer (some ⟨w.heap.size + 1, 2, none⟩) := hz 0 _ (hw 0 (by kernel_rfl)) rfl
        have cl := cell_row ((hx.out.block _ (Array.getElem?_eq_some_iff.1 HPL6.out).1).trans HPL6.out) 2
        simp only [List.getElem?_toArray, List.getElem?_cons_zero, List.getElem?_cons_succ] at cl
        refine wpOp_plain rfl rfl ?_
        go_simp
        exact ⟨⟨by simp [hsz.out], hx.out⟩, upd z 27 (.int .u32 (ep : Nat)), (by unfold Hid; simp [upd, e0]), hz.next apx hsz.out 1 (by decide) _ (fun _ h => Option.some.inj h), hp3.keep (by decide), hp6.keep (by decide), hp7.keep (by decide), hp8.keep (by decide)⟩
      · have e1 : z 27 = .int .u32 (ep : Nat) := hz 1 _ (hw 1 (by kernel_rfl)) rfl
        refine wpOp_plain rfl rfl ?_
        go_simp
        exact ⟨⟨by simp [hsz.out], hx.out⟩, upd z 28 (.int .u64 (ep : Nat)), (by unfold Hid; simp [upd, e1]), hz.next apx hsz.out 2 (by decide) _ (fun _ h => Option.some.inj h), hp3.keep (by decide), hp6.keep (by decide), hp7.keep (by decide), hp8.keep (by decide)⟩
      · have e2 : z 28 = .int .u64 (ep : Nat) := hz 2 _ (hw 2 (by kernel_rfl)) rfl
        refine wpOp_plain rfl rfl ?_
        go_simp
        go_at_call 93
        refine (number_sl ep 4 (by decide) (by have := HpE.out; omega) wx).mono ?_
        rintro e w8 ⟨vr, rfl, hsb, low⟩
        exact ⟨⟨by simp [hsz.out], hx.out.trans (low.mono hx.out.size)⟩, upd z 29 (vr), (by unfold Hid; simp [upd, e2]), hz.next apx hsz.out 3 (by decide) _ (fun _ h => by cases h), Whn.done (hsb), (hp6.keep (by decide)).map (fun h => h.later low), (hp7.keep (by decide)).map (fun h => h.later low), (hp8.keep (by decide)).map (fun h => h.later low)⟩
      · refine wpOp_plain rfl rfl ?_
        go_simp
        exact ⟨⟨by simp [hsz.out], hx.out⟩, upd z 30 (.slice A9 BB.length c9), (by unfold Hid; simp [upd]), hz.next apx hsz.out 4 (by decide) _ (fun _ h => Option.some.inj h), hp3.keep (by decide), hp6.keep (by decide), hp7.keep (by decide), hp8.keep (by decide)⟩
      · refine wpOp_plain rfl rfl ?_
        go_simp
        exact ⟨⟨by simp [hsz.out], hx.out⟩, upd z 31 (.slice (some ⟨w5.heap.size, 0, none⟩) 32 32), (by unfold Hid; simp [upd]), hz.next apx hsz.out 5 (by decide) _ (fun _ h => Option.some.inj h), hp3.keep (by decide), hp6.keep (by decide), hp7.keep (by decide), hp8.keep (by decide)⟩
      · have e4 : z 30 = .slice A9 BB.length c9 := hz 4 _ (hw 4 (by kernel_rfl)) rfl
        have e5 : z 31 = .slice (some ⟨w5.heap.size, 0, none⟩) 32 32 := hz 5 _ (hw 5 (by kernel_rfl)) rfl
        have p3 := hp3.get (hw 3 (by kernel_rfl))
        obtain ⟨A3, c3, e3, b3⟩ := p3
        have hjb0 := join3 (w := wx) (TT := TT) b3 (Hb9.out.below hx.out (Nat.le_refl _)) HBi.out.2 (byt_rowF ((hx.out.block _ (Array.getElem?_eq_some_iff.1 HT6.out).1).trans HT6.out) HTT.out.1) HTT.out.2 HTT.out.1
        have hjb := HSS2.out ▸ hjb0
        clear hjb0
        refine wpOp_plain rfl rfl ?_
        go_simp
        have lown := Below.alloc (Below.refl wx.heap.size wx) (Nat.le_refl _) (.cells #[.slice A3 (numL ep 4).length c3, .slice A9 BB.length c9, .slice (some ⟨w5.heap.size, 0, none⟩) 32 32] 38)
        exact ⟨⟨by simp [hsz.out], hx.out.trans (lown.mono hx.out.size)⟩, upd z 32 (.slice (some ⟨wx.heap.size, 0, none⟩) 3 3), (by unfold Hid; simp [upd, e4, e5, e3]), hz.next apx hsz.out 6 (by decide) _ (fun _ h => by cases h), (hp3.keep (by decide)).map (fun h => h.later lown), Whn.done (hjb), (hp7.keep (by decide)).map (fun h => h.later lown), (hp8.keep (by decide)).map (fun h => h.later lown)⟩
      · have p6 := hp6.get (hw 6 (by kernel_rfl))
        obtain ⟨g9, ps9, e9, hP9, hT9, hn9⟩ := p6
        refine wpOp_plain rfl rfl ?_
        simp only [e9]
        go_simp
        go_at_call 92
        refine (joined_own hP9 hT9 hn9 HSl.out.1).mono ?_
        rintro e w8 ⟨vr, rfl, hsb, low⟩
        exact ⟨⟨by simp [hsz.out], hx.out.trans (low.mono hx.out.size)⟩, upd z 33 (vr), (by unfold Hid; simp [upd, e9]), hz.next apx hsz.out 7 (by decide) _ (fun _ h => by cases h), (hp3.keep (by decide)).map (fun h => h.later low), (hp6.keep (by decide)).map (fun h => h.later low), Whn.done (hsb.base (HLow6.out.trans (hx.out.mono HLow6.out.size)).size), (hp8.keep (by decide)).map (fun h => h.later low)⟩
      · have p7 := hp7.get (hw 7 (by kernel_rfl))
        obtain ⟨x7, e7⟩ : ∃ x7, x7 = z 33 := ⟨_, rfl⟩
        refine wpOp_plain rfl rfl ?_
        go_simp
        exact ⟨⟨by simp [hsz.out], hx.out⟩, upd z 6 (z 33), (by unfold Hid; simp [upd]), hz.next apx hsz.out 8 (by decide) _ (fun _ h => by cases h), hp3.keep (by decide), hp6.keep (by decide), hp7.keep (by decide), Whn.done (p7)⟩
      · refine wpOp_plain rfl rfl ?_
        go_simp
        exact ⟨⟨by simp [hsz.out], hx.out⟩, upd z 7 (.int .i64 0), (by unfold Hid; simp [upd]), hz.next apx hsz.out 9 (by decide) _ (fun _ h => Option.some.inj h), hp3.keep (by decide), hp6.keep (by decide), hp7.keep (by decide), hp8.keep (by decide)⟩
    · exact ⟨⟨rfl, (Below.refl _ _).drew⟩, fun xx => (#[.agg (u8s k), .agg #[.slice A n c, .int .u64 (pos : Nat), .int .u32 (ep : Nat)], .slice A2 m c2, .pointer (some ⟨w.heap.size, 0, none⟩), .pointer (some ⟨w.heap.size + 1, 0, none⟩), undef, .slice none 0 0, .int .i64 0, .int .i64 (B : Nat), .slice A9 BB.length c9, .pointer (some ⟨w5.heap.size, 0, none⟩), .slice A2 m c2, .int .i64 (m : Nat), .int .i64 (B : Nat), .int .i64 (B : Nat), .bool false, u16, u17, u18, u19, u20, u21, .agg (u8s k), .agg #[.slice A n c, .int .u64 (pos : Nat), .int .u32 (ep : Nat)], .slice A9 BB.length c9, .agg (u8s TT), undef, undef, undef, undef, undef, undef, undef, undef] : Array Value).getD xx undef, (by rfl), Holding.start, Whn.none (by decide), Whn.none (by decide), Whn.none (by decide), Whn.none (by decide)⟩
end Go.Proofs.YtkjhoanlkkcfkaaGreatDoor.Seal
/- DERIVED. The contracts of bytes.Clone, slices.ContainsFunc at unpadded's function, seal.unpadded. -/
namespace Go.Proofs.YtkjhoanlkkcfkaaGreatDoor.Seal
open Go.RowKit
set_option maxHeartbeats 1000000 in
theorem clone_any {L : List Int} {A : Option Addr} {n c : Nat} {w : World} (hB : Byt w A c L) (hl : L.length = n) (hle : n ≤ 200000) :
    Calls Tryz.prog 38 #[.slice A n c] w fun e w' => ∃ v', e = .returned v' ∧ SlB L v' w' ∧ Below w.heap.size w w' := by
  cases A with
  | none =>
    have hc := hB.2.1 rfl
    have h0 : L.length = 0 := by have := hB.1; omega
    obtain rfl : L = [] := List.eq_nil_of_length_eq_zero h0
    subst hc hl
    have hne := fun (w : World) => Lib.run_eql_slice_nil w 38 5 none 0 0 0 0 Tryz.underlying38
    have HB := Lib.hid hB
    clear hB h0
    go_enter Tryz.func38, Tryz.ntmps38
    go_wp2
    go_ret
    exact ⟨_, rfl, ⟨none, 0, rfl, HB.out⟩, Below.refl _ _⟩
  | some ad =>
    have HB := Lib.hid hB
    have Hn := Lib.hid hl
    have hmade := World.ownsRow_made w (base := w.heap.size) (e := 5) (size := 1) #[] 0 (Nat.le_refl _) (Nat.zero_le _) rfl
    have Hmade := Lib.hid hmade
    have hne := fun (w : World) => Lib.run_eql_slice_nil w 38 5 (some ad) n c 0 0 Tryz.underlying38
    clear hB hl hmade
    go_enter Tryz.func38, Tryz.ntmps38
    go_wp2_with (at_builtin; refine wpList_append_any rfl (.tmp 5) (.tmp 6) rfl w.heap.size _ 0 [] rfl Hmade.out (some ad) n c L rfl Hn.out (HB.out.alloc _) (by omega) (by rw [World.size_alloc]; omega) ?_; intro v1 w1 hown1 hlow1; have Hown1 := Lib.hid hown1; have Hlow1 := Lib.hid hlow1; clear hown1 hlow1)
    go_ret
    obtain ⟨A1, c1, hv, hl, hb⟩ := own_byt Hown1.out
    refine ⟨_, rfl, ⟨A1, c1, by rw [List.nil_append] at hl; rw [hl]; exact hv, hb⟩, Hlow1.out _ _ ((Below.refl _ _).alloc (Nat.le_refl _) _) (Nat.le_refl _)⟩
theorem nz_any (y : Int) (w : World) : Calls Tryz.prog 127 #[.int .u8 y] w fun e w' => e = .returned (.bool (decide (y ≠ 0))) ∧ w = w' := by
  by_cases e : y = 0
  · subst e
    go_enter Tryz.func127, Tryz.ntmps127
    go_wp2
    go_ret
    simp
  · have hb : (y == 0) = false := beq_eq_false_iff_ne.2 e
    rw [decide_eq_true e]
    go_enter Tryz.func127, Tryz.ntmps127
    go_wp2
    go_ret
    simp [e]
/-- no byte but 0. -/
def AllZ (L : List Int) : Prop := ∀ j, j < L.length → L.getD j 0 = 0
theorem allZ_iff (L : List Int) : AllZ L ↔ L = zeros L.length := by
  constructor
  · intro h
    apply List.ext_getElem (by simp [zeros])
    intro j h1 h2
    have := h j h1
    simp [List.getD_eq_getElem?_getD, h1] at this
    rw [this]; simp [zeros]
  · intro h j hj
    rw [h]; unfold zeros
    rw [List.getD_eq_getElem?_getD, List.getElem?_replicate]; split <;> simp
set_option maxRecDepth 100000 in
theorem index_any (A : Option Addr) (n c : Nat) (L : List Int) (w : World) (hB : Byt w A c L) (hn : L.length = n) (hmax : n ≤ 4194304) :
    Calls Tryz.prog 142 #[.slice A n c, .func (.func 127) #[] #[]] w fun e w' => (∃ r : Int, e = .returned (.int .i64 r) ∧ ((AllZ L ∧ r = -1) ∨ (¬ AllZ L ∧ 0 ≤ r))) ∧ w = w' := by
  have HB := Lib.hid hB
  have Hn := Lib.hid hn
  clear hB hn
  go_enter Tryz.func142, Tryz.ntmps142
  go_upto_region 2 with (fail)
  go_loopw [8] (fun v wr => ∃ k : Nat, k ≤ n ∧ v = .int .i64 k ∧ Hid (∀ j, j < k → L.getD j 0 = 0) ∧ wr = w) (fun v _ => n - (intOf v).toNat)
  case atStart => exact ⟨0, Nat.zero_le _, rfl, (fun j hj => absurd hj (Nat.not_lt_zero _)), rfl⟩
  case round =>
    obtain ⟨k, hk, rfl, hz, rfl⟩ := hrel
    by_cases hlt : k < n
    · have hltI : (k : Int) < (n : Int) := by omega
      obtain ⟨b, off, rfl, hb, hcell⟩ := HB.out.2.2 (by have := Hn.out; omega)
      have hck := hcell k (by have := Hn.out; omega)
      obtain ⟨y, hy⟩ : ∃ y, y = L.getD k 0 := ⟨_, rfl⟩
      rw [← hy] at hck
      have Hy := Lib.hid hy
      clear hcell hy hb
      by_cases e : y = 0
      · have He := Lib.hid e
        have Hc := Lib.hid (nz_any y wr)
        rw [decide_eq_false (by simp [e])] at Hc
        clear e
        go_wp2_with (go_at_call 127; refine Hc.out.mono ?_; rintro e w' ⟨rfl, rfl⟩)
        refine ⟨⟨k + 1, by omega, by go_num, (fun j hj => ?_), trivial⟩, by simp [intOf]; omega⟩
        rcases Nat.lt_or_ge j k with h | h
        · exact hz.out j h
        · obtain rfl : j = k := by omega
          rw [← Hy.out]; exact He.out
      · have He := Lib.hid e
        have Hc := Lib.hid (nz_any y wr)
        rw [decide_eq_true e] at Hc
        clear e
        go_wp2_with (go_at_call 127; refine Hc.out.mono ?_; rintro e w' ⟨rfl, rfl⟩)
        go_ret
        refine ⟨⟨_, rfl, .inr ⟨fun h => He.out (by rw [Hy.out]; exact h k (by have := Hn.out; omega)), by omega⟩⟩, rfl⟩
    · have hltI : ¬ (k : Int) < (n : Int) := by omega
      go_wp2
      go_ret
      refine ⟨⟨_, rfl, .inl ⟨fun j hj => hz.out j (by have := Hn.out; omega), rfl⟩⟩, rfl⟩
theorem contains_any (A : Option Addr) (n c : Nat) (L : List Int) (w : World) (hB : Byt w A c L) (hn : L.length = n) (hmax : n ≤ 4194304) :
    Calls Tryz.prog 126 #[.slice A n c, .func (.func 127) #[] #[]] w fun e w' => (∃ b : Bool, e = .returned (.bool b) ∧ (b = false ↔ AllZ L)) ∧ w = w' := by
  have H := Lib.hid (index_any A n c L w hB hn hmax)
  clear hB hn
  go_enter Tryz.func126, Tryz.ntmps126
  go_wp2_with (go_at_call 142; refine H.out.mono ?_; rintro e w' ⟨⟨r, rfl, hr⟩, rfl⟩; have Hr := Lib.hid hr; clear hr)
  go_ret
  refine ⟨⟨_, rfl, ?_⟩, rfl⟩
  rcases Hr.out with ⟨h, rfl⟩ | ⟨h, h0⟩
  · simp [h]
  · simp [h]; omega
theorem contains_no {A : Option Addr} {n c : Nat} {L : List Int} {w : World} (hB : Byt w A c L) (hn : L.length = n) (hmax : n ≤ 4194304) (hz : AllZ L) :
    Calls Tryz.prog 126 #[.slice A n c, .func (.func 127) #[] #[]] w fun e w' => e = .returned (.bool false) ∧ w = w' := by
  refine (contains_any A n c L w hB hn hmax).mono ?_
  rintro e w' ⟨⟨b, rfl, hb⟩, h⟩
  exact ⟨by rw [hb.2 hz], h⟩
theorem contains_yes {A : Option Addr} {n c : Nat} {L : List Int} {w : World} (hB : Byt w A c L) (hn : L.length = n) (hmax : n ≤ 4194304) (hz : ¬ AllZ L) :
    Calls Tryz.prog 126 #[.slice A n c, .func (.func 127) #[] #[]] w fun e w' => e = .returned (.bool true) ∧ w = w' := by
  refine (contains_any A n c L w hB hn hmax).mono ?_
  rintro e w' ⟨⟨b, rfl, hb⟩, h⟩
  cases b
  · exact absurd (hb.1 rfl) hz
  · exact ⟨rfl, h⟩
theorem byt_sub {w : World} {g off c : Nat} {S : List Int} (h : Byt w (some ⟨g, off, none⟩) c S) (k l : Nat) (hk : k + l ≤ S.length) (hp : 0 < S.length) : Byt w (some ⟨g, off + k, none⟩) (c - k) ((S.drop k).take l) := by
  obtain ⟨h1, _, h3⟩ := h
  obtain ⟨g', off', e, hg, hc⟩ := h3 hp
  cases e
  refine ⟨by rw [List.length_take, List.length_drop]; omega, (fun h => by cases h), fun _ => ⟨g, off + k, rfl, hg, fun j hj => ?_⟩⟩
  rw [List.length_take, List.length_drop] at hj
  rw [Nat.add_assoc, hc (k + j) (by omega)]
  simp [List.getD_eq_getElem?_getD, List.getElem?_drop, show j < l by omega]
theorem byt_empty (w : World) (a : Addr) (c : Nat) : Byt w (some a) c [] := ⟨Nat.zero_le _, (fun h => by cases h), fun h => by simp at h⟩
/-- what unpadded answers. -/
def UnpQ (r : Option (List Int)) (e : Ending) (w' : World) : Prop := match r with
  | none => e = .returned (.tuple #[.slice none 0 0, .bool false])
  | some T => ∃ v, e = .returned (.tuple #[v, .bool true]) ∧ SlB T v w'
theorem unpad_no {P : List Int} {N : Nat} (hN : be4 P = N) (h : ¬ (bktI N = P.length ∧ AllZ (P.drop (4 + N)))) : unpad P = none := by
  unfold unpad
  rw [if_neg]
  rintro ⟨h1, h2⟩
  rw [hN, Int.toNat_natCast] at h2
  rw [hN] at h1
  exact h ⟨h1, (allZ_iff _).2 (by rw [h2]; simp [zeros])⟩
theorem unpad_yes {P : List Int} {N : Nat} (hN : be4 P = N) (h1 : bktI N = P.length) (h2 : AllZ (P.drop (4 + N))) : unpad P = some ((P.drop 4).take N) := by
  unfold unpad
  rw [hN, Int.toNat_natCast, if_pos]
  refine ⟨h1, ?_⟩
  have := (allZ_iff _).1 h2
  rwa [List.length_drop] at this
set_option maxRecDepth 100000 in
set_option maxHeartbeats 4000000 in
theorem unpadded_any (A : Option Addr) (n c : Nat) (P : List Int) (w : World) (hn : P.length = n) (h64 : 64 ≤ n) (hmax : n ≤ 131072) (hB : Byt w A c P) (hb : InB P) :
    Calls Tryz.prog 112 #[.slice A n c] w fun e w' => UnpQ (unpad P) e w' ∧ Below w.heap.size w w' := by
  obtain ⟨r, hr⟩ : ∃ r, r = unpad P := ⟨_, rfl⟩
  rw [← hr]
  have hr4 := be4_in hb
  obtain ⟨N, hN⟩ : ∃ N : Nat, be4 P = N := ⟨(be4 P).toNat, by omega⟩
  have HR := Lib.hid hr
  have HN := Lib.hid hN
  have Hn := Lib.hid hn
  have hnc : n ≤ c := by rw [← hn]; exact hB.1
  obtain ⟨g, off, rfl, hg, _⟩ := hB.2.2 (by omega)
  have HB := Lib.hid hB
  have HRd : Hid (Calls Tryz.prog 110 #[.slice (some ⟨g, off, none⟩) 4 c] w fun e w' => e = .returned (.int .u32 (N : Nat)) ∧ Below w.heap.size w w') := by
    have := read_any (some ⟨g, off, none⟩) 4 c P w hB (Nat.le_refl _) (by omega) hb
    rwa [hN] at this
  obtain ⟨z, hz⟩ : ∃ z, z = bktI N := ⟨_, rfl⟩
  have HZ : Hid (∀ w, Calls Tryz.prog 88 #[.int .i64 (N : Nat)] w fun e w' => e = .returned (.int .i64 z) ∧ w = w') := fun w => by rw [hz]; exact bucket_any (N : Nat) w
  have Hz := Lib.hid hz
  have hNI : (N : Int) < 4294967296 := by omega
  have h4c : (4 : Int) ≤ c := by omega
  have h4n : (4 : Int) ≤ n := by omega
  clear hr hN hn hB hb hg hz
  by_cases hzn : z = n
  · have hNb : N ≤ 131068 := by
      have := Hz.out
      unfold bktI at this
      split at this
      · omega
      · omega
    have hge : N + 4 ≤ n := by
      have h1 := bkt_ge hNb
      have := Hz.out
      unfold bktI at this
      rw [if_neg (by omega), Int.toNat_natCast] at this
      omega
    subst hzn
    clear hr4
    go_enter Tryz.func112, Tryz.ntmps112
    go_upto_region 4 with (first
      | (go_at_call 110; refine HRd.out.mono ?_; rintro e w1 ⟨rfl, hb1⟩; have Hb1 := Lib.hid hb1; clear hb1)
      | (go_at_call 88; refine (HZ.out _).mono ?_; rintro e w2 ⟨rfl, rfl⟩))
    have hgeI : 4 + (N : Int) ≤ n := by omega
    have hgcI : 4 + (N : Int) ≤ c := by omega
    have h04 : 0 ≤ 4 + (N : Int) := by omega
    have h44 : (4 : Int) ≤ 4 + (N : Int) := by omega
    have hT4 : (4 + (N : Int)).toNat = 4 + N := by omega
    have hc4 : ¬ c = 4 := by omega
    have hP4 : 4 + N ≤ P.length := by rw [Hn.out]; omega
    have hP0 : 0 < P.length := by rw [Hn.out]; omega
    have HP4 := Lib.hid hP4
    have HP0 := Lib.hid hP0
    clear hP4 hP0
    by_cases hcc : c = 4 + N
    · go_quiet (fail)
      have hnn : n = 4 + N := by omega
      have hlowW : Below w.heap.size w (w1.drewN nq) := Below.drewN Hb1.out nq
      have hbT : Byt (w1.drewN nq) (some ⟨g, off + 4, none⟩) (N) ((P.drop 4).take N) := by have h := byt_sub (HB.out.below (Below.drewN Hb1.out nq) (Nat.le_refl _)) 4 N HP4.out HP0.out; rwa [show c - 4 = N by omega] at h
      have hbR : Byt (w1.drewN nq) (some ⟨g, off, none⟩) (0) (P.drop (4 + N)) := by rw [List.drop_eq_nil_of_le (by rw [Hn.out]; omega)]; exact byt_empty _ _ _
      generalize w1.drewN nq = w3 at hlowW hbT hbR ⊢
      have HlW := Lib.hid hlowW
      have HbT := Lib.hid hbT
      have hTl : ((P.drop 4).take N).length = N := by rw [List.length_take, List.length_drop, Hn.out]; omega
      have HCl := Lib.hid (clone_any hbT hTl (by omega))
      by_cases haz : AllZ (P.drop (4 + N))
      · have HC := Lib.hid (contains_no hbR (by rw [List.length_drop, Hn.out]) (by omega) haz)
        have hy := unpad_yes HN.out (by rw [Hn.out]; exact Hz.out.symm) haz
        have Hy := Lib.hid (HR.out.trans hy)
        clear hy haz hlowW hbT hbR hTl HRd HZ hnn hNI hNb hmax
        go_wp2_with (first
          | (go_at_call 126; refine HC.out.mono ?_; rintro e w4 ⟨rfl, rfl⟩)
          | (go_at_call 38; refine HCl.out.mono ?_; rintro e w5 ⟨v5, rfl, hs5, hb5⟩; have Hs5 := Lib.hid hs5; have Hb5 := Lib.hid hb5; clear hs5 hb5))
        go_ret2
        refine ⟨?_, HlW.out.trans (Hb5.out.mono HlW.out.size)⟩
        rw [Hy.out]
        exact ⟨_, rfl, Hs5.out⟩
      · have HC := Lib.hid (contains_yes hbR (by rw [List.length_drop, Hn.out]) (by omega) haz)
        have hy := unpad_no HN.out (fun h => haz h.2)
        have Hy := Lib.hid (HR.out.trans hy)
        clear hy haz hlowW hbT hbR hTl HRd HZ hnn hNI hNb hmax
        go_wp2_with (go_at_call 126; refine HC.out.mono ?_; rintro e w4 ⟨rfl, rfl⟩)
        go_ret2
        refine ⟨?_, HlW.out⟩
        rw [Hy.out]
        rfl
    · have hcc2 : ¬ 4 + N = c := by omega
      go_quiet (fail)
      have hlowW : Below w.heap.size w (w1.drewN nq) := Below.drewN Hb1.out nq
      have hbT : Byt (w1.drewN nq) (some ⟨g, off + 4, none⟩) (c - 4) ((P.drop 4).take N) := byt_sub (HB.out.below (Below.drewN Hb1.out nq) (Nat.le_refl _)) 4 N HP4.out HP0.out
      have hbR : Byt (w1.drewN nq) (some ⟨g, off + (4 + N), none⟩) (c - (4 + N)) (P.drop (4 + N)) := by have h := byt_sub (HB.out.below (Below.drewN Hb1.out nq) (Nat.le_refl _)) (4 + N) (P.length - (4 + N)) (by have := HP4.out; omega) HP0.out; rwa [List.take_of_length_le (by rw [List.length_drop]; exact Nat.le_refl _)] at h
      generalize w1.drewN nq = w3 at hlowW hbT hbR ⊢
      have HlW := Lib.hid hlowW
      have HbT := Lib.hid hbT
      have hTl : ((P.drop 4).take N).length = N := by rw [List.length_take, List.length_drop, Hn.out]; omega
      have HCl := Lib.hid (clone_any hbT hTl (by omega))
      by_cases haz : AllZ (P.drop (4 + N))
      · have HC := Lib.hid (contains_no hbR (by rw [List.length_drop, Hn.out]) (by omega) haz)
        have hy := unpad_yes HN.out (by rw [Hn.out]; exact Hz.out.symm) haz
        have Hy := Lib.hid (HR.out.trans hy)
        clear hy haz hlowW hbT hbR hTl HRd HZ hNI hNb hmax
        go_wp2_with (first
          | (go_at_call 126; refine HC.out.mono ?_; rintro e w4 ⟨rfl, rfl⟩)
          | (go_at_call 38; refine HCl.out.mono ?_; rintro e w5 ⟨v5, rfl, hs5, hb5⟩; have Hs5 := Lib.hid hs5; have Hb5 := Lib.hid hb5; clear hs5 hb5))
        go_ret2
        refine ⟨?_, HlW.out.trans (Hb5.out.mono HlW.out.size)⟩
        rw [Hy.out]
        exact ⟨_, rfl, Hs5.out⟩
      · have HC := Lib.hid (contains_yes hbR (by rw [List.length_drop, Hn.out]) (by omega) haz)
        have hy := unpad_no HN.out (fun h => haz h.2)
        have Hy := Lib.hid (HR.out.trans hy)
        clear hy haz hlowW hbT hbR hTl HRd HZ hNI hNb hmax
        go_wp2_with (go_at_call 126; refine HC.out.mono ?_; rintro e w4 ⟨rfl, rfl⟩)
        go_ret2
        refine ⟨?_, HlW.out⟩
        rw [Hy.out]
        rfl
  · have hno := unpad_no HN.out (fun h => hzn (by rw [Hz.out, h.1, Hn.out]))
    have Hy := Lib.hid (HR.out.trans hno)
    have hzb : (z == (n : Int)) = false := beq_eq_false_iff_ne.2 hzn
    clear hno hr4 Hz
    go_enter Tryz.func112, Tryz.ntmps112
    go_upto_region 2 with (go_at_call 110; refine HRd.out.mono ?_; rintro e w1 ⟨rfl, hb1⟩; have Hb1 := Lib.hid hb1; clear hb1)
    clear hNI hmax
    go_wp2_with (go_at_call 88; refine (HZ.out _).mono ?_; rintro e w2 ⟨rfl, rfl⟩)
    go_ret2
    refine ⟨?_, Hb1.out⟩
    rw [Hy.out]
    rfl
end Go.Proofs.YtkjhoanlkkcfkaaGreatDoor.Seal
