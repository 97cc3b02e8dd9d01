/- DERIVED. Texts of ours, merged: XRef9Two. -/
import Derived.Test.YtpeioogkbcejmaaMplays12
import Derived.Test.YtpeioogkbcejmaaMplays5
import Derived.Test.YtpeioogkbcejmaaMplays8
import Derived.Deep.DeepCutAuto
/- DERIVED. Layer 9's reference: Append, where its first write is whole (mkref9two.py writes this text). -/
namespace Go.Proofs.Ytpeioogkbcejmaa.Slt
open Go.RowKit Dsk
/-- nothing old changes until operation q comes, from then on only these blocks. -/
def RelC (q : Nat) (S : List Nat) (W : World) (ll : Array Bool) (wx : World) : Prop := Chg S W wx ∧ (ll.getD q false = false → Below W.heap.size W wx)
theorem setC_false {l : Array Bool} {i j : Nat} (h : (l.setIfInBounds i true).getD j false = false) : l.getD j false = false := by
  cases e : l.getD j false with
  | false => rfl
  | true => rw [getD_set_true e] at h; cases h
theorem RelC.start {q : Nat} {S : List Nat} {W : World} {ll : Array Bool} : RelC q S W ll W.drew := ⟨Chg.of_below (Below.refl _ _).drew, fun _ => (Below.refl _ _).drew⟩
theorem RelC.same {q i : Nat} {S : List Nat} {W wx : World} {ll : Array Bool} (h : RelC q S W ll wx) : RelC q S W (ll.setIfInBounds i true) wx := ⟨h.1, fun hl => h.2 (setC_false hl)⟩
theorem RelC.call {q i : Nat} {S : List Nat} {W wx w' : World} {ll : Array Bool} (h : RelC q S W ll wx) (k : Below wx.heap.size wx w') : RelC q S W (ll.setIfInBounds i true) w' :=
  ⟨h.1.trans (Chg.of_below k), fun hl => (h.2 (setC_false hl)).trans (k.mono h.1.size)⟩
theorem RelC.wr {q : Nat} {S : List Nat} {W wx w' : World} {ll : Array Bool} (h : RelC q S W ll wx) (k : Chg S wx w') (hq : q < ll.size) : RelC q S W (ll.setIfInBounds q true) w' :=
  ⟨h.1.trans k, fun hl => by simp [hq] at hl⟩
theorem RelC.cell {q : Nat} {S : List Nat} {W wx : World} {ll : Array Bool} (h : RelC q S W ll wx) {p : Addr} {v : Value} (hc : W.cell? p = some v) (hp : p.block ∉ S) : wx.cell? p = some v :=
  (World.cell?_of_block (h.1.block p.block (World.block_lt_of_cell? W p hc) hp)).trans hc
/-- a slice that reads as these bytes, in a block from B on. -/
def SlN (B : Nat) (L : List Int) (v : Value) (w : World) : Prop := ∃ A c, v = .slice A L.length c ∧ Byt w A c L ∧ ∀ a, A = some a → B ≤ a.block
theorem SlN.later {B : Nat} {L : List Int} {v : Value} {w w' : World} (h : SlN B L v w) (hb : Below w.heap.size w w') : SlN B L v w' := by
  obtain ⟨A, c, e, b, g⟩ := h
  exact ⟨A, c, e, b.below hb (Nat.le_refl _), g⟩
theorem sln_own {w : World} {B n : Nat} {v : Value} {L : List Int} (h : w.ownsRow B 5 1 v n (vals L)) (hl : L.length = n) : SlN B L v w := by
  obtain ⟨A, c, e, hB⟩ := own_sl h hl
  exact ⟨A, c, e, hB, fun a ha => (h.lt a.block (by rw [e, ha]; rfl)).1⟩
theorem byt_take9 {w : World} {A : Option Addr} {c : Nat} {L : List Int} (h : Byt w A c L) (k : Nat) : Byt w A c (L.take k) :=
  ⟨by have := h.1; rw [List.length_take]; omega, h.2.1, fun hl => by
    rw [List.length_take] at hl
    obtain ⟨g, off, hA, hg, hc⟩ := h.2.2 (by omega)
    exact ⟨g, off, hA, hg, fun j hj => by
      rw [List.length_take] at hj
      rw [hc j (by omega)]
      simp [List.getD_eq_getElem?_getD, show j < k by omega]⟩⟩
theorem byt_chg0 {w w' : World} {S : List Nat} {A : Option Addr} {c : Nat} {L : List Int} (h : Byt w A c L) (hc : Chg S w w') (hS : 0 < L.length → ∀ a, A = some a → a.block ∉ S) : Byt w' A c L := by
  by_cases hl : 0 < L.length
  · exact h.chg hc (hS hl)
  · exact ⟨h.1, h.2.1, fun h2 => absurd h2 hl⟩
theorem info_slz9 : (Try.prog.info? 33).map (fun i => (i.zero, i.size, i.bytes)) = some (some (.slice none 0 0), 1, 24) := by kernel_rfl
/-- append of a slice of one slice to an own row. -/
theorem wpList_append_one {w : World} {ops : Array Oper} {rest : List Oper} {o : Oper} {a : Act} {Q : Exit → Act → World → Prop} (hgd : o.guard = none) (s x : Operand)
    (ho : o.op = .call { callee := .builtin .append, args := #[s, x], argTypes := #[46, 46] }) (base : Nat) (v y : Value) (n N : Nat) (ts : List Value) (hs : a.eval s = v) (hown : w.ownsRow base 33 1 v n ts)
    (hx : a.eval x = .slice (some ⟨N, 0, none⟩) 1 1) (hN : w.heap[N]? = some (.cells #[y] 33 (0, 0))) (hy1 : y.oneCell' = true) (h63 : n ≤ 1000000) (hbase : base ≤ w.heap.size)
    (h : ∀ v' w', w'.ownsRow base 33 1 v' (n + 1) (ts ++ [y]) → w.grownBy w' v.ownBlock → (v'.ownBlock = v.ownBlock ∨ v'.ownBlock = some w.heap.size) → wpList Try.prog ops Q rest (a.put o.dst v') w') : wpList Try.prog ops Q (o :: rest) a w := by
  obtain ⟨i0, hi0, hz00, hz10, hz20⟩ := info_parts info_slz9
  refine wpList_append_own_at _ hgd s x 46 ho base 33 i0 (.slice none 0 0) 1 24 Try.underlying46 hi0 hz00 hz10 hz20 rfl (by decide) v n ts hs hown ⟨N, 0, none⟩ 1 1 [y] hx rfl
    (fun j u hu => ?_) (fun u hu => ?_) (by unfold maxLen; omega) (by omega) hbase ?_
  · rw [Addr.add_mid, Nat.zero_add, cell_row hN]
    simpa using hu
  · simp only [List.mem_cons, List.mem_nil_iff, or_false] at hu
    subst hu; exact hy1
  · intro v' w' hown' hgrow _ hblk
    exact h v' w' hown' hgrow hblk
section
variable {w : World} {M : MK} {D : DS} {J : LK} {S : LS}
set_option maxRecDepth 100000 in
set_option maxHeartbeats 4000000 in
theorem rappend_go_tight (hd : RD w M D) (h : RL w M J S) (A : Option Addr) (n c : Nat) (t : List Int) (htl : t.length = n) (hB : Byt w A c t) (hA : 0 < t.length → ∀ a, A = some a → a.block ∉ M.bl) (ht : InB t) (hl : S.lost = false) (ho : D.off = false) (hn : n ≤ 262144) (hf : S.used + tk n = S.secs) (hend : (S.from_ + S.secs) * 128 ≤ D.data.length) (hmost : D.data.length ≤ 2097152)
    (e0 : (runD D (S.from_ + S.used) (slotB 0 t (tk n)) 0 (tk n)).2 = 0) :
    Calls Try.prog 25 #[.pointer (some ⟨J.g, 0, none⟩), .slice A n c] w fun e w' => ∃ J', e = .returned (.int .i64 (runD (runD D (S.from_ + S.used) (slotB 0 t (tk n)) 0 (tk n)).1 (S.from_ + S.used) ((slotB 1 t (tk n)).take 128) 0 1).2) ∧ RAppQ w w' M J J' (runD (runD D (S.from_ + S.used) (slotB 0 t (tk n)) 0 (tk n)).1 (S.from_ + S.used) ((slotB 1 t (tk n)).take 128) 0 1).1 (if (runD (runD D (S.from_ + S.used) (slotB 0 t (tk n)) 0 (tk n)).1 (S.from_ + S.used) ((slotB 1 t (tk n)).take 128) 0 1).2 = 0 then { S with used := S.used + tk n, texts := S.texts ++ [t] } else { S with lost := true }) := by
  have hfit := tk_fit n
  have htk : tk n ≤ 2100 := by unfold tk; omega
  have htp := tk_pos n
  have hse := h.end_
  have hMw : ∀ q ∈ M.bl, q < w.heap.size := by
    intro q hq; simp [MK.bl] at hq
    rcases hq with rfl | rfl
    · exact hd.glt
    · exact hd.blt
  obtain ⟨p, hp⟩ : ∃ p, p = S.from_ + S.used := ⟨_, rfl⟩
  rw [← hp] at e0 ⊢
  have hlb : (slotB 0 t (tk n)).length = (tk n) * 128 := slotB_len _ _ _ (by omega)
  have Hw1 := Lib.hid (fun (w1 : World) (A1 : Option Addr) (c1 : Nat) (hb : Below w.heap.size w w1) (ho1 : w1.ownsRow w.heap.size 5 1 (.slice A1 ((tk n) * 128) c1) ((tk n) * 128) (vals (slotB 0 t (tk n)))) => rwrite_any (w := w1) (hd.later hb) ho p (tk n) ((tk n) * 128) A1 c1 (slotB 0 t (tk n)) rfl hlb (slotB_in (by omega) ht) (by omega) (own_byt9 ho1 hlb) (fun _ a ha hm => by have := (ho1.lt a.block (by rw [ha]; rfl)).1; have := hMw _ hm; omega) hmost)
  have hq1 := run_q p (slotB 0 t (tk n)) (tk n) 0 D ho (by omega) (by omega)
  have ho1 := hq1.on e0
  have hl1 := hq1.len
  clear hq1
  obtain ⟨R, hR⟩ : ∃ R, R = runD D p (slotB 0 t (tk n)) 0 (tk n) := ⟨_, rfl⟩
  rw [← hR] at Hw1 e0 ho1 hl1 ⊢
  have hlb1 : (slotB 1 t (tk n)).length = tk n * 128 := slotB_len _ _ _ (by omega)
  have hlt1 : ((slotB 1 t (tk n)).take 128).length = 128 := take128_len _ _ _ (by omega)
  have Hw2 := Lib.hid (fun (w1 : World) (A1 : Option Addr) (c1 : Nat) (hd1 : RD w1 M R.1) (hB1 : Byt w1 A1 c1 ((slotB 1 t (tk n)).take 128)) (hA1 : ∀ a, A1 = some a → a.block ∉ M.bl) => rwrite_any hd1 ho1 p 1 128 A1 c1 ((slotB 1 t (tk n)).take 128) rfl hlt1 ((slotB_in (by omega) ht).take 128) (by rw [hl1]; omega) hB1 (fun _ => hA1) (by rw [hl1]; exact hmost))
  have HM := Lib.hid hMw
  have HA := Lib.hid hA
  have HB := Lib.hid hB
  have HT := Lib.hid ht
  have HTL := Lib.hid htl
  have HF := Lib.hid hf
  have HFit := Lib.hid hfit
  obtain ⟨R2, hR2⟩ : ∃ R2, R2 = runD R.1 p ((slotB 1 t (tk n)).take 128) 0 1 := ⟨_, rfl⟩
  rw [← hR2] at Hw2 ⊢
  obtain ⟨E2, hE2⟩ : ∃ E2, E2 = R2.2 := ⟨_, rfl⟩
  rw [← hE2] at Hw2 ⊢
  have Hslot1 := Lib.hid (fun (w1 : World) (hb : Byt w1 A c t) => rslot_any (w := w1) A n c t 1 htl hn hb)
  have HL1 := Lib.hid hlb1
  clear hR2 hE2 hlb1 hlt1 ho1 hl1 hA
  obtain ⟨er, her⟩ : ∃ er, er = R.2 := ⟨_, rfl⟩
  rw [← her] at Hw1 e0
  subst e0
  clear her
  have Ht := Lib.hid (fun w' : World => taken_any n hn w')
  have Hslot := Lib.hid (fun (w1 : World) (hb : Below w.heap.size w w1) => rslot_any (w := w1) A n c t 0 htl hn (hB.below hb (Nat.le_refl _)))
  have Hmore := Lib.hid (slotB_more 0 t (tk n) (by omega))
  obtain ⟨z, hz⟩ : ∃ z : Nat, z = 128 := ⟨_, rfl⟩
  rw [← hz] at Hmore
  have hzI : Value.int .i64 128 = Value.int .i64 (z : Int) := by rw [hz]; rfl
  have Hz := Lib.hid hz
  have HzI := Lib.hid hzI
  clear hz hzI
  obtain ⟨wh, m, hrow, _⟩ := hd.row
  have d1 := (rowR_cells hrow).2.1
  rw [ho] at d1
  obtain ⟨c0, cF, cS, _, cU, cL⟩ := h.cells
  rw [hl] at cL
  have H := Lib.hid h
  have HjM := Lib.hid (h.kap J.g (by simp [LK.bl]))
  obtain ⟨f0, hf0⟩ : ∃ f0, f0 = S.from_ := ⟨_, rfl⟩
  obtain ⟨s0, hs0⟩ : ∃ s0, s0 = S.secs := ⟨_, rfl⟩
  obtain ⟨u0, hu0⟩ : ∃ u0, u0 = S.used := ⟨_, rfl⟩
  obtain ⟨k, hk⟩ : ∃ k, k = tk n := ⟨_, rfl⟩
  rw [← hf0] at cF hse hp
  rw [← hs0] at cS hse hf
  rw [← hu0] at cU hf hp
  rw [← hk] at Ht Hslot Hslot1 Hw1 Hw2 Hmore hf htk htp HL1 ⊢
  have Hk := Lib.hid hk
  have Hf0 := Lib.hid hf0
  have Hs0 := Lib.hid hs0
  have Hu0 := Lib.hid hu0
  have hnI : (n : Int) ≤ 262144 := by omega
  have hw1 : IntKind.i64.wrap ((u0 : Int) + (k : Int)) = (u0 : Int) + (k : Int) := by rw [IntKind.wrap_i64]; omega
  have hw2 : IntKind.i64.wrap ((f0 : Int) + (u0 : Int)) = (p : Int) := by rw [IntKind.wrap_i64]; omega
  have hfI : ¬ (s0 : Int) < (u0 : Int) + (k : Int) := by omega
  have hgI : ¬ (u0 : Int) + (k : Int) < (s0 : Int) := by omega
  clear hd h hB ht htl ho hl hend hmost hMw hlb hrow hR hf0 hs0 hu0 hk hp hse hfit
  go_enter Try.func25, Try.ntmps25
  go_upto_region 6 with (go_at_call 40; refine (Ht.out _).mono ?_; rintro e w' ⟨rfl, rfl⟩)
  go_quiet (fail)
  go_upto_region 9 with (go_at_call 41; refine (Hslot.out _ (Below.drewN (Below.refl _ _) nq)).mono ?_; rintro e w1 ⟨v1, rfl, hown1, hb1⟩; obtain ⟨A1, c1, hv1⟩ := own_nilK hown1; subst hv1; have Hb1 := Lib.hid ((Below.drewN (Below.refl w.heap.size w) nq).trans (hb1.mono (Below.drewN (Below.refl w.heap.size w) nq).size)); have Own1 := Lib.hid (own_lower hown1 (Below.drewN (Below.refl w.heap.size w) nq).size); clear hown1 hb1)
  clear c0 cF cS cU cL d1
  obtain ⟨c0, cF, cS, _, cU, cL⟩ := (H.out.later Hb1.out).cells
  rw [← Hf0.out] at cF
  rw [← Hs0.out] at cS
  rw [← Hu0.out] at cU
  clear cL
  go_quiet (fail)
  go_upto_region 11 with (fail)
  have Low2 := Lib.hid (Below.drewN Hb1.out nq)
  have Own2 := Lib.hid (own_stays Own1.out (Below.drewN (Below.refl _ _) nq))
  clear Own1 Hb1 c0 cF cS cU
  generalize w1.drewN nq = w2 at Low2 Own2 ⊢
  have hlow3 := Low2.out.drew
  have own3 := own_stays Own2.out (Below.refl _ _).drew
  refine wp_region_still_tail 14 (by kernel_rfl) (by kernel_rfl) ?_
  simp only [List.take_succ_cons, List.take_zero, List.drop_succ_cons, List.drop_zero]
  change wpStill _ _ w2.drew _ _ _
  have Hlow3 := Lib.hid hlow3
  have Own3 := Lib.hid own3
  clear hlow3 own3 Own2
  have rl2 := H.out.later Low2.out
  have c0 : w2.drew.cell? ⟨J.g, 0, none⟩ = some (.pointer (some ⟨M.g, 0, none⟩)) := rl2.cells.1
  have cF : w2.drew.cell? ⟨J.g, 1, none⟩ = some (.int .i64 f0) := by rw [Hf0.out]; exact rl2.cells.2.1
  have cU : w2.drew.cell? ⟨J.g, 4, none⟩ = some (.int .i64 u0) := by rw [Hu0.out]; exact rl2.cells.2.2.2.2.1
  clear rl2 Low2
  repeat (refine wpStill_step (fun K hK => ?_); go_simp; refine hK _ ?_; clear hK K)
  refine wpStill_nil ?_
  change wpList _ _ _ _ _ w2.drew
  go_upto_region 12 with (go_at_call 42; refine (Hw1.out _ _ _ Hlow3.out Own3.out).mono ?_; rintro e w4 ⟨rfl, hd4, hc4⟩; have Hd4 := Lib.hid hd4; have Hc4 := Lib.hid ((Chg.of_below Hlow3.out).trans hc4); clear hd4 hc4)
  go_cut [70] from 9 to 70 (fun s70 wx => wx = w4 ∧ s70 = .bool true)
  case first =>
    go_wp2
    go_meet
    exact ⟨rfl, rfl⟩
  case rest =>
    obtain ⟨rfl, rfl⟩ := hcut
    have hl4 := H.out.disk Hc4.out
    have CX0 := Lib.hid hl4.cells.1
    have CXF : Hid (wc.cell? ⟨J.g, 1, none⟩ = some (.int .i64 f0)) := by show _ = _; rw [Hf0.out]; exact hl4.cells.2.1
    have CXU : Hid (wc.cell? ⟨J.g, 4, none⟩ = some (.int .i64 u0)) := by show _ = _; rw [Hu0.out]; exact hl4.cells.2.2.2.2.1
    have HBt := Lib.hid (byt_chg0 HB.out Hc4.out HA.out)
    have HWs := Lib.hid Hc4.out.size
    have HTK : Hid (((slotB 1 t k).take 128).length = 128) := by show _ = _; rw [List.length_take, HL1.out]; omega
    clear hl4 c0 cF cU Hlow3 Own3 Hw1 Hslot Hmore HzI Hz
    go_upto_region 13 with (fail)
    go_cut [7] from 71 to 87 (fun s7 wx => s7 = .int .i64 E2 ∧ RD wx M R2.1 ∧ Chg M.bl wc wx)
    case first =>
      have apx : apartB [71, 72, 73, 74, 75, 76, 77, 78, 79, 80, 81, 82, 83, 84, 85, 86, 87, 7] = true := by decide
      refine wp_region_any (by kernel_rfl) ?_
      change wpAny _ _ _ _ _ _ _ (World.drew _)
      refine wpAny_inv2 (fun ll aa wx => Hid (ll.size = 18 ∧ RelC 16 M.bl wc ll wx) ∧ ∃ (z : Nat → Value), Hid (aa = ⟨#[.pointer (some ⟨J.g, 0, none⟩), .slice A n c, undef, undef, .int .i64 0, .int .i64 (k : Nat), .slice A1 (k * 128) c1, z 7, undef, u9, u10, u11, u12, u13, u14, u15, u16, u17, u18, u19, u20, u21, u22, u23, u24, u25, u26, u27, u28, u29, u30, u31, u32, u33, u34, u35, u36, u37, u38, u39, u40, u41, u42, u43, u44, u45, u46, u47, u48, u49, u50, u51, u52, u53, u54, u55, u56, u57, u58, u59, u60, u61, u62, u63, u64, u65, u66, u67, u68, u69, .bool true, z 71, z 72, z 73, z 74, z 75, z 76, z 77, z 78, z 79, z 80, z 81, z 82, z 83, z 84, z 85, z 86, z 87, undef, undef, undef, undef, undef, undef, undef, undef, undef, undef, undef, undef, undef, undef, undef, undef, undef, undef, undef, undef, undef, undef, undef, undef, undef, undef, undef, undef], []⟩) ∧ Holding [71, 72, 73, 74, 75, 76, 77, 78, 79, 80, 81, 82, 83, 84, 85, 86, 87, 7] [some (.pointer (some ⟨J.g, 0, none⟩)), some (.pointer (some ⟨J.g, 0, none⟩)), some (.pointer (some ⟨J.g, 0, none⟩)), some (.pointer (some ⟨M.g, 0, none⟩)), some (.pointer (some ⟨J.g, 0, none⟩)), some (.pointer (some ⟨J.g, 0, none⟩)), some (.pointer (some ⟨J.g, 1, none⟩)), some (.int .i64 (f0 : Nat)), some (.pointer (some ⟨J.g, 0, none⟩)), some (.pointer (some ⟨J.g, 0, none⟩)), some (.pointer (some ⟨J.g, 4, none⟩)), some (.int .i64 (u0 : Nat)), some (.int .i64 (p : Nat)), some (.slice A n c), none, none, some (.int .i64 E2), some (.int .i64 E2)] ll z ∧ Whu ll 14 16 (SlN w.heap.size (slotB 1 t k)) (z 85) wx ∧ Whu ll 15 16 (SlN w.heap.size ((slotB 1 t k).take 128)) (z 86) wx ∧ Whn ll 16 (fun _ w => RD w M R2.1) (z 87) wx) ?_ (by kernel_rfl) ?_ ?_ _ rfl _ _ ?_
      · rintro ll aa wx ⟨hI, _⟩
        exact hI.out.1
      · rintro ll aa wx ⟨hI, z, ha, hz, hp14, hp15, hp16⟩ hall
        have hx := Lib.hid hI.out.2
        have e0 : z 71 = .pointer (some ⟨J.g, 0, none⟩) := hz 0 _ (hall 0 (by decide)) rfl
        have e1 : z 72 = .pointer (some ⟨J.g, 0, none⟩) := hz 1 _ (hall 1 (by decide)) rfl
        have e2 : z 73 = .pointer (some ⟨J.g, 0, none⟩) := hz 2 _ (hall 2 (by decide)) rfl
        have e3 : z 74 = .pointer (some ⟨M.g, 0, none⟩) := hz 3 _ (hall 3 (by decide)) rfl
        have e4 : z 75 = .pointer (some ⟨J.g, 0, none⟩) := hz 4 _ (hall 4 (by decide)) rfl
        have e5 : z 76 = .pointer (some ⟨J.g, 0, none⟩) := hz 5 _ (hall 5 (by decide)) rfl
        have e6 : z 77 = .pointer (some ⟨J.g, 1, none⟩) := hz 6 _ (hall 6 (by decide)) rfl
        have e7 : z 78 = .int .i64 (f0 : Nat) := hz 7 _ (hall 7 (by decide)) rfl
        have e8 : z 79 = .pointer (some ⟨J.g, 0, none⟩) := hz 8 _ (hall 8 (by decide)) rfl
        have e9 : z 80 = .pointer (some ⟨J.g, 0, none⟩) := hz 9 _ (hall 9 (by decide)) rfl
        have e10 : z 81 = .pointer (some ⟨J.g, 4, none⟩) := hz 10 _ (hall 10 (by decide)) rfl
        have e11 : z 82 = .int .i64 (u0 : Nat) := hz 11 _ (hall 11 (by decide)) rfl
        have e12 : z 83 = .int .i64 (p : Nat) := hz 12 _ (hall 12 (by decide)) rfl
        have e13 : z 84 = .slice A n c := hz 13 _ (hall 13 (by decide)) rfl
        have e16 : z 87 = .int .i64 E2 := hz 16 _ (hall 16 (by decide)) rfl
        have e17 : z 7 = .int .i64 E2 := hz 17 _ (hall 17 (by decide)) rfl
        have p16 := hp16.get (hall 16 (by decide))
        clear hall hz hI hp14 hp15 hp16
        obtain rfl := ha.out
        clear ha
        clear apx
        clear e0 e1 e2 e3 e4 e5 e6 e7 e8 e9 e10 e11 e12 e13 e16
        go_wp2
        go_meet
        exact ⟨by simp [e17], p16, hx.out.1⟩
      · rintro ll aa wx i ⟨hI, z, ha, hz, hp14, hp15, hp16⟩ hcl hi hu hw
        obtain rfl := ha.out
        have hsz := Lib.hid hI.out.1
        have hx := Lib.hid hI.out.2
        clear ha hI
        have hin : i < 18 := hi
        obtain rfl | rfl | rfl | rfl | rfl | rfl | rfl | rfl | rfl | rfl | rfl | rfl | rfl | rfl | rfl | rfl | rfl | rfl : i = 0 ∨ i = 1 ∨ i = 2 ∨ i = 3 ∨ i = 4 ∨ i = 5 ∨ i = 6 ∨ i = 7 ∨ i = 8 ∨ i = 9 ∨ i = 10 ∨ i = 11 ∨ i = 12 ∨ i = 13 ∨ i = 14 ∨ i = 15 ∨ i = 16 ∨ i = 17 := by omega
        · refine wpOp_plain rfl rfl ?_
          go_simp
          exact ⟨⟨by simp [hsz.out], hx.out.same⟩, upd z 71 (.pointer (some ⟨J.g, 0, none⟩)), (by unfold Hid; simp [upd]), hz.next apx hsz.out 0 (by decide) _ (fun _ h => Option.some.inj h), hp14.keep (by decide), hp15.keep (by decide), hp16.keep (by decide)⟩
        · have e0 : z 71 = .pointer (some ⟨J.g, 0, none⟩) := hz 0 _ (hw 0 (by kernel_rfl)) rfl
          refine wpOp_plain rfl rfl ?_
          go_simp
          exact ⟨⟨by simp [hsz.out], hx.out.same⟩, upd z 72 (.pointer (some ⟨J.g, 0, none⟩)), (by unfold Hid; simp [upd, e0]), hz.next apx hsz.out 1 (by decide) _ (fun _ h => Option.some.inj h), hp14.keep (by decide), hp15.keep (by decide), hp16.keep (by decide)⟩
        · have e1 : z 72 = .pointer (some ⟨J.g, 0, none⟩) := hz 1 _ (hw 1 (by kernel_rfl)) rfl
          refine wpOp_plain rfl rfl ?_
          go_simp
          exact ⟨⟨by simp [hsz.out], hx.out.same⟩, upd z 73 (.pointer (some ⟨J.g, 0, none⟩)), (by unfold Hid; simp [upd, e1]), hz.next apx hsz.out 2 (by decide) _ (fun _ h => Option.some.inj h), hp14.keep (by decide), hp15.keep (by decide), hp16.keep (by decide)⟩
        · have e2 : z 73 = .pointer (some ⟨J.g, 0, none⟩) := hz 2 _ (hw 2 (by kernel_rfl)) rfl
          have cl := hx.out.cell CX0.out HjM.out
          refine wpOp_plain rfl rfl ?_
          go_simp
          exact ⟨⟨by simp [hsz.out], hx.out.same⟩, upd z 74 (.pointer (some ⟨M.g, 0, none⟩)), (by unfold Hid; simp [upd, e2]), hz.next apx hsz.out 3 (by decide) _ (fun _ h => Option.some.inj h), hp14.keep (by decide), hp15.keep (by decide), hp16.keep (by decide)⟩
        · refine wpOp_plain rfl rfl ?_
          go_simp
          exact ⟨⟨by simp [hsz.out], hx.out.same⟩, upd z 75 (.pointer (some ⟨J.g, 0, none⟩)), (by unfold Hid; simp [upd]), hz.next apx hsz.out 4 (by decide) _ (fun _ h => Option.some.inj h), hp14.keep (by decide), hp15.keep (by decide), hp16.keep (by decide)⟩
        · have e4 : z 75 = .pointer (some ⟨J.g, 0, none⟩) := hz 4 _ (hw 4 (by kernel_rfl)) rfl
          refine wpOp_plain rfl rfl ?_
          go_simp
          exact ⟨⟨by simp [hsz.out], hx.out.same⟩, upd z 76 (.pointer (some ⟨J.g, 0, none⟩)), (by unfold Hid; simp [upd, e4]), hz.next apx hsz.out 5 (by decide) _ (fun _ h => Option.some.inj h), hp14.keep (by decide), hp15.keep (by decide), hp16.keep (by decide)⟩
        · have e5 : z 76 = .pointer (some ⟨J.g, 0, none⟩) := hz 5 _ (hw 5 (by kernel_rfl)) rfl
          refine wpOp_plain rfl rfl ?_
          go_simp
          exact ⟨⟨by simp [hsz.out], hx.out.same⟩, upd z 77 (.pointer (some ⟨J.g, 1, none⟩)), (by unfold Hid; simp [upd, e5]), hz.next apx hsz.out 6 (by decide) _ (fun _ h => Option.some.inj h), hp14.keep (by decide), hp15.keep (by decide), hp16.keep (by decide)⟩
        · have e6 : z 77 = .pointer (some ⟨J.g, 1, none⟩) := hz 6 _ (hw 6 (by kernel_rfl)) rfl
          have cl := hx.out.cell CXF.out HjM.out
          refine wpOp_plain rfl rfl ?_
          go_simp
          exact ⟨⟨by simp [hsz.out], hx.out.same⟩, upd z 78 (.int .i64 (f0 : Nat)), (by unfold Hid; simp [upd, e6]), hz.next apx hsz.out 7 (by decide) _ (fun _ h => Option.some.inj h), hp14.keep (by decide), hp15.keep (by decide), hp16.keep (by decide)⟩
        · refine wpOp_plain rfl rfl ?_
          go_simp
          exact ⟨⟨by simp [hsz.out], hx.out.same⟩, upd z 79 (.pointer (some ⟨J.g, 0, none⟩)), (by unfold Hid; simp [upd]), hz.next apx hsz.out 8 (by decide) _ (fun _ h => Option.some.inj h), hp14.keep (by decide), hp15.keep (by decide), hp16.keep (by decide)⟩
        · have e8 : z 79 = .pointer (some ⟨J.g, 0, none⟩) := hz 8 _ (hw 8 (by kernel_rfl)) rfl
          refine wpOp_plain rfl rfl ?_
          go_simp
          exact ⟨⟨by simp [hsz.out], hx.out.same⟩, upd z 80 (.pointer (some ⟨J.g, 0, none⟩)), (by unfold Hid; simp [upd, e8]), hz.next apx hsz.out 9 (by decide) _ (fun _ h => Option.some.inj h), hp14.keep (by decide), hp15.keep (by decide), hp16.keep (by decide)⟩
        · have e9 : z 80 = .pointer (some ⟨J.g, 0, none⟩) := hz 9 _ (hw 9 (by kernel_rfl)) rfl
          refine wpOp_plain rfl rfl ?_
          go_simp
          exact ⟨⟨by simp [hsz.out], hx.out.same⟩, upd z 81 (.pointer (some ⟨J.g, 4, none⟩)), (by unfold Hid; simp [upd, e9]), hz.next apx hsz.out 10 (by decide) _ (fun _ h => Option.some.inj h), hp14.keep (by decide), hp15.keep (by decide), hp16.keep (by decide)⟩
        · have e10 : z 81 = .pointer (some ⟨J.g, 4, none⟩) := hz 10 _ (hw 10 (by kernel_rfl)) rfl
          have cl := hx.out.cell CXU.out HjM.out
          refine wpOp_plain rfl rfl ?_
          go_simp
          exact ⟨⟨by simp [hsz.out], hx.out.same⟩, upd z 82 (.int .i64 (u0 : Nat)), (by unfold Hid; simp [upd, e10]), hz.next apx hsz.out 11 (by decide) _ (fun _ h => Option.some.inj h), hp14.keep (by decide), hp15.keep (by decide), hp16.keep (by decide)⟩
        · have e7 : z 78 = .int .i64 (f0 : Nat) := hz 7 _ (hw 7 (by kernel_rfl)) rfl
          have e11 : z 82 = .int .i64 (u0 : Nat) := hz 11 _ (hw 11 (by kernel_rfl)) rfl
          refine wpOp_plain rfl rfl ?_
          go_simp
          exact ⟨⟨by simp [hsz.out], hx.out.same⟩, upd z 83 (.int .i64 (p : Nat)), (by unfold Hid; simp [upd, e7, e11]), hz.next apx hsz.out 12 (by decide) _ (fun _ h => Option.some.inj h), hp14.keep (by decide), hp15.keep (by decide), hp16.keep (by decide)⟩
        · refine wpOp_plain rfl rfl ?_
          go_simp
          exact ⟨⟨by simp [hsz.out], hx.out.same⟩, upd z 84 (.slice A n c), (by unfold Hid; simp [upd]), hz.next apx hsz.out 13 (by decide) _ (fun _ h => Option.some.inj h), hp14.keep (by decide), hp15.keep (by decide), hp16.keep (by decide)⟩
        · have e13 : z 84 = .slice A n c := hz 13 _ (hw 13 (by kernel_rfl)) rfl
          refine wpOp_plain rfl rfl ?_
          go_simp
          go_at_call 41
          refine (Hslot1.out wx (byt_chg0 HBt.out hx.out.1 HA.out)).mono ?_
          rintro e w' ⟨vr, rfl, hown, low⟩; have sl := sln_own (own_lower hown (Nat.le_trans HWs.out hx.out.1.size)) HL1.out; clear hown
          exact ⟨⟨by simp [hsz.out], hx.out.call low⟩, upd z 85 (vr), (by unfold Hid; simp [upd, e13]), hz.next apx hsz.out 14 (by decide) _ (fun _ h => by cases h), Whu.done (sl), Whu.never (by decide) (fun hl => hcl 15 14 hl (by kernel_rfl)) hu, Whn.never (by decide) (fun hl => hcl 16 14 hl (by kernel_rfl)) hu⟩
        · have n16 : ll.getD 16 false = false := (by cases e : ll.getD 16 false with | false => rfl | true => (have h9 := hcl 16 15 e (by kernel_rfl); rw [h9] at hu; cases hu))
          have p14 := hp14.get (hw 14 (by kernel_rfl)) n16
          obtain ⟨A3, c3, e14, b3, g3⟩ := p14
          rw [HL1.out] at e14
          have hc3 : k * 128 ≤ c3 := by have := b3.1; rw [HL1.out] at this; exact this
          have hkI : (128 : Int) ≤ (c3 : Int) := by omega
          obtain ⟨ad, hA3⟩ : ∃ ad, A3 = some ad := (by obtain ⟨g, off, e, _⟩ := b3.2.2 (by rw [HL1.out]; omega); exact ⟨_, e⟩)
          subst hA3
          have sl : SlN w.heap.size ((slotB 1 t k).take 128) (.slice (some ad) 128 c3) wx := ⟨some ad, c3, by rw [HTK.out], byt_take9 b3 128, g3⟩
          refine wpOp_plain rfl rfl ?_
          go_simp
          obtain ⟨vr, hvr⟩ : ∃ vr, vr = Value.slice (some ad) 128 c3 := ⟨_, rfl⟩
          rw [← hvr] at sl ⊢
          exact ⟨⟨by simp [hsz.out], hx.out.same⟩, upd z 86 (vr), (by unfold Hid; simp [upd, e14]), hz.next apx hsz.out 15 (by decide) _ (fun _ h => by cases h), hp14.keep (by decide), Whu.done (sl), hp16.keep (by decide)⟩
        · have e3 : z 74 = .pointer (some ⟨M.g, 0, none⟩) := hz 3 _ (hw 3 (by kernel_rfl)) rfl
          have e12 : z 83 = .int .i64 (p : Nat) := hz 12 _ (hw 12 (by kernel_rfl)) rfl
          have p15 := hp15.get (hw 15 (by kernel_rfl)) hu
          obtain ⟨A3, c3, e15, b3, g3⟩ := p15
          rw [HTK.out] at e15
          have hlow := hx.out.2 hu
          refine wpOp_plain rfl rfl ?_
          go_simp
          go_at_call 42
          refine (Hw2.out wx A3 c3 (Hd4.out.later hlow) b3 (fun a ha hm => by have := g3 a ha; have := HM.out _ hm; omega)).mono ?_
          rintro e w' ⟨rfl, hd5, hc5⟩
          exact ⟨⟨by simp [hsz.out], hx.out.wr hc5 (by rw [hsz.out]; decide)⟩, upd z 87 (.int .i64 E2), (by unfold Hid; simp [upd, e3, e12, e15]), hz.next apx hsz.out 16 (by decide) _ (fun _ h => Option.some.inj h), Whu.past (by rw [hsz.out]; decide), Whu.past (by rw [hsz.out]; decide), Whn.done (hd5)⟩
        · have e16 : z 87 = .int .i64 E2 := hz 16 _ (hw 16 (by kernel_rfl)) rfl
          refine wpOp_plain rfl rfl ?_
          go_simp
          exact ⟨⟨by simp [hsz.out], hx.out.same⟩, upd z 7 (.int .i64 E2), (by unfold Hid; simp [upd, e16]), hz.next apx hsz.out 17 (by decide) _ (fun _ h => Option.some.inj h), hp14.keep (by decide), hp15.keep (by decide), hp16.keep (by decide)⟩
      · exact ⟨⟨rfl, RelC.start⟩, fun xx => (#[.pointer (some ⟨J.g, 0, none⟩), .slice A n c, undef, undef, .int .i64 0, .int .i64 (k : Nat), .slice A1 (k * 128) c1, .int .i64 0, undef, u9, u10, u11, u12, u13, u14, u15, u16, u17, u18, u19, u20, u21, u22, u23, u24, u25, u26, u27, u28, u29, u30, u31, u32, u33, u34, u35, u36, u37, u38, u39, u40, u41, u42, u43, u44, u45, u46, u47, u48, u49, u50, u51, u52, u53, u54, u55, u56, u57, u58, u59, u60, u61, u62, u63, u64, u65, u66, u67, u68, u69, .bool true, undef, undef, undef, undef, undef, undef, undef, undef, undef, undef, undef, undef, undef, undef, undef, undef, undef, undef, undef, undef, undef, undef, undef, undef, undef, undef, undef, undef, undef, undef, undef, undef, undef, undef, undef, undef, undef, undef, undef, undef, undef, undef, undef, undef, undef] : Array Value).getD xx undef, rfl, Holding.start, Whu.none (by decide), Whu.none (by decide), Whn.none (by decide)⟩
    case rest =>
      obtain ⟨rfl, hd5, hc5⟩ := hcut
      have Hc5 := Lib.hid (Hc4.out.trans hc5)
      have Hd5 := Lib.hid hd5
      have Hl5 := Lib.hid (H.out.disk Hc5.out)
      clear hd5 hc5 CX0 CXF CXU HBt HWs Hw2 Hslot1 Hd4 Hc4 hw2 hfI hgI
      by_cases e2 : E2 = 0
      · subst e2
        have HB5 := Lib.hid (byt_chg0 HB.out Hc5.out HA.out)
        have hcnt : S.texts.length ≤ 1000000 := by have := H.out.cnt; have := H.out.fit; have := H.out.end_; omega
        rename World => w5
        go_upto_region 19 with (at_builtin; refine wpList_append_any rfl (.tmp 94) (.tmp 95) rfl w5.heap.size (.slice none 0 0) 0 [] rfl (World.ownsRow_nil _ _ _ _) A n c t rfl HTL.out HB5.out (by omega) (Nat.le_refl _) ?_; intro v8 w8 hown8 hlow8; rw [List.nil_append, Nat.zero_add] at hown8; obtain ⟨A8, c8, hv8⟩ := own_nilK hown8; subst hv8; have Own8 := Lib.hid hown8; have Low8 := Lib.hid (hlow8 _ _ (Below.refl w5.heap.size w5) (Nat.le_refl _)); clear hown8 hlow8)
        have HY8 : Hid (YX t w5.heap.size (.slice A8 n c8) w8) := .new (by rw [HTL.out]; exact Own8.out) (by have h := own_sl Own8.out HTL.out; exact h)
        have hl8 := Hl5.out.later Low8.out
        have k3 := hl8.cells.2.2.2.1
        have HN := Go.heap_alloc_new w8 (.cells #[.slice A8 n c8] 33)
        have hbN : Below w8.heap.size w8 (w8.alloc (.cells #[.slice A8 n c8] 33)) := (Below.refl _ _).alloc (Nat.le_refl _) _
        have HlN := Lib.hid (hl8.later hbN)
        have HNN := Lib.hid HN
        have HbN := Lib.hid hbN
        have HcntI := Lib.hid hcnt
        clear hl8 HN hbN hcnt
        go_upto_region 20 with (at_builtin; refine wpList_append_one rfl (.tmp 101) (.tmp 103) rfl 0 J.v (.slice A8 n c8) S.texts.length w8.heap.size J.ts rfl HlN.out.own rfl HNN.out rfl HcntI.out (Nat.zero_le _) ?_; intro z9 w9 hown9 hgrow9 hblk9; have hr9 : w9.heap[J.g]? = some (.cells (rowRL M J S) 49 (0, 0)) := (hgrow9.block _ HlN.out.glt (fun e => H.out.gv _ e.symm rfl)).trans HlN.out.row; have HX9 := Lib.hid (OX.new hown9 hblk9 (HY8.out.later HbN.out) (Nat.le_trans Low8.out.size HbN.out.size)); have Hc9 := Lib.hid (((Chg.of_below Low8.out).trans (Chg.of_below HbN.out)).trans (chg_grown hgrow9)); have HY9 := Lib.hid ((HY8.out.later HbN.out).chg (chg_grown hgrow9) (fun q hq => by have := (Hl5.out.own.lt q (by simpa using hq)).2; omega)); obtain ⟨A9, q9, hz9⟩ := own_nilK hown9; subst hz9; have Hr9 := Lib.hid hr9; have k9 : w9.cell? ⟨J.g, 3, none⟩ = some J.v := cell_row hr9 3; have f9 := free_row hr9 3; clear hown9 hgrow9 hblk9 hr9)
        have hzn := HX9.out.ne (fun e => H.out.gv _ e rfl) Hl5.out.glt
        obtain ⟨w10, hw10⟩ : ∃ w10, w10 = w9.setCell ⟨J.g, 3, none⟩ (.slice A9 (S.texts.length + 1) q9) := ⟨_, rfl⟩
        have hr10 : w10.heap[J.g]? = some (.cells ((rowRL M J S).setIfInBounds 3 (.slice A9 (S.texts.length + 1) q9)) 49 (0, 0)) := by rw [hw10]; exact heap_setCell_same _ _ _ _ _ _ Hr9.out
        have k10 : w10.cell? ⟨J.g, 4, none⟩ = some (.int .i64 u0) := by rw [cell_row hr10 4, Hu0.out]; rfl
        have f10 := free_row hr10 4
        have HX10 := Lib.hid (show OX S.texts.length J.ts J.v w5.heap.size (.slice A8 n c8) (.slice A9 (S.texts.length + 1) q9) w10 by rw [hw10]; exact HX9.out.set hzn)
        have HY10 := Lib.hid (show YX t w5.heap.size (.slice A8 n c8) w10 by rw [hw10]; exact HY9.out.chg ((Chg.refl [J.g] _).setCell (p := ⟨J.g, 3, none⟩) (by simp) _) (fun q hq => by simp at hq; subst hq; exact Hl5.out.glt))
        have hc10 : Chg J.bl w5 w10 := by rw [hw10]; exact (Hc9.out.mono (fun q hq => .inl (by simp [LK.bl] at hq ⊢; exact .inr hq))).setCell (p := ⟨J.g, 3, none⟩) (by simp [LK.bl]) _
        have Hc10 := Lib.hid hc10
        have Hr10 := Lib.hid hr10
        have Hzn := Lib.hid hzn
        rw [← hw10]
        clear hw10 hr10 hc10 hzn HX9 HY9 Hc9 Hr9 HlN HNN HbN k3 k9 f9 HcntI Own8 Low8 HY8
        go_wp2
        go_ret
        have h11 : Chg [J.g] w10 (w10.setCell ⟨J.g, 4, none⟩ (.int .i64 ((u0 : Int) + (k : Int)))) := (Chg.refl _ _).setCell (by simp) _
        have hrk := rkept_of (w := w5) (t := t) Hl5.out (fun q hq => Nat.lt_of_lt_of_le (HM.out q hq) Hc5.out.size) HT.out (by rw [HTL.out]; exact hn) (by rw [HTL.out, ← Hk.out, ← Hu0.out, ← Hs0.out]; omega)
          (by rw [heap_setCell_same _ _ _ _ _ _ Hr10.out, HTL.out, ← Hk.out, ← Hu0.out]; simp [rowRL]) (HX10.out.set Hzn.out) (HY10.out.chg h11 (fun q hq => by simp at hq; subst hq; exact Hl5.out.glt)) (Hc10.out.trans (h11.mono (fun q hq => .inl (by simp at hq; subst hq; simp [LK.bl]))))
        exact ⟨rfl, _, Hd5.out.chg hrk.chg (fun q hq hm => Hl5.out.kap q hm hq), by have h := hrk.rl; rw [HTL.out, ← Hk.out] at h; exact h, hrk.g, (Hc5.out.mono (fun x hx => .inl (List.mem_append_left _ hx))).trans (hrk.chg.mono (fun x hx => .inl (List.mem_append_right _ hx))), fun q hq => (hrk.bl q hq).imp id (fun h => Nat.le_trans Hc5.out.size h), fun q hq => (hrk.tx q hq).imp id (fun h => Nat.le_trans Hc5.out.size h)⟩
      · have c5 := Hl5.out.cells.2.2.2.2.2
        have f5 := free_row Hl5.out.row 5
        rename World => w5
        go_wp2
        go_ret
        have hc6 : Chg [J.g] w5 (w5.setCell ⟨J.g, 5, none⟩ (.bool true)) := (Chg.refl _ _).setCell (by simp) _
        exact ⟨rfl, J, Hd5.out.chg hc6 (fun q hq hm => HjM.out (by simp at hm; rw [← hm]; exact hq)), Hl5.out.lose hc6 (by rw [heap_setCell_same _ _ _ _ _ _ Hl5.out.row, rowRL_lost]), rfl, (Hc5.out.mono (fun x hx => .inl (List.mem_append_left _ hx))).trans (hc6.mono (fun x hx => .inl (List.mem_append_right _ (by simp at hx; subst hx; simp [LK.bl])))), fun x hx => .inl hx, fun x hx => .inl hx⟩
set_option maxRecDepth 100000 in
set_option maxHeartbeats 4000000 in
theorem rappend_go_room (hd : RD w M D) (h : RL w M J S) (A : Option Addr) (n c : Nat) (t : List Int) (htl : t.length = n) (hB : Byt w A c t) (hA : 0 < t.length → ∀ a, A = some a → a.block ∉ M.bl) (ht : InB t) (hl : S.lost = false) (ho : D.off = false) (hn : n ≤ 262144) (hf : S.used + tk n < S.secs) (hend : (S.from_ + S.secs) * 128 ≤ D.data.length) (hmost : D.data.length ≤ 2097152)
    (e0 : (runD D (S.from_ + S.used) (slotB 0 t (tk n + 1)) 0 (tk n + 1)).2 = 0) :
    Calls Try.prog 25 #[.pointer (some ⟨J.g, 0, none⟩), .slice A n c] w fun e w' => ∃ J', e = .returned (.int .i64 (runD (runD D (S.from_ + S.used) (slotB 0 t (tk n + 1)) 0 (tk n + 1)).1 (S.from_ + S.used) ((slotB 1 t (tk n)).take 128) 0 1).2) ∧ RAppQ w w' M J J' (runD (runD D (S.from_ + S.used) (slotB 0 t (tk n + 1)) 0 (tk n + 1)).1 (S.from_ + S.used) ((slotB 1 t (tk n)).take 128) 0 1).1 (if (runD (runD D (S.from_ + S.used) (slotB 0 t (tk n + 1)) 0 (tk n + 1)).1 (S.from_ + S.used) ((slotB 1 t (tk n)).take 128) 0 1).2 = 0 then { S with used := S.used + tk n, texts := S.texts ++ [t] } else { S with lost := true }) := by
  have hfit := tk_fit n
  have htk : tk n ≤ 2100 := by unfold tk; omega
  have htp := tk_pos n
  have hse := h.end_
  have hMw : ∀ q ∈ M.bl, q < w.heap.size := by
    intro q hq; simp [MK.bl] at hq
    rcases hq with rfl | rfl
    · exact hd.glt
    · exact hd.blt
  obtain ⟨p, hp⟩ : ∃ p, p = S.from_ + S.used := ⟨_, rfl⟩
  rw [← hp] at e0 ⊢
  have hlb : (slotB 0 t (tk n + 1)).length = (tk n + 1) * 128 := slotB_len _ _ _ (by omega)
  have Hw1 := Lib.hid (fun (w1 : World) (A1 : Option Addr) (c1 : Nat) (hb : Below w.heap.size w w1) (ho1 : w1.ownsRow w.heap.size 5 1 (.slice A1 ((tk n + 1) * 128) c1) ((tk n + 1) * 128) (vals (slotB 0 t (tk n + 1)))) => rwrite_any (w := w1) (hd.later hb) ho p (tk n + 1) ((tk n + 1) * 128) A1 c1 (slotB 0 t (tk n + 1)) rfl hlb (slotB_in (by omega) ht) (by omega) (own_byt9 ho1 hlb) (fun _ a ha hm => by have := (ho1.lt a.block (by rw [ha]; rfl)).1; have := hMw _ hm; omega) hmost)
  have hq1 := run_q p (slotB 0 t (tk n + 1)) (tk n + 1) 0 D ho (by omega) (by omega)
  have ho1 := hq1.on e0
  have hl1 := hq1.len
  clear hq1
  obtain ⟨R, hR⟩ : ∃ R, R = runD D p (slotB 0 t (tk n + 1)) 0 (tk n + 1) := ⟨_, rfl⟩
  rw [← hR] at Hw1 e0 ho1 hl1 ⊢
  have hlb1 : (slotB 1 t (tk n)).length = tk n * 128 := slotB_len _ _ _ (by omega)
  have hlt1 : ((slotB 1 t (tk n)).take 128).length = 128 := take128_len _ _ _ (by omega)
  have Hw2 := Lib.hid (fun (w1 : World) (A1 : Option Addr) (c1 : Nat) (hd1 : RD w1 M R.1) (hB1 : Byt w1 A1 c1 ((slotB 1 t (tk n)).take 128)) (hA1 : ∀ a, A1 = some a → a.block ∉ M.bl) => rwrite_any hd1 ho1 p 1 128 A1 c1 ((slotB 1 t (tk n)).take 128) rfl hlt1 ((slotB_in (by omega) ht).take 128) (by rw [hl1]; omega) hB1 (fun _ => hA1) (by rw [hl1]; exact hmost))
  have HM := Lib.hid hMw
  have HA := Lib.hid hA
  have HB := Lib.hid hB
  have HT := Lib.hid ht
  have HTL := Lib.hid htl
  have HF := Lib.hid hf
  have HFit := Lib.hid hfit
  obtain ⟨R2, hR2⟩ : ∃ R2, R2 = runD R.1 p ((slotB 1 t (tk n)).take 128) 0 1 := ⟨_, rfl⟩
  rw [← hR2] at Hw2 ⊢
  obtain ⟨E2, hE2⟩ : ∃ E2, E2 = R2.2 := ⟨_, rfl⟩
  rw [← hE2] at Hw2 ⊢
  have Hslot1 := Lib.hid (fun (w1 : World) (hb : Byt w1 A c t) => rslot_any (w := w1) A n c t 1 htl hn hb)
  have HL1 := Lib.hid hlb1
  clear hR2 hE2 hlb1 hlt1 ho1 hl1 hA
  obtain ⟨er, her⟩ : ∃ er, er = R.2 := ⟨_, rfl⟩
  rw [← her] at Hw1 e0
  subst e0
  clear her
  have Ht := Lib.hid (fun w' : World => taken_any n hn w')
  have Hslot := Lib.hid (fun (w1 : World) (hb : Below w.heap.size w w1) => rslot_any (w := w1) A n c t 0 htl hn (hB.below hb (Nat.le_refl _)))
  have Hmore := Lib.hid (slotB_more 0 t (tk n) (by omega))
  obtain ⟨z, hz⟩ : ∃ z : Nat, z = 128 := ⟨_, rfl⟩
  rw [← hz] at Hmore
  have hzI : Value.int .i64 128 = Value.int .i64 (z : Int) := by rw [hz]; rfl
  have Hz := Lib.hid hz
  have HzI := Lib.hid hzI
  clear hz hzI
  obtain ⟨wh, m, hrow, _⟩ := hd.row
  have d1 := (rowR_cells hrow).2.1
  rw [ho] at d1
  obtain ⟨c0, cF, cS, _, cU, cL⟩ := h.cells
  rw [hl] at cL
  have H := Lib.hid h
  have HjM := Lib.hid (h.kap J.g (by simp [LK.bl]))
  obtain ⟨f0, hf0⟩ : ∃ f0, f0 = S.from_ := ⟨_, rfl⟩
  obtain ⟨s0, hs0⟩ : ∃ s0, s0 = S.secs := ⟨_, rfl⟩
  obtain ⟨u0, hu0⟩ : ∃ u0, u0 = S.used := ⟨_, rfl⟩
  obtain ⟨k, hk⟩ : ∃ k, k = tk n := ⟨_, rfl⟩
  rw [← hf0] at cF hse hp
  rw [← hs0] at cS hse hf
  rw [← hu0] at cU hf hp
  rw [← hk] at Ht Hslot Hslot1 Hw1 Hw2 Hmore hf htk htp HL1 ⊢
  have Hk := Lib.hid hk
  have Hf0 := Lib.hid hf0
  have Hs0 := Lib.hid hs0
  have Hu0 := Lib.hid hu0
  have hnI : (n : Int) ≤ 262144 := by omega
  have hw1 : IntKind.i64.wrap ((u0 : Int) + (k : Int)) = (u0 : Int) + (k : Int) := by rw [IntKind.wrap_i64]; omega
  have hw2 : IntKind.i64.wrap ((f0 : Int) + (u0 : Int)) = (p : Int) := by rw [IntKind.wrap_i64]; omega
  have hfI : ¬ (s0 : Int) < (u0 : Int) + (k : Int) := by omega
  have hgI : (u0 : Int) + (k : Int) < (s0 : Int) := by omega
  clear hd h hB ht htl ho hl hend hmost hMw hlb hrow hR hf0 hs0 hu0 hk hp hse hfit
  go_enter Try.func25, Try.ntmps25
  go_upto_region 6 with (go_at_call 40; refine (Ht.out _).mono ?_; rintro e w' ⟨rfl, rfl⟩)
  go_quiet (fail)
  go_upto_region 9 with (go_at_call 41; refine (Hslot.out _ (Below.drewN (Below.refl _ _) nq)).mono ?_; rintro e w1 ⟨v1, rfl, hown1, hb1⟩; obtain ⟨A1, c1, hv1⟩ := own_nilK hown1; subst hv1; have Hb1 := Lib.hid ((Below.drewN (Below.refl w.heap.size w) nq).trans (hb1.mono (Below.drewN (Below.refl w.heap.size w) nq).size)); have Own1 := Lib.hid (own_lower hown1 (Below.drewN (Below.refl w.heap.size w) nq).size); clear hown1 hb1)
  clear c0 cF cS cU cL d1
  obtain ⟨c0, cF, cS, _, cU, cL⟩ := (H.out.later Hb1.out).cells
  rw [← Hf0.out] at cF
  rw [← Hs0.out] at cS
  rw [← Hu0.out] at cU
  clear cL
  go_quiet (fail)
  have Low1 := Lib.hid (Below.drewN Hb1.out nq)
  have Own1b := Lib.hid (own_stays Own1.out (Below.drewN (Below.refl _ _) nq))
  clear Own1 Hb1 c0 cF cS cU
  generalize w1.drewN nq = wa at Low1 Own1b ⊢
  have hbs := Low1.out.size
  have hzp : 0 < z := by have := Hz.out; omega
  have hkp : 0 < k * 128 := by omega
  have hsm : k * 128 + z ≤ 4294967296 := by have := Hz.out; omega
  have hkz : k * 128 + z = (k + 1) * 128 := by have := Hz.out; omega
  go_upto_region 11 with (at_builtin; refine wpList_append_zeros rfl (.tmp 52) (.const (.int .i64 128)) rfl w.heap.size _ (k * 128) (slotB 0 t k) rfl Own1b.out hkp z HzI.out hzp hsm hbs ?_; intro v2 w2 hown2 hlow2; rw [hkz, Hmore.out] at hown2; obtain ⟨A2, c2, hv2⟩ := own_nilK hown2; subst hv2; have Low2 := Lib.hid (hlow2 _ _ Low1.out (Nat.le_refl _)); have Own2 := Lib.hid hown2; clear hown2 hlow2)
  clear Own1b Low1
  have hlow3 := Low2.out.drew
  have own3 := own_stays Own2.out (Below.refl _ _).drew
  refine wp_region_still_tail 14 (by kernel_rfl) (by kernel_rfl) ?_
  simp only [List.take_succ_cons, List.take_zero, List.drop_succ_cons, List.drop_zero]
  change wpStill _ _ w2.drew _ _ _
  have Hlow3 := Lib.hid hlow3
  have Own3 := Lib.hid own3
  clear hlow3 own3 Own2
  have rl2 := H.out.later Low2.out
  have c0 : w2.drew.cell? ⟨J.g, 0, none⟩ = some (.pointer (some ⟨M.g, 0, none⟩)) := rl2.cells.1
  have cF : w2.drew.cell? ⟨J.g, 1, none⟩ = some (.int .i64 f0) := by rw [Hf0.out]; exact rl2.cells.2.1
  have cU : w2.drew.cell? ⟨J.g, 4, none⟩ = some (.int .i64 u0) := by rw [Hu0.out]; exact rl2.cells.2.2.2.2.1
  clear rl2 Low2
  repeat (refine wpStill_step (fun K hK => ?_); go_simp; refine hK _ ?_; clear hK K)
  refine wpStill_nil ?_
  change wpList _ _ _ _ _ w2.drew
  go_upto_region 12 with (go_at_call 42; refine (Hw1.out _ _ _ Hlow3.out Own3.out).mono ?_; rintro e w4 ⟨rfl, hd4, hc4⟩; have Hd4 := Lib.hid hd4; have Hc4 := Lib.hid ((Chg.of_below Hlow3.out).trans hc4); clear hd4 hc4)
  go_cut [70] from 9 to 70 (fun s70 wx => wx = w4 ∧ s70 = .bool true)
  case first =>
    go_wp2
    go_meet
    exact ⟨rfl, rfl⟩
  case rest =>
    obtain ⟨rfl, rfl⟩ := hcut
    have hl4 := H.out.disk Hc4.out
    have CX0 := Lib.hid hl4.cells.1
    have CXF : Hid (wc.cell? ⟨J.g, 1, none⟩ = some (.int .i64 f0)) := by show _ = _; rw [Hf0.out]; exact hl4.cells.2.1
    have CXU : Hid (wc.cell? ⟨J.g, 4, none⟩ = some (.int .i64 u0)) := by show _ = _; rw [Hu0.out]; exact hl4.cells.2.2.2.2.1
    have HBt := Lib.hid (byt_chg0 HB.out Hc4.out HA.out)
    have HWs := Lib.hid Hc4.out.size
    have HTK : Hid (((slotB 1 t k).take 128).length = 128) := by show _ = _; rw [List.length_take, HL1.out]; omega
    clear hl4 c0 cF cU Hlow3 Own3 Hw1 Hslot Hmore HzI Hz
    go_upto_region 13 with (fail)
    go_cut [7] from 71 to 87 (fun s7 wx => s7 = .int .i64 E2 ∧ RD wx M R2.1 ∧ Chg M.bl wc wx)
    case first =>
      have apx : apartB [71, 72, 73, 74, 75, 76, 77, 78, 79, 80, 81, 82, 83, 84, 85, 86, 87, 7] = true := by decide
      refine wp_region_any (by kernel_rfl) ?_
      change wpAny _ _ _ _ _ _ _ (World.drew _)
      refine wpAny_inv2 (fun ll aa wx => Hid (ll.size = 18 ∧ RelC 16 M.bl wc ll wx) ∧ ∃ (z : Nat → Value), Hid (aa = ⟨#[.pointer (some ⟨J.g, 0, none⟩), .slice A n c, undef, undef, .int .i64 0, .int .i64 (k : Nat), .slice A2 ((k + 1) * 128) c2, z 7, undef, u9, u10, u11, u12, u13, u14, u15, u16, u17, u18, u19, u20, u21, u22, u23, u24, u25, u26, u27, u28, u29, u30, u31, u32, u33, u34, u35, u36, u37, u38, u39, u40, u41, u42, u43, u44, u45, u46, u47, u48, u49, u50, u51, u52, u53, u54, u55, u56, u57, u58, u59, u60, u61, u62, u63, u64, u65, u66, u67, u68, u69, .bool true, z 71, z 72, z 73, z 74, z 75, z 76, z 77, z 78, z 79, z 80, z 81, z 82, z 83, z 84, z 85, z 86, z 87, undef, undef, undef, undef, undef, undef, undef, undef, undef, undef, undef, undef, undef, undef, undef, undef, undef, undef, undef, undef, undef, undef, undef, undef, undef, undef, undef, undef], []⟩) ∧ Holding [71, 72, 73, 74, 75, 76, 77, 78, 79, 80, 81, 82, 83, 84, 85, 86, 87, 7] [some (.pointer (some ⟨J.g, 0, none⟩)), some (.pointer (some ⟨J.g, 0, none⟩)), some (.pointer (some ⟨J.g, 0, none⟩)), some (.pointer (some ⟨M.g, 0, none⟩)), some (.pointer (some ⟨J.g, 0, none⟩)), some (.pointer (some ⟨J.g, 0, none⟩)), some (.pointer (some ⟨J.g, 1, none⟩)), some (.int .i64 (f0 : Nat)), some (.pointer (some ⟨J.g, 0, none⟩)), some (.pointer (some ⟨J.g, 0, none⟩)), some (.pointer (some ⟨J.g, 4, none⟩)), some (.int .i64 (u0 : Nat)), some (.int .i64 (p : Nat)), some (.slice A n c), none, none, some (.int .i64 E2), some (.int .i64 E2)] ll z ∧ Whu ll 14 16 (SlN w.heap.size (slotB 1 t k)) (z 85) wx ∧ Whu ll 15 16 (SlN w.heap.size ((slotB 1 t k).take 128)) (z 86) wx ∧ Whn ll 16 (fun _ w => RD w M R2.1) (z 87) wx) ?_ (by kernel_rfl) ?_ ?_ _ rfl _ _ ?_
      · rintro ll aa wx ⟨hI, _⟩
        exact hI.out.1
      · rintro ll aa wx ⟨hI, z, ha, hz, hp14, hp15, hp16⟩ hall
        have hx := Lib.hid hI.out.2
        have e0 : z 71 = .pointer (some ⟨J.g, 0, none⟩) := hz 0 _ (hall 0 (by decide)) rfl
        have e1 : z 72 = .pointer (some ⟨J.g, 0, none⟩) := hz 1 _ (hall 1 (by decide)) rfl
        have e2 : z 73 = .pointer (some ⟨J.g, 0, none⟩) := hz 2 _ (hall 2 (by decide)) rfl
        have e3 : z 74 = .pointer (some ⟨M.g, 0, none⟩) := hz 3 _ (hall 3 (by decide)) rfl
        have e4 : z 75 = .pointer (some ⟨J.g, 0, none⟩) := hz 4 _ (hall 4 (by decide)) rfl
        have e5 : z 76 = .pointer (some ⟨J.g, 0, none⟩) := hz 5 _ (hall 5 (by decide)) rfl
        have e6 : z 77 = .pointer (some ⟨J.g, 1, none⟩) := hz 6 _ (hall 6 (by decide)) rfl
        have e7 : z 78 = .int .i64 (f0 : Nat) := hz 7 _ (hall 7 (by decide)) rfl
        have e8 : z 79 = .pointer (some ⟨J.g, 0, none⟩) := hz 8 _ (hall 8 (by decide)) rfl
        have e9 : z 80 = .pointer (some ⟨J.g, 0, none⟩) := hz 9 _ (hall 9 (by decide)) rfl
        have e10 : z 81 = .pointer (some ⟨J.g, 4, none⟩) := hz 10 _ (hall 10 (by decide)) rfl
        have e11 : z 82 = .int .i64 (u0 : Nat) := hz 11 _ (hall 11 (by decide)) rfl
        have e12 : z 83 = .int .i64 (p : Nat) := hz 12 _ (hall 12 (by decide)) rfl
        have e13 : z 84 = .slice A n c := hz 13 _ (hall 13 (by decide)) rfl
        have e16 : z 87 = .int .i64 E2 := hz 16 _ (hall 16 (by decide)) rfl
        have e17 : z 7 = .int .i64 E2 := hz 17 _ (hall 17 (by decide)) rfl
        have p16 := hp16.get (hall 16 (by decide))
        clear hall hz hI hp14 hp15 hp16
        obtain rfl := ha.out
        clear ha
        clear apx
        clear e0 e1 e2 e3 e4 e5 e6 e7 e8 e9 e10 e11 e12 e13 e16
        go_wp2
        go_meet
        exact ⟨by simp [e17], p16, hx.out.1⟩
      · rintro ll aa wx i ⟨hI, z, ha, hz, hp14, hp15, hp16⟩ hcl hi hu hw
        obtain rfl := ha.out
        have hsz := Lib.hid hI.out.1
        have hx := Lib.hid hI.out.2
        clear ha hI
        have hin : i < 18 := hi
        obtain rfl | rfl | rfl | rfl | rfl | rfl | rfl | rfl | rfl | rfl | rfl | rfl | rfl | rfl | rfl | rfl | rfl | rfl : i = 0 ∨ i = 1 ∨ i = 2 ∨ i = 3 ∨ i = 4 ∨ i = 5 ∨ i = 6 ∨ i = 7 ∨ i = 8 ∨ i = 9 ∨ i = 10 ∨ i = 11 ∨ i = 12 ∨ i = 13 ∨ i = 14 ∨ i = 15 ∨ i = 16 ∨ i = 17 := by omega
        · refine wpOp_plain rfl rfl ?_
          go_simp
          exact ⟨⟨by simp [hsz.out], hx.out.same⟩, upd z 71 (.pointer (some ⟨J.g, 0, none⟩)), (by unfold Hid; simp [upd]), hz.next apx hsz.out 0 (by decide) _ (fun _ h => Option.some.inj h), hp14.keep (by decide), hp15.keep (by decide), hp16.keep (by decide)⟩
        · have e0 : z 71 = .pointer (some ⟨J.g, 0, none⟩) := hz 0 _ (hw 0 (by kernel_rfl)) rfl
          refine wpOp_plain rfl rfl ?_
          go_simp
          exact ⟨⟨by simp [hsz.out], hx.out.same⟩, upd z 72 (.pointer (some ⟨J.g, 0, none⟩)), (by unfold Hid; simp [upd, e0]), hz.next apx hsz.out 1 (by decide) _ (fun _ h => Option.some.inj h), hp14.keep (by decide), hp15.keep (by decide), hp16.keep (by decide)⟩
        · have e1 : z 72 = .pointer (some ⟨J.g, 0, none⟩) := hz 1 _ (hw 1 (by kernel_rfl)) rfl
          refine wpOp_plain rfl rfl ?_
          go_simp
          exact ⟨⟨by simp [hsz.out], hx.out.same⟩, upd z 73 (.pointer (some ⟨J.g, 0, none⟩)), (by unfold Hid; simp [upd, e1]), hz.next apx hsz.out 2 (by decide) _ (fun _ h => Option.some.inj h), hp14.keep (by decide), hp15.keep (by decide), hp16.keep (by decide)⟩
        · have e2 : z 73 = .pointer (some ⟨J.g, 0, none⟩) := hz 2 _ (hw 2 (by kernel_rfl)) rfl
          have cl := hx.out.cell CX0.out HjM.out
          refine wpOp_plain rfl rfl ?_
          go_simp
          exact ⟨⟨by simp [hsz.out], hx.out.same⟩, upd z 74 (.pointer (some ⟨M.g, 0, none⟩)), (by unfold Hid; simp [upd, e2]), hz.next apx hsz.out 3 (by decide) _ (fun _ h => Option.some.inj h), hp14.keep (by decide), hp15.keep (by decide), hp16.keep (by decide)⟩
        · refine wpOp_plain rfl rfl ?_
          go_simp
          exact ⟨⟨by simp [hsz.out], hx.out.same⟩, upd z 75 (.pointer (some ⟨J.g, 0, none⟩)), (by unfold Hid; simp [upd]), hz.next apx hsz.out 4 (by decide) _ (fun _ h => Option.some.inj h), hp14.keep (by decide), hp15.keep (by decide), hp16.keep (by decide)⟩
        · have e4 : z 75 = .pointer (some ⟨J.g, 0, none⟩) := hz 4 _ (hw 4 (by kernel_rfl)) rfl
          refine wpOp_plain rfl rfl ?_
          go_simp
          exact ⟨⟨by simp [hsz.out], hx.out.same⟩, upd z 76 (.pointer (some ⟨J.g, 0, none⟩)), (by unfold Hid; simp [upd, e4]), hz.next apx hsz.out 5 (by decide) _ (fun _ h => Option.some.inj h), hp14.keep (by decide), hp15.keep (by decide), hp16.keep (by decide)⟩
        · have e5 : z 76 = .pointer (some ⟨J.g, 0, none⟩) := hz 5 _ (hw 5 (by kernel_rfl)) rfl
          refine wpOp_plain rfl rfl ?_
          go_simp
          exact ⟨⟨by simp [hsz.out], hx.out.same⟩, upd z 77 (.pointer (some ⟨J.g, 1, none⟩)), (by unfold Hid; simp [upd, e5]), hz.next apx hsz.out 6 (by decide) _ (fun _ h => Option.some.inj h), hp14.keep (by decide), hp15.keep (by decide), hp16.keep (by decide)⟩
        · have e6 : z 77 = .pointer (some ⟨J.g, 1, none⟩) := hz 6 _ (hw 6 (by kernel_rfl)) rfl
          have cl := hx.out.cell CXF.out HjM.out
          refine wpOp_plain rfl rfl ?_
          go_simp
          exact ⟨⟨by simp [hsz.out], hx.out.same⟩, upd z 78 (.int .i64 (f0 : Nat)), (by unfold Hid; simp [upd, e6]), hz.next apx hsz.out 7 (by decide) _ (fun _ h => Option.some.inj h), hp14.keep (by decide), hp15.keep (by decide), hp16.keep (by decide)⟩
        · refine wpOp_plain rfl rfl ?_
          go_simp
          exact ⟨⟨by simp [hsz.out], hx.out.same⟩, upd z 79 (.pointer (some ⟨J.g, 0, none⟩)), (by unfold Hid; simp [upd]), hz.next apx hsz.out 8 (by decide) _ (fun _ h => Option.some.inj h), hp14.keep (by decide), hp15.keep (by decide), hp16.keep (by decide)⟩
        · have e8 : z 79 = .pointer (some ⟨J.g, 0, none⟩) := hz 8 _ (hw 8 (by kernel_rfl)) rfl
          refine wpOp_plain rfl rfl ?_
          go_simp
          exact ⟨⟨by simp [hsz.out], hx.out.same⟩, upd z 80 (.pointer (some ⟨J.g, 0, none⟩)), (by unfold Hid; simp [upd, e8]), hz.next apx hsz.out 9 (by decide) _ (fun _ h => Option.some.inj h), hp14.keep (by decide), hp15.keep (by decide), hp16.keep (by decide)⟩
        · have e9 : z 80 = .pointer (some ⟨J.g, 0, none⟩) := hz 9 _ (hw 9 (by kernel_rfl)) rfl
          refine wpOp_plain rfl rfl ?_
          go_simp
          exact ⟨⟨by simp [hsz.out], hx.out.same⟩, upd z 81 (.pointer (some ⟨J.g, 4, none⟩)), (by unfold Hid; simp [upd, e9]), hz.next apx hsz.out 10 (by decide) _ (fun _ h => Option.some.inj h), hp14.keep (by decide), hp15.keep (by decide), hp16.keep (by decide)⟩
        · have e10 : z 81 = .pointer (some ⟨J.g, 4, none⟩) := hz 10 _ (hw 10 (by kernel_rfl)) rfl
          have cl := hx.out.cell CXU.out HjM.out
          refine wpOp_plain rfl rfl ?_
          go_simp
          exact ⟨⟨by simp [hsz.out], hx.out.same⟩, upd z 82 (.int .i64 (u0 : Nat)), (by unfold Hid; simp [upd, e10]), hz.next apx hsz.out 11 (by decide) _ (fun _ h => Option.some.inj h), hp14.keep (by decide), hp15.keep (by decide), hp16.keep (by decide)⟩
        · have e7 : z 78 = .int .i64 (f0 : Nat) := hz 7 _ (hw 7 (by kernel_rfl)) rfl
          have e11 : z 82 = .int .i64 (u0 : Nat) := hz 11 _ (hw 11 (by kernel_rfl)) rfl
          refine wpOp_plain rfl rfl ?_
          go_simp
          exact ⟨⟨by simp [hsz.out], hx.out.same⟩, upd z 83 (.int .i64 (p : Nat)), (by unfold Hid; simp [upd, e7, e11]), hz.next apx hsz.out 12 (by decide) _ (fun _ h => Option.some.inj h), hp14.keep (by decide), hp15.keep (by decide), hp16.keep (by decide)⟩
        · refine wpOp_plain rfl rfl ?_
          go_simp
          exact ⟨⟨by simp [hsz.out], hx.out.same⟩, upd z 84 (.slice A n c), (by unfold Hid; simp [upd]), hz.next apx hsz.out 13 (by decide) _ (fun _ h => Option.some.inj h), hp14.keep (by decide), hp15.keep (by decide), hp16.keep (by decide)⟩
        · have e13 : z 84 = .slice A n c := hz 13 _ (hw 13 (by kernel_rfl)) rfl
          refine wpOp_plain rfl rfl ?_
          go_simp
          go_at_call 41
          refine (Hslot1.out wx (byt_chg0 HBt.out hx.out.1 HA.out)).mono ?_
          rintro e w' ⟨vr, rfl, hown, low⟩; have sl := sln_own (own_lower hown (Nat.le_trans HWs.out hx.out.1.size)) HL1.out; clear hown
          exact ⟨⟨by simp [hsz.out], hx.out.call low⟩, upd z 85 (vr), (by unfold Hid; simp [upd, e13]), hz.next apx hsz.out 14 (by decide) _ (fun _ h => by cases h), Whu.done (sl), Whu.never (by decide) (fun hl => hcl 15 14 hl (by kernel_rfl)) hu, Whn.never (by decide) (fun hl => hcl 16 14 hl (by kernel_rfl)) hu⟩
        · have n16 : ll.getD 16 false = false := (by cases e : ll.getD 16 false with | false => rfl | true => (have h9 := hcl 16 15 e (by kernel_rfl); rw [h9] at hu; cases hu))
          have p14 := hp14.get (hw 14 (by kernel_rfl)) n16
          obtain ⟨A3, c3, e14, b3, g3⟩ := p14
          rw [HL1.out] at e14
          have hc3 : k * 128 ≤ c3 := by have := b3.1; rw [HL1.out] at this; exact this
          have hkI : (128 : Int) ≤ (c3 : Int) := by omega
          obtain ⟨ad, hA3⟩ : ∃ ad, A3 = some ad := (by obtain ⟨g, off, e, _⟩ := b3.2.2 (by rw [HL1.out]; omega); exact ⟨_, e⟩)
          subst hA3
          have sl : SlN w.heap.size ((slotB 1 t k).take 128) (.slice (some ad) 128 c3) wx := ⟨some ad, c3, by rw [HTK.out], byt_take9 b3 128, g3⟩
          refine wpOp_plain rfl rfl ?_
          go_simp
          obtain ⟨vr, hvr⟩ : ∃ vr, vr = Value.slice (some ad) 128 c3 := ⟨_, rfl⟩
          rw [← hvr] at sl ⊢
          exact ⟨⟨by simp [hsz.out], hx.out.same⟩, upd z 86 (vr), (by unfold Hid; simp [upd, e14]), hz.next apx hsz.out 15 (by decide) _ (fun _ h => by cases h), hp14.keep (by decide), Whu.done (sl), hp16.keep (by decide)⟩
        · have e3 : z 74 = .pointer (some ⟨M.g, 0, none⟩) := hz 3 _ (hw 3 (by kernel_rfl)) rfl
          have e12 : z 83 = .int .i64 (p : Nat) := hz 12 _ (hw 12 (by kernel_rfl)) rfl
          have p15 := hp15.get (hw 15 (by kernel_rfl)) hu
          obtain ⟨A3, c3, e15, b3, g3⟩ := p15
          rw [HTK.out] at e15
          have hlow := hx.out.2 hu
          refine wpOp_plain rfl rfl ?_
          go_simp
          go_at_call 42
          refine (Hw2.out wx A3 c3 (Hd4.out.later hlow) b3 (fun a ha hm => by have := g3 a ha; have := HM.out _ hm; omega)).mono ?_
          rintro e w' ⟨rfl, hd5, hc5⟩
          exact ⟨⟨by simp [hsz.out], hx.out.wr hc5 (by rw [hsz.out]; decide)⟩, upd z 87 (.int .i64 E2), (by unfold Hid; simp [upd, e3, e12, e15]), hz.next apx hsz.out 16 (by decide) _ (fun _ h => Option.some.inj h), Whu.past (by rw [hsz.out]; decide), Whu.past (by rw [hsz.out]; decide), Whn.done (hd5)⟩
        · have e16 : z 87 = .int .i64 E2 := hz 16 _ (hw 16 (by kernel_rfl)) rfl
          refine wpOp_plain rfl rfl ?_
          go_simp
          exact ⟨⟨by simp [hsz.out], hx.out.same⟩, upd z 7 (.int .i64 E2), (by unfold Hid; simp [upd, e16]), hz.next apx hsz.out 17 (by decide) _ (fun _ h => Option.some.inj h), hp14.keep (by decide), hp15.keep (by decide), hp16.keep (by decide)⟩
      · exact ⟨⟨rfl, RelC.start⟩, fun xx => (#[.pointer (some ⟨J.g, 0, none⟩), .slice A n c, undef, undef, .int .i64 0, .int .i64 (k : Nat), .slice A2 ((k + 1) * 128) c2, .int .i64 0, undef, u9, u10, u11, u12, u13, u14, u15, u16, u17, u18, u19, u20, u21, u22, u23, u24, u25, u26, u27, u28, u29, u30, u31, u32, u33, u34, u35, u36, u37, u38, u39, u40, u41, u42, u43, u44, u45, u46, u47, u48, u49, u50, u51, u52, u53, u54, u55, u56, u57, u58, u59, u60, u61, u62, u63, u64, u65, u66, u67, u68, u69, .bool true, undef, undef, undef, undef, undef, undef, undef, undef, undef, undef, undef, undef, undef, undef, undef, undef, undef, undef, undef, undef, undef, undef, undef, undef, undef, undef, undef, undef, undef, undef, undef, undef, undef, undef, undef, undef, undef, undef, undef, undef, undef, undef, undef, undef, undef] : Array Value).getD xx undef, rfl, Holding.start, Whu.none (by decide), Whu.none (by decide), Whn.none (by decide)⟩
    case rest =>
      obtain ⟨rfl, hd5, hc5⟩ := hcut
      have Hc5 := Lib.hid (Hc4.out.trans hc5)
      have Hd5 := Lib.hid hd5
      have Hl5 := Lib.hid (H.out.disk Hc5.out)
      clear hd5 hc5 CX0 CXF CXU HBt HWs Hw2 Hslot1 Hd4 Hc4 hw2 hfI hgI
      by_cases e2 : E2 = 0
      · subst e2
        have HB5 := Lib.hid (byt_chg0 HB.out Hc5.out HA.out)
        have hcnt : S.texts.length ≤ 1000000 := by have := H.out.cnt; have := H.out.fit; have := H.out.end_; omega
        rename World => w5
        go_upto_region 19 with (at_builtin; refine wpList_append_any rfl (.tmp 94) (.tmp 95) rfl w5.heap.size (.slice none 0 0) 0 [] rfl (World.ownsRow_nil _ _ _ _) A n c t rfl HTL.out HB5.out (by omega) (Nat.le_refl _) ?_; intro v8 w8 hown8 hlow8; rw [List.nil_append, Nat.zero_add] at hown8; obtain ⟨A8, c8, hv8⟩ := own_nilK hown8; subst hv8; have Own8 := Lib.hid hown8; have Low8 := Lib.hid (hlow8 _ _ (Below.refl w5.heap.size w5) (Nat.le_refl _)); clear hown8 hlow8)
        have HY8 : Hid (YX t w5.heap.size (.slice A8 n c8) w8) := .new (by rw [HTL.out]; exact Own8.out) (by have h := own_sl Own8.out HTL.out; exact h)
        have hl8 := Hl5.out.later Low8.out
        have k3 := hl8.cells.2.2.2.1
        have HN := Go.heap_alloc_new w8 (.cells #[.slice A8 n c8] 33)
        have hbN : Below w8.heap.size w8 (w8.alloc (.cells #[.slice A8 n c8] 33)) := (Below.refl _ _).alloc (Nat.le_refl _) _
        have HlN := Lib.hid (hl8.later hbN)
        have HNN := Lib.hid HN
        have HbN := Lib.hid hbN
        have HcntI := Lib.hid hcnt
        clear hl8 HN hbN hcnt
        go_upto_region 20 with (at_builtin; refine wpList_append_one rfl (.tmp 101) (.tmp 103) rfl 0 J.v (.slice A8 n c8) S.texts.length w8.heap.size J.ts rfl HlN.out.own rfl HNN.out rfl HcntI.out (Nat.zero_le _) ?_; intro z9 w9 hown9 hgrow9 hblk9; have hr9 : w9.heap[J.g]? = some (.cells (rowRL M J S) 49 (0, 0)) := (hgrow9.block _ HlN.out.glt (fun e => H.out.gv _ e.symm rfl)).trans HlN.out.row; have HX9 := Lib.hid (OX.new hown9 hblk9 (HY8.out.later HbN.out) (Nat.le_trans Low8.out.size HbN.out.size)); have Hc9 := Lib.hid (((Chg.of_below Low8.out).trans (Chg.of_below HbN.out)).trans (chg_grown hgrow9)); have HY9 := Lib.hid ((HY8.out.later HbN.out).chg (chg_grown hgrow9) (fun q hq => by have := (Hl5.out.own.lt q (by simpa using hq)).2; omega)); obtain ⟨A9, q9, hz9⟩ := own_nilK hown9; subst hz9; have Hr9 := Lib.hid hr9; have k9 : w9.cell? ⟨J.g, 3, none⟩ = some J.v := cell_row hr9 3; have f9 := free_row hr9 3; clear hown9 hgrow9 hblk9 hr9)
        have hzn := HX9.out.ne (fun e => H.out.gv _ e rfl) Hl5.out.glt
        obtain ⟨w10, hw10⟩ : ∃ w10, w10 = w9.setCell ⟨J.g, 3, none⟩ (.slice A9 (S.texts.length + 1) q9) := ⟨_, rfl⟩
        have hr10 : w10.heap[J.g]? = some (.cells ((rowRL M J S).setIfInBounds 3 (.slice A9 (S.texts.length + 1) q9)) 49 (0, 0)) := by rw [hw10]; exact heap_setCell_same _ _ _ _ _ _ Hr9.out
        have k10 : w10.cell? ⟨J.g, 4, none⟩ = some (.int .i64 u0) := by rw [cell_row hr10 4, Hu0.out]; rfl
        have f10 := free_row hr10 4
        have HX10 := Lib.hid (show OX S.texts.length J.ts J.v w5.heap.size (.slice A8 n c8) (.slice A9 (S.texts.length + 1) q9) w10 by rw [hw10]; exact HX9.out.set hzn)
        have HY10 := Lib.hid (show YX t w5.heap.size (.slice A8 n c8) w10 by rw [hw10]; exact HY9.out.chg ((Chg.refl [J.g] _).setCell (p := ⟨J.g, 3, none⟩) (by simp) _) (fun q hq => by simp at hq; subst hq; exact Hl5.out.glt))
        have hc10 : Chg J.bl w5 w10 := by rw [hw10]; exact (Hc9.out.mono (fun q hq => .inl (by simp [LK.bl] at hq ⊢; exact .inr hq))).setCell (p := ⟨J.g, 3, none⟩) (by simp [LK.bl]) _
        have Hc10 := Lib.hid hc10
        have Hr10 := Lib.hid hr10
        have Hzn := Lib.hid hzn
        rw [← hw10]
        clear hw10 hr10 hc10 hzn HX9 HY9 Hc9 Hr9 HlN HNN HbN k3 k9 f9 HcntI Own8 Low8 HY8
        go_wp2
        go_ret
        have h11 : Chg [J.g] w10 (w10.setCell ⟨J.g, 4, none⟩ (.int .i64 ((u0 : Int) + (k : Int)))) := (Chg.refl _ _).setCell (by simp) _
        have hrk := rkept_of (w := w5) (t := t) Hl5.out (fun q hq => Nat.lt_of_lt_of_le (HM.out q hq) Hc5.out.size) HT.out (by rw [HTL.out]; exact hn) (by rw [HTL.out, ← Hk.out, ← Hu0.out, ← Hs0.out]; omega)
          (by rw [heap_setCell_same _ _ _ _ _ _ Hr10.out, HTL.out, ← Hk.out, ← Hu0.out]; simp [rowRL]) (HX10.out.set Hzn.out) (HY10.out.chg h11 (fun q hq => by simp at hq; subst hq; exact Hl5.out.glt)) (Hc10.out.trans (h11.mono (fun q hq => .inl (by simp at hq; subst hq; simp [LK.bl]))))
        exact ⟨rfl, _, Hd5.out.chg hrk.chg (fun q hq hm => Hl5.out.kap q hm hq), by have h := hrk.rl; rw [HTL.out, ← Hk.out] at h; exact h, hrk.g, (Hc5.out.mono (fun x hx => .inl (List.mem_append_left _ hx))).trans (hrk.chg.mono (fun x hx => .inl (List.mem_append_right _ hx))), fun q hq => (hrk.bl q hq).imp id (fun h => Nat.le_trans Hc5.out.size h), fun q hq => (hrk.tx q hq).imp id (fun h => Nat.le_trans Hc5.out.size h)⟩
      · have c5 := Hl5.out.cells.2.2.2.2.2
        have f5 := free_row Hl5.out.row 5
        rename World => w5
        go_wp2
        go_ret
        have hc6 : Chg [J.g] w5 (w5.setCell ⟨J.g, 5, none⟩ (.bool true)) := (Chg.refl _ _).setCell (by simp) _
        exact ⟨rfl, J, Hd5.out.chg hc6 (fun q hq hm => HjM.out (by simp at hm; rw [← hm]; exact hq)), Hl5.out.lose hc6 (by rw [heap_setCell_same _ _ _ _ _ _ Hl5.out.row, rowRL_lost]), rfl, (Hc5.out.mono (fun x hx => .inl (List.mem_append_left _ hx))).trans (hc6.mono (fun x hx => .inl (List.mem_append_right _ (by simp at hx; subst hx; simp [LK.bl])))), fun x hx => .inl hx, fun x hx => .inl hx⟩
end
end Go.Proofs.Ytpeioogkbcejmaa.Slt
