/- DERIVED. Texts of ours, merged: XRef9Large XRef9PlTx XRef9Do3. -/
import Derived.Test.YtpeioogkbcejmaaMplays20
import Derived.Test.YtpeioogkbcejmaaMplays18
import Derived.Test.YtpeioogkbcejmaaMplays19
/- DERIVED. Layer 9's law: large. -/
namespace Go.Proofs.Ytpeioogkbcejmaa.Slt
open Go.RowKit Dsk
/-- what large tells. -/
def LargeQ (w : World) (x0 : Int) (n : Nat) (xs : List Aw) (e : Ending) (w' : World) : Prop := Below w.heap.size w w' ∧ ∃ b : Bool, e = .returned (.bool b) ∧ (b = false → n ≤ 30 ∧ x0 ≤ 60 ∧ ∀ x ∈ xs, x.L.length ≤ 2000)
set_option maxRecDepth 100000 in
set_option maxHeartbeats 4000000 in
theorem large_any {w : World} {x0 x1 x2 : Int} {A : Option Addr} {c : Nat} {xs : List Aw} (h : Acts w A c xs) (ok : ∀ x ∈ xs, x.Ok) (hm : xs.length ≤ maxLen) :
    Calls Try.prog 6 #[.agg #[.int .i64 x0, .int .i64 x1, .int .i64 x2], .slice A xs.length c] w (LargeQ w x0 xs.length xs) := by
  have hrow := Go.heap_alloc_new w (.cells #[.int .i64 x0, .int .i64 x1, .int .i64 x2] 23)
  have hb1 : Below w.heap.size w (w.alloc (.cells #[.int .i64 x0, .int .i64 x1, .int .i64 x2] 23)) := (Below.refl _ _).alloc (Nat.le_refl _) _
  obtain ⟨w1, hw1⟩ : ∃ w1, w1 = w.alloc (.cells #[.int .i64 x0, .int .i64 x1, .int .i64 x2] 23) := ⟨_, rfl⟩
  rw [← hw1] at hrow hb1
  have Hw1 := Lib.hid hw1.symm
  have Hrow := Lib.hid hrow
  have Hb1 := Lib.hid hb1
  have H := Lib.hid h
  have HO := Lib.hid ok
  obtain ⟨n, hn⟩ : ∃ n, n = xs.length := ⟨_, rfl⟩
  rw [← hn] at hm ⊢
  have Hn := Lib.hid hn
  have hm2 : n ≤ 9223372036854775807 := Nat.le_trans hm (by decide)
  clear hw1 hrow hb1 h ok hn hm
  go_enter Try.func6, Try.ntmps6
  go_upto_region 1 with (fail)
  rw [Hw1.out]
  go_wp2
  go_loopw [5] (fun v wr => ∃ i : Nat, i ≤ n ∧ i ≤ 40 ∧ v = .int .i64 i ∧ Hid (∀ j y, j < i → xs[j]? = some y → y.L.length ≤ 2000) ∧ Hid (Below w1.heap.size w1 wr)) (fun v _ => n - (intOf v).toNat)
  case atStart => exact ⟨0, Nat.zero_le _, by omega, rfl, fun _ _ h => absurd h (Nat.not_lt_zero _), Below.refl _ _⟩
  case round =>
    obtain ⟨i, hi, hi4, rfl, hj, hb⟩ := hrel
    by_cases hlt : i < n
    · have hltI : (i : Int) < (n : Int) := by omega
      by_cases h40 : i < 40
      · have h40I : (i : Int) < (40 : Int) := by omega
        obtain ⟨b, off, rfl, hg, hc⟩ := H.out.2.2 (by rw [← Hn.out]; omega)
        have hix : i < xs.length := by rw [← Hn.out]; exact hlt
        have hx : xs[i]? = some xs[i] := List.getElem?_eq_getElem hix
        obtain ⟨y, hy⟩ : ∃ y, y = xs[i] := ⟨_, rfl⟩
        rw [← hy] at hx
        have hyo : y.Ok := HO.out y (by rw [hy]; exact List.getElem_mem hix)
        have hr := hc i y hx 19 _ (by rw [Array.getElem?_toList]; exact aw_text hyo)
        have hcl : wr.cell? ⟨b, off + i * 20 + 19, none⟩ = some (.slice y.A y.L.length y.cap) := (hb.out.cell (p := ⟨b, off + i * 20 + 19, none⟩) (Nat.lt_of_lt_of_le hg Hb1.out.size)).trans ((Hb1.out.cell (p := ⟨b, off + i * 20 + 19, none⟩) hg).trans hr)
        have hcap : n ≤ c := by rw [Hn.out]; exact H.out.1
        have Hx := Lib.hid hx
        obtain ⟨m, hm⟩ : ∃ m, m = y.L.length := ⟨_, rfl⟩
        obtain ⟨yA, hyA⟩ : ∃ z, z = y.A := ⟨_, rfl⟩
        obtain ⟨yc, hyc⟩ : ∃ z, z = y.cap := ⟨_, rfl⟩
        rw [← hm, ← hyA, ← hyc] at hcl
        have Hm := Lib.hid hm
        clear hc hg hy hx hyo hr hm hyA hyc hix
        by_cases h2 : 2000 < m
        · have h2I : (2000 : Int) < (m : Int) := by omega
          go_wp2
          go_ret
          exact ⟨Hb1.out.trans (hb.out.mono Hb1.out.size), true, rfl, fun h => by cases h⟩
        · have h2I : ¬ (2000 : Int) < (m : Int) := by omega
          go_wp2
          refine ⟨⟨i + 1, by omega, by omega, by go_num, fun j z hj1 hz => ?_, hb.out⟩, by simp [intOf]; omega⟩
          by_cases hji : j < i
          · exact hj.out j z hji hz
          · obtain rfl : j = i := by omega
            rw [Hx.out] at hz
            cases hz
            rw [← Hm.out]; omega
      · have h40I : ¬ (i : Int) < (40 : Int) := by omega
        have hnI : (30 : Int) < (n : Int) := by omega
        go_wp2
        go_ret
        exact ⟨Hb1.out.trans (hb.out.mono Hb1.out.size), true, rfl, fun h => by cases h⟩
    · have hltI : ¬ (i : Int) < (n : Int) := by omega
      have cx : wr.cell? ⟨w.heap.size, 0, none⟩ = some (.int .i64 x0) := by
        have h0 := cell_row Hrow.out 0
        exact (hb.out.cell (p := ⟨w.heap.size, 0, none⟩) (World.block_lt_of_cell? _ _ h0)).trans h0
      by_cases h3 : 30 < n
      · have hnI : (30 : Int) < (n : Int) := by omega
        clear cx
        go_wp2
        go_ret
        exact ⟨Hb1.out.trans (hb.out.mono Hb1.out.size), true, rfl, fun h => by cases h⟩
      · have hnI : ¬ (30 : Int) < (n : Int) := by omega
        have hin : i = n := by omega
        have Hin := Lib.hid hin
        clear hin
        by_cases h6 : 60 < x0
        · go_wp2
          go_ret
          exact ⟨Hb1.out.trans (hb.out.mono Hb1.out.size), true, rfl, fun h => by cases h⟩
        · go_wp2
          go_ret
          refine ⟨Hb1.out.trans (hb.out.mono Hb1.out.size), false, rfl, fun _ => ⟨by omega, by omega, fun y hy => ?_⟩⟩
          obtain ⟨j, hjl, hjy⟩ := List.getElem_of_mem hy
          exact hj.out j y (by rw [Hin.out, Hn.out]; exact hjl) (by rw [List.getElem?_eq_getElem hjl, hjy])
end Go.Proofs.Ytpeioogkbcejmaa.Slt
/- DERIVED. Layer 9's law: the two logs' texts, as a play compares them. -/
namespace Go.Proofs.Ytpeioogkbcejmaa.Slt
open Go.RowKit Dsk
/-- a slice of texts. -/
def TxS (L : List (List Int)) (v : Value) (w : World) : Prop := ∃ A c, v = .slice A L.length c ∧ TxAt w A L
theorem TxS.later {L : List (List Int)} {v : Value} {w w' : World} (h : TxS L v w) (hb : Below w.heap.size w w') : TxS L v w' := by
  obtain ⟨A, c, e, ht⟩ := h
  exact ⟨A, c, e, ht.later hb⟩
theorem rl_tx {w : World} {M : MK} {I : LK} {S : LS} (h : RL w M I S) : TxS S.texts I.v w := by
  obtain ⟨hl, ho⟩ := h.own
  rcases ho with ⟨e, e0⟩ | ⟨g, cap, cur, hv, _, hh, hcap, _, hs, ht⟩
  · exact ⟨none, 0, by rw [e, e0], ⟨fun i hi => by omega⟩⟩
  · refine ⟨_, _, hv, ⟨fun i hi => ?_⟩⟩
    obtain ⟨B, c, e, b⟩ := h.txt i hi
    refine ⟨g, 0, B, c, rfl, (Array.getElem?_eq_some_iff.1 hh).1, ?_, b, ?_⟩
    · rw [Nat.zero_add, cell_row hh, ← e]
      have h2 : cur[i]? = cur.toList[i]? := by simp
      have h3 : (cur.toList.take (S.texts.length * 1))[i]? = cur.toList[i]? := by rw [List.getElem?_take, if_pos (by omega)]
      have hlen := h.len
      rw [h2, ← h3, ht, List.getElem?_eq_getElem (by omega), List.getD_eq_getElem?_getD, List.getElem?_eq_getElem (by omega), Option.getD_some]
    · refine (h.inb _ ?_).1
      rw [List.getD_eq_getElem?_getD, List.getElem?_eq_getElem hi, Option.getD_some]
      exact List.getElem_mem hi
theorem rl_few {w : World} {M : MK} {I : LK} {S : LS} (h : RL w M I S) : S.texts.length ≤ 9223372036854775807 := by
  have := h.cnt; have := h.fit; have := h.end_
  omega
theorem rl_cell {w : World} {M : MK} {I : LK} {S : LS} (h : RL w M I S) : w.cell? ⟨I.g, 3, none⟩ = some I.v := by rw [cell_row h.row]; rfl
theorem all_ptr {w : World} {K : DK} {J : LK} {S : LS} (h : Lg w K J S) (hi : ∀ t ∈ S.texts, InB t) : Calls Try.prog 13 #[.pointer (some ⟨J.g, 0, none⟩)] w fun e w' => ∃ v, e = .returned v ∧ TxS S.texts v w' ∧ Below w.heap.size w w' := by
  refine (all_any h).mono ?_
  rintro e w' ⟨g, rfl, hr, hb⟩
  exact ⟨_, rfl, ⟨_, _, rfl, hr.tx rfl hi⟩, hb⟩
theorem same_ptr {w : World} {A A2 : Option Addr} {n c c2 : Nat} {L : List (List Int)} (hn : L.length = n) (h1 : TxAt w A L) (h2 : TxAt w A2 L) (hx : n ≤ 9223372036854775807) : Calls Try.prog 12 #[.slice A n c, .slice A2 n c2] w fun e w' => e = .returned (.bool true) ∧ Below w.heap.size w w' := by
  have h := rsame_any (w := w) A A2 n n c c2 L L hn hn h1 h2 hx hx
  rwa [decide_eq_true rfl] at h
end Go.Proofs.Ytpeioogkbcejmaa.Slt
/- DERIVED. Layer 9's law: play.do at one kind of act (written by a program). -/
namespace Go.Proofs.Ytpeioogkbcejmaa.Slt
open Go.RowKit Dsk
attribute [local go_sem ↓ high] loadAtM9
set_option maxRecDepth 100000 in
set_option maxHeartbeats 8000000 in
theorem do_cut {w0 w : World} {pg : Nat} {K : DK} {M : MK} {D : DS} {x : X3} (h : PS w0 w pg K M D x) (a : Aw) (ok : a.Ok) (hk : kindA a = 3) :
    Calls Try.prog 10 #[.pointer (some ⟨pg, 0, none⟩), .agg a.c] w fun e w' => e = .returned (.bool true) ∧ ∃ D', PS w0 w' pg K M D' x ∧ D'.writes = D.writes := by
  have hrow := Go.heap_alloc_new w (.cells a.c 43)
  have hb1 : Below w.heap.size w (w.alloc (.cells a.c 43)) := (Below.refl _ _).alloc (Nat.le_refl _) _
  have c0 : (w.alloc (.cells a.c 43)).cell? ⟨w.heap.size, 0, none⟩ = some (.int .i64 a.what) := cell_row hrow 0
  obtain ⟨w1, hw1⟩ : ∃ w1, w1 = w.alloc (.cells a.c 43) := ⟨_, rfl⟩
  have Hw1 := Lib.hid hw1.symm
  rw [← hw1] at c0 hrow hb1
  have hps := h
  have Hps : Hid (∃ vl vr, PD w0 w1 pg K M D x vl vr ∧ ((vl = .pointer none ∧ vr = .pointer none) ∨ ∃ J I S, vl = .pointer (some ⟨J.g, 0, none⟩) ∧ vr = .pointer (some ⟨I.g, 0, none⟩) ∧ PLog w0 w1 pg K M D J I S)) := by
    obtain ⟨vl, vr, hp, hl⟩ := hps
    refine ⟨vl, vr, hp.later hb1, ?_⟩
    rcases hl with hl | ⟨J, I, S, e1, e2, hl⟩
    · exact .inl hl
    · exact .inr ⟨J, I, S, e1, e2, hl.later hb1⟩
  have Hold : Hid ((∀ q ∈ K.bl, q < w.heap.size) ∧ (∀ q ∈ M.bl, q < w.heap.size) ∧ pg < w.heap.size) := by
    obtain ⟨vl, vr, hp, _⟩ := h
    exact ⟨hp.klt.1, hp.klt.2, hp.plt⟩
  have Hrow := Lib.hid hrow
  have Hb1 := Lib.hid hb1
  have Hk := Lib.hid hk
  have Hok := Lib.hid ok
  obtain ⟨what, hwh⟩ : ∃ z, z = a.what := ⟨_, rfl⟩
  rw [← hwh] at c0
  obtain ⟨X, hX⟩ : ∃ X, X = a.c := ⟨_, rfl⟩
  rw [← hX] at Hw1 ⊢
  have HX := Lib.hid hX
  have Hwh := Lib.hid hwh
  clear hw1 hX hwh h hps hrow hb1 hk ok
  go_enter Try.func10, Try.ntmps10
  go_upto_region 1 with (fail)
  rw [Hw1.out]
  go_cut [15] from 11 to 73 (fun s15 wx => wx = w1 ∧ s15 = .int .i64 3)
  case first =>
    go_wp2
    go_meet
    exact ⟨rfl, by congr 1; rw [Hwh.out]; exact Hk.out⟩
  case rest =>
    obtain ⟨hwc, rfl⟩ := hcut
    subst hwc
    rename World => w1
    have hps := Hps.out
    clear Hps c0
    obtain ⟨vl, vr, hp, hl⟩ := hps
    have HP := Lib.hid hp
    have HL := Lib.hid hl
    have c0 := hp.cells.1
    have hcut := cut_any (w := w1.drew) (hp.dsk.later (Below.refl _ _).drew) a.whole a.mask Hok.out.whole.2 Hok.out.mlen Hok.out.minb
    obtain ⟨zw, hzw⟩ : ∃ z, z = a.whole := ⟨_, rfl⟩
    obtain ⟨mk, hmk⟩ : ∃ z, z = a.mask := ⟨_, rfl⟩
    obtain ⟨E, hE⟩ : ∃ E, E = refE D (decide (0 ≤ a.whole)) := ⟨_, rfl⟩
    rw [← hE, ← hzw, ← hmk] at hcut
    have Hcut := Lib.hid hcut
    have HE := Lib.hid hE
    have Hzw := Lib.hid hzw
    have Hmk : Hid (mk.length = 16) := by show _ = _; rw [hmk]; exact Hok.out.mlen
    have Hmi : Hid (InB mk) := by rw [hmk]; exact Hok.out.minb
    have cw : w1.cell? ⟨w.heap.size, 1, none⟩ = some (.int .i64 zw) := by rw [cell_row Hrow.out 1, hzw]; rfl
    have CMk1 : Hid (w1.rangeAt w.heap.size 3 (vals mk)) := fun j v hv => by
      rw [cell_row Hrow.out, Aw.c, List.getElem?_toArray, show 3 + j = j + 3 by omega]
      simp only [List.getElem?_cons_succ]
      rw [← hmk, List.getElem?_append_left (List.getElem?_eq_some_iff.1 hv).1]
      exact hv
    have lm := loadM9_eq (w := w1.drew) Hmk.out CMk1.out
    have d0 : w1.drew.cell? ⟨pg, 0, none⟩ = some (.pointer (some ⟨K.g, 0, none⟩)) := c0
    have dw : w1.drew.cell? ⟨w.heap.size, 1, none⟩ = some (.int .i64 zw) := cw
    clear hp hl hcut hE hzw hmk c0 cw
    go_upto_region 3 with (fail)
    go_cut [5] from 16 to 73 (fun s5 wx => s5 = .int .i64 E ∧ Dsk wx K (cutD D zw mk) ∧ Chg K.bl w1 wx)
    case first =>
      refine wp_region_still_tail 8 (by kernel_rfl) (by kernel_rfl) ?_
      simp only [List.take_succ_cons, List.take_zero, List.drop_succ_cons, List.drop_zero]
      change wpStill _ _ w1.drew _ _ _
      repeat (refine wpStill_step (fun K1 hK => ?_); go_simp; refine hK _ ?_; clear hK K1)
      refine wpStill_nil ?_
      change wpList _ _ _ _ _ w1.drew
      go_wp2_with (go_at_call 19; refine Hcut.out.mono ?_; rintro e w2 ⟨rfl, hd2, hc2⟩; have Hd2 := Lib.hid hd2; have Hc2 := Lib.hid hc2; clear hd2 hc2)
      go_meet
      exact ⟨rfl, Hd2.out, (Chg.of_below (Below.refl _ _).drew).trans Hc2.out⟩
    case rest =>
    obtain ⟨rfl, hd2, hc2⟩ := hcut
    rename World => w2
    have Hd2 := Lib.hid hd2
    have Hc2 := Lib.hid hc2
    have hr2 := HP.out.rd.chg hc2 (fun q hq hm => HP.out.km q hm hq)
    have hB1 : w.heap.size ∉ K.bl := fun hm => by have := Hold.out.1 _ hm; omega
    have HBm : Hid (w.heap.size ≠ M.g) := fun e => by have := Hold.out.2.1 M.g (by simp [MK.bl]); omega
    have Hpm : Hid (pg ≠ M.g) := fun e => HP.out.mp (by rw [e]; simp [MK.bl])
    obtain ⟨wh, m, hrow2, hml, hm16, hmi⟩ := hr2.row
    have Hr2 := Lib.hid hr2
    have Hrow2 := Lib.hid hrow2
    have Hm16 := Lib.hid hm16
    have CX1 : Hid (w2.cell? ⟨pg, 1, none⟩ = some (.pointer (some ⟨M.g, 0, none⟩))) := by
      show _ = _
      rw [cell_row (hc2.at HP.out.row HP.out.kp) 1]; rfl
    have CW : Hid (w2.cell? ⟨w.heap.size, 1, none⟩ = some (.int .i64 zw)) := by
      show _ = _
      rw [cell_row (hc2.at Hrow.out hB1) 1, Hzw.out]; rfl
    have CMk : Hid (w2.rangeAt w.heap.size 3 (vals mk)) := fun j v hv => by
      have h1 := CMk1.out j v hv
      have h2 := World.block_lt_of_cell? _ _ h1
      exact (World.cell?_of_block (hc2.block w.heap.size h2 hB1)).trans h1
    have Hi16 : Hid ((Try.prog.info? 34).map (·.size) = some (vals mk).length) := by show _ = _; rw [vals_length, Hmk.out]; exact info16
    clear hd2 hc2 hr2 hrow2 hml hm16 hmi hB1 d0 dw lm CMk1 Hcut
    by_cases e0 : E = 0
    · subst e0
      have hcond : refE D (decide (0 ≤ zw)) = 0 := by rw [Hzw.out]; exact HE.out.symm
      have hz0 : 0 ≤ zw := by
        rcases Int.lt_or_le zw 0 with h | h
        · rw [decide_eq_false (by omega)] at hcond; cases hcond
        · exact h
      obtain ⟨W, hW⟩ : ∃ W : Nat, zw = W := ⟨zw.toNat, by omega⟩
      subst hW
      have Hcond := Lib.hid hcond
      clear hcond hz0
      go_upto_region 5 with (fail)
      go_cut [] from 29 to 50 (fun wx => wx.heap[M.g]? = some (.cells (rowR M.b D.data.length D.off true (W : Nat) mk) 36 (0, 0)) ∧ Chg [M.g] w2 wx)
      case first =>
        have apx : apartB [29, 30, 31, 32, 33, 34, 35, 36, 37, 38, 39, 40, 41, 42, 43, 44, 45, 46, 1018, 47, 48, 1021, 49, 50, 1024] = true := by decide
        refine wp_region_any (by kernel_rfl) ?_
        change wpAny _ _ _ _ _ _ _ (World.drew _)
        refine wpAny_inv2 (fun ll aa wx => Hid (ll.size = 25 ∧ RC M D.data.length D.off D.laid wh (W : Nat) m mk w2 ll wx) ∧ ∃ (z : Nat → Value), Hid (aa = ⟨#[.pointer (some ⟨pg, 0, none⟩), .agg X, undef, .pointer (some ⟨w.heap.size, 0, none⟩), .bool false, .int .i64 0, undef, undef, undef, undef, undef, u11, u12, u13, u14, .int .i64 3, u16, u17, u18, u19, u20, u21, u22, u23, u24, u25, u26, .int .i64 0, .bool true, z 29, z 30, z 31, z 32, z 33, z 34, z 35, z 36, z 37, z 38, z 39, z 40, z 41, z 42, z 43, z 44, z 45, z 46, z 47, z 48, z 49, z 50, u51, u52, u53, u54, u55, u56, u57, u58, u59, u60, u61, u62, u63, u64, u65, u66, u67, u68, u69, u70, u71, u72, u73, undef, undef, undef, undef, undef, undef, undef, undef, undef, undef, undef, undef, undef, undef, undef, undef, undef, undef, undef, undef, undef, undef, undef, undef, undef, undef, undef, undef, undef, undef, undef, undef, undef, undef, undef, undef, undef, undef, undef, undef, undef, undef, undef, undef, undef, undef, undef, undef, undef, undef, undef, undef, undef, undef, undef, undef, undef, undef, undef, undef, undef, undef, undef, undef, undef, undef, undef, undef, undef, undef, undef, undef, undef, undef, undef, undef, undef, undef, undef, undef, undef, undef, undef, undef, undef, undef, undef, undef, undef, undef, undef, undef, undef, undef, undef, undef, undef, undef, undef, undef, undef, undef, undef, undef, undef, undef, undef, undef, undef, undef, undef, undef, undef, undef, undef, undef, undef, undef, undef, undef, undef, undef, undef, undef, undef, undef, undef, undef, undef, undef, undef, undef, undef, undef, undef, undef, undef, undef, undef, undef, undef, undef, undef, undef, undef, undef, undef, undef, undef, undef, undef, undef, undef, undef, undef, undef, undef, undef, undef], []⟩) ∧ Holding [29, 30, 31, 32, 33, 34, 35, 36, 37, 38, 39, 40, 41, 42, 43, 44, 45, 46, 1018, 47, 48, 1021, 49, 50, 1024] [some (.pointer (some ⟨pg, 0, none⟩)), some (.pointer (some ⟨pg, 0, none⟩)), some (.pointer (some ⟨pg, 1, none⟩)), some (.pointer (some ⟨M.g, 0, none⟩)), some (.pointer (some ⟨pg, 0, none⟩)), some (.pointer (some ⟨pg, 0, none⟩)), some (.pointer (some ⟨pg, 1, none⟩)), some (.pointer (some ⟨M.g, 0, none⟩)), some (.pointer (some ⟨pg, 0, none⟩)), some (.pointer (some ⟨pg, 0, none⟩)), some (.pointer (some ⟨pg, 1, none⟩)), some (.pointer (some ⟨M.g, 0, none⟩)), some (.pointer (some ⟨w.heap.size, 1, none⟩)), some (.int .i64 (W : Nat)), some (.pointer (some ⟨w.heap.size, 3, none⟩)), some (.agg (vals mk).toArray), some (.pointer (some ⟨M.g, 0, none⟩)), some (.pointer (some ⟨M.g, 2, none⟩)), none, some (.pointer (some ⟨M.g, 0, none⟩)), some (.pointer (some ⟨M.g, 3, none⟩)), none, some (.pointer (some ⟨M.g, 0, none⟩)), some (.pointer (some ⟨M.g, 4, none⟩)), none] ll z ∧ Whn ll 24 (fun _ w => w.heap[M.g]? = some (.cells (rowR M.b D.data.length D.off true (W : Nat) mk) 36 (0, 0))) (z 1024) wx) ?_ (by kernel_rfl) ?_ ?_ _ rfl _ _ ?_
        · rintro ll aa wx ⟨hI, _⟩
          exact hI.out.1
        · rintro ll aa wx ⟨hI, z, ha, hz, hp24⟩ hall
          have hx := Lib.hid hI.out.2
          have e0 : z 29 = .pointer (some ⟨pg, 0, none⟩) := hz 0 _ (hall 0 (by decide)) rfl
          have e1 : z 30 = .pointer (some ⟨pg, 0, none⟩) := hz 1 _ (hall 1 (by decide)) rfl
          have e2 : z 31 = .pointer (some ⟨pg, 1, none⟩) := hz 2 _ (hall 2 (by decide)) rfl
          have e3 : z 32 = .pointer (some ⟨M.g, 0, none⟩) := hz 3 _ (hall 3 (by decide)) rfl
          have e4 : z 33 = .pointer (some ⟨pg, 0, none⟩) := hz 4 _ (hall 4 (by decide)) rfl
          have e5 : z 34 = .pointer (some ⟨pg, 0, none⟩) := hz 5 _ (hall 5 (by decide)) rfl
          have e6 : z 35 = .pointer (some ⟨pg, 1, none⟩) := hz 6 _ (hall 6 (by decide)) rfl
          have e7 : z 36 = .pointer (some ⟨M.g, 0, none⟩) := hz 7 _ (hall 7 (by decide)) rfl
          have e8 : z 37 = .pointer (some ⟨pg, 0, none⟩) := hz 8 _ (hall 8 (by decide)) rfl
          have e9 : z 38 = .pointer (some ⟨pg, 0, none⟩) := hz 9 _ (hall 9 (by decide)) rfl
          have e10 : z 39 = .pointer (some ⟨pg, 1, none⟩) := hz 10 _ (hall 10 (by decide)) rfl
          have e11 : z 40 = .pointer (some ⟨M.g, 0, none⟩) := hz 11 _ (hall 11 (by decide)) rfl
          have e12 : z 41 = .pointer (some ⟨w.heap.size, 1, none⟩) := hz 12 _ (hall 12 (by decide)) rfl
          have e13 : z 42 = .int .i64 (W : Nat) := hz 13 _ (hall 13 (by decide)) rfl
          have e14 : z 43 = .pointer (some ⟨w.heap.size, 3, none⟩) := hz 14 _ (hall 14 (by decide)) rfl
          have e15 : z 44 = .agg (vals mk).toArray := hz 15 _ (hall 15 (by decide)) rfl
          have e16 : z 45 = .pointer (some ⟨M.g, 0, none⟩) := hz 16 _ (hall 16 (by decide)) rfl
          have e17 : z 46 = .pointer (some ⟨M.g, 2, none⟩) := hz 17 _ (hall 17 (by decide)) rfl
          have e19 : z 47 = .pointer (some ⟨M.g, 0, none⟩) := hz 19 _ (hall 19 (by decide)) rfl
          have e20 : z 48 = .pointer (some ⟨M.g, 3, none⟩) := hz 20 _ (hall 20 (by decide)) rfl
          have e22 : z 49 = .pointer (some ⟨M.g, 0, none⟩) := hz 22 _ (hall 22 (by decide)) rfl
          have e23 : z 50 = .pointer (some ⟨M.g, 4, none⟩) := hz 23 _ (hall 23 (by decide)) rfl
          have p24 := hp24.get (hall 24 (by decide))
          clear hall hz hI hp24
          obtain rfl := ha.out
          clear ha
          clear apx
          clear e0 e1 e2 e3 e4 e5 e6 e7 e8 e9 e10 e11 e12 e13 e14 e15 e16 e17 e19 e20 e22 e23
          go_wp2
          go_meet
          exact ⟨p24, hx.out.chg⟩
        · rintro ll aa wx i ⟨hI, z, ha, hz, hp24⟩ hcl hi hu hw
          obtain rfl := ha.out
          have hsz := Lib.hid hI.out.1
          have hx := Lib.hid hI.out.2
          clear ha hI
          have hin : i < 25 := hi
          obtain rfl | rfl | rfl | rfl | rfl | rfl | rfl | rfl | rfl | rfl | rfl | rfl | rfl | rfl | rfl | rfl | rfl | rfl | rfl | rfl | rfl | rfl | rfl | rfl | rfl : i = 0 ∨ i = 1 ∨ i = 2 ∨ i = 3 ∨ i = 4 ∨ i = 5 ∨ i = 6 ∨ i = 7 ∨ i = 8 ∨ i = 9 ∨ i = 10 ∨ i = 11 ∨ i = 12 ∨ i = 13 ∨ i = 14 ∨ i = 15 ∨ i = 16 ∨ i = 17 ∨ i = 18 ∨ i = 19 ∨ i = 20 ∨ i = 21 ∨ i = 22 ∨ i = 23 ∨ i = 24 := by omega
          · refine wpOp_plain rfl rfl ?_
            go_simp
            exact ⟨⟨by simp [hsz.out], hx.out.same (by decide) (by decide) (by decide)⟩, upd z 29 (.pointer (some ⟨pg, 0, none⟩)), (by unfold Hid; simp [upd]), hz.next apx hsz.out 0 (by decide) _ (fun _ h => Option.some.inj h), hp24.keep (by decide)⟩
          · have e0 : z 29 = .pointer (some ⟨pg, 0, none⟩) := hz 0 _ (hw 0 (by kernel_rfl)) rfl
            refine wpOp_plain rfl rfl ?_
            go_simp
            exact ⟨⟨by simp [hsz.out], hx.out.same (by decide) (by decide) (by decide)⟩, upd z 30 (.pointer (some ⟨pg, 0, none⟩)), (by unfold Hid; simp [upd, e0]), hz.next apx hsz.out 1 (by decide) _ (fun _ h => Option.some.inj h), hp24.keep (by decide)⟩
          · have e1 : z 30 = .pointer (some ⟨pg, 0, none⟩) := hz 1 _ (hw 1 (by kernel_rfl)) rfl
            refine wpOp_plain rfl rfl ?_
            go_simp
            exact ⟨⟨by simp [hsz.out], hx.out.same (by decide) (by decide) (by decide)⟩, upd z 31 (.pointer (some ⟨pg, 1, none⟩)), (by unfold Hid; simp [upd, e1]), hz.next apx hsz.out 2 (by decide) _ (fun _ h => Option.some.inj h), hp24.keep (by decide)⟩
          · have e2 : z 31 = .pointer (some ⟨pg, 1, none⟩) := hz 2 _ (hw 2 (by kernel_rfl)) rfl
            have cl := hx.out.cell CX1.out Hpm.out
            refine wpOp_plain rfl rfl ?_
            go_simp
            exact ⟨⟨by simp [hsz.out], hx.out.same (by decide) (by decide) (by decide)⟩, upd z 32 (.pointer (some ⟨M.g, 0, none⟩)), (by unfold Hid; simp [upd, e2]), hz.next apx hsz.out 3 (by decide) _ (fun _ h => Option.some.inj h), hp24.keep (by decide)⟩
          · refine wpOp_plain rfl rfl ?_
            go_simp
            exact ⟨⟨by simp [hsz.out], hx.out.same (by decide) (by decide) (by decide)⟩, upd z 33 (.pointer (some ⟨pg, 0, none⟩)), (by unfold Hid; simp [upd]), hz.next apx hsz.out 4 (by decide) _ (fun _ h => Option.some.inj h), hp24.keep (by decide)⟩
          · have e4 : z 33 = .pointer (some ⟨pg, 0, none⟩) := hz 4 _ (hw 4 (by kernel_rfl)) rfl
            refine wpOp_plain rfl rfl ?_
            go_simp
            exact ⟨⟨by simp [hsz.out], hx.out.same (by decide) (by decide) (by decide)⟩, upd z 34 (.pointer (some ⟨pg, 0, none⟩)), (by unfold Hid; simp [upd, e4]), hz.next apx hsz.out 5 (by decide) _ (fun _ h => Option.some.inj h), hp24.keep (by decide)⟩
          · have e5 : z 34 = .pointer (some ⟨pg, 0, none⟩) := hz 5 _ (hw 5 (by kernel_rfl)) rfl
            refine wpOp_plain rfl rfl ?_
            go_simp
            exact ⟨⟨by simp [hsz.out], hx.out.same (by decide) (by decide) (by decide)⟩, upd z 35 (.pointer (some ⟨pg, 1, none⟩)), (by unfold Hid; simp [upd, e5]), hz.next apx hsz.out 6 (by decide) _ (fun _ h => Option.some.inj h), hp24.keep (by decide)⟩
          · have e6 : z 35 = .pointer (some ⟨pg, 1, none⟩) := hz 6 _ (hw 6 (by kernel_rfl)) rfl
            have cl := hx.out.cell CX1.out Hpm.out
            refine wpOp_plain rfl rfl ?_
            go_simp
            exact ⟨⟨by simp [hsz.out], hx.out.same (by decide) (by decide) (by decide)⟩, upd z 36 (.pointer (some ⟨M.g, 0, none⟩)), (by unfold Hid; simp [upd, e6]), hz.next apx hsz.out 7 (by decide) _ (fun _ h => Option.some.inj h), hp24.keep (by decide)⟩
          · refine wpOp_plain rfl rfl ?_
            go_simp
            exact ⟨⟨by simp [hsz.out], hx.out.same (by decide) (by decide) (by decide)⟩, upd z 37 (.pointer (some ⟨pg, 0, none⟩)), (by unfold Hid; simp [upd]), hz.next apx hsz.out 8 (by decide) _ (fun _ h => Option.some.inj h), hp24.keep (by decide)⟩
          · have e8 : z 37 = .pointer (some ⟨pg, 0, none⟩) := hz 8 _ (hw 8 (by kernel_rfl)) rfl
            refine wpOp_plain rfl rfl ?_
            go_simp
            exact ⟨⟨by simp [hsz.out], hx.out.same (by decide) (by decide) (by decide)⟩, upd z 38 (.pointer (some ⟨pg, 0, none⟩)), (by unfold Hid; simp [upd, e8]), hz.next apx hsz.out 9 (by decide) _ (fun _ h => Option.some.inj h), hp24.keep (by decide)⟩
          · have e9 : z 38 = .pointer (some ⟨pg, 0, none⟩) := hz 9 _ (hw 9 (by kernel_rfl)) rfl
            refine wpOp_plain rfl rfl ?_
            go_simp
            exact ⟨⟨by simp [hsz.out], hx.out.same (by decide) (by decide) (by decide)⟩, upd z 39 (.pointer (some ⟨pg, 1, none⟩)), (by unfold Hid; simp [upd, e9]), hz.next apx hsz.out 10 (by decide) _ (fun _ h => Option.some.inj h), hp24.keep (by decide)⟩
          · have e10 : z 39 = .pointer (some ⟨pg, 1, none⟩) := hz 10 _ (hw 10 (by kernel_rfl)) rfl
            have cl := hx.out.cell CX1.out Hpm.out
            refine wpOp_plain rfl rfl ?_
            go_simp
            exact ⟨⟨by simp [hsz.out], hx.out.same (by decide) (by decide) (by decide)⟩, upd z 40 (.pointer (some ⟨M.g, 0, none⟩)), (by unfold Hid; simp [upd, e10]), hz.next apx hsz.out 11 (by decide) _ (fun _ h => Option.some.inj h), hp24.keep (by decide)⟩
          · refine wpOp_plain rfl rfl ?_
            go_simp
            exact ⟨⟨by simp [hsz.out], hx.out.same (by decide) (by decide) (by decide)⟩, upd z 41 (.pointer (some ⟨w.heap.size, 1, none⟩)), (by unfold Hid; simp [upd]), hz.next apx hsz.out 12 (by decide) _ (fun _ h => Option.some.inj h), hp24.keep (by decide)⟩
          · have e12 : z 41 = .pointer (some ⟨w.heap.size, 1, none⟩) := hz 12 _ (hw 12 (by kernel_rfl)) rfl
            have cl := hx.out.cell CW.out HBm.out
            refine wpOp_plain rfl rfl ?_
            go_simp
            exact ⟨⟨by simp [hsz.out], hx.out.same (by decide) (by decide) (by decide)⟩, upd z 42 (.int .i64 (W : Nat)), (by unfold Hid; simp [upd, e12]), hz.next apx hsz.out 13 (by decide) _ (fun _ h => Option.some.inj h), hp24.keep (by decide)⟩
          · refine wpOp_plain rfl rfl ?_
            go_simp
            exact ⟨⟨by simp [hsz.out], hx.out.same (by decide) (by decide) (by decide)⟩, upd z 43 (.pointer (some ⟨w.heap.size, 3, none⟩)), (by unfold Hid; simp [upd]), hz.next apx hsz.out 14 (by decide) _ (fun _ h => Option.some.inj h), hp24.keep (by decide)⟩
          · have e14 : z 43 = .pointer (some ⟨w.heap.size, 3, none⟩) := hz 14 _ (hw 14 (by kernel_rfl)) rfl
            have hrg : wx.rangeAt w.heap.size 3 (vals mk) := fun j v hv => hx.out.cell (CMk.out j v hv) HBm.out
            refine wpOp_plain rfl rfl (wp_load_mid 34 (.tmp 43) rfl w.heap.size 3 (by show z 43 = _; exact e14) (vals mk) _ hrg Try.underlying34 rfl Hi16.out ?_)
            go_simp
            exact ⟨⟨by simp [hsz.out], hx.out.same (by decide) (by decide) (by decide)⟩, upd z 44 (.agg (vals mk).toArray), (by unfold Hid; simp [upd, e14]), hz.next apx hsz.out 15 (by decide) _ (fun _ h => Option.some.inj h), hp24.keep (by decide)⟩
          · have e3 : z 32 = .pointer (some ⟨M.g, 0, none⟩) := hz 3 _ (hw 3 (by kernel_rfl)) rfl
            refine wpOp_plain rfl rfl ?_
            go_simp
            exact ⟨⟨by simp [hsz.out], hx.out.same (by decide) (by decide) (by decide)⟩, upd z 45 (.pointer (some ⟨M.g, 0, none⟩)), (by unfold Hid; simp [upd, e3]), hz.next apx hsz.out 16 (by decide) _ (fun _ h => Option.some.inj h), hp24.keep (by decide)⟩
          · have e16 : z 45 = .pointer (some ⟨M.g, 0, none⟩) := hz 16 _ (hw 16 (by kernel_rfl)) rfl
            refine wpOp_plain rfl rfl ?_
            go_simp
            exact ⟨⟨by simp [hsz.out], hx.out.same (by decide) (by decide) (by decide)⟩, upd z 46 (.pointer (some ⟨M.g, 2, none⟩)), (by unfold Hid; simp [upd, e16]), hz.next apx hsz.out 17 (by decide) _ (fun _ h => Option.some.inj h), hp24.keep (by decide)⟩
          · have e17 : z 46 = .pointer (some ⟨M.g, 2, none⟩) := hz 17 _ (hw 17 (by kernel_rfl)) rfl
            have hr := hx.out.row
            have cl := cell_row hr 2
            have cf := free_row hr 2
            rw [show ∀ (q : Nat) (a b : Bool) (e : Int) (f : List Int), (rowR M.b q a b e f)[2]? = some (.bool b) from fun _ _ _ _ _ => rfl] at cl
            refine wpOp_plain rfl rfl ?_
            go_simp
            obtain ⟨vr, hvr⟩ : ∃ vr, vr = undef := ⟨_, rfl⟩
            exact ⟨⟨by simp [hsz.out], hx.out.st1 (by rw [hsz.out]; decide)⟩, upd z 1018 (vr), (by unfold Hid; simp [upd, e17]), hz.next apx hsz.out 18 (by decide) _ (fun _ h => by cases h), Whn.never (by decide) (fun hl => hcl 24 18 hl (by kernel_rfl)) hu⟩
          · have e7 : z 36 = .pointer (some ⟨M.g, 0, none⟩) := hz 7 _ (hw 7 (by kernel_rfl)) rfl
            refine wpOp_plain rfl rfl ?_
            go_simp
            exact ⟨⟨by simp [hsz.out], hx.out.same (by decide) (by decide) (by decide)⟩, upd z 47 (.pointer (some ⟨M.g, 0, none⟩)), (by unfold Hid; simp [upd, e7]), hz.next apx hsz.out 19 (by decide) _ (fun _ h => Option.some.inj h), hp24.keep (by decide)⟩
          · have e19 : z 47 = .pointer (some ⟨M.g, 0, none⟩) := hz 19 _ (hw 19 (by kernel_rfl)) rfl
            refine wpOp_plain rfl rfl ?_
            go_simp
            exact ⟨⟨by simp [hsz.out], hx.out.same (by decide) (by decide) (by decide)⟩, upd z 48 (.pointer (some ⟨M.g, 3, none⟩)), (by unfold Hid; simp [upd, e19]), hz.next apx hsz.out 20 (by decide) _ (fun _ h => Option.some.inj h), hp24.keep (by decide)⟩
          · have e13 : z 42 = .int .i64 (W : Nat) := hz 13 _ (hw 13 (by kernel_rfl)) rfl
            have e20 : z 48 = .pointer (some ⟨M.g, 3, none⟩) := hz 20 _ (hw 20 (by kernel_rfl)) rfl
            have hr := hx.out.row
            have cl := cell_row hr 3
            have cf := free_row hr 3
            rw [show ∀ (q : Nat) (a b : Bool) (e : Int) (f : List Int), (rowR M.b q a b e f)[3]? = some (.int .i64 e) from fun _ _ _ _ _ => rfl] at cl
            refine wpOp_plain rfl rfl ?_
            go_simp
            obtain ⟨vr, hvr⟩ : ∃ vr, vr = undef := ⟨_, rfl⟩
            exact ⟨⟨by simp [hsz.out], hx.out.st2 (by rw [hsz.out]; decide)⟩, upd z 1021 (vr), (by unfold Hid; simp [upd, e13, e20]), hz.next apx hsz.out 21 (by decide) _ (fun _ h => by cases h), Whn.never (by decide) (fun hl => hcl 24 21 hl (by kernel_rfl)) hu⟩
          · have e11 : z 40 = .pointer (some ⟨M.g, 0, none⟩) := hz 11 _ (hw 11 (by kernel_rfl)) rfl
            refine wpOp_plain rfl rfl ?_
            go_simp
            exact ⟨⟨by simp [hsz.out], hx.out.same (by decide) (by decide) (by decide)⟩, upd z 49 (.pointer (some ⟨M.g, 0, none⟩)), (by unfold Hid; simp [upd, e11]), hz.next apx hsz.out 22 (by decide) _ (fun _ h => Option.some.inj h), hp24.keep (by decide)⟩
          · have e22 : z 49 = .pointer (some ⟨M.g, 0, none⟩) := hz 22 _ (hw 22 (by kernel_rfl)) rfl
            refine wpOp_plain rfl rfl ?_
            go_simp
            exact ⟨⟨by simp [hsz.out], hx.out.same (by decide) (by decide) (by decide)⟩, upd z 50 (.pointer (some ⟨M.g, 4, none⟩)), (by unfold Hid; simp [upd, e22]), hz.next apx hsz.out 23 (by decide) _ (fun _ h => Option.some.inj h), hp24.keep (by decide)⟩
          · have e15 : z 44 = .agg (vals mk).toArray := hz 15 _ (hw 15 (by kernel_rfl)) rfl
            have e23 : z 50 = .pointer (some ⟨M.g, 4, none⟩) := hz 23 _ (hw 23 (by kernel_rfl)) rfl
            have hr := hx.out.row
            have hth := rowR_there hr (hx.out.mlen Hm16.out Hmk.out)
            have hst := rowR_mask hr (hx.out.mlen Hm16.out Hmk.out) Hmk.out
            rw [hw 18 (by kernel_rfl), hw 21 (by kernel_rfl), if_pos rfl, if_pos rfl] at hst
            refine wpOp_plain rfl rfl (wp_store_mid 34 (.tmp 50) (.tmp 44) rfl M.g 4 (vals mk).toArray (by show z 50 = _; exact e23) (by show z 44 = _; exact e15) (by rw [List.size_toArray, vals_length, Hmk.out]; exact hth) (by rw [List.size_toArray]; exact Hi16.out) (all_oneCell_toArray (vals_one _)) ?_)
            go_simp
            obtain ⟨vr, hvr⟩ : ∃ vr, vr = undef := ⟨_, rfl⟩
            exact ⟨⟨by simp [hsz.out], hx.out.st3 Hm16.out Hmk.out (by rw [hsz.out]; decide)⟩, upd z 1024 (vr), (by unfold Hid; simp [upd, e15, e23]), hz.next apx hsz.out 24 (by decide) _ (fun _ h => by cases h), Whn.done (hst)⟩
        · exact ⟨⟨rfl, RC.start Hrow2.out⟩, fun xx => (#[.pointer (some ⟨pg, 0, none⟩), .agg X, undef, .pointer (some ⟨w.heap.size, 0, none⟩), .bool false, .int .i64 0, undef, undef, undef, undef, undef, u11, u12, u13, u14, .int .i64 3, u16, u17, u18, u19, u20, u21, u22, u23, u24, u25, u26, .int .i64 0, .bool true, u29, u30, u31, u32, u33, u34, u35, u36, u37, u38, u39, u40, u41, u42, u43, u44, u45, u46, u47, u48, u49, u50, u51, u52, u53, u54, u55, u56, u57, u58, u59, u60, u61, u62, u63, u64, u65, u66, u67, u68, u69, u70, u71, u72, u73, undef, undef, undef, undef, undef, undef, undef, undef, undef, undef, undef, undef, undef, undef, undef, undef, undef, undef, undef, undef, undef, undef, undef, undef, undef, undef, undef, undef, undef, undef, undef, undef, undef, undef, undef, undef, undef, undef, undef, undef, undef, undef, undef, undef, undef, undef, undef, undef, undef, undef, undef, undef, undef, undef, undef, undef, undef, undef, undef, undef, undef, undef, undef, undef, undef, undef, undef, undef, undef, undef, undef, undef, undef, undef, undef, undef, undef, undef, undef, undef, undef, undef, undef, undef, undef, undef, undef, undef, undef, undef, undef, undef, undef, undef, undef, undef, undef, undef, undef, undef, undef, undef, undef, undef, undef, undef, undef, undef, undef, undef, undef, undef, undef, undef, undef, undef, undef, undef, undef, undef, undef, undef, undef, undef, undef, undef, undef, undef, undef, undef, undef, undef, undef, undef, undef, undef, undef, undef, undef, undef, undef, undef, undef, undef, undef, undef, undef, undef, undef, undef, undef, undef, undef, undef, undef, undef, undef, undef, undef] : Array Value).getD xx undef, rfl, Holding.start, Whn.none (by decide)⟩
      case rest =>
        obtain ⟨hrw, hch⟩ := hcut
        rename World => w3
        have hD := cutD_yes (m := mk) Hcond.out
        have hd3 := Hd2.out.chg hch (fun hm => by simp at hm; exact HP.out.km K.g (by simp [DK.bl]) (by rw [hm]; simp [MK.bl])) (fun hm => by simp at hm; exact HP.out.km K.h (by simp [DK.bl]) (by rw [hm]; simp [MK.bl]))
        have hwz : ((W : Nat) : Int) ≤ 9223372036854775807 := by have := Hok.out.whole.2; rw [← Hzw.out] at this; exact this
        have hrd : RD w3 M (cutD D (W : Nat) mk) := by
          rw [hD]
          exact ⟨⟨_, mk, hrw, (fun _ => ⟨rfl, rfl⟩), Hmk.out, Hmi.out⟩, hch.at Hr2.out.body (fun h => Hr2.out.ne (List.mem_singleton.1 h).symm), Hr2.out.ne, ⟨Int.natCast_nonneg _, hwz⟩⟩
        have hc : Chg (K.bl ++ M.bl) w1 w3 := (Hc2.out.mono (fun q hq => .inl (List.mem_append_left _ hq))).trans (hch.mono (fun q hq => .inl (List.mem_append_right _ (by simp at hq; subst hq; simp [MK.bl]))))
        have hps : PS w0 w3 pg K M (cutD D (W : Nat) mk) x := by
          refine ⟨vl, vr, HP.out.disk hc hd3 hrd, ?_⟩
          rcases HL.out with hl | ⟨J, I, S, e1, e2, hl⟩
          · exact .inl hl
          · exact .inr ⟨J, I, S, e1, e2, hl.disk hc (by rw [hD]; rfl)⟩
        have Hps := Lib.hid hps
        have HD := Lib.hid hD
        clear hps hrd hd3 hrw hch hc hD hwz
        go_wp2
        go_ret
        exact ⟨rfl, _, Hps.out, by rw [HD.out]⟩
    · have hD : cutD D zw mk = D := cutD_no (fun h => e0 (by rw [HE.out, ← Hzw.out]; exact h))
      have hps : PS w0 w2 pg K M D x := by
        have hc : Chg (K.bl ++ M.bl) w1 w2 := Hc2.out.mono (fun q hq => .inl (List.mem_append_left _ hq))
        have hd := Hd2.out
        rw [hD] at hd
        refine ⟨vl, vr, HP.out.disk hc hd Hr2.out, ?_⟩
        rcases HL.out with hl | ⟨J, I, S, e1, e2, hl⟩
        · exact .inl hl
        · exact .inr ⟨J, I, S, e1, e2, hl.disk hc rfl⟩
      have Hps := Lib.hid hps
      have hEb : (E == 0) = false := beq_eq_false_iff_ne.2 e0
      have k1 := CX1.out
      have kw := CW.out
      have ko := cell_row Hrow2.out 1
      rw [show ∀ (q : Nat) (a b : Bool) (e : Int) (f : List Int), (rowR M.b q a b e f)[1]? = some (.bool a) from fun _ _ _ _ _ => rfl] at ko
      by_cases hz : zw < 0
      · clear hps hD ko
        go_wp2
        go_ret
        exact ⟨rfl, _, Hps.out, rfl⟩
      · have hoff : D.off = true := by
          have h9 := HE.out
          rw [← Hzw.out, decide_eq_true (by omega), refE, if_pos rfl] at h9
          cases ho : D.off
          · rw [ho] at h9; exact absurd h9 e0
          · rfl
        rw [hoff] at ko
        clear hps hD
        go_wp2
        go_ret
        exact ⟨rfl, _, Hps.out, rfl⟩
end Go.Proofs.Ytpeioogkbcejmaa.Slt
