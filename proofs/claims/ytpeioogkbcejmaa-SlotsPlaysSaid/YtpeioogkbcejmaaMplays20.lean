/- DERIVED. Texts of ours, merged: XRef9Do0. -/
import Derived.Test.YtpeioogkbcejmaaMplays18
import Derived.Test.YtpeioogkbcejmaaMplays19
import Derived.Test.YtpeioogkbcejmaaMplays2
import Derived.Deep.CutBlock
/- DERIVED. Layer 9's law: play.do at one kind of act (written by a program). -/
namespace Go.Proofs.Ytpeioogkbcejmaa.Slt
open Go.RowKit Dsk
theorem aw_text {a : Aw} (h : a.Ok) : a.c[19]? = some (.slice a.A a.L.length a.cap) := by
  rw [Aw.c, List.getElem?_toArray]
  show (vals a.mask ++ [_])[16]? = _
  rw [List.getElem?_append_right (by rw [vals_length, h.mlen]; exact Nat.le_refl _), vals_length, h.mlen]
  rfl
/-- after the program's append, the reference's state stands as before. -/
theorem second_ready {w0 w3 w4 : World} {pg : Nat} {K : DK} {M : MK} {D D' : DS} {x : X3} {vl vr : Value} {J J' I : LK} {S S' : LS} (hp : PD w0 w3 pg K M D x vl vr) (hl : PLog w0 w3 pg K M D J I S) (h1 : AppQ w3 w4 K J J' D' S') :
    w4.heap[pg]? = some (.cells (rowP K M vl vr x) 40 (0, 0)) ∧ RD w4 M D ∧ RL w4 M I S := by
  have hMK : ∀ q ∈ M.bl, q ∉ K.bl ++ J.bl := fun q hq hx => (List.mem_append.1 hx).elim (fun h => hp.km q h hq) (fun h => (hl.jb q (List.mem_append_left _ h)).1 hq)
  have hIK : ∀ q ∈ I.bl ++ I.tx, q ∉ K.bl ++ J.bl := fun q hq hx => (List.mem_append.1 hx).elim (fun h => (hl.ib q hq).1 h) (fun h => (hl.jb q (List.mem_append_left _ h)).2.1 hq)
  exact ⟨h1.chg.at hp.row (fun hx => (List.mem_append.1 hx).elim hp.kp (fun h => (hl.jb pg (List.mem_append_left _ h)).2.2.1 rfl)), hp.rd.chg h1.chg hMK, hl.rl.chg h1.chg (fun q hq => hIK q (List.mem_append_left _ hq)) (fun q hq => hIK q (List.mem_append_right _ hq))⟩
theorem PD.past {w0 w w' : World} {pg : Nat} {K : DK} {M : MK} {D : DS} {x : X3} {vl vr : Value} {T : List Nat} (h : PD w0 w pg K M D x vl vr) (hc : Chg T w w') (hT : ∀ q ∈ T, q ∉ K.bl ∧ q ∉ M.bl ∧ q ≠ pg ∧ w0.heap.size ≤ q) : PD w0 w' pg K M D x vl vr :=
  ⟨hc.at h.row (fun hm => (hT _ hm).2.2.1 rfl), h.dsk.chg hc (fun hm => (hT _ hm).1 (by simp [DK.bl])) (fun hm => (hT _ hm).1 (by simp [DK.bl])), h.rd.chg hc (fun q hq hm => (hT _ hm).2.1 hq), h.km, h.kp, h.mp, hc.below h.low h.low.size (fun q hq => (hT q hq).2.2.2), h.kb, h.mb, h.pb⟩
theorem PLog.past {w0 w w' : World} {pg : Nat} {K : DK} {M : MK} {D : DS} {J I : LK} {S : LS} {T : List Nat} (h : PLog w0 w pg K M D J I S) (hc : Chg T w w') (hT : ∀ q ∈ T, q ∉ J.bl ++ J.tx ∧ q ∉ I.bl ++ I.tx) : PLog w0 w' pg K M D J I S :=
  ⟨lg_chg h.lg hc (fun q hq hm => (hT q hm).1 (List.mem_append_left _ hq)) (fun q hq hm => (hT q hm).1 (List.mem_append_right _ hq)), h.rl.chg hc (fun q hq hm => (hT q hm).2 (List.mem_append_left _ hq)) (fun q hq hm => (hT q hm).2 (List.mem_append_right _ hq)), h.end_,
    fun q hq => ⟨(h.jb q hq).1, (h.jb q hq).2.1, (h.jb q hq).2.2.1, (h.jb q hq).2.2.2.1, Nat.lt_of_lt_of_le (h.jb q hq).2.2.2.2 hc.size⟩, fun q hq => ⟨(h.ib q hq).1, (h.ib q hq).2.1, (h.ib q hq).2.2.1, Nat.lt_of_lt_of_le (h.ib q hq).2.2.2 hc.size⟩⟩
theorem own_there9 {w : World} {base n : Nat} {A : Option Addr} {c : Nat} {L : List Int} (h : w.ownsRow base 5 1 (.slice A n c) n (vals L)) (i : Nat) (hi : i < n) : ∃ g, A = some ⟨g, 0, none⟩ ∧ n ≤ c ∧ w.cell? ⟨g, i, none⟩ = some (.int .u8 (L.getD i 0)) ∧ w.frozen? ⟨g, i, none⟩ = false ∧ ∀ y, (w.setCell ⟨g, i, none⟩ (.int .u8 y)).ownsRow base 5 1 (.slice A n c) n (vals (L.set i y)) := by
  have hl : L.length = n := by have := h.1; rw [vals_length] at this; omega
  rcases h.2 with ⟨e, _⟩ | ⟨g, cap, cur, e, _, hrow, hn, _, hs, htk⟩
  · cases e; omega
  · cases e
    refine ⟨g, rfl, hn, ?_, free_row hrow i, fun y => ?_⟩
    · rw [cell_row hrow, ← Array.getElem?_toList]
      have : (cur.toList.take (n * 1))[i]? = cur.toList[i]? := by rw [List.getElem?_take, if_pos (by omega)]
      rw [← this, htk]
      simp [vals, List.getD_eq_getElem?_getD, show i < L.length by omega]
    · have := (h.stored i (.int .u8 y)).1
      rwa [show (vals L).set i (.int .u8 y) = vals (L.set i y) by simp [vals]] at this
attribute [local go_sem ↓ high] loadAtM9
set_option maxRecDepth 100000 in
set_option maxHeartbeats 8000000 in
theorem do_append {kk : Int} {w0 w : World} {pg : Nat} {K : DK} {M : MK} {D : DS} {x : X3} (h : PS w0 w pg K M D x) (a : Aw) (ok : a.Ok) (hk : kindA a = kk) (k3 : kk ≠ 3) (k4 : kk ≠ 4) (k5 : kk ≠ 5) (hB : Byt w0 a.A a.cap a.L) (hlen : a.L.length ≤ 2000) (hwr : D.writes ≤ 400000000000) :
    Calls Try.prog 10 #[.pointer (some ⟨pg, 0, none⟩), .agg a.c] w fun e w' => e = .returned (.bool true) ∧ ∃ D', PS w0 w' pg K M D' x ∧ D'.writes ≤ D.writes + 20 := by
  have hrow := Go.heap_alloc_new w (.cells a.c 43)
  have hb1 : Below w.heap.size w (w.alloc (.cells a.c 43)) := (Below.refl _ _).alloc (Nat.le_refl _) _
  have c0 : (w.alloc (.cells a.c 43)).cell? ⟨w.heap.size, 0, none⟩ = some (.int .i64 a.what) := cell_row hrow 0
  obtain ⟨w1, hw1⟩ : ∃ w1, w1 = w.alloc (.cells a.c 43) := ⟨_, rfl⟩
  have Hw1 := Lib.hid hw1.symm
  rw [← hw1] at c0 hrow hb1
  have hps := h
  have Hps : Hid (∃ vl vr, PD w0 w1 pg K M D x vl vr ∧ ((vl = .pointer none ∧ vr = .pointer none) ∨ ∃ J I S, vl = .pointer (some ⟨J.g, 0, none⟩) ∧ vr = .pointer (some ⟨I.g, 0, none⟩) ∧ PLog w0 w1 pg K M D J I S ∧ (∀ q ∈ J.bl ++ J.tx, q < w.heap.size) ∧ (∀ q ∈ I.bl ++ I.tx, q < w.heap.size))) := by
    obtain ⟨vl, vr, hp, hl⟩ := hps
    refine ⟨vl, vr, hp.later hb1, ?_⟩
    rcases hl with hl | ⟨J, I, S, e1, e2, hl⟩
    · exact .inl hl
    · exact .inr ⟨J, I, S, e1, e2, hl.later hb1, fun q hq => (hl.jb q hq).2.2.2.2, fun q hq => (hl.ib q hq).2.2.2⟩
  have Hold : Hid ((∀ q ∈ K.bl, q < w.heap.size) ∧ (∀ q ∈ M.bl, q < w.heap.size) ∧ pg < w.heap.size) := by
    obtain ⟨vl, vr, hp, _⟩ := h
    exact ⟨hp.klt.1, hp.klt.2, hp.plt⟩
  have Hrow := Lib.hid hrow
  have Hb1 := Lib.hid hb1
  have Hk := Lib.hid hk
  have Hok := Lib.hid ok
  obtain ⟨what, hwh⟩ : ∃ z, z = a.what := ⟨_, rfl⟩
  rw [← hwh] at c0
  obtain ⟨X, hX⟩ : ∃ X, X = a.c := ⟨_, rfl⟩
  rw [← hX] at Hw1 ⊢
  have HX := Lib.hid hX
  have Hwh := Lib.hid hwh
  have HB := Lib.hid hB
  have Hwr := Lib.hid hwr
  have b3 : (kk == 3) = false := beq_eq_false_iff_ne.2 k3
  have b4 : (kk == 4) = false := beq_eq_false_iff_ne.2 k4
  have b5 : (kk == 5) = false := beq_eq_false_iff_ne.2 k5
  obtain ⟨n, hn⟩ : ∃ n, n = a.L.length := ⟨_, rfl⟩
  rw [← hn] at hlen
  have Hn := Lib.hid hn
  clear hw1 hX hwh h hps hrow hb1 hk ok hB hwr k3 k4 k5 hn
  go_enter Try.func10, Try.ntmps10
  go_upto_region 1 with (fail)
  rw [Hw1.out]
  go_cut [15] from 11 to 73 (fun s15 wx => wx = w1 ∧ s15 = .int .i64 kk)
  case first =>
    go_wp2
    go_meet
    exact ⟨rfl, by congr 1; rw [Hwh.out]; exact Hk.out⟩
  case rest =>
    obtain ⟨hwc, rfl⟩ := hcut
    subst hwc
    rename World => w1
    have hps := Hps.out
    clear Hps c0
    obtain ⟨vl, vr, hp, hl⟩ := hps
    have HP := Lib.hid hp
    have CT : Hid (w1.cell? ⟨w.heap.size, 19, none⟩ = some (.slice a.A n a.cap)) := by
      show _ = _
      rw [cell_row Hrow.out 19, aw_text Hok.out, Hn.out]
    have ct := CT.out
    obtain ⟨_, _, c2, c3, _, _⟩ := hp.cells
    have HB1 := Lib.hid (HB.out.below hp.low (Nat.le_refl _))
    have Hin := Lib.hid Hok.out.inb
    have HA0 : Hid (∀ ad, a.A = some ad → 0 < a.L.length → ad.block < w0.heap.size) := fun ad hA hl0 => by
      obtain ⟨g, off, e, hg, _⟩ := HB.out.2.2 hl0
      rw [hA] at e
      cases e
      exact hg
    obtain ⟨A, hA⟩ : ∃ A, A = a.A := ⟨_, rfl⟩
    obtain ⟨cp, hcp⟩ : ∃ c, c = a.cap := ⟨_, rfl⟩
    obtain ⟨t, ht⟩ : ∃ t, t = a.L := ⟨_, rfl⟩
    rw [← hA, ← hcp] at ct
    rw [← hA, ← hcp, ← ht] at HB1
    rw [← hA, ← ht] at HA0
    rw [← ht] at Hin
    have Htn : Hid (t.length = n) := by show _ = _; rw [ht]; exact Hn.out.symm
    clear hA hcp ht hp
    rcases hl with ⟨rfl, rfl⟩ | ⟨J, I, S, rfl, rfl, hpl, hjo, hio⟩
    · go_upto_region 21 with (fail)
      have d2 : w1.drew.cell? ⟨pg, 2, none⟩ = some (.pointer none) := c2
      have dt : w1.drew.cell? ⟨w.heap.size, 19, none⟩ = some (.slice A n cp) := ct
      refine wp_region_still_tail 6 (by kernel_rfl) (by kernel_rfl) ?_
      simp only [List.take_succ_cons, List.take_zero, List.drop_succ_cons, List.drop_zero]
      change wpStill _ _ w1.drew _ _ _
      repeat (refine wpStill_step (fun K1 hK => ?_); go_simp; refine hK _ ?_; clear hK K1)
      refine wpStill_nil ?_
      change wpList _ _ _ _ _ w1.drew
      go_wp2_with (go_at_call 15; refine (badl_append (.inl rfl) _).mono ?_; rintro e w' ⟨rfl, rfl⟩)
      go_ret
      exact ⟨rfl, D, ⟨_, _, HP.out.later (Below.refl _ _).drew, .inl ⟨rfl, rfl⟩⟩, by omega⟩
    · have HPL := Lib.hid hpl
      have Hjo := Lib.hid hjo
      have Hio := Lib.hid hio
      clear hpl hjo hio
      go_upto_region 20 with (fail)
      go_cut [162] from 16 to 162 (fun s162 wx => wx = w1 ∧ s162 = .bool false)
      case first =>
        go_wp2
        go_meet
        exact ⟨rfl, rfl⟩
      case rest =>
      obtain ⟨hwc, rfl⟩ := hcut
      subst hwc
      rename World => w1
      clear c2 c3 HB
      have CT1 := Lib.hid ct
      go_upto_region 22 with (fail)
      go_cut [7] from 163 to 174 (fun s7 wx => ∃ A2 c2, s7 = .slice A2 n c2 ∧ wx.ownsRow w1.heap.size 5 1 s7 n (vals t) ∧ Below w1.heap.size w1 wx)
      case first =>
        have dt : (w1.alloc (.cells #[] 5)).cell? ⟨w.heap.size, 19, none⟩ = some (.slice A n cp) := (World.cell?_of_block (((Below.refl w1.heap.size w1).alloc (Nat.le_refl _) _).block _ (World.block_lt_of_cell? _ _ ct))).trans ct
        have Hmade := Lib.hid (own_full (w := w1) (base := w1.heap.size) (n := 0) [] rfl (Nat.le_refl _) (by decide))
        clear ct
        go_wp2_with (at_builtin; refine wpList_append_any rfl (.tmp 171) (.tmp 173) rfl w1.heap.size _ 0 [] rfl Hmade.out A n cp t rfl Htn.out (HB1.out.alloc _) (by omega) (by rw [World.size_alloc]; omega) ?_; intro v1 w2 hown1 hlow1; rw [List.nil_append, Nat.zero_add] at hown1; obtain ⟨A8, c8, hv8⟩ := own_nilK hown1; subst hv8; have Hown1 := Lib.hid hown1; have Hlow1 := Lib.hid (hlow1 _ _ ((Below.refl w1.heap.size w1).alloc (Nat.le_refl _) _) (Nat.le_refl _)); clear hown1 hlow1)
        go_meet
        exact ⟨_, _, rfl, Hown1.out, Hlow1.out⟩
      case rest =>
      obtain ⟨A2, e2, rfl, hown2, hlow2⟩ := hcut
      rename World => w2
      have HP2 := Lib.hid (HP.out.later hlow2)
      have HPL2 := Lib.hid (HPL.out.later hlow2)
      have CT2 : Hid (w2.cell? ⟨w.heap.size, 19, none⟩ = some (.slice A n cp)) := (World.cell?_of_block (hlow2.block _ (World.block_lt_of_cell? _ _ CT1.out))).trans CT1.out
      have HB2 := Lib.hid (HB1.out.below hlow2 (Nat.le_refl _))
      have Hown2 := Lib.hid hown2
      have Hlow2 := Lib.hid hlow2
      have Hwl : Hid (w.heap.size < w1.heap.size) := World.block_lt_of_cell? _ _ CT1.out
      have hend : (S.from_ + S.secs) * 128 ≤ D.data.length := by
        have := HPL2.out.end_
        simp only [DS.secs] at this
        omega
      have happ := append_any HP2.out.dsk HPL2.out.lg A2 n e2 t Htn.out (own_byt9 hown2 Htn.out) (fun _ ad hA hm => by
        have h1 := (hown2.lt ad.block (by rw [hA]; rfl)).1
        have h2 := HP.out.klt.1 _ hm
        omega) Hin.out HPL2.out.end_ (by have := Hwr.out; omega)
      have HN := Lib.hid (appD_n (D := D) (S := S) (t := t) (by rw [Htn.out]; exact hlen) HPL2.out.lg.fit hend)
      have Hrapp := Lib.hid (fun (wr : World) (hd : RD wr M D) (hl : RL wr M I S) (hB : Byt wr A cp t) (hA : 0 < t.length → ∀ a, A = some a → a.block ∉ M.bl) => rappend_any hd hl A n cp t Htn.out hB hA Hin.out hend HP2.out.dsk.ok.len)
      obtain ⟨D', S', E, hE⟩ : ∃ D' S' E, appD D S t = (D', S', E) := ⟨_, _, _, rfl⟩
      rw [hE] at happ HN Hrapp
      dsimp only at happ HN Hrapp
      have Happ := Lib.hid happ
      unfold LK.ptr at Happ
      obtain ⟨c0, c1, c2, c3, _, _⟩ := HP2.out.cells
      clear happ hE hown2 hlow2 hend ct c0 c1
      go_upto_region 23 with (fail)
      go_cut [8] from 175 to 180 (fun s8 wx => s8 = .int .i64 E ∧ ∃ J', AppQ w2 wx K J J' D' S')
      case first =>
        clear c3
        go_wp2_with (go_at_call 15; refine Happ.out.mono ?_; rintro e w3 ⟨J', rfl, q1⟩; have Q1 := Lib.hid q1; clear q1)
        go_meet
        exact ⟨rfl, _, Q1.out⟩
      case rest =>
      obtain ⟨rfl, J', q1⟩ := hcut
      rename World => w3
      have Q1 := Lib.hid q1
      obtain ⟨r1, r2, r3⟩ := second_ready HP2.out HPL2.out q1
      have c3 := cell_row r1 3
      have HB3 : Hid (Byt w3 A cp t) := byt_chg0 HB2.out q1.chg (fun hl ad hA hm => by
        have h1 := HA0.out ad hA hl
        rcases List.mem_append.1 hm with h | h
        · have := HP.out.kb _ h; omega
        · have := (HPL.out.jb _ (List.mem_append_left _ h)).2.2.2.1; omega)
      have d3 : w3.drew.cell? ⟨pg, 3, none⟩ = some (.pointer (some ⟨I.g, 0, none⟩)) := c3
      have dt : w3.drew.cell? ⟨w.heap.size, 19, none⟩ = some (.slice A n cp) := (World.cell?_of_block (q1.chg.block _ (World.block_lt_of_cell? _ _ CT2.out) (fun hm => by
        rcases List.mem_append.1 hm with h | h
        · have := Hold.out.1 _ h; exact absurd this (Nat.lt_irrefl _)
        · have := Hjo.out _ (List.mem_append_left _ h); exact absurd this (Nat.lt_irrefl _)))).trans CT2.out
      have Hr := Lib.hid (Hrapp.out w3.drew (r2.later (Below.refl _ _).drew) (r3.later (Below.refl _ _).drew) (HB3.out.below (Below.refl _ _).drew (Nat.le_refl _)) (fun hl ad hA hm => by
        have h1 := HA0.out ad hA hl
        have := HP.out.mb _ hm; omega))
      clear q1 r1 r2 r3 c3 Hrapp Happ
      go_upto_region 24 with (fail)
      go_cut [9] from 181 to 187 (fun s9 wx => s9 = .int .i64 E ∧ ∃ I', RAppQ w3.drew wx M I I' D' S')
      case first =>
        refine wp_region_still_tail 6 (by kernel_rfl) (by kernel_rfl) ?_
        simp only [List.take_succ_cons, List.take_zero, List.drop_succ_cons, List.drop_zero]
        change wpStill _ _ w3.drew _ _ _
        repeat (refine wpStill_step (fun K1 hK => ?_); go_simp; refine hK _ ?_; clear hK K1)
        refine wpStill_nil ?_
        change wpList _ _ _ _ _ w3.drew
        go_wp2_with (go_at_call 25; refine Hr.out.mono ?_; rintro e w4 ⟨I', rfl, q2⟩; have Q2 := Lib.hid q2; clear q2)
        go_meet
        exact ⟨rfl, _, Q2.out⟩
      case rest =>
      obtain ⟨rfl, I', q2⟩ := hcut
      rename World => w4
      have hs3 := Q1.out.chg.size
      have ow3 := own_chg Hown2.out Q1.out.chg (fun q hq hm => by
        have h1 := (Hown2.out.lt q hq).1
        rcases List.mem_append.1 hm with h | h
        · have := HP.out.klt.1 _ h; omega
        · have := Hjo.out _ (List.mem_append_left _ h); have := Hwl.out; omega)
      have ow4 := own_chg (own_stays ow3 (Below.refl _ _).drew) q2.chg (fun q hq hm => by
        have h1 := (Hown2.out.lt q hq).1
        rcases List.mem_append.1 hm with h | h
        · have := HP.out.klt.2 _ h; omega
        · have := Hio.out _ (List.mem_append_left _ h); have := Hwl.out; omega)
      have Hout : Hid (∀ q, (Value.slice A2 n e2).ownBlock = some q → (q ∉ K.bl ∧ q ∉ M.bl ∧ q ≠ pg ∧ w0.heap.size ≤ q) ∧ q ∉ J'.bl ++ J'.tx ∧ q ∉ I'.bl ++ I'.tx) := fun q hq => by
        obtain ⟨h1, h2⟩ := Hown2.out.lt q hq
        have h3 := Hwl.out
        have h4 := HP.out.plt
        have h5 := HP.out.low.size
        refine ⟨⟨fun h => ?_, fun h => ?_, fun h => ?_, by omega⟩, fun h => ?_, fun h => ?_⟩
        · have := HP.out.klt.1 _ h; omega
        · have := HP.out.klt.2 _ h; omega
        · omega
        · have : q ∈ J.bl ++ J.tx ∨ w2.heap.size ≤ q := by
            rcases List.mem_append.1 h with h | h
            · exact (Q1.out.bl q h).imp (fun h => List.mem_append_left _ h) id
            · exact (Q1.out.tx q h).imp (fun h => List.mem_append_right _ h) id
          rcases this with h | h
          · have := Hjo.out _ h; omega
          · omega
        · have : q ∈ I.bl ++ I.tx ∨ w3.heap.size ≤ q := by
            rcases List.mem_append.1 h with h | h
            · exact (q2.bl q h).imp (fun h => List.mem_append_left _ h) id
            · exact (q2.tx q h).imp (fun h => List.mem_append_right _ h) id
          rcases this with h | h
          · have := Hio.out _ h; omega
          · omega
      obtain ⟨hp4, hl4, g1, g2⟩ := both_app HP2.out HPL2.out Q1.out (Below.refl _ _).drew q2 HN.out
      rw [← g1, ← g2] at hp4
      have HP4 := Lib.hid hp4
      have HPL4 := Lib.hid hl4
      have Ow4 := Lib.hid ow4
      have Hnw := Lib.hid HN.out.wr
      clear hp4 hl4 g1 g2 ow4 ow3 hs3 q2 Hr d3 dt c2 c3 Q1 HB3 HP2 HPL2 CT2 HB2 HN
      go_upto_block 3 with (fail)
      go_cut [10] from 188 to 201 (fun s10 wx => ∃ L' : List Int, wx.ownsRow w1.heap.size 5 1 (.slice A2 n e2) n (vals L') ∧ PD w0 wx pg K M D' x (.pointer (some ⟨J'.g, 0, none⟩)) (.pointer (some ⟨I'.g, 0, none⟩)) ∧ PLog w0 wx pg K M D' J' I' S')
      case first =>
        go_wp2
        go_loopw [10] (fun v wr => ∃ i : Nat, i ≤ n ∧ v = .int .i64 i ∧ Hid (∃ L' : List Int, wr.ownsRow w1.heap.size 5 1 (.slice A2 n e2) n (vals L') ∧ PD w0 wr pg K M D' x (.pointer (some ⟨J'.g, 0, none⟩)) (.pointer (some ⟨I'.g, 0, none⟩)) ∧ PLog w0 wr pg K M D' J' I' S')) (fun v _ => n - (intOf v).toNat)
        case atStart => exact ⟨0, Nat.zero_le _, rfl, t, Ow4.out, HP4.out, HPL4.out⟩
        case round =>
          obtain ⟨i, hi, rfl, hrel⟩ := hrel
          have Hrel := hrel
          clear hrel HP4 HPL4 Ow4
          by_cases hlt : i < n
          · have hltI : (i : Int) < (n : Int) := by omega
            obtain ⟨L', ow, hp, hl⟩ := Hrel.out
            obtain ⟨g, rfl, hcap, hc, hf, hset⟩ := own_there9 ow i hlt
            have Hst : Hid (∀ y, ∃ L' : List Int, (wr.setCell ⟨g, i, none⟩ (.int .u8 y)).ownsRow w1.heap.size 5 1 (.slice (some ⟨g, 0, none⟩) n e2) n (vals L') ∧ PD w0 (wr.setCell ⟨g, i, none⟩ (.int .u8 y)) pg K M D' x (.pointer (some ⟨J'.g, 0, none⟩)) (.pointer (some ⟨I'.g, 0, none⟩)) ∧ PLog w0 (wr.setCell ⟨g, i, none⟩ (.int .u8 y)) pg K M D' J' I' S') := fun y => by
              have hch : Chg [g] wr (wr.setCell ⟨g, i, none⟩ (.int .u8 y)) := (Chg.refl [g] wr).setCell (p := ⟨g, i, none⟩) (by simp) _
              have ho := Hout.out g rfl
              exact ⟨_, hset y, hp.past hch (fun q hq => by rw [List.mem_singleton.1 hq]; exact ho.1), hl.past hch (fun q hq => by rw [List.mem_singleton.1 hq]; exact ho.2)⟩
            obtain ⟨z, hz⟩ : ∃ z, z = L'.getD i 0 := ⟨_, rfl⟩
            rw [← hz] at hc
            clear hz hset ow hp hl Hrel
            go_wp2
            exact ⟨⟨i + 1, by omega, by go_num, Hst.out _⟩, by simp [intOf]; omega⟩
          · have hltI : ¬ (i : Int) < (n : Int) := by omega
            go_wp2
            go_meet
            exact Hrel.out
      case rest =>
      obtain ⟨L', ow5, hp5, hl5⟩ := hcut
      rename World => w5
      obtain ⟨_, _, c2, c3, _, _⟩ := hp5.cells
      have C2 := Lib.hid c2
      have C3 := Lib.hid c3
      obtain ⟨_, _, _, _, cu, _⟩ := hl5.rl.cells
      obtain ⟨R, hR⟩ : ∃ R, R = roomI (S'.secs - S'.used) := ⟨_, rfl⟩
      have Hroom : Hid (∀ wx, Below w5.heap.size w5 wx → Calls Try.prog 16 #[.pointer (some ⟨J'.g, 0, none⟩)] wx fun e w' => e = .returned (.int .i64 R) ∧ Below wx.heap.size wx w') := fun wx hb => by
        rw [hR]; exact room_any (hl5.lg.later hb)
      have Hrroom : Hid (∀ wx, Below w5.heap.size w5 wx → Calls Try.prog 26 #[.pointer (some ⟨I'.g, 0, none⟩)] wx fun e w' => e = .returned (.int .i64 R) ∧ Below wx.heap.size wx w') := fun wx hb => by
        rw [hR]; exact rroom_any (hl5.rl.later hb)
      obtain ⟨U, hU⟩ : ∃ U, U = S'.used := ⟨_, rfl⟩
      have Hused : Hid (∀ wx, Below w5.heap.size w5 wx → Calls Try.prog 22 #[.pointer (some ⟨J'.g, 0, none⟩)] wx fun e w' => e = .returned (.int .i64 (U : Nat)) ∧ wx = w') := fun wx hb => by
        rw [hU]; exact used_any (hl5.lg.later hb)
      rw [← hU] at cu
      have CU := Lib.hid cu
      have HP5 := Lib.hid hp5
      have HPL5 := Lib.hid hl5
      clear c2 c3 cu hp5 hl5 ow5 hR hU Hout
      go_upto_region 29 with (fail)
      go_cut [4] from 202 to 232 (fun s4 wx => s4 = .bool true ∧ Below w5.heap.size w5 wx)
      case first =>
        have apx : apartB [202, 203, 204, 205, 206, 207, 208, 209, 210, 211, 212, 213, 214, 215, 216, 217, 218, 219, 220, 221, 222, 223, 224, 225, 226, 227, 228, 229, 230, 231, 232, 4] = true := by decide
        refine wp_region_any (by kernel_rfl) ?_
        change wpAny _ _ _ _ _ _ _ (World.drew _)
        refine wpAny_inv2 (fun ll aa wx => Hid (ll.size = 32 ∧ Below w5.heap.size w5 wx) ∧ ∃ (z : Nat → Value), Hid (aa = ⟨#[.pointer (some ⟨pg, 0, none⟩), .agg X, undef, .pointer (some ⟨w.heap.size, 0, none⟩), z 4, undef, undef, .slice A2 n e2, .int .i64 E, .int .i64 E, u10, u11, u12, u13, u14, .int .i64 kk, u16, u17, u18, u19, u20, u21, u22, u23, u24, u25, u26, u27, u28, u29, u30, u31, u32, u33, u34, u35, u36, u37, u38, u39, u40, u41, u42, u43, u44, u45, u46, u47, u48, u49, u50, u51, u52, u53, u54, u55, u56, u57, u58, u59, u60, u61, u62, u63, u64, u65, u66, u67, u68, u69, u70, u71, u72, u73, u74, u75, u76, u77, u78, u79, u80, u81, u82, u83, u84, u85, u86, u87, u88, u89, u90, u91, u92, u93, u94, u95, u96, u97, u98, u99, u100, u101, u102, u103, u104, u105, u106, u107, u108, u109, u110, u111, u112, u113, u114, u115, u116, u117, u118, u119, u120, u121, u122, u123, u124, u125, u126, u127, u128, u129, u130, u131, u132, u133, u134, u135, u136, u137, u138, u139, u140, u141, u142, u143, u144, u145, u146, u147, u148, u149, u150, u151, u152, u153, u154, u155, u156, u157, u158, u159, u160, u161, .bool false, u163, u164, u165, u166, u167, u168, u169, u170, u171, u172, u173, u174, u175, u176, u177, u178, u179, u180, u181, u182, u183, u184, u185, u186, u187, u188, u189, u190, u191, u192, u193, u194, u195, u196, u197, u198, u199, u200, u201, z 202, z 203, z 204, z 205, z 206, z 207, z 208, z 209, z 210, z 211, z 212, z 213, z 214, z 215, z 216, z 217, z 218, z 219, z 220, z 221, z 222, z 223, z 224, z 225, z 226, z 227, z 228, z 229, z 230, z 231, z 232], []⟩) ∧ Holding [202, 203, 204, 205, 206, 207, 208, 209, 210, 211, 212, 213, 214, 215, 216, 217, 218, 219, 220, 221, 222, 223, 224, 225, 226, 227, 228, 229, 230, 231, 232, 4] [some (.int .i64 E), some (.int .i64 E), some (.bool true), some (.bool true), some (.pointer (some ⟨pg, 0, none⟩)), some (.pointer (some ⟨pg, 0, none⟩)), some (.pointer (some ⟨pg, 2, none⟩)), some ((.pointer (some ⟨J'.g, 0, none⟩))), some (.int .i64 R), some (.pointer (some ⟨pg, 0, none⟩)), some (.pointer (some ⟨pg, 0, none⟩)), some (.pointer (some ⟨pg, 3, none⟩)), some ((.pointer (some ⟨I'.g, 0, none⟩))), some (.int .i64 R), some (.bool true), some (.bool true), some (.bool true), some (.pointer (some ⟨pg, 0, none⟩)), some (.pointer (some ⟨pg, 0, none⟩)), some (.pointer (some ⟨pg, 2, none⟩)), some ((.pointer (some ⟨J'.g, 0, none⟩))), some (.int .i64 (U : Nat)), some (.pointer (some ⟨pg, 0, none⟩)), some (.pointer (some ⟨pg, 0, none⟩)), some (.pointer (some ⟨pg, 3, none⟩)), some ((.pointer (some ⟨I'.g, 0, none⟩))), some ((.pointer (some ⟨I'.g, 0, none⟩))), some (.pointer (some ⟨I'.g, 4, none⟩)), some (.int .i64 (U : Nat)), some (.bool true), some (.bool true), some (.bool true)] ll z) ?_ (by kernel_rfl) ?_ ?_ _ rfl _ _ ?_
        · rintro ll aa wx ⟨hI, _⟩
          exact hI.out.1
        · rintro ll aa wx ⟨hI, z, ha, hz⟩ hall
          have hx := Lib.hid hI.out.2
          have e0 : z 202 = .int .i64 E := hz 0 _ (hall 0 (by decide)) rfl
          have e1 : z 203 = .int .i64 E := hz 1 _ (hall 1 (by decide)) rfl
          have e2 : z 204 = .bool true := hz 2 _ (hall 2 (by decide)) rfl
          have e3 : z 205 = .bool true := hz 3 _ (hall 3 (by decide)) rfl
          have e4 : z 206 = .pointer (some ⟨pg, 0, none⟩) := hz 4 _ (hall 4 (by decide)) rfl
          have e5 : z 207 = .pointer (some ⟨pg, 0, none⟩) := hz 5 _ (hall 5 (by decide)) rfl
          have e6 : z 208 = .pointer (some ⟨pg, 2, none⟩) := hz 6 _ (hall 6 (by decide)) rfl
          have e7 : z 209 = (.pointer (some ⟨J'.g, 0, none⟩)) := hz 7 _ (hall 7 (by decide)) rfl
          have e8 : z 210 = .int .i64 R := hz 8 _ (hall 8 (by decide)) rfl
          have e9 : z 211 = .pointer (some ⟨pg, 0, none⟩) := hz 9 _ (hall 9 (by decide)) rfl
          have e10 : z 212 = .pointer (some ⟨pg, 0, none⟩) := hz 10 _ (hall 10 (by decide)) rfl
          have e11 : z 213 = .pointer (some ⟨pg, 3, none⟩) := hz 11 _ (hall 11 (by decide)) rfl
          have e12 : z 214 = (.pointer (some ⟨I'.g, 0, none⟩)) := hz 12 _ (hall 12 (by decide)) rfl
          have e13 : z 215 = .int .i64 R := hz 13 _ (hall 13 (by decide)) rfl
          have e14 : z 216 = .bool true := hz 14 _ (hall 14 (by decide)) rfl
          have e15 : z 217 = .bool true := hz 15 _ (hall 15 (by decide)) rfl
          have e16 : z 218 = .bool true := hz 16 _ (hall 16 (by decide)) rfl
          have e17 : z 219 = .pointer (some ⟨pg, 0, none⟩) := hz 17 _ (hall 17 (by decide)) rfl
          have e18 : z 220 = .pointer (some ⟨pg, 0, none⟩) := hz 18 _ (hall 18 (by decide)) rfl
          have e19 : z 221 = .pointer (some ⟨pg, 2, none⟩) := hz 19 _ (hall 19 (by decide)) rfl
          have e20 : z 222 = (.pointer (some ⟨J'.g, 0, none⟩)) := hz 20 _ (hall 20 (by decide)) rfl
          have e21 : z 223 = .int .i64 (U : Nat) := hz 21 _ (hall 21 (by decide)) rfl
          have e22 : z 224 = .pointer (some ⟨pg, 0, none⟩) := hz 22 _ (hall 22 (by decide)) rfl
          have e23 : z 225 = .pointer (some ⟨pg, 0, none⟩) := hz 23 _ (hall 23 (by decide)) rfl
          have e24 : z 226 = .pointer (some ⟨pg, 3, none⟩) := hz 24 _ (hall 24 (by decide)) rfl
          have e25 : z 227 = (.pointer (some ⟨I'.g, 0, none⟩)) := hz 25 _ (hall 25 (by decide)) rfl
          have e26 : z 228 = (.pointer (some ⟨I'.g, 0, none⟩)) := hz 26 _ (hall 26 (by decide)) rfl
          have e27 : z 229 = .pointer (some ⟨I'.g, 4, none⟩) := hz 27 _ (hall 27 (by decide)) rfl
          have e28 : z 230 = .int .i64 (U : Nat) := hz 28 _ (hall 28 (by decide)) rfl
          have e29 : z 231 = .bool true := hz 29 _ (hall 29 (by decide)) rfl
          have e30 : z 232 = .bool true := hz 30 _ (hall 30 (by decide)) rfl
          have e31 : z 4 = .bool true := hz 31 _ (hall 31 (by decide)) rfl
          clear hall hz hI 
          obtain rfl := ha.out
          clear ha
          clear apx
          clear e0 e1 e2 e3 e4 e5 e6 e7 e8 e9 e10 e11 e12 e13 e14 e15 e16 e17 e18 e19 e20 e21 e22 e23 e24 e25 e26 e27 e28 e29 e30
          go_wp2
          go_meet
          exact ⟨e31, hx.out⟩
        · rintro ll aa wx i ⟨hI, z, ha, hz⟩ hcl hi hu hw
          obtain rfl := ha.out
          have hsz := Lib.hid hI.out.1
          have hx := Lib.hid hI.out.2
          clear ha hI
          have hin : i < 32 := hi
          obtain rfl | rfl | rfl | rfl | rfl | rfl | rfl | rfl | rfl | rfl | rfl | rfl | rfl | rfl | rfl | rfl | rfl | rfl | rfl | rfl | rfl | rfl | rfl | rfl | rfl | rfl | rfl | rfl | rfl | rfl | rfl | rfl : i = 0 ∨ i = 1 ∨ i = 2 ∨ i = 3 ∨ i = 4 ∨ i = 5 ∨ i = 6 ∨ i = 7 ∨ i = 8 ∨ i = 9 ∨ i = 10 ∨ i = 11 ∨ i = 12 ∨ i = 13 ∨ i = 14 ∨ i = 15 ∨ i = 16 ∨ i = 17 ∨ i = 18 ∨ i = 19 ∨ i = 20 ∨ i = 21 ∨ i = 22 ∨ i = 23 ∨ i = 24 ∨ i = 25 ∨ i = 26 ∨ i = 27 ∨ i = 28 ∨ i = 29 ∨ i = 30 ∨ i = 31 := by omega
          · refine wpOp_plain rfl rfl ?_
            go_simp
            exact ⟨⟨by simp [hsz.out], hx.out⟩, upd z 202 (.int .i64 E), (by unfold Hid; simp [upd]), hz.next apx hsz.out 0 (by decide) _ (fun _ h => Option.some.inj h)⟩
          · refine wpOp_plain rfl rfl ?_
            go_simp
            exact ⟨⟨by simp [hsz.out], hx.out⟩, upd z 203 (.int .i64 E), (by unfold Hid; simp [upd]), hz.next apx hsz.out 1 (by decide) _ (fun _ h => Option.some.inj h)⟩
          · have e0 : z 202 = .int .i64 E := hz 0 _ (hw 0 (by kernel_rfl)) rfl
            have e1 : z 203 = .int .i64 E := hz 1 _ (hw 1 (by kernel_rfl)) rfl
            refine wpOp_plain rfl rfl ?_
            go_simp
            exact ⟨⟨by simp [hsz.out], hx.out⟩, upd z 204 (.bool true), (by unfold Hid; simp [upd, e0, e1]), hz.next apx hsz.out 2 (by decide) _ (fun _ h => Option.some.inj h)⟩
          · have e2 : z 204 = .bool true := hz 2 _ (hw 2 (by kernel_rfl)) rfl
            refine wpOp_plain rfl rfl ?_
            go_simp
            exact ⟨⟨by simp [hsz.out], hx.out⟩, upd z 205 (.bool true), (by unfold Hid; simp [upd, e2]), hz.next apx hsz.out 3 (by decide) _ (fun _ h => Option.some.inj h)⟩
          · have e3 : z 205 = .bool true := hz 3 _ (hw 3 (by kernel_rfl)) rfl
            refine wpOp_want rfl (by simp [Region.wanted, yielded, e3]) ?_
            go_simp
            exact ⟨⟨by simp [hsz.out], hx.out⟩, upd z 206 (.pointer (some ⟨pg, 0, none⟩)), (by unfold Hid; simp [upd, e3]), hz.next apx hsz.out 4 (by decide) _ (fun _ h => Option.some.inj h)⟩
          · have e3 : z 205 = .bool true := hz 3 _ (hw 3 (by kernel_rfl)) rfl
            have e4 : z 206 = .pointer (some ⟨pg, 0, none⟩) := hz 4 _ (hw 4 (by kernel_rfl)) rfl
            refine wpOp_want rfl (by simp [Region.wanted, yielded, e3]) ?_
            go_simp
            exact ⟨⟨by simp [hsz.out], hx.out⟩, upd z 207 (.pointer (some ⟨pg, 0, none⟩)), (by unfold Hid; simp [upd, e3, e4]), hz.next apx hsz.out 5 (by decide) _ (fun _ h => Option.some.inj h)⟩
          · have e3 : z 205 = .bool true := hz 3 _ (hw 3 (by kernel_rfl)) rfl
            have e5 : z 207 = .pointer (some ⟨pg, 0, none⟩) := hz 5 _ (hw 5 (by kernel_rfl)) rfl
            refine wpOp_want rfl (by simp [Region.wanted, yielded, e3]) ?_
            go_simp
            exact ⟨⟨by simp [hsz.out], hx.out⟩, upd z 208 (.pointer (some ⟨pg, 2, none⟩)), (by unfold Hid; simp [upd, e3, e5]), hz.next apx hsz.out 6 (by decide) _ (fun _ h => Option.some.inj h)⟩
          · have e3 : z 205 = .bool true := hz 3 _ (hw 3 (by kernel_rfl)) rfl
            have e6 : z 208 = .pointer (some ⟨pg, 2, none⟩) := hz 6 _ (hw 6 (by kernel_rfl)) rfl
            have cl : wx.cell? ⟨pg, 2, none⟩ = some ((.pointer (some ⟨J'.g, 0, none⟩))) := (hx.out.cell (p := ⟨pg, 2, none⟩) (World.block_lt_of_cell? _ _ C2.out)).trans C2.out
            refine wpOp_want rfl (by simp [Region.wanted, yielded, e3]) ?_
            go_simp
            exact ⟨⟨by simp [hsz.out], hx.out⟩, upd z 209 ((.pointer (some ⟨J'.g, 0, none⟩))), (by unfold Hid; simp [upd, e3, e6]), hz.next apx hsz.out 7 (by decide) _ (fun _ h => Option.some.inj h)⟩
          · have e3 : z 205 = .bool true := hz 3 _ (hw 3 (by kernel_rfl)) rfl
            have e7 : z 209 = (.pointer (some ⟨J'.g, 0, none⟩)) := hz 7 _ (hw 7 (by kernel_rfl)) rfl
            refine wpOp_want rfl (by simp [Region.wanted, yielded, e3]) ?_
            go_simp
            go_at_call 16
            refine (Hroom.out _ hx.out).mono ?_
            rintro e w9 ⟨rfl, low9⟩
            exact ⟨⟨by simp [hsz.out], hx.out.trans (low9.mono hx.out.size)⟩, upd z 210 (.int .i64 R), (by unfold Hid; simp [upd, e3, e7]), hz.next apx hsz.out 8 (by decide) _ (fun _ h => Option.some.inj h)⟩
          · have e3 : z 205 = .bool true := hz 3 _ (hw 3 (by kernel_rfl)) rfl
            refine wpOp_want rfl (by simp [Region.wanted, yielded, e3]) ?_
            go_simp
            exact ⟨⟨by simp [hsz.out], hx.out⟩, upd z 211 (.pointer (some ⟨pg, 0, none⟩)), (by unfold Hid; simp [upd, e3]), hz.next apx hsz.out 9 (by decide) _ (fun _ h => Option.some.inj h)⟩
          · have e3 : z 205 = .bool true := hz 3 _ (hw 3 (by kernel_rfl)) rfl
            have e9 : z 211 = .pointer (some ⟨pg, 0, none⟩) := hz 9 _ (hw 9 (by kernel_rfl)) rfl
            refine wpOp_want rfl (by simp [Region.wanted, yielded, e3]) ?_
            go_simp
            exact ⟨⟨by simp [hsz.out], hx.out⟩, upd z 212 (.pointer (some ⟨pg, 0, none⟩)), (by unfold Hid; simp [upd, e3, e9]), hz.next apx hsz.out 10 (by decide) _ (fun _ h => Option.some.inj h)⟩
          · have e3 : z 205 = .bool true := hz 3 _ (hw 3 (by kernel_rfl)) rfl
            have e10 : z 212 = .pointer (some ⟨pg, 0, none⟩) := hz 10 _ (hw 10 (by kernel_rfl)) rfl
            refine wpOp_want rfl (by simp [Region.wanted, yielded, e3]) ?_
            go_simp
            exact ⟨⟨by simp [hsz.out], hx.out⟩, upd z 213 (.pointer (some ⟨pg, 3, none⟩)), (by unfold Hid; simp [upd, e3, e10]), hz.next apx hsz.out 11 (by decide) _ (fun _ h => Option.some.inj h)⟩
          · have e3 : z 205 = .bool true := hz 3 _ (hw 3 (by kernel_rfl)) rfl
            have e11 : z 213 = .pointer (some ⟨pg, 3, none⟩) := hz 11 _ (hw 11 (by kernel_rfl)) rfl
            have cl : wx.cell? ⟨pg, 3, none⟩ = some ((.pointer (some ⟨I'.g, 0, none⟩))) := (hx.out.cell (p := ⟨pg, 3, none⟩) (World.block_lt_of_cell? _ _ C3.out)).trans C3.out
            refine wpOp_want rfl (by simp [Region.wanted, yielded, e3]) ?_
            go_simp
            exact ⟨⟨by simp [hsz.out], hx.out⟩, upd z 214 ((.pointer (some ⟨I'.g, 0, none⟩))), (by unfold Hid; simp [upd, e3, e11]), hz.next apx hsz.out 12 (by decide) _ (fun _ h => Option.some.inj h)⟩
          · have e3 : z 205 = .bool true := hz 3 _ (hw 3 (by kernel_rfl)) rfl
            have e12 : z 214 = (.pointer (some ⟨I'.g, 0, none⟩)) := hz 12 _ (hw 12 (by kernel_rfl)) rfl
            refine wpOp_want rfl (by simp [Region.wanted, yielded, e3]) ?_
            go_simp
            go_at_call 26
            refine (Hrroom.out _ hx.out).mono ?_
            rintro e w9 ⟨rfl, low9⟩
            exact ⟨⟨by simp [hsz.out], hx.out.trans (low9.mono hx.out.size)⟩, upd z 215 (.int .i64 R), (by unfold Hid; simp [upd, e3, e12]), hz.next apx hsz.out 13 (by decide) _ (fun _ h => Option.some.inj h)⟩
          · have e3 : z 205 = .bool true := hz 3 _ (hw 3 (by kernel_rfl)) rfl
            have e8 : z 210 = .int .i64 R := hz 8 _ (hw 8 (by kernel_rfl)) rfl
            have e13 : z 215 = .int .i64 R := hz 13 _ (hw 13 (by kernel_rfl)) rfl
            refine wpOp_want rfl (by simp [Region.wanted, yielded, e3]) ?_
            go_simp
            exact ⟨⟨by simp [hsz.out], hx.out⟩, upd z 216 (.bool true), (by unfold Hid; simp [upd, e3, e8, e13]), hz.next apx hsz.out 14 (by decide) _ (fun _ h => Option.some.inj h)⟩
          · have e3 : z 205 = .bool true := hz 3 _ (hw 3 (by kernel_rfl)) rfl
            have e14 : z 216 = .bool true := hz 14 _ (hw 14 (by kernel_rfl)) rfl
            refine wpOp_plain rfl rfl ?_
            go_simp
            exact ⟨⟨by simp [hsz.out], hx.out⟩, upd z 217 (.bool true), (by unfold Hid; simp [upd, e3, e14]), hz.next apx hsz.out 15 (by decide) _ (fun _ h => Option.some.inj h)⟩
          · have e15 : z 217 = .bool true := hz 15 _ (hw 15 (by kernel_rfl)) rfl
            refine wpOp_plain rfl rfl ?_
            go_simp
            exact ⟨⟨by simp [hsz.out], hx.out⟩, upd z 218 (.bool true), (by unfold Hid; simp [upd, e15]), hz.next apx hsz.out 16 (by decide) _ (fun _ h => Option.some.inj h)⟩
          · have e16 : z 218 = .bool true := hz 16 _ (hw 16 (by kernel_rfl)) rfl
            refine wpOp_want rfl (by simp [Region.wanted, yielded, e16]) ?_
            go_simp
            exact ⟨⟨by simp [hsz.out], hx.out⟩, upd z 219 (.pointer (some ⟨pg, 0, none⟩)), (by unfold Hid; simp [upd, e16]), hz.next apx hsz.out 17 (by decide) _ (fun _ h => Option.some.inj h)⟩
          · have e16 : z 218 = .bool true := hz 16 _ (hw 16 (by kernel_rfl)) rfl
            have e17 : z 219 = .pointer (some ⟨pg, 0, none⟩) := hz 17 _ (hw 17 (by kernel_rfl)) rfl
            refine wpOp_want rfl (by simp [Region.wanted, yielded, e16]) ?_
            go_simp
            exact ⟨⟨by simp [hsz.out], hx.out⟩, upd z 220 (.pointer (some ⟨pg, 0, none⟩)), (by unfold Hid; simp [upd, e16, e17]), hz.next apx hsz.out 18 (by decide) _ (fun _ h => Option.some.inj h)⟩
          · have e16 : z 218 = .bool true := hz 16 _ (hw 16 (by kernel_rfl)) rfl
            have e18 : z 220 = .pointer (some ⟨pg, 0, none⟩) := hz 18 _ (hw 18 (by kernel_rfl)) rfl
            refine wpOp_want rfl (by simp [Region.wanted, yielded, e16]) ?_
            go_simp
            exact ⟨⟨by simp [hsz.out], hx.out⟩, upd z 221 (.pointer (some ⟨pg, 2, none⟩)), (by unfold Hid; simp [upd, e16, e18]), hz.next apx hsz.out 19 (by decide) _ (fun _ h => Option.some.inj h)⟩
          · have e16 : z 218 = .bool true := hz 16 _ (hw 16 (by kernel_rfl)) rfl
            have e19 : z 221 = .pointer (some ⟨pg, 2, none⟩) := hz 19 _ (hw 19 (by kernel_rfl)) rfl
            have cl : wx.cell? ⟨pg, 2, none⟩ = some ((.pointer (some ⟨J'.g, 0, none⟩))) := (hx.out.cell (p := ⟨pg, 2, none⟩) (World.block_lt_of_cell? _ _ C2.out)).trans C2.out
            refine wpOp_want rfl (by simp [Region.wanted, yielded, e16]) ?_
            go_simp
            exact ⟨⟨by simp [hsz.out], hx.out⟩, upd z 222 ((.pointer (some ⟨J'.g, 0, none⟩))), (by unfold Hid; simp [upd, e16, e19]), hz.next apx hsz.out 20 (by decide) _ (fun _ h => Option.some.inj h)⟩
          · have e16 : z 218 = .bool true := hz 16 _ (hw 16 (by kernel_rfl)) rfl
            have e20 : z 222 = (.pointer (some ⟨J'.g, 0, none⟩)) := hz 20 _ (hw 20 (by kernel_rfl)) rfl
            refine wpOp_want rfl (by simp [Region.wanted, yielded, e16]) ?_
            go_simp
            go_at_call 22
            refine (Hused.out _ hx.out).mono ?_
            rintro e w9 ⟨rfl, rfl⟩
            exact ⟨⟨by simp [hsz.out], hx.out.trans ((Below.refl _ _).mono hx.out.size)⟩, upd z 223 (.int .i64 (U : Nat)), (by unfold Hid; simp [upd, e16, e20]), hz.next apx hsz.out 21 (by decide) _ (fun _ h => Option.some.inj h)⟩
          · have e16 : z 218 = .bool true := hz 16 _ (hw 16 (by kernel_rfl)) rfl
            refine wpOp_want rfl (by simp [Region.wanted, yielded, e16]) ?_
            go_simp
            exact ⟨⟨by simp [hsz.out], hx.out⟩, upd z 224 (.pointer (some ⟨pg, 0, none⟩)), (by unfold Hid; simp [upd, e16]), hz.next apx hsz.out 22 (by decide) _ (fun _ h => Option.some.inj h)⟩
          · have e16 : z 218 = .bool true := hz 16 _ (hw 16 (by kernel_rfl)) rfl
            have e22 : z 224 = .pointer (some ⟨pg, 0, none⟩) := hz 22 _ (hw 22 (by kernel_rfl)) rfl
            refine wpOp_want rfl (by simp [Region.wanted, yielded, e16]) ?_
            go_simp
            exact ⟨⟨by simp [hsz.out], hx.out⟩, upd z 225 (.pointer (some ⟨pg, 0, none⟩)), (by unfold Hid; simp [upd, e16, e22]), hz.next apx hsz.out 23 (by decide) _ (fun _ h => Option.some.inj h)⟩
          · have e16 : z 218 = .bool true := hz 16 _ (hw 16 (by kernel_rfl)) rfl
            have e23 : z 225 = .pointer (some ⟨pg, 0, none⟩) := hz 23 _ (hw 23 (by kernel_rfl)) rfl
            refine wpOp_want rfl (by simp [Region.wanted, yielded, e16]) ?_
            go_simp
            exact ⟨⟨by simp [hsz.out], hx.out⟩, upd z 226 (.pointer (some ⟨pg, 3, none⟩)), (by unfold Hid; simp [upd, e16, e23]), hz.next apx hsz.out 24 (by decide) _ (fun _ h => Option.some.inj h)⟩
          · have e16 : z 218 = .bool true := hz 16 _ (hw 16 (by kernel_rfl)) rfl
            have e24 : z 226 = .pointer (some ⟨pg, 3, none⟩) := hz 24 _ (hw 24 (by kernel_rfl)) rfl
            have cl : wx.cell? ⟨pg, 3, none⟩ = some ((.pointer (some ⟨I'.g, 0, none⟩))) := (hx.out.cell (p := ⟨pg, 3, none⟩) (World.block_lt_of_cell? _ _ C3.out)).trans C3.out
            refine wpOp_want rfl (by simp [Region.wanted, yielded, e16]) ?_
            go_simp
            exact ⟨⟨by simp [hsz.out], hx.out⟩, upd z 227 ((.pointer (some ⟨I'.g, 0, none⟩))), (by unfold Hid; simp [upd, e16, e24]), hz.next apx hsz.out 25 (by decide) _ (fun _ h => Option.some.inj h)⟩
          · have e16 : z 218 = .bool true := hz 16 _ (hw 16 (by kernel_rfl)) rfl
            have e25 : z 227 = (.pointer (some ⟨I'.g, 0, none⟩)) := hz 25 _ (hw 25 (by kernel_rfl)) rfl
            refine wpOp_want rfl (by simp [Region.wanted, yielded, e16]) ?_
            go_simp
            exact ⟨⟨by simp [hsz.out], hx.out⟩, upd z 228 ((.pointer (some ⟨I'.g, 0, none⟩))), (by unfold Hid; simp [upd, e16, e25]), hz.next apx hsz.out 26 (by decide) _ (fun _ h => Option.some.inj h)⟩
          · have e16 : z 218 = .bool true := hz 16 _ (hw 16 (by kernel_rfl)) rfl
            have e26 : z 228 = (.pointer (some ⟨I'.g, 0, none⟩)) := hz 26 _ (hw 26 (by kernel_rfl)) rfl
            refine wpOp_want rfl (by simp [Region.wanted, yielded, e16]) ?_
            go_simp
            exact ⟨⟨by simp [hsz.out], hx.out⟩, upd z 229 (.pointer (some ⟨I'.g, 4, none⟩)), (by unfold Hid; simp [upd, e16, e26]), hz.next apx hsz.out 27 (by decide) _ (fun _ h => Option.some.inj h)⟩
          · have e16 : z 218 = .bool true := hz 16 _ (hw 16 (by kernel_rfl)) rfl
            have e27 : z 229 = .pointer (some ⟨I'.g, 4, none⟩) := hz 27 _ (hw 27 (by kernel_rfl)) rfl
            have cl : wx.cell? ⟨I'.g, 4, none⟩ = some (.int .i64 (U : Nat)) := (hx.out.cell (p := ⟨I'.g, 4, none⟩) (World.block_lt_of_cell? _ _ CU.out)).trans CU.out
            refine wpOp_want rfl (by simp [Region.wanted, yielded, e16]) ?_
            go_simp
            exact ⟨⟨by simp [hsz.out], hx.out⟩, upd z 230 (.int .i64 (U : Nat)), (by unfold Hid; simp [upd, e16, e27]), hz.next apx hsz.out 28 (by decide) _ (fun _ h => Option.some.inj h)⟩
          · have e16 : z 218 = .bool true := hz 16 _ (hw 16 (by kernel_rfl)) rfl
            have e21 : z 223 = .int .i64 (U : Nat) := hz 21 _ (hw 21 (by kernel_rfl)) rfl
            have e28 : z 230 = .int .i64 (U : Nat) := hz 28 _ (hw 28 (by kernel_rfl)) rfl
            refine wpOp_want rfl (by simp [Region.wanted, yielded, e16]) ?_
            go_simp
            exact ⟨⟨by simp [hsz.out], hx.out⟩, upd z 231 (.bool true), (by unfold Hid; simp [upd, e16, e21, e28]), hz.next apx hsz.out 29 (by decide) _ (fun _ h => Option.some.inj h)⟩
          · have e16 : z 218 = .bool true := hz 16 _ (hw 16 (by kernel_rfl)) rfl
            have e29 : z 231 = .bool true := hz 29 _ (hw 29 (by kernel_rfl)) rfl
            refine wpOp_plain rfl rfl ?_
            go_simp
            exact ⟨⟨by simp [hsz.out], hx.out⟩, upd z 232 (.bool true), (by unfold Hid; simp [upd, e16, e29]), hz.next apx hsz.out 30 (by decide) _ (fun _ h => Option.some.inj h)⟩
          · have e30 : z 232 = .bool true := hz 30 _ (hw 30 (by kernel_rfl)) rfl
            refine wpOp_plain rfl rfl ?_
            go_simp
            exact ⟨⟨by simp [hsz.out], hx.out⟩, upd z 4 (.bool true), (by unfold Hid; simp [upd, e30]), hz.next apx hsz.out 31 (by decide) _ (fun _ h => Option.some.inj h)⟩
        · exact ⟨⟨rfl, (Below.refl _ _).drew⟩, fun xx => (#[.pointer (some ⟨pg, 0, none⟩), .agg X, undef, .pointer (some ⟨w.heap.size, 0, none⟩), .bool false, undef, undef, .slice A2 n e2, .int .i64 E, .int .i64 E, u10, u11, u12, u13, u14, .int .i64 kk, u16, u17, u18, u19, u20, u21, u22, u23, u24, u25, u26, u27, u28, u29, u30, u31, u32, u33, u34, u35, u36, u37, u38, u39, u40, u41, u42, u43, u44, u45, u46, u47, u48, u49, u50, u51, u52, u53, u54, u55, u56, u57, u58, u59, u60, u61, u62, u63, u64, u65, u66, u67, u68, u69, u70, u71, u72, u73, u74, u75, u76, u77, u78, u79, u80, u81, u82, u83, u84, u85, u86, u87, u88, u89, u90, u91, u92, u93, u94, u95, u96, u97, u98, u99, u100, u101, u102, u103, u104, u105, u106, u107, u108, u109, u110, u111, u112, u113, u114, u115, u116, u117, u118, u119, u120, u121, u122, u123, u124, u125, u126, u127, u128, u129, u130, u131, u132, u133, u134, u135, u136, u137, u138, u139, u140, u141, u142, u143, u144, u145, u146, u147, u148, u149, u150, u151, u152, u153, u154, u155, u156, u157, u158, u159, u160, u161, .bool false, u163, u164, u165, u166, u167, u168, u169, u170, u171, u172, u173, u174, u175, u176, u177, u178, u179, u180, u181, u182, u183, u184, u185, u186, u187, u188, u189, u190, u191, u192, u193, u194, u195, u196, u197, u198, u199, u200, u201, undef, undef, undef, undef, undef, undef, undef, undef, undef, undef, undef, undef, undef, undef, undef, undef, undef, undef, undef, undef, undef, undef, undef, undef, undef, undef, undef, undef, undef, undef, undef] : Array Value).getD xx undef, rfl, Holding.start⟩
      case rest =>
      obtain ⟨rfl, hb⟩ := hcut
      have Hb := Lib.hid hb
      clear hb
      go_wp2
      go_ret
      exact ⟨rfl, D', ⟨_, _, HP5.out.later Hb.out, .inr ⟨J', I', S', rfl, rfl, HPL5.out.later Hb.out⟩⟩, Hnw.out⟩
end Go.Proofs.Ytpeioogkbcejmaa.Slt
