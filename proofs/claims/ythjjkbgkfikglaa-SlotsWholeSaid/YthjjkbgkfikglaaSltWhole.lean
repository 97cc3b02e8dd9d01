/- DERIVED. The walk of SlotsWhole. -/
import Derived.Test.YthjjkbgkfikglaaSltPlay
import Derived.BigQuiet
namespace Go.Proofs.Ythjjkbgkfikglaa.Slt
open Go.RowKit Dsk
noncomputable def loadM (v : Value) : Sem Value := Instr.loadAt 34 v
theorem loadAtM (v : Value) : Instr.loadAt 34 v = loadM v := rfl
theorem loadM_eq {w : World} {b o : Nat} {m : List Int} (hm : m.length = 16) (h : w.rangeAt b o (vals m)) : (loadM (.pointer (some ⟨b, o, none⟩))).run Try.prog w = .ok (.agg (vals m).toArray) w := by
  unfold loadM
  exact run_loadAt_mid (P := Try.prog) w b o 34 (vals m) _ h Try.underlying34 rfl (by rw [vals_length, hm]; exact info16)
attribute [irreducible] loadM
attribute [local go_sem ↓ high] loadAtM
theorem given_120 (w : World) : Calls Try.prog 14 #[.int .i64 120] w fun e w' => ∃ K J, e = .returned (.tuple #[.pointer (some ⟨K.g, 0, none⟩), .pointer (some ⟨J.g, 0, none⟩)]) ∧ St w w' K J (newD 120) (newS 120) := given_any w 120 (by decide) (by decide)
theorem tp_at {w : World} {A : Option Addr} {ps : List Tp} (h : TpsAt w A ps) (i n : Nat) (hn : ps.length = n) (hi : i < n) : ∃ (g off : Nat) (t : Tp) (m : Nat), A = some ⟨g, off, none⟩ ∧ (∀ wr, Below w.heap.size w wr → wr.cell? ⟨g, off + i, none⟩ = some (.slice t.A m t.c)) ∧ t.M.length = m ∧ Byt w t.A t.c t.M ∧ InB t.M := by
  obtain ⟨g, off, e, hg, hc⟩ := h.row i (by omega)
  obtain ⟨hB, hin⟩ := h.byt i (by omega)
  exact ⟨g, off, ps[i], _, e, fun wr hb => (hb.cell (p := ⟨g, off + i, none⟩) hg).trans hc, rfl, hB, hin⟩
theorem act_at {w wr : World} {A : Option Addr} {c : Nat} {xs : List Aw} (h : Acts w A c xs) (ok : ∀ x ∈ xs, x.Ok ∧ Byt w x.A x.cap x.L) (hb : Below w.heap.size w wr) (i n : Nat) (hn : xs.length = n) (hi : i < n) : ∃ (b off : Nat) (x : Aw), A = some ⟨b, off, none⟩ ∧ wr.cell? ⟨b, off + i * 20 + 1, none⟩ = some (.int .i64 x.whole) ∧ wr.rangeAt b (off + i * 20 + 3) (vals x.mask) ∧ x.Ok := by
  obtain ⟨b, off, hA, hg, hc⟩ := h.2.2 (by omega)
  have hx : xs[i]? = some xs[i] := List.getElem?_eq_getElem (by omega)
  have hr := hc i _ hx
  have hx' := (ok _ (List.getElem_mem (show i < xs.length by omega))).1
  refine ⟨b, off, xs[i], hA, (hb.cell (p := ⟨b, off + i * 20 + 1, none⟩) hg).trans (hr 1 _ rfl), fun j v hv => (hb.cell (p := ⟨b, off + i * 20 + 3 + j, none⟩) hg).trans ?_, hx'⟩
  rw [Nat.add_assoc]
  refine hr (3 + j) v ?_
  have hj : j < (vals xs[i].mask).length := (List.getElem?_eq_some_iff.1 hv).1
  rw [Aw.c, show 3 + j = j + 3 by omega]
  simp only [List.getElem?_cons_succ]
  rw [List.getElem?_append_left hj]
  exact hv
theorem wg_new : WG 0 (newD 120) (newS 120) := by
  have e1 : (newD 120).data.length = 15360 := List.length_replicate
  have hr : reg (newD 120) 0 120 = List.replicate 15360 0 := by
    show ((List.replicate (120 * 128) (0 : Int)).drop 0).take (120 * 128) = _
    rw [List.drop_zero, List.take_of_length_le (by rw [List.length_replicate]; exact Nat.le_refl _)]
  exact ⟨⟨rfl, rfl⟩, rfl, rfl, e1, by rw [hr]; exact log_empty _, Nat.le_refl 0, Int.le_refl 0⟩
theorem tx_last {w : World} {g q m : Nat} {ts : List (List Int)} {L : List (List Int)} {M : List Int} (h : TxAt w (some ⟨g, 0, none⟩) ts) (e : ts = L ++ [M]) (hq : L.length = q) (hm : M.length = m) : ∃ B c, w.cell? ⟨g, q, none⟩ = some (.slice B m c) ∧ Byt w B c M := by
  subst e hq hm
  obtain ⟨g', off, B, c, e, _, hc, hB, _⟩ := h.at_ L.length (by simp)
  cases e
  have e2 : (L ++ [M]).getD L.length [] = M := by simp [List.getD_eq_getElem?_getD]
  rw [e2] at hc hB
  rw [Nat.zero_add] at hc
  exact ⟨B, c, hc, hB⟩
set_option maxRecDepth 100000 in
set_option maxHeartbeats 8000000 in
theorem whole_walk (A1 A2 : Option Addr) (n1 c1 n2 c2 : Nat) (ps : List Tp) (xs : List Aw) (h1 : ps.length = n1) (h2 : xs.length = n2) (m1 : n1 ≤ 9223372036854775807) (m2 : n2 ≤ 9223372036854775807) (w : World) (B1 : TpsAt w A1 ps) (ok2 : ∀ x ∈ xs, x.Ok ∧ Byt w x.A x.cap x.L) (B2 : Acts w A2 c2 xs) :
    Calls Try.prog 5 #[.slice A1 n1 c1, .slice A2 n2 c2] w fun e w' => e = .returned (.bool true) ∧ Below w.heap.size w w' := by
  have HB1 := Lib.hid B1
  have HB2 := Lib.hid B2
  have HO2 := Lib.hid ok2
  have HL1 := Lib.hid h1
  have HL2 := Lib.hid h2
  clear B1 B2 ok2 h1 h2
  by_cases hb1 : 20 < n1
  · have hI : (20 : Int) < (n1 : Int) := by omega
    go_enter Try.func5, Try.ntmps5
    go_wp2_with (go_at_call 7; refine (awake_any _).mono ?_; rintro e w9 ⟨rfl, hb9⟩; have L9 := Lib.hid hb9; clear hb9)
    go_ret
    exact ⟨rfl, L9.out⟩
  · by_cases hb2 : 20 < n2
    · have hI : ¬ (20 : Int) < (n1 : Int) := by omega
      have hI2 : (20 : Int) < (n2 : Int) := by omega
      go_enter Try.func5, Try.ntmps5
      go_wp2_with (go_at_call 7; refine (awake_any _).mono ?_; rintro e w9 ⟨rfl, hb9⟩; have L9 := Lib.hid hb9; clear hb9)
      go_ret
      exact ⟨rfl, L9.out⟩
    · have hI : ¬ (20 : Int) < (n1 : Int) := by omega
      have hI2 : ¬ (20 : Int) < (n2 : Int) := by omega
      have hp := pne
      go_enter Try.func5, Try.ntmps5
      go_upto_region 6 with (go_at_call 14; refine (given_120 w).mono ?_; rintro e w1 ⟨K, J, rfl, hq1⟩; have Q1 := Lib.hid hq1; clear hq1)
      go_wp2
      have hstart : WC w w1 K J (newD 120) (newS 120) (.slice none 0 0) [] := ⟨Q1.out, World.ownsRow_nil _ _ _ _, (fun _ h => by cases h), (fun _ h => by cases h)⟩
      have Hstart := Lib.hid hstart
      clear hstart
      go_loopw [6, 7, 8] (fun v6 v7 v8 wr => ∃ (i : Nat) (J : LK), i ≤ n1 ∧ v8 = .int .i64 i ∧ v6 = .pointer (some ⟨J.g, 0, none⟩) ∧ ∃ (D : DS) (S : LS) (qs : List Tp), Hid (WC w wr K J D S v7 qs ∧ WG i D S ∧ qs.map (·.M) = S.texts)) (fun _ _ v _ => n1 - (intOf v).toNat)
      case atStart => exact ⟨0, J, Nat.zero_le _, rfl, rfl, _, _, [], Hstart.out, wg_new, rfl⟩
      case round =>
        obtain ⟨i, J2, hi, rfl, rfl, D, S, qs, hr⟩ := hrel
        clear Hstart Q1
        by_cases hlt : i < n1
        · have hltI : (i : Int) < (n1 : Int) := by omega
          obtain ⟨g, off, t, m, rfl, hcf, hm, hB, hin⟩ := tp_at HB1.out i n1 HL1.out hlt
          have hc := hcf _ hr.out.1.st.low
          have Hcf := Lib.hid hcf
          clear hcf
          have Hm := Lib.hid hm
          have HB := Lib.hid hB
          have Hin := Lib.hid hin
          clear hm hB hin
          by_cases h6 : 600 < m
          · have h6I : (600 : Int) < (m : Int) := by omega
            go_wp2_with (go_at_call 7; refine (awake_any _).mono ?_; rintro e w9 ⟨rfl, hb9⟩; have L9 := Lib.hid hb9; clear hb9)
            go_ret
            exact ⟨rfl, hr.out.1.st.low.trans (L9.out.mono hr.out.1.st.low.size)⟩
          · have h6I : ¬ (600 : Int) < (m : Int) := by omega
            go_upto_region 12 with (fail)
            go_cut [54] from 43 to 54 (fun s54 wx => wx = wr ∧ ∃ b : Bool, s54 = .bool b ∧ (b = true → i < n2))
            case first =>
              by_cases h2 : i < n2
              · have h2I : (i : Int) < (n2 : Int) := by omega
                obtain ⟨b, off2, x, rfl, hcx, hrx, hox⟩ := act_at HB2.out HO2.out hr.out.1.st.low i n2 HL2.out h2
                obtain ⟨z, hz⟩ : ∃ z, z = x.whole := ⟨_, rfl⟩
                rw [← hz] at hcx
                clear hz
                by_cases hw : 0 ≤ z
                · go_wp2
                  go_meet
                  exact ⟨rfl, true, rfl, fun _ => h2⟩
                · go_wp2
                  go_meet
                  exact ⟨rfl, false, rfl, fun h => by cases h⟩
              · have h2I : ¬ (i : Int) < (n2 : Int) := by omega
                go_wp2
                go_meet
                exact ⟨rfl, false, rfl, fun h => by cases h⟩
            case rest =>
              obtain ⟨rfl, b, rfl, hb⟩ := hcut
              have Hb := Lib.hid hb
              clear hb
              go_upto_if 54 with (fail)
              go_cut [] from 55 to 66 (fun wx => ∃ D', WC w wx K J2 D' S u7 qs ∧ WG i D' S)
              case first =>
                cases b with
                | false =>
                  go_wp2
                  go_meet
                  exact ⟨D, hr.out.1, hr.out.2.1⟩
                | true =>
                  have h2 := Hb.out rfl
                  have h2I : (i : Int) < (n2 : Int) := by omega
                  obtain ⟨b3, off2, x, rfl, hcx, hrx, hox⟩ := act_at HB2.out HO2.out hr.out.1.st.low i n2 HL2.out h2
                  have cd : wc.drew.cell? ⟨b3, off2 + i * 20 + 1, none⟩ = some (.int .i64 x.whole) := hcx
                  have lm := loadM_eq (w := wc.drew) hox.mlen hrx
                  have Hcut := Lib.hid (w_cut (hr.out.1.later (Below.refl _ _).drew) hr.out.2.1 x.whole x.mask hox.whole.2 hox.mlen hox.minb)
                  clear hcx hrx hox
                  go_upto_region 13 with (fail)
                  go_region_with (go_at_call 19; refine Hcut.out.mono ?_; rintro e w4 ⟨⟨E, rfl⟩, D4, hw4, hg4⟩; have W4 := Lib.hid hw4; have G4 := Lib.hid hg4; clear hw4 hg4)
                  all_goals
                    go_wp2
                    go_meet
                    exact ⟨D4, W4.out, G4.out⟩
              case rest =>
                obtain ⟨D2, hw2, hg2⟩ := hcut
                have htx := hr.out.2.2
                rename World => w2
                have Htx := Lib.hid htx
                clear htx hr hc
                have happ := w_append hw2 hg2 (by omega) t HB.out Hin.out m Hm.out
                rcases hg2.app (by omega) t.M (by have := Hm.out; omega) with ⟨e, hg3, ht3⟩ | ⟨e, hl3, hwr3, ts, u, hts, hu, hlog⟩
                · rw [e] at happ
                  have Happ := Lib.hid happ
                  have Hg3 := Lib.hid hg3
                  have Ht3 := Lib.hid ht3
                  have hc2 := Hcf.out _ hw2.st.low
                  have hql : qs.length ≤ 1000 := by
                    have h1 := congrArg List.length Htx.out
                    rw [List.length_map] at h1
                    have h2 := hw2.st.lg.cnt
                    have h3 := hw2.st.lg.fit
                    have h4 := hg2.sh.2
                    omega
                  have Hql := Lib.hid hql
                  clear happ hg3 ht3 e hw2 hg2 hql
                  go_upto_region 15 with (go_at_call 15; refine Happ.out.mono ?_; rintro e w3 ⟨J3, rfl, hJ3, hw3⟩; have W3 := Lib.hid hw3; have G3 := Lib.hid hJ3; clear hw3 hJ3)
                  have hc3 := Hcf.out _ W3.out.st.low
                  clear hc2
                  go_wp2_with (at_builtin; refine wpList_app_tp rfl (.tmp 75) (.tmp 80) rfl W3.out t ⟨HB.out, Hin.out⟩ m Hm.out rfl rfl Hql.out ?_; intro v9 w9 hw9 _; have W9 := Lib.hid hw9; clear hw9)
                  refine ⟨⟨i + 1, J3, by omega, by go_num, by rw [G3.out], _, _, qs ++ [t], W9.out, Hg3.out, ?_⟩, by simp [intOf]; omega⟩
                  rw [Ht3.out, ← Htx.out, List.map_append]
                  rfl
                · rw [e] at happ
                  have Happ := Lib.hid happ
                  have hc2 := Hcf.out _ hw2.st.low
                  have hql : qs.length ≤ 1000 := by
                    have h1 := congrArg List.length Htx.out
                    rw [List.length_map] at h1
                    have h2 := hw2.st.lg.cnt
                    have h3 := hw2.st.lg.fit
                    have h4 := hg2.sh.2
                    omega
                  have Hql := Lib.hid hql
                  have Hl3 := Lib.hid hl3
                  have Hu := Lib.hid hu
                  have Hwr3 := Lib.hid hwr3
                  have Hts := Lib.hid hts
                  have Hlog := Lib.hid hlog
                  obtain ⟨D3, hD3⟩ : ∃ D3, D3 = (appD D2 S t.M).1 := ⟨_, rfl⟩
                  obtain ⟨S3, hS3⟩ : ∃ S3, S3 = (appD D2 S t.M).2.1 := ⟨_, rfl⟩
                  rw [← hD3, ← hS3] at Happ
                  rw [← hD3] at Hl3 Hwr3 Hlog
                  clear happ e hw2 hg2 hql hl3 hu hwr3 hts hlog hD3 hS3
                  go_upto_region 19 with (first
                    | (go_at_call 15; refine Happ.out.mono ?_; rintro e w3 ⟨J3, rfl, hJ3, hw3⟩; have W3 := Lib.hid hw3; clear hw3 hJ3)
                    | (go_at_call 20; refine (w_restart W3.out).mono ?_; rintro e w4 ⟨rfl, hw4⟩; have W4 := Lib.hid hw4; clear hw4))
                  have Hg4 := Lib.hid (WG.again Hl3.out Hwr3.out Hu.out Hlog.out)
                  have Hop := Lib.hid (w_open W4.out Hl3.out rfl Hlog.out)
                  clear hc2
                  go_upto_region 23 with (first
                    | (go_at_call 18; refine Hop.out.mono ?_; rintro e w5 ⟨J5, rfl, hw5, hb5⟩; have W5 := Lib.hid hw5; clear hw5 hb5)
                    | (go_at_call 13; refine (w_all W5.out rfl).mono ?_; rintro e w6 ⟨g6, rfl, ht6, hw6, hb6⟩; have W6 := Lib.hid hw6; have T6 := Lib.hid ht6; clear hw6 ht6 hb6))
                  have R6 : Hid (Rows w5.heap.size ts ts.length ts.length g6 w6) := T6.out
                  have T6 : Hid (TxAt w6 (some ⟨g6, 0, none⟩) ts) := R6.out.tx rfl (fun x hx => (W6.out.st.lg.inb x hx).1)
                  have Hvlt : Hid (∀ q ∈ u7.ownBlock.toList, q < w5.heap.size) := fun q hq => (W5.out.own.lt q (by simpa using hq)).2
                  obtain ⟨A7, c7, hv7, ht7⟩ := W6.out.tx
                  subst hv7
                  have Ht7 := Lib.hid ht7
                  have hq1 : (qs.map (·.M)).length = qs.length := List.length_map _
                  obtain ⟨q, hq⟩ : ∃ q, q = qs.length := ⟨_, rfl⟩
                  rw [← hq] at hq1
                  have Hq1 := Lib.hid hq1
                  obtain ⟨n, hn⟩ : ∃ n, n = ts.length := ⟨_, rfl⟩
                  have hn1 : n ≤ 1000 := by
                    have h2 := W6.out.st.lg.cnt
                    have h3 := W6.out.st.lg.fit
                    simp only at h2 h3
                    omega
                  have hql := Hql.out
                  rw [← hq] at W6 hql Hvlt ⊢
                  rw [← hn] at R6 ⊢
                  have Hn := Lib.hid hn.symm
                  clear ht7 hq1 hq hn Hop W5 W4 W3 Happ Hlog Hwr3 Hl3 Hu
                  rcases Hts.out with e | e
                  · have hts : ts = qs.map (·.M) := e.trans Htx.out.symm
                    obtain rfl : n = q := by rw [← Hn.out, hts]; exact Hq1.out
                    have Hts2 := Lib.hid hts
                    have hwr : IntKind.i64.wrap ((n : Int) + 1) = (n : Int) + 1 := by rw [IntKind.wrap_i64]; omega
                    have hne : ((n : Int) == (n : Int) + 1) = false := by rw [beq_eq_false_iff_ne]; omega
                    clear hts e Hts
                    go_upto_region 23 with (fail)
                    go_big_quiet (fail)
                    go_wp2_with (go_at_call 23; refine (w_same (W6.out.later (Below.drewN (Below.refl _ _) _)) (some ⟨g6, 0, none⟩) A7 n n n c7 ts (qs.map (·.M)) Hn.out Hq1.out (T6.out.later (Below.drewN (Below.refl _ _) _)) (Ht7.out.later (Below.drewN (Below.refl _ _) _)) hn1 hn1 Hts2.out).mono ?_; rintro e w7 ⟨rfl, hw7, hb7⟩; have W7 := Lib.hid hw7; clear hw7 hb7)
                    refine ⟨⟨i + 1, J5, by omega, by go_num, rfl, _, _, qs, W7.out, Hg4.out, Hts2.out.symm⟩, by simp [intOf]; omega⟩
                  · have hts : ts = qs.map (·.M) ++ [t.M] := by rw [e, Htx.out]
                    have hnq : n = q + 1 := by rw [← Hn.out, hts, List.length_append, Hq1.out]; rfl
                    have hnI : (n : Int) = (q : Int) + 1 := by omega
                    have hqn : q < n := by omega
                    have hqnI : (q : Int) < (n : Int) := by omega
                    obtain ⟨B8, c8, hc8, hB8⟩ := tx_last T6.out hts Hq1.out Hm.out
                    have hc0 := Hcf.out _ W6.out.st.low
                    have k1 := fun a => Str.conv_any (w := w6.drewN a) (hB8.below (Below.drewN (Below.refl _ _) a) (Nat.le_refl _)) Hm.out
                    have k2 := fun a => Str.conv_any (w := w6.drewN a) ((HB.out.below W6.out.st.low (Nat.le_refl _)).below (Below.drewN (Below.refl _ _) a) (Nat.le_refl _)) Hm.out
                    obtain ⟨T, hT⟩ : ∃ T, T = strOfNums t.M := ⟨_, rfl⟩
                    rw [← hT] at k1 k2
                    have Hts2 := Lib.hid hts
                    have Hnq := Lib.hid hnq
                    have hwr : IntKind.i64.wrap ((q : Int) + 1) = (q : Int) + 1 := by rw [IntKind.wrap_i64]; omega
                    have hne : ((n : Int) == (q : Int) + 1) = true := by rw [beq_iff_eq]; omega
                    clear hts e Hts hB8 hT hnq hnI
                    go_upto_region 23 with (fail)
                    go_big_quiet (fail)
                    have W7 := Lib.hid (W6.out.later (Below.drewN (Below.refl _ _) nq))
                    have R7 := Lib.hid (R6.out.later (Below.drewN (Below.refl _ _) nq))
                    have hlen : (qs ++ [t]).length = n := by
                      have h9 := Hq1.out
                      rw [List.length_map] at h9
                      rw [List.length_append, h9]
                      exact Hnq.out.symm
                    have Hlen := Lib.hid hlen
                    clear k1 k2 hc8 hc0 W6 R6 T6 Ht7 hlen
                    generalize w6.drewN nq = w7 at W7 R7 ⊢
                    have hc7 := Hcf.out _ W7.out.st.low
                    go_wp2_with (first
                      | (at_builtin; refine wpList_app_tp rfl (.tmp 118) (.tmp 123) rfl W7.out t ⟨HB.out, Hin.out⟩ m Hm.out rfl rfl Hql.out ?_; intro v9 w9 hw9 hch9; have R9 := Lib.hid (R7.out.chg hch9 Hvlt.out); obtain ⟨A9, c9, hv9, ht9⟩ := hw9.tx; rw [Hlen.out] at hv9; subst hv9; have W9 := Lib.hid hw9; have Ht9 := Lib.hid ht9; clear hw9 ht9 hch9)
                      | (go_at_call 23; refine (w_same W9.out (some ⟨g6, 0, none⟩) A9 n n n c9 ts ((qs ++ [t]).map (·.M)) Hn.out (by rw [List.length_map]; exact Hlen.out) (R9.out.tx Hn.out.symm (fun x hx => (W9.out.st.lg.inb x hx).1)) Ht9.out hn1 hn1 (by rw [Hts2.out, List.map_append]; rfl)).mono ?_; rintro e w8 ⟨rfl, hw8, hb8⟩; have W8 := Lib.hid hw8; clear hw8 hb8))
                    refine ⟨⟨i + 1, J5, by omega, by go_num, rfl, _, _, qs ++ [t], W8.out, Hg4.out, by rw [List.map_append]; exact Hts2.out.symm⟩, by simp [intOf]; omega⟩
        · have hltI : ¬ (i : Int) < (n1 : Int) := by omega
          have hG := hr.out.2.1
          have hn : S.texts.length ≤ 1000 := by
            have h2 := hr.out.1.st.lg.cnt
            have h3 := hr.out.1.st.lg.fit
            have h4 := hG.sh.2
            omega
          have hqn : qs.length = S.texts.length := by rw [← hr.out.2.2, List.length_map]
          have hrl : (restD D).data.length = 15360 := hG.len
          have hrg : LogAt (reg (restD D) 0 120) S.texts S.used := hG.log
          have Htx := Lib.hid hr.out.2.2.symm
          have V0 := Lib.hid hr.out.1
          obtain ⟨A7, c7, hv7, ht7⟩ := V0.out.tx
          obtain ⟨n, hn'⟩ : ∃ n, n = S.texts.length := ⟨_, rfl⟩
          rw [← hn'] at hqn hn
          rw [hqn] at hv7
          subst hv7
          have Hnn := Lib.hid hn'.symm
          have Hqm : Hid ((qs.map (·.M)).length = n) := by show _ = _; rw [List.length_map]; exact hqn
          have hU : ∀ wx Jx Dx Sx, WC w wx K Jx Dx Sx (.slice A7 n c7) qs → ∃ A c, A = A7 ∧ c = c7 ∧ TxAt wx A (qs.map (·.M)) := fun wx Jx Dx Sx hx => by
            obtain ⟨A, c, hv, ht⟩ := hx.tx
            cases hv
            exact ⟨_, _, rfl, rfl, ht⟩
          have HU : Hid (∀ wx Jx Dx Sx, WC w wx K Jx Dx Sx (.slice A7 n c7) qs → TxAt wx A7 (qs.map (·.M))) := fun wx Jx Dx Sx hx => by
            obtain ⟨A, c, rfl, rfl, ht⟩ := hU wx Jx Dx Sx hx
            exact ht
          have Hrl := Lib.hid hrl
          have Hrg := Lib.hid hrg
          obtain ⟨D9, hD9⟩ : ∃ D9, D9 = restD D := ⟨_, rfl⟩
          have Ho9 : Hid (D9.off = false) := by show _ = _; rw [hD9]; rfl
          have Hres := Lib.hid (w_restart V0.out)
          rw [← hD9] at Hrl Hrg Hres
          have hrI : ∀ g2 : Nat, True := fun _ => trivial
          clear hr hG hn' ht7 hqn hrl hrg hU hD9 hrI
          go_upto_region 30 with (first
            | (go_at_call 20; refine Hres.out.mono ?_; rintro e w3 ⟨rfl, hw3⟩; have V3 := Lib.hid hw3; clear hw3)
            | (go_at_call 18; refine (w_open V3.out Hrl.out Ho9.out Hrg.out).mono ?_; rintro e w4 ⟨J5, rfl, hw4, hb4⟩; have V4 := Lib.hid hw4; have U4 := Lib.hid (V3.out.later hb4); clear hw4 hb4))
          have Hall5 : Hid (∀ wx Dx (S5 : LS), S5.texts = S.texts → WC w wx K J5 Dx S5 (.slice A7 n c7) qs → Calls Try.prog 13 #[.pointer (some ⟨J5.g, 0, none⟩)] wx fun e w' => ∃ g2, e = .returned (.slice (some ⟨g2, 0, none⟩) n n) ∧ TxAt w' (some ⟨g2, 0, none⟩) S.texts ∧ WC w w' K J5 Dx S5 (.slice A7 n c7) qs ∧ Below wx.heap.size wx w') := fun wx Dx S5 hS hx => (w_all hx rfl).mono (by
            rintro e w' ⟨g2, rfl, h1, h2, h3⟩
            rw [hS] at h1 ⊢
            rw [Hnn.out] at h1 ⊢
            exact ⟨g2, rfl, h1.tx Hnn.out.symm (fun x hx => (h2.st.lg.inb x (by rw [hS]; exact hx)).1), h2, h3⟩)
          have Hall2 : Hid (∀ wx Dx (S5 : LS), S5.texts = S.texts → WC w wx K J2 Dx S5 (.slice A7 n c7) qs → Calls Try.prog 13 #[.pointer (some ⟨J2.g, 0, none⟩)] wx fun e w' => ∃ g2, e = .returned (.slice (some ⟨g2, 0, none⟩) n n) ∧ TxAt w' (some ⟨g2, 0, none⟩) S.texts ∧ WC w w' K J2 Dx S5 (.slice A7 n c7) qs ∧ Below wx.heap.size wx w') := fun wx Dx S5 hS hx => (w_all hx rfl).mono (by
            rintro e w' ⟨g2, rfl, h1, h2, h3⟩
            rw [hS] at h1 ⊢
            rw [Hnn.out] at h1 ⊢
            exact ⟨g2, rfl, h1.tx Hnn.out.symm (fun x hx => (h2.st.lg.inb x (by rw [hS]; exact hx)).1), h2, h3⟩)
          have Hsame : Hid (∀ wx (g2 : Nat), TxAt wx (some ⟨g2, 0, none⟩) S.texts → TxAt wx A7 (qs.map (·.M)) → Calls Try.prog 23 #[.slice (some ⟨g2, 0, none⟩) n n, .slice A7 n c7] wx fun e w' => e = .returned (.bool true) ∧ Below wx.heap.size wx w') := fun wx g2 h1 h2 => (same_any (some ⟨g2, 0, none⟩) A7 n n n c7 S.texts (qs.map (·.M)) Hnn.out Hqm.out h1 h2 (by omega) (by omega)).mono (by
            rintro e w' ⟨rfl, hb⟩
            rw [decide_eq_true Htx.out]
            exact ⟨rfl, hb⟩)
          have Hus5 : Hid (∀ wx, WC w wx K J5 D9 ⟨0, 120, S.used, S.texts, false⟩ (.slice A7 n c7) qs → Calls Try.prog 22 #[.pointer (some ⟨J5.g, 0, none⟩)] wx fun e w' => e = .returned (.int .i64 S.used) ∧ wx = w') := fun wx hx => used_st (S := ⟨0, 120, S.used, S.texts, false⟩) hx.st rfl
          have Hus2 : Hid (∀ wx, WC w wx K J2 D9 S (.slice A7 n c7) qs → Calls Try.prog 22 #[.pointer (some ⟨J2.g, 0, none⟩)] wx fun e w' => e = .returned (.int .i64 S.used) ∧ wx = w') := fun wx hx => used_st hx.st rfl
          obtain ⟨us, hus⟩ : ∃ us, us = S.used := ⟨_, rfl⟩
          rw [← hus] at Hus5 Hus2 V4
          clear Hres V3 V0 Hrl Hrg hus
          go_wp2_with (first
            | (go_at_call 13; with_reducible refine (Hall5.out _ _ ⟨0, 120, us, S.texts, false⟩ rfl V4.out).mono ?_; rintro e w5 ⟨g5, rfl, hr5, hw5, hb5⟩; have R5 := Lib.hid hr5; have V5 := Lib.hid hw5; have U5 := Lib.hid (U4.out.later hb5); clear hr5 hw5 hb5)
            | (go_at_call 23; with_reducible refine (Hsame.out _ _ R5.out (HU.out _ _ _ _ V5.out)).mono ?_; rintro e w6 ⟨rfl, hb6⟩; have V6 := Lib.hid (V5.out.later hb6); have U6 := Lib.hid (U5.out.later hb6); clear hb6)
            | (go_at_call 13; with_reducible refine (Hall2.out _ _ S rfl U6.out).mono ?_; rintro e w7 ⟨g7, rfl, hr7, hw7, hb7⟩; have R7 := Lib.hid hr7; have U7 := Lib.hid hw7; have V7 := Lib.hid (V6.out.later hb7); clear hr7 hw7 hb7)
            | (go_at_call 23; with_reducible refine (Hsame.out _ _ R7.out (HU.out _ _ _ _ V7.out)).mono ?_; rintro e w8 ⟨rfl, hb8⟩; have V8 := Lib.hid (V7.out.later hb8); have U8 := Lib.hid (U7.out.later hb8); clear hb8)
            | (go_at_call 22; with_reducible refine (Hus5.out _ V8.out).mono ?_; rintro e w' ⟨rfl, rfl⟩)
            | (go_at_call 22; with_reducible refine (Hus2.out _ U8.out).mono ?_; rintro e w' ⟨rfl, rfl⟩)
            | (go_at_call 7; refine (awake_any _).mono ?_; rintro e w9 ⟨rfl, hb9⟩; have L9 := Lib.hid hb9; clear hb9))

          go_ret
          exact ⟨rfl, V8.out.st.low.trans (L9.out.mono V8.out.st.low.size)⟩
end Go.Proofs.Ythjjkbgkfikglaa.Slt
