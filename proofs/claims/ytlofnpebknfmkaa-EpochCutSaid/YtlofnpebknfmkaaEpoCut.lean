/- DERIVED. The walk of EpochCut. -/
import Derived.Test.YtlofnpebknfmkaaEpoEl
import Derived.Test.YtlofnpebknfmkaaEpoArgs
import Derived.BigQuiet
import Derived.Deep.DeepCutAuto
namespace Go.Proofs.Ytlofnpebknfmkaa.Epo
open Go.RowKit Dsk
attribute [local go_sem ↓ high] loadAtM
/-- between two rounds: a disk that is on, without a cut, whose counter would tell x. -/
structure CS (w0 w : World) (K : DK) (D : DS) (i x : Nat) : Prop where
  el : EL w0 w K D []
  off : D.off = false
  laid : D.laid = false
  len : D.data.length = 384
  wr : D.writes ≤ 4 * i
  cnt : Cnt (regL D 0 384) x
theorem CS.later {w0 w w' : World} {K : DK} {D : DS} {i x : Nat} (h : CS w0 w K D i x) (hb : Below w.heap.size w w') : CS w0 w' K D i x := ⟨h.el.later hb, h.off, h.laid, h.len, h.wr, h.cnt⟩
theorem cs_new {w0 w : World} {K : DK} (h : EL w0 w K (newD 3) []) : CS w0 w K (newD 3) 0 0 :=
  ⟨h, rfl, rfl, List.length_replicate, Int.le_refl 0, cnt_new 3 0 384 (by decide)⟩
theorem secs3 {D : DS} (h : D.data.length = 384) : D.secs = 3 := by unfold DS.secs; rw [h]
theorem cs_open {w0 w : World} {K : DK} {D : DS} {i x : Nat} (h : CS w0 w K D i x) : Calls Try.prog 11 #[.pointer (some ⟨K.g, 0, none⟩), .int .i64 0, .int .i64 3] w fun e w' => ∃ g, e = .returned (.tuple #[.pointer (some ⟨g, 0, none⟩), .int .i64 0]) ∧ EL w0 w' K D [(g, ⟨0, 384, x⟩)] :=
  (el_open h.el 0 3 x (by decide) (by rw [secs3 h.len]; decide) h.off h.cnt).mono fun _ _ ⟨g, e, h, _⟩ => ⟨g, e, h⟩
/-- inside a round: behind k steps of n. -/
structure IN (w0 w : World) (K : DK) (D : DS) (g i x n k : Nat) : Prop where
  el : EL w0 w K D [(g, ⟨0, 384, x + min k n⟩)]
  len : D.data.length = 384
  wr : D.writes ≤ 4 * i + k
  yes : k ≤ n → D.off = false ∧ D.laid = true ∧ D.whole = (n : Int) - k ∧ Cnt (regL D 0 384) (x + k)
  no : n < k → D.off = true ∧ (Cnt (regL D 0 384) (x + n) ∨ Cnt (regL D 0 384) (x + n + 1))
theorem in_cut {w0 w w1 : World} {K : DK} {D : DS} {g i x n : Nat} {m : List Int} (h : EL w0 w K D [(g, ⟨0, 384, x⟩)]) (c : CS w0 w1 K D i x) (hn : n ≤ 3) (hm : MOk m) : Calls Try.prog 18 #[.pointer (some ⟨K.g, 0, none⟩), .int .i64 n, .agg (vals m).toArray] w fun e w' => e = .returned (.int .i64 0) ∧ ∃ D', IN w0 w' K D' g i x n 0 := by
  have he : refE D (decide (0 ≤ (n : Int))) = 0 := by rw [decide_eq_true (by omega), refE, c.off]; rfl
  refine (cut_any h.ed.dsk n m (by omega) hm.len hm.inb).mono ?_
  rintro e w' ⟨rfl, hd, hc⟩
  rw [he]
  refine ⟨rfl, _, h.chg hd hc, ?_, ?_, fun _ => ?_, fun h => absurd h (Nat.not_lt_zero _)⟩
  · rw [cutD_yes he]; exact c.len
  · rw [cutD_yes he]
    have := c.wr
    show D.writes ≤ _
    omega
  · rw [cutD_yes he]
    exact ⟨c.off, rfl, by show (n : Int) = _; omega, c.cnt⟩
theorem in_next {w0 w : World} {K : DK} {D : DS} {g i x n k : Nat} (h : IN w0 w K D g i x n k) (hk : k ≤ n) (hx : x + n < 384) (hi : i ≤ 30) : Calls Try.prog 16 #[.pointer (some ⟨g, 0, none⟩)] w fun e w' => e = .returned (.int .i64 (if k < n then 0 else 12)) ∧ ∃ D', IN w0 w' K D' g i x n (k + 1) := by
  obtain ⟨ho, hl, hw, hc⟩ := h.yes hk
  have hmin : min k n = k := Nat.min_eq_left hk
  have hv := h.el
  rw [hmin] at hv
  have hwr := h.wr
  have hlen := h.len
  have q := next_q D 0 (x + k) ho (by omega)
  have hcn := q.cnt (n := 384) (by omega) (by omega) hc
  have hd : D.due = decide (k = n) := by
    unfold DS.due
    rw [hl, hw, Bool.true_and]
    by_cases e : k = n
    · rw [decide_eq_true e, decide_eq_true (by omega)]
    · rw [decide_eq_false e, decide_eq_false (by omega)]
  refine (el_next (L1 := []) (L2 := []) hv ⟨by show x + k < 384; omega, by show 0 * 128 + 384 ≤ _; omega, by omega⟩ ho).mono ?_
  rintro e w' ⟨rfl, hel⟩
  by_cases hkn : k < n
  · have hd0 : D.due = false := by rw [hd, decide_eq_false (by omega)]
    obtain ⟨y1, y2, y3, y4, y5⟩ := q.yes hd0
    rw [if_pos (.inl hd0)] at hcn
    rw [hl, if_pos rfl] at y4
    have hst : (CV.mk 0 384 (x + k)).step (nextD D 0 (x + k)).2 = ⟨0, 384, x + min (k + 1) n⟩ := by
      rw [y1, Nat.min_eq_left hkn]
      rfl
    refine ⟨by rw [if_pos hkn]; simp only [y1], _, by rw [← hst]; exact hel, by rw [q.len]; exact hlen, by rw [q.wr]; omega, fun _ => ⟨y2, by rw [y3, hl], by rw [y4, hw]; omega, hcn⟩, fun h => by omega⟩
  · have hkn' : k = n := by omega
    have hd1 : D.due = true := by rw [hd, decide_eq_true hkn']
    obtain ⟨y1, y2⟩ := q.no hd1
    have hst : (CV.mk 0 384 (x + k)).step (nextD D 0 (x + k)).2 = ⟨0, 384, x + min (k + 1) n⟩ := by
      rw [y1, Nat.min_eq_right (by omega), ← hkn']
      rfl
    refine ⟨by rw [if_neg hkn]; simp only [y1], _, by rw [← hst]; exact hel, by rw [q.len]; exact hlen, by rw [q.wr]; omega, fun h => by omega, fun _ => ⟨y2, ?_⟩⟩
    rw [← hkn']
    by_cases hb : D.due = false ∨ bitM D.mask ((x + k) % 128) = true
    · rw [if_pos hb] at hcn
      exact .inr hcn
    · rw [if_neg hb] at hcn
      exact .inl hcn
theorem in_value {w0 w : World} {K : DK} {D : DS} {g i x n k : Nat} (h : IN w0 w K D g i x n k) (hk : n ≤ k) : Calls Try.prog 14 #[.pointer (some ⟨g, 0, none⟩)] w fun e w' => e = .returned (.int .i64 (x + n : Nat)) ∧ w = w' :=
  el_value h.el (List.mem_cons_self ..) (x + n) (by show x + min k n = _; rw [Nat.min_eq_right hk])
theorem in_last {w0 w : World} {K : DK} {D : DS} {g i x n : Nat} (h : IN w0 w K D g i x n (n + 1)) (hx : x + n < 384) : Calls Try.prog 16 #[.pointer (some ⟨g, 0, none⟩)] w fun e w' => e = .returned (.int .i64 12) ∧ IN w0 w' K D g i x n (n + 1) := by
  have ho := (h.no (by omega)).1
  have hv := h.el
  rw [Nat.min_eq_right (by omega)] at hv
  refine (el_next_off hv (List.mem_cons_self ..) (by show x + n < 384; exact hx) (by show 0 * 128 + 384 ≤ _; rw [h.len]; decide) ho).mono ?_
  rintro e w' ⟨rfl, hel⟩
  exact ⟨rfl, by rw [Nat.min_eq_right (by omega)]; exact hel, h.len, h.wr, h.yes, h.no⟩
theorem in_restart {w0 w : World} {K : DK} {D : DS} {g i x n : Nat} (h : IN w0 w K D g i x n (n + 1)) (hn : n ≤ 3) : Calls Try.prog 19 #[.pointer (some ⟨K.g, 0, none⟩)] w fun e w' => e = .returned (.int .i64 0) ∧ ∃ D', CS w0 w' K D' (i + 1) (x + n) ∨ CS w0 w' K D' (i + 1) (x + n + 1) := by
  refine (restart_any h.el.ed.dsk).mono ?_
  rintro e w' ⟨rfl, hd, hc⟩
  have he : EL w0 w' K (restD D) [] := ⟨h.el.ed.chg hd hc, (fun _ h => by cases h), List.nodup_nil⟩
  have hwr := h.wr
  have hwr' : (restD D).writes ≤ 4 * ((i + 1 : Nat) : Int) := by
    show D.writes ≤ _
    omega
  refine ⟨rfl, restD D, ?_⟩
  rcases (h.no (by omega)).2 with h1 | h1
  · exact .inl ⟨he, rfl, rfl, h.len, hwr', h1⟩
  · exact .inr ⟨he, rfl, rfl, h.len, hwr', h1⟩
theorem new_3 (w : World) : Calls Try.prog 8 #[.int .i64 3] w fun e w' => ∃ K : DK, e = .returned (.tuple #[.pointer (some ⟨K.g, 0, none⟩), .int .i64 0]) ∧ CS w w' K (newD 3) 0 0 :=
  (el_new 3 w (by decide) (by decide)).mono fun _ _ ⟨K, e, h⟩ => ⟨K, e, cs_new h⟩
theorem byte_at {w wr : World} {A : Option Addr} {c n : Nat} {L : List Int} (h : Byt w A c L) (hi : InB L) (hb : Below w.heap.size w wr) (i : Nat) (hn : L.length = n) (hlt : i < n) : ∃ g off y, A = some ⟨g, off, none⟩ ∧ wr.cell? ⟨g, off + i, none⟩ = some (.int .u8 y) ∧ 0 ≤ y ∧ y < 256 := by
  obtain ⟨g, off, rfl, hg, hc⟩ := h.2.2 (by omega)
  exact ⟨g, off, L.getD i 0, rfl, (hb.cell (p := ⟨g, off + i, none⟩) hg).trans (hc i (by omega)), hi i⟩
theorem mask_at {w wr : World} {A : Option Addr} {c n : Nat} {ms : List (List Int)} (h : Masks w A c ms) (ok : ∀ m ∈ ms, MOk m) (hb : Below w.heap.size w wr) (i : Nat) (hn : ms.length = n) (hlt : i < n) : ∃ b off m, A = some ⟨b, off, none⟩ ∧ wr.rangeAt b (off + i * 16) (vals m) ∧ MOk m := by
  obtain ⟨b, off, rfl, hg, hc⟩ := h.2.2 (by omega)
  have hx : ms[i]? = some ms[i] := List.getElem?_eq_getElem (by omega)
  exact ⟨b, off, ms[i], rfl, fun j v hv => (hb.cell (p := ⟨b, off + i * 16 + j, none⟩) hg).trans (hc i _ hx j v hv), ok _ (List.getElem_mem _)⟩
set_option maxRecDepth 100000 in
set_option maxHeartbeats 8000000 in
theorem cut_walk (A1 A2 : Option Addr) (n1 c1 n2 c2 : Nat) (L : List Int) (ms : List (List Int)) (h1 : L.length = n1) (h2 : ms.length = n2) (w : World) (B1 : Byt w A1 c1 L) (i1 : InB L) (B2 : Masks w A2 c2 ms) (ok2 : ∀ m ∈ ms, MOk m) :
    Calls Try.prog 5 #[.slice A1 n1 c1, .slice A2 n2 c2] w fun e w' => e = .returned (.bool true) ∧ Below w.heap.size w w' := by
  have HB1 := Lib.hid B1
  have HI1 := Lib.hid i1
  have HB2 := Lib.hid B2
  have HO2 := Lib.hid ok2
  have HL1 := Lib.hid h1
  have HL2 := Lib.hid h2
  clear B1 i1 B2 ok2 h1 h2
  go_enter Try.func5, Try.ntmps5
  go_upto_region 6 with (go_at_call 8; with_reducible refine (new_3 w).mono ?_; rintro e w1 ⟨K, rfl, hq1⟩; have Q1 := Lib.hid hq1; clear hq1)
  go_loopw [7, 8] (fun v7 v8 wr => ∃ i was : Nat, i ≤ 30 ∧ was ≤ 4 * i ∧ v8 = .int .i64 i ∧ v7 = .int .i64 was ∧ ∃ (D : DS) (x : Nat), (x = was ∨ x = was + 1) ∧ Hid (CS w wr K D i x)) (fun _ v _ => 30 - (intOf v).toNat)
  case atStart => exact ⟨0, 0, Nat.zero_le _, Nat.zero_le _, rfl, rfl, _, 0, .inl rfl, Q1.out⟩
  case round =>
    obtain ⟨i, was, hi, hwas, rfl, rfl, D, x, hx, hr⟩ := hrel
    clear Q1
    by_cases hlt1 : i < n1
    · have hI1 : (i : Int) < (n1 : Int) := by omega
      by_cases hlt2 : i < n2
      · have hI2 : (i : Int) < (n2 : Int) := by omega
        by_cases hlt3 : i < 30
        · have hI3 : (i : Int) < 30 := by omega
          go_upto_region 9 with (go_at_call 11; with_reducible refine (cs_open hr.out).mono ?_; rintro e w2 ⟨g, rfl, hq2⟩; have Q2 := Lib.hid hq2; clear hq2)
          go_cut [57] from 43 to 57 (fun s57 wx => wx = w2 ∧ s57 = .bool false)
          case first =>
            rcases hx with rfl | hx
            · go_wp2_with (go_at_call 14; with_reducible refine (el_value Q2.out (List.mem_cons_self ..) x rfl).mono ?_; rintro e w' ⟨rfl, rfl⟩)
              go_meet
              exact ⟨rfl, rfl⟩
            · have e1 : ((x : Int) == (was : Int)) = false := by rw [beq_eq_false_iff_ne]; omega
              have e2 : ((x : Int) == (was : Int) + 1) = true := by rw [beq_iff_eq]; omega
              have Hx := Lib.hid hx
              clear hx
              go_wp2_with (go_at_call 14; with_reducible refine (el_value Q2.out (List.mem_cons_self ..) x rfl).mono ?_; rintro e w' ⟨rfl, rfl⟩)
              all_goals first
                | (exfalso; have := Hx.out; omega)
                | (go_meet; first | exact ⟨rfl, rfl⟩ | exact ⟨rfl, by simp [bne, e1, e2]⟩)
          case rest =>
            obtain ⟨rfl, rfl⟩ := hcut
            obtain ⟨g1, o1, y, rfl, hcy, hy⟩ := byte_at HB1.out HI1.out Q2.out.ed.low i HL1.out hlt1
            obtain ⟨g2, o2, m, rfl, hrm, hm⟩ := mask_at HB2.out HO2.out Q2.out.ed.low i HL2.out hlt2
            have hx5 : x ≤ 4 * i + 1 := by omega
            go_upto_region 13 with (go_at_call 14; with_reducible refine (el_value Q2.out (List.mem_cons_self ..) x rfl).mono ?_; rintro e w' ⟨rfl, rfl⟩)
            obtain ⟨n, hn, hn3⟩ : ∃ n : Nat, y % 4 = n ∧ n ≤ 3 := ⟨(y % 4).toNat, by omega, by omega⟩
            have lm := loadM_eq hm.len hrm
            have Hcut := Lib.hid (in_cut Q2.out hr.out hn3 hm)
            rw [hn]
            clear hcy hy hrm hm hn Q2
            go_upto_region 16 with (go_at_call 18; refine Hcut.out.mono ?_; rintro e w3 ⟨rfl, D3, hq3⟩; have Q3 := Lib.hid hq3; clear hq3)
            clear Hcut lm hx hr
            go_loopw [7, 12] (fun v7 v12 wx => ∃ k s : Nat, k ≤ n + 1 ∧ s = x + min k n ∧ v12 = .int .i64 k ∧ v7 = .int .i64 s ∧ ∃ D', Hid (IN w wx K D' g i x n k)) (fun _ v _ => n + 1 - (intOf v).toNat)
            case atStart => exact ⟨0, x, Nat.zero_le _, by rw [Nat.zero_min]; rfl, rfl, rfl, _, Q3.out⟩
            case round =>
              obtain ⟨k, s, hk, hs, rfl, rfl, D4, hr4⟩ := hrel
              clear Q3
              by_cases hkn : k ≤ n
              · have hkI : (k : Int) ≤ (n : Int) := by omega
                have HN := in_next hr4.out hkn (by omega) hi
                by_cases hlt : k < n
                · have hltI : (k : Int) < (n : Int) := by omega
                  rw [if_pos hlt] at HN
                  have Hn := Lib.hid HN
                  have Hs := Lib.hid hs
                  have hs3 : s ≤ 200 := by omega
                  clear HN hs
                  go_wp2_with (go_at_call 16; refine Hn.out.mono ?_; rintro e w5 ⟨rfl, D5, hq5⟩; have Q5 := Lib.hid hq5; clear hq5)
                  refine ⟨⟨k + 1, s + 1, by omega, by have := Hs.out; omega, by go_num, by go_num, _, Q5.out⟩, by simp [intOf] <;> omega⟩
                · have hkn' : k = n := by omega
                  subst hkn'
                  have hltI : ¬ (k : Int) < (k : Int) := by omega
                  rw [if_neg hlt] at HN
                  have Hn := Lib.hid HN
                  have hs' : s = x + k := by rw [hs, Nat.min_self]
                  subst hs'
                  clear HN hs hlt hkn hkI
                  go_wp2_with (first
                    | (go_at_call 16; with_reducible refine Hn.out.mono ?_; rintro e w5 ⟨rfl, D5, hq5⟩; have Q5 := Lib.hid hq5; clear hq5)
                    | (go_at_call 14; with_reducible refine (in_value Q5.out (Nat.le_succ _)).mono ?_; rintro e w' ⟨rfl, rfl⟩))
                  refine ⟨⟨k + 1, x + k, Nat.le_refl _, by rw [Nat.min_eq_right (Nat.le_succ _)], by go_num, rfl, _, Q5.out⟩, by simp [intOf] <;> omega⟩
              · have hkI : ¬ (k : Int) ≤ (n : Int) := by omega
                have hkn' : k = n + 1 := by omega
                subst hkn'
                have hs' : s = x + n := by rw [hs, Nat.min_eq_right (Nat.le_succ _)]
                subst hs'
                have HN := Lib.hid (in_last hr4.out (by omega))
                clear hs hkn hk hr4
                go_wp2_with (first
                  | (go_at_call 16; with_reducible refine HN.out.mono ?_; rintro e w5 ⟨rfl, hq5⟩; have Q5 := Lib.hid hq5; clear hq5)
                  | (go_at_call 19; with_reducible refine (in_restart Q5.out hn3).mono ?_; rintro e w6 ⟨rfl, D6, hq6⟩; have Q6 := Lib.hid hq6; clear hq6))
                refine ⟨⟨i + 1, x + n, by omega, by omega, by go_num, rfl, D6, ?_⟩, by simp [intOf] <;> omega⟩
                rcases Q6.out with h | h
                · exact ⟨x + n, .inl rfl, h⟩
                · exact ⟨x + n + 1, .inr rfl, h⟩
        · have hI3 : ¬ (i : Int) < 30 := by omega
          rcases hx with rfl | hx
          · go_wp2_with (first
              | (go_at_call 11; with_reducible refine (cs_open hr.out).mono ?_; rintro e w2 ⟨g, rfl, hq2⟩; have Q2 := Lib.hid hq2; clear hq2)
              | (go_at_call 14; with_reducible refine (el_value Q2.out (List.mem_cons_self ..) x rfl).mono ?_; rintro e w' ⟨rfl, rfl⟩)
              | (go_at_call 12; with_reducible refine (works_any _).mono ?_; rintro e w11 ⟨rfl, hb11⟩; have L11 := Lib.hid (Q2.out.ed.low.trans (hb11.mono Q2.out.ed.low.size)); clear hb11))
            go_ret
            exact ⟨rfl, L11.out⟩
          · have e1 : ((x : Int) == (was : Int)) = false := by rw [beq_eq_false_iff_ne]; omega
            have e2 : ((x : Int) == (was : Int) + 1) = true := by rw [beq_iff_eq]; omega
            clear hx
            go_wp2_with (first
              | (go_at_call 11; with_reducible refine (cs_open hr.out).mono ?_; rintro e w2 ⟨g, rfl, hq2⟩; have Q2 := Lib.hid hq2; clear hq2)
              | (go_at_call 14; with_reducible refine (el_value Q2.out (List.mem_cons_self ..) x rfl).mono ?_; rintro e w' ⟨rfl, rfl⟩)
              | (go_at_call 12; with_reducible refine (works_any _).mono ?_; rintro e w11 ⟨rfl, hb11⟩; have L11 := Lib.hid (Q2.out.ed.low.trans (hb11.mono Q2.out.ed.low.size)); clear hb11))
            go_ret
            exact ⟨rfl, L11.out⟩
      · have hI2 : ¬ (i : Int) < (n2 : Int) := by omega
        rcases hx with rfl | hx
        · go_wp2_with (first
            | (go_at_call 11; with_reducible refine (cs_open hr.out).mono ?_; rintro e w2 ⟨g, rfl, hq2⟩; have Q2 := Lib.hid hq2; clear hq2)
            | (go_at_call 14; with_reducible refine (el_value Q2.out (List.mem_cons_self ..) x rfl).mono ?_; rintro e w' ⟨rfl, rfl⟩)
            | (go_at_call 12; with_reducible refine (works_any _).mono ?_; rintro e w11 ⟨rfl, hb11⟩; have L11 := Lib.hid (Q2.out.ed.low.trans (hb11.mono Q2.out.ed.low.size)); clear hb11))
          go_ret
          exact ⟨rfl, L11.out⟩
        · have e1 : ((x : Int) == (was : Int)) = false := by rw [beq_eq_false_iff_ne]; omega
          have e2 : ((x : Int) == (was : Int) + 1) = true := by rw [beq_iff_eq]; omega
          clear hx
          go_wp2_with (first
            | (go_at_call 11; with_reducible refine (cs_open hr.out).mono ?_; rintro e w2 ⟨g, rfl, hq2⟩; have Q2 := Lib.hid hq2; clear hq2)
            | (go_at_call 14; with_reducible refine (el_value Q2.out (List.mem_cons_self ..) x rfl).mono ?_; rintro e w' ⟨rfl, rfl⟩)
            | (go_at_call 12; with_reducible refine (works_any _).mono ?_; rintro e w11 ⟨rfl, hb11⟩; have L11 := Lib.hid (Q2.out.ed.low.trans (hb11.mono Q2.out.ed.low.size)); clear hb11))
          go_ret
          exact ⟨rfl, L11.out⟩
    · have hI1 : ¬ (i : Int) < (n1 : Int) := by omega
      rcases hx with rfl | hx
      · go_wp2_with (first
          | (go_at_call 11; with_reducible refine (cs_open hr.out).mono ?_; rintro e w2 ⟨g, rfl, hq2⟩; have Q2 := Lib.hid hq2; clear hq2)
          | (go_at_call 14; with_reducible refine (el_value Q2.out (List.mem_cons_self ..) x rfl).mono ?_; rintro e w' ⟨rfl, rfl⟩)
          | (go_at_call 12; with_reducible refine (works_any _).mono ?_; rintro e w11 ⟨rfl, hb11⟩; have L11 := Lib.hid (Q2.out.ed.low.trans (hb11.mono Q2.out.ed.low.size)); clear hb11))
        go_ret
        exact ⟨rfl, L11.out⟩
      · have e1 : ((x : Int) == (was : Int)) = false := by rw [beq_eq_false_iff_ne]; omega
        have e2 : ((x : Int) == (was : Int) + 1) = true := by rw [beq_iff_eq]; omega
        clear hx
        go_wp2_with (first
          | (go_at_call 11; with_reducible refine (cs_open hr.out).mono ?_; rintro e w2 ⟨g, rfl, hq2⟩; have Q2 := Lib.hid hq2; clear hq2)
          | (go_at_call 14; with_reducible refine (el_value Q2.out (List.mem_cons_self ..) x rfl).mono ?_; rintro e w' ⟨rfl, rfl⟩)
          | (go_at_call 12; with_reducible refine (works_any _).mono ?_; rintro e w11 ⟨rfl, hb11⟩; have L11 := Lib.hid (Q2.out.ed.low.trans (hb11.mono Q2.out.ed.low.size)); clear hb11))
        go_ret
        exact ⟨rfl, L11.out⟩
end Go.Proofs.Ytlofnpebknfmkaa.Epo
