/- DERIVED. The document's answer of layer 11: Open. -/
import Derived.Test.YtgkmbamoffolgaaDoorRefSealSeal
import Derived.Test.YtgkmbamoffolgaaDoorStr
namespace Go.Proofs.YtgkmbamoffolgaaDoor.Seal
open Go.RowKit
theorem beP_lt {S : List Int} (h : InB S) {i : Nat} (hi : i < 4) : 0 ≤ beP S i ∧ beP S i < 16777216 := by
  have h1 := beP_in h i
  obtain rfl | rfl | rfl | rfl : i = 0 ∨ i = 1 ∨ i = 2 ∨ i = 3 := by omega
  all_goals (refine ⟨h1.1, Int.lt_of_lt_of_le h1.2 (by decide)⟩)
set_option maxRecDepth 100000 in
set_option maxHeartbeats 8000000 in
theorem ropen_any (k C S : List Int) (pos : Nat) (A A2 : Option Addr) (n c m c2 : Nat) (w : World) (hk : k.length = 32) (hb : InB k) (hC : C.length = n) (hCb : InB C) (hn : n ≤ 1000) (hS : S.length = m) (hSb : InB S) (hm : m ≤ 9000) (hp : pos < 18446744073709551616) (hB1 : Byt w A c C) (hB2 : Byt w A2 c2 S) :
    Calls Tryd.prog 16 #[.agg (u8s k), .slice A n c, .int .u64 (pos : Nat), .slice A2 m c2] w fun e w' => OpenQ (openL k C pos S) e w' ∧ Below w.heap.size w w' := by
  obtain ⟨r, hr⟩ : ∃ r, r = openL k C pos S := ⟨_, rfl⟩
  rw [← hr]
  obtain ⟨d, hd⟩ : ∃ d : Int, d = (m : Int) - 36 := ⟨_, rfl⟩
  have hNb : ¬ isBk d → r = none := fun h => by rw [hr]; exact openL_no1 (by rw [hS, ← hd]; exact h)
  have HNb := Lib.hid hNb
  have HR := Lib.hid hr
  have HD := Lib.hid hd
  have hdm : (m : Int) - 36 = d := hd.symm
  have HSl : Hid (S.length = m ∧ InB S ∧ m ≤ 9000) := ⟨hS, hSb, hm⟩
  have Hk : Hid (k.length = 32 ∧ InB k) := ⟨hk, hb⟩
  have HCC : Hid (C.length = n ∧ InB C ∧ n ≤ 1000) := ⟨hC, hCb, hn⟩
  have HpE := Lib.hid hp
  have HB1 := Lib.hid hB1
  have HB2 := Lib.hid hB2
  have HsK0 : Hid ((Tryd.prog.info? 23).map (·.size) = some (u8s k).size) := by show _ = _; rw [u8s_size, hk]; exact infoH
  have hl0 : Below w.heap.size w (w.alloc (.cells (u8s k) 23)) := (Below.refl _ _).alloc (Nat.le_refl _) _
  have hk0 := Go.heap_alloc_new w (.cells (u8s k) 23)
  have HL0 := Lib.hid hl0
  have HK0 := Lib.hid hk0
  have hmI : (m : Int) ≤ 9000 := by omega
  clear hr hd hNb hk hb hC hCb hn hS hSb hm hp hB1 hB2 hl0 hk0
  go_enter Tryd.func16, Tryd.ntmps16
  go_upto_region 4 with (fail)
  clear hdm
  generalize w.alloc _ = w1 at HL0 HK0 ⊢
  go_loopw [12, 13] (fun v x wr => ∃ (j : Nat) (f : Bool) (y : Nat), j ≤ 12 ∧ x = .int .i64 (y : Nat) ∧ v = .bool f ∧ Hid (f = fitB d j ∧ y = 64 * 2 ^ j) ∧ wr = w1) (fun _ x _ => (262144 - intOf x).toNat)
  case atStart => exact ⟨0, false, 64, Nat.zero_le _, rfl, rfl, ⟨fit0 d, rfl⟩, rfl⟩
  case round =>
    obtain ⟨j, f, y, hj, rfl, rfl, hf, rfl⟩ := hrel
    by_cases hlt : y ≤ 131072
    · have hltI : (y : Int) ≤ 131072 := by omega
      have hj12 : j < 12 := by
        rcases Nat.lt_or_ge j 12 with h | h
        · exact h
        · exfalso
          have h2 : 2 ^ 12 ≤ 2 ^ j := Nat.pow_le_pow_right (by decide) h
          have := hf.out.2
          omega
      have hypos : 0 < y := by rw [hf.out.2]; exact Nat.mul_pos (by decide) (Nat.two_pow_pos _)
      have Hy : Hid (2 * y = 64 * 2 ^ (j + 1) ∧ 0 < y) := ⟨by rw [hf.out.2, Nat.pow_succ]; omega, hypos⟩
      cases f with
      | true =>
        have Hf2 := Lib.hid (fit_yes hf.out.1)
        clear hf hypos hlt
        go_wp2
        exact ⟨⟨j + 1, true, 2 * y, by omega, by go_num, rfl, ⟨Hf2.out, Hy.out.1⟩, trivial⟩, by have := Hy.out.2; simp [intOf]; omega⟩
      | false =>
        have hf2 := fit_no hf.out.1
        rw [← hf.out.2] at hf2
        have Hf2 := Lib.hid hf2
        clear hf hf2 hypos hlt
        go_wp2
        exact ⟨⟨j + 1, _, 2 * y, by omega, by go_num, rfl, ⟨Hf2.out, Hy.out.1⟩, trivial⟩, by have := Hy.out.2; simp [intOf]; omega⟩
    · have hltI : ¬ (y : Int) ≤ 131072 := by omega
      obtain rfl : j = 12 := by
        rcases Nat.lt_or_ge j 12 with h | h
        · exfalso
          have h2 : 2 ^ j ≤ 2 ^ 11 := Nat.pow_le_pow_right (by decide) (by omega)
          have := hf.out.2
          omega
        · omega
      have hfe := hf.out.1
      rw [fit_bk] at hfe
      clear hf hlt hj
      by_cases hbk : isBk d
      rotate_left
      · rw [decide_eq_false hbk] at hfe
        subst hfe
        have Hr := Lib.hid (HNb.out hbk)
        clear HNb hbk
        go_wp2
        go_ret3
        exact ⟨by rw [Hr.out]; rfl, HL0.out⟩
      · rw [decide_eq_true hbk] at hfe
        subst hfe
        clear HNb
        have hbp := isBk_pos hbk
        obtain ⟨q, rfl⟩ : ∃ q : Nat, d = q := ⟨d.toNat, by omega⟩
        have hSi := HSl.out.2.1
        have hSm := HSl.out.1
        have hmq : m = 36 + q := by have := HD.out; omega
        have hq4 : q ≤ 8964 := by have := HSl.out.2.2; omega
        have hq64 : 64 ≤ q := by omega
        have hE4 := be4_in hSi
        obtain ⟨E, hE⟩ : ∃ E : Nat, be4 S = E := ⟨(be4 S).toNat, by omega⟩
        obtain ⟨B, hB⟩ : ∃ B, B = (S.drop 4).take q := ⟨_, rfl⟩
        obtain ⟨P, hP⟩ : ∃ P, P = bodyL k C pos E B := ⟨_, rfl⟩
        have hBl : B.length = q := by rw [hB, List.length_take, List.length_drop]; omega
        have hBi : InB B := by rw [hB]; exact (hSi.drop 4).take q
        have hPl : P.length = q := by rw [hP, bodyL_length, hBl]
        have hPi : InB P := by rw [hP]; exact bodyL_in hBi
        have hPb := be4_in hPi
        obtain ⟨nL, hnL⟩ : ∃ nL : Nat, be4 P = nL := ⟨(be4 P).toNat, by omega⟩
        obtain ⟨T, hT⟩ : ∃ T, T = (P.drop 4).take nL := ⟨_, rfl⟩
        have hparts := ropen_parts (k := k) (C := C) (pos := pos) hSi (hSm.trans hmq) hbk hE hB hP hnL
        rw [← HR.out, ← hT] at hparts
        have HP3 := Lib.hid hparts
        have HBB : Hid (B.length = q ∧ InB B) := ⟨hBl, hBi⟩
        have HPP : Hid (P.length = q ∧ InB P) := ⟨hPl, hPi⟩
        have HPe : Hid (bodyL k C pos E B = P) := hP.symm
        have HTT : Hid (InB T ∧ (nL + 4 ≤ q → T.length = nL)) := ⟨by rw [hT]; exact (hPi.drop 4).take nL, fun h => by rw [hT, List.length_take, List.length_drop]; omega⟩
        have HTe := Lib.hid hT
        have HEe : Hid (beP S 4 = (E : Int)) := by show _ = _; rw [beP4, hE]
        have HLe : Hid (beP P 4 = (nL : Int)) := by show _ = _; rw [beP4, hnL]
        have HE32 : Hid (E < 4294967296) := by show _ < _; omega
        have hmc : m ≤ c2 := by rw [← hSm]; exact HB2.out.1
        obtain ⟨g, off, rfl, hgw, hcell⟩ := HB2.out.2.2 (by omega)
        have hcw : ∀ j, j < 4 → wr.cell? ⟨g, off + j, none⟩ = some (.int .u8 (S.getD j 0)) := fun j hj => (HL0.out.cell (p := ⟨g, off + j, none⟩) hgw).trans (hcell j (by omega))
        have HCw := Lib.hid hcw
        have HSi := Lib.hid hSi
        have Hmq := Lib.hid hmq
        have HBb : Hid (Byt wr (some ⟨g, off + 4, none⟩) (c2 - 4) B) := by rw [hB]; exact byt_sub (HB2.out.below HL0.out (Nat.le_refl _)) 4 q (by omega) (by omega)
        have h4m : (4 : Int) ≤ m := by omega
        have hqI : (q : Int) ≤ 8964 := by omega
        have hq64I : 64 ≤ (q : Int) := by omega
        have hgm : 4 + (q : Int) ≤ m := by omega
        have hgc : 4 + (q : Int) ≤ c2 := by omega
        have hc4 : ¬ c2 = 4 := by omega
        clear hbk hbp hSi hSm hmq hq4 hq64 hE4 hE hB hP hBl hBi hPl hPi hPb hnL hT hparts hmc hgw hcell hcw HR HD
        go_upto_region 11 with (fail)
        go_loopw [14, 15] (fun v x wx => ∃ i : Nat, i ≤ 4 ∧ x = .int .i64 (i : Nat) ∧ v = .int .u32 (beP S i) ∧ wx = wr) (fun _ x _ => 4 - (intOf x).toNat)
        case atStart => exact ⟨0, Nat.zero_le _, rfl, rfl, rfl⟩
        case round =>
          obtain ⟨i, hi, rfl, rfl, rfl⟩ := hrel
          by_cases hlt : i < 4
          · have hltI : (i : Int) < 4 := by omega
            have him : (i : Int) < m := by omega
            have hb1 := beP_lt HSi.out hlt
            have hc := HCw.out i hlt
            have hy := HSi.out i
            have hnx : beP S (i + 1) = 256 * beP S i + S.getD i 0 := rfl
            have HNx := Lib.hid hnx
            obtain ⟨b, hb⟩ : ∃ b, b = beP S i := ⟨_, rfl⟩
            obtain ⟨y, hy2⟩ : ∃ y, y = S.getD i 0 := ⟨_, rfl⟩
            rw [← hb] at hb1 HNx ⊢
            rw [← hy2] at hc hy HNx
            obtain ⟨hb10, hb11⟩ := hb1
            obtain ⟨hy0, hy1⟩ := hy
            clear hnx hb hy2 hlt
            go_wp2
            exact ⟨⟨i + 1, by omega, by go_num, by rw [HNx.out], trivial⟩, by simp [intOf]; omega⟩
          · obtain rfl : i = 4 := by omega
            have hltI4 : ¬ ((4 : Nat) : Int) < 4 := by omega
            rw [HEe.out]
            clear hlt hi HCw HEe
            go_upto_region 16 with (first
              | (go_at_call 28; refine (rstreamP_any k C B pos E A (some ⟨g, off + 4, none⟩) n c q (c2 - 4) wr Hk.out.1 Hk.out.2 HCC.out.1 HCC.out.2.1 HCC.out.2.2 HBB.out.1 (by omega) ⟨HpE.out, HE32.out⟩ (HB1.out.below HL0.out (Nat.le_refl _)) HBb.out).mono ?_; rintro e w5 ⟨v5, rfl, hs5, hb5⟩; rw [HPe.out] at hs5; obtain ⟨A5, c5, rfl, b5⟩ := hs5; rw [HPP.out.1]; have B5 := Lib.hid b5; have HL5 := Lib.hid (HL0.out.trans (hb5.mono HL0.out.size)); have HK5 := Lib.hid ((hb5.block _ (Array.getElem?_eq_some_iff.1 HK0.out).1).trans HK0.out); clear b5 hb5)
              | (refine wpList_load_row rfl 23 (.tmp 4) rfl w.heap.size rfl 23 (u8s k) (0, 0) _ HK0.out Tryd.underlying23 rfl HsK0.out ?_))
            clear HL0 HK0 HBb hltI4
            have hc5 : q ≤ c5 := by have := B5.out.1; rw [HPP.out.1] at this; exact this
            obtain ⟨g5, off5, rfl, hg5, hcell5⟩ := B5.out.2.2 (by rw [HPP.out.1]; omega)
            rw [HPP.out.1] at hcell5
            have hcw5 : ∀ j, j < 4 → w5.cell? ⟨g5, off5 + j, none⟩ = some (.int .u8 (P.getD j 0)) := fun j hj => hcell5 j (by omega)
            have HCw5 := Lib.hid hcw5
            have hq4I : (4 : Int) ≤ q := by omega
            clear hcell5 hcw5 hg5
            go_upto_region 18 with (fail)
            go_loopw [18, 19] (fun v x wx => ∃ i : Nat, i ≤ 4 ∧ x = .int .i64 (i : Nat) ∧ v = .int .i64 (beP P i) ∧ wx = w5) (fun _ x _ => 4 - (intOf x).toNat)
            case atStart => exact ⟨0, Nat.zero_le _, rfl, rfl, rfl⟩
            case round =>
              obtain ⟨i, hi, rfl, rfl, rfl⟩ := hrel
              by_cases hlt : i < 4
              · have hltI : (i : Int) < 4 := by omega
                have him : (i : Int) < q := by omega
                have hb1 := beP_lt HPP.out.2 hlt
                have hc := HCw5.out i hlt
                have hy := HPP.out.2 i
                have hnx : beP P (i + 1) = 256 * beP P i + P.getD i 0 := rfl
                have HNx := Lib.hid hnx
                obtain ⟨b, hb⟩ : ∃ b, b = beP P i := ⟨_, rfl⟩
                obtain ⟨y, hy2⟩ : ∃ y, y = P.getD i 0 := ⟨_, rfl⟩
                rw [← hb] at hb1 HNx ⊢
                rw [← hy2] at hc hy HNx
                obtain ⟨hb10, hb11⟩ := hb1
                obtain ⟨hy0, hy1⟩ := hy
                clear hnx hb hy2 hlt
                go_wp2
                exact ⟨⟨i + 1, by omega, by go_num, by rw [HNx.out], trivial⟩, by simp [intOf]; omega⟩
              · obtain rfl : i = 4 := by omega
                have hltI4 : ¬ ((4 : Nat) : Int) < 4 := by omega
                rw [HLe.out]
                clear hlt hi HCw5 HLe
                by_cases hbig : (q : Int) - 4 < nL
                · have Hr := Lib.hid (HP3.out.1 hbig)
                  clear HP3
                  go_wp2
                  go_ret3
                  exact ⟨by rw [Hr.out]; rfl, HL5.out⟩
                · have hle : (nL : Int) ≤ (q : Int) - 4 := by omega
                  have Hno := Lib.hid (HP3.out.2.1 hle)
                  have Hyes := Lib.hid (HP3.out.2.2 hle)
                  have hTl : T.length = nL := HTT.out.2 (by omega)
                  have HTl := Lib.hid hTl
                  have HTb : Hid (Byt wr (some ⟨g5, off5 + 4, none⟩) (c5 - 4) T) := by rw [HTe.out]; exact byt_sub B5.out 4 nL (by have := HPP.out.1; omega) (by have := HPP.out.1; omega)
                  have hmade := World.ownsRow_made wr (base := wr.heap.size) (e := 5) (size := 1) #[] 0 (Nat.le_refl _) (by unfold maxLen; omega) rfl
                  have Hmade := Lib.hid hmade
                  have hn0 : 0 ≤ (nL : Int) := by omega
                  have hnq : 4 + (nL : Int) ≤ q := by omega
                  have hnc : 4 + (nL : Int) ≤ c5 := by omega
                  have hc54 : ¬ c5 = 4 := by omega
                  have hT4 : (4 + (nL : Int)).toNat = 4 + nL := by omega
                  have hnI : (nL : Int) ≤ 8960 := by omega
                  have h44 : (4 : Int) ≤ 4 + (nL : Int) := by omega
                  clear HP3 hmade hbig hTl
                  go_upto_region 23 with (fail)
                  go_upto_region 24 with (at_builtin; refine wpList_append_any rfl (.tmp 76) (.tmp 80) rfl wr.heap.size _ 0 [] rfl Hmade.out (some ⟨g5, off5 + 4, none⟩) nL (c5 - 4) T rfl HTl.out (HTb.out.alloc _) (by omega) (by rw [World.size_alloc]; omega) ?_; intro v6 w6 own6 low6; have h6 : OwnB wr.heap.size T v6 w6 := own_app (L := []) (n := 0) rfl HTl.out own6; have hb6 := low6 _ _ ((Below.refl wr.heap.size wr).alloc (Nat.le_refl _) _) (Nat.le_refl _); obtain ⟨A6, c6, rfl, b6⟩ := h6.sl; rw [HTl.out]; have B6 := Lib.hid b6; have HL6 := Lib.hid (HL5.out.trans (hb6.mono HL5.out.size)); have HK6 := Lib.hid ((hb6.block _ (Array.getElem?_eq_some_iff.1 HK5.out).1).trans HK5.out); clear h6 hb6 b6 own6 low6)
                  clear Hmade HTb hn0 hnq hnc hc54 hT4 h44 HL5 HK5
                  go_upto_region 25 with (first
                    | (go_at_call 12; refine (rseal_any k C T pos E A A6 n c nL c6 w6 Hk.out.1 Hk.out.2 HCC.out.1 HCC.out.2.1 HCC.out.2.2 HTl.out HTT.out.1 (by omega) ⟨HpE.out, HE32.out⟩ (HB1.out.below HL6.out (Nat.le_refl _)) B6.out).mono ?_; rintro e w7 ⟨v7, rfl, ho7, hb7⟩; have Ho7 := Lib.hid ho7; have Hb7 := Lib.hid hb7; clear ho7 hb7)
                    | (refine wpList_load_row rfl 23 (.tmp 4) rfl w.heap.size rfl 23 (u8s k) (0, 0) _ HK6.out Tryd.underlying23 rfl HsK0.out ?_))
                  obtain ⟨X, hX⟩ : ∃ X, X = sealL k C pos E T := ⟨_, rfl⟩
                  have hXin : InB X := by rw [hX]; exact sealL_in HTT.out.1
                  have ho7 := Ho7.out
                  rw [← hX] at ho7 Hno Hyes
                  obtain ⟨A7, c7, rfl, b7⟩ := ho7.sl
                  have k1 := Cha.conv_any b7 rfl
                  have HL7 := Lib.hid (HL6.out.trans (Hb7.out.mono HL6.out.size))
                  have k2 := Cha.conv_any (HB2.out.below HL7.out (Nat.le_refl _)) HSl.out.1
                  have B7 := Lib.hid (B6.out.below Hb7.out (Nat.le_refl _))
                  obtain ⟨lX, hlX⟩ : ∃ lX, lX = X.length := ⟨_, rfl⟩
                  rw [← hlX] at k1 ⊢
                  by_cases he : X = S
                  · have Hr := Lib.hid (Hyes.out he)
                    obtain ⟨TS, hTS⟩ : ∃ TS, TS = strOfNums S := ⟨_, rfl⟩
                    rw [he, ← hTS] at k1
                    rw [← hTS] at k2
                    clear Hno Hyes hTS he hX hXin ho7 b7 Ho7 Hb7 HL6 HK6 B6 hlX
                    go_wp2
                    go_ret3
                    exact ⟨by rw [Hr.out]; exact ⟨_, rfl, A6, c6, by rw [HTl.out]; rfl, B7.out⟩, HL7.out⟩
                  · have Hr := Lib.hid (Hno.out he)
                    have hne := Str.str_ne hXin HSi.out he
                    have hne2 : ((strOfNums X).toList == (strOfNums S).toList) = false := by rw [beq_eq_false_iff_ne]; exact hne
                    obtain ⟨TX, hTX⟩ : ∃ TX, TX = strOfNums X := ⟨_, rfl⟩
                    obtain ⟨TS, hTS⟩ : ∃ TS, TS = strOfNums S := ⟨_, rfl⟩
                    rw [← hTX] at k1 hne2
                    rw [← hTS] at k2 hne2
                    clear Hno Hyes hTS hTX he hX hXin ho7 b7 Ho7 Hb7 HL6 HK6 B6 hlX hne
                    go_wp2
                    go_ret3
                    exact ⟨by rw [Hr.out]; rfl, HL7.out⟩
end Go.Proofs.YtgkmbamoffolgaaDoor.Seal
