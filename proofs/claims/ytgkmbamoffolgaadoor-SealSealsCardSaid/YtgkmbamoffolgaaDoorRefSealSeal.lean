/- DERIVED. The document's answer of layer 11: Seal. -/
import Derived.Test.YtgkmbamoffolgaaDoorMseal26
import Derived.Test.YtgkmbamoffolgaaDoorRefSealMath
namespace Go.Proofs.YtgkmbamoffolgaaDoor.Seal
open Go.RowKit
theorem zeros_more (i : Nat) : zeros i ++ [0] = zeros (i + 1) := by
  unfold zeros
  rw [← List.replicate_succ']
theorem zeros_len (i : Nat) : (zeros i).length = i := by unfold zeros; rw [List.length_replicate]
theorem padL_more (L : List Int) {z : Nat} (h : z = bkt L.length - 4 - L.length) : (numL L.length 4 ++ L) ++ zeros z = padL L := by
  subst h
  rw [List.append_assoc]; rfl
/-- too long. -/
theorem rseal_no (k : List Int) (sl : Value) (pos ep : Value) (A2 : Option Addr) (m c2 : Nat) (hm : 131068 < m) (w : World) :
    Calls Tryd.prog 12 #[.agg (u8s k), sl, pos, ep, .slice A2 m c2] w fun e w' => e = .returned (.tuple #[.slice none 0 0, .int .i64 3]) ∧ Below w.heap.size w w' := by
  have hb : Hid (∀ w, Calls Tryd.prog 14 #[.int .i64 (m : Nat)] w fun e w' => e = .returned (.int .i64 0) ∧ w = w') := fun w => by
    have h := rbucket_any (m : Nat) w
    rwa [show bktI (m : Nat) = 0 by unfold bktI; rw [if_pos (by omega)]] at h
  have HX : Hid (Below w.heap.size w (w.alloc (.cells (u8s k) 23))) := (Below.refl _ _).alloc (Nat.le_refl _) _
  clear hm
  go_enter Tryd.func12, Tryd.ntmps12
  go_wp2_with (go_at_call 14; refine (hb.out _).mono ?_; rintro e w' ⟨rfl, rfl⟩)
  go_ret2
  exact ⟨rfl, HX.out⟩
set_option maxRecDepth 100000 in
set_option maxHeartbeats 4000000 in
theorem rseal_any (k C L : List Int) (pos ep : Nat) (A A2 : Option Addr) (n c m c2 : Nat) (w : World) (hk : k.length = 32) (hb : InB k) (hC : C.length = n) (hCb : InB C) (hn : n ≤ 1000) (hL : L.length = m) (hLb : InB L) (hm : m ≤ 9000) (hp : pos < 18446744073709551616 ∧ ep < 4294967296) (hB1 : Byt w A c C) (hB2 : Byt w A2 c2 L) :
    Calls Tryd.prog 12 #[.agg (u8s k), .slice A n c, .int .u64 (pos : Nat), .int .u32 (ep : Nat), .slice A2 m c2] w fun e w' => ∃ v, e = .returned (.tuple #[v, .int .i64 0]) ∧ OwnB w.heap.size (sealL k C pos ep L) v w' ∧ Below w.heap.size w w' := by
  obtain ⟨B, hB⟩ : ∃ B, B = bkt m := ⟨_, rfl⟩
  obtain ⟨G0, hG0⟩ : ∃ G0, G0 = numL m 4 ++ L := ⟨_, rfl⟩
  obtain ⟨z, hz⟩ : ∃ z, z = B - 4 - m := ⟨_, rfl⟩
  obtain ⟨PP, hPP⟩ : ∃ PP, PP = padL L := ⟨_, rfl⟩
  obtain ⟨BB, hBB⟩ : ∃ BB, BB = bodyL k C pos ep PP := ⟨_, rfl⟩
  obtain ⟨TT, hTT⟩ : ∃ TT, TT = tagL k C pos ep BB := ⟨_, rfl⟩
  obtain ⟨SS, hSS⟩ : ∃ SS, SS = sealL k C pos ep L := ⟨_, rfl⟩
  have hge := bkt_ge (n := m) (by omega)
  have hle := bkt_le (n := m) (by omega)
  have hB2k : B ≤ 18006 := by
    have := bkt_small hm
    omega
  have hG0l : G0.length = 4 + m := by rw [hG0, List.length_append, numL_length, hL]
  have hPad : G0 ++ zeros z = PP := by rw [hG0, hPP, ← hL]; exact padL_more L (by rw [hz, hB, hL])
  have hPl : PP.length = B := by rw [hPP, padL_length (by omega), hL, hB]
  have hBl : BB.length = B := by rw [hBB, bodyL_length, hPl]
  have hTl : TT.length = 32 := by rw [hTT]; exact tagL_length _ _ _ _ _
  have hS : numL ep 4 ++ BB ++ TT = SS := by rw [hSS, hTT, hBB, hPP]; rfl
  rw [← hSS]
  have HNl : Hid (numL m 4 ++ L = G0) := hG0.symm
  have HG0 := Lib.hid hG0l
  have HPad := Lib.hid hPad
  have HPP : Hid (PP.length = B ∧ InB PP ∧ B ≤ 18006) := ⟨hPl, by rw [hPP]; exact padL_in hLb, hB2k⟩
  have HBB : Hid (BB.length = B ∧ InB BB) := ⟨hBl, by rw [hBB]; exact bodyL_in HPP.out.2.1⟩
  have HBe : Hid (bodyL k C pos ep PP = BB) := hBB.symm
  have HTe : Hid (tagL k C pos ep BB = TT) := hTT.symm
  have HTT : Hid (TT.length = 32 ∧ InB TT) := ⟨hTl, by rw [hTT]; exact tagL_in _ _ _ _ _⟩
  have HSS := Lib.hid hS
  have Hz : Hid (z = B - 4 - m ∧ m + 4 ≤ B) := ⟨hz, by omega⟩
  have HbB : Hid (∀ w, Calls Tryd.prog 14 #[.int .i64 (m : Nat)] w fun e w' => e = .returned (.int .i64 (B : Nat)) ∧ w = w') := fun w => by
    have h := rbucket_any (m : Nat) w
    rwa [show bktI (m : Nat) = (B : Nat) by unfold bktI; rw [if_neg (by omega), Int.toNat_natCast, hB]] at h
  have Hk : Hid (k.length = 32 ∧ InB k) := ⟨hk, hb⟩
  have HCC : Hid (C.length = n ∧ InB C ∧ n ≤ 1000) := ⟨hC, hCb, hn⟩
  have HLL : Hid (L.length = m ∧ m ≤ 9000) := ⟨hL, hm⟩
  have HpE := Lib.hid hp
  have HB1 := Lib.hid hB1
  have HB2 := Lib.hid hB2
  have HsK0 : Hid ((Tryd.prog.info? 23).map (·.size) = some (u8s k).size) := by show _ = _; rw [u8s_size, hk]; exact infoH
  have hl0 : Below w.heap.size w (w.alloc (.cells (u8s k) 23)) := (Below.refl _ _).alloc (Nat.le_refl _) _
  have hk0 := Go.heap_alloc_new w (.cells (u8s k) 23)
  have HL0 := Lib.hid hl0
  have HK0 := Lib.hid hk0
  have hmI : (m : Int) ≤ 9000 := by omega
  have hB0 : ¬ (B : Int) = 0 := by omega
  clear hB hG0 hz hPP hBB hTT hSS hge hle hB2k hG0l hPad hPl hBl hTl hS hk hb hC hCb hn hL hLb hm hp hB1 hB2 hl0 hk0
  go_enter Tryd.func12, Tryd.ntmps12
  go_upto_region 4 with (go_at_call 14; refine (HbB.out _).mono ?_; rintro e w' ⟨rfl, rfl⟩)
  generalize w.alloc _ = w1 at HL0 HK0 ⊢
  go_upto_region 5 with (first
    | (go_at_call 27; with_reducible refine (rnum4 m (by omega) _).mono ?_; rintro e w2 ⟨v2, rfl, ho2, hb2⟩; have Ho2 := Lib.hid ho2; have Hb2 := Lib.hid hb2; clear ho2 hb2)
    | (at_builtin; refine wpList_append_any rfl (.tmp 26) (.tmp 27) rfl w1.heap.size _ (numL m 4).length (numL m 4) rfl Ho2.out A2 m c2 L rfl HLL.out.1 (HB2.out.below (HL0.out.trans (Hb2.out.mono HL0.out.size)) (Nat.le_refl _)) (by rw [numL_length]; omega) Hb2.out.size ?_; intro v3 w3 own3 low3; have Ho3 := Lib.hid (HNl.out ▸ own_app rfl HLL.out.1 own3); have Hb3 := Lib.hid (low3 _ _ Hb2.out (Nat.le_refl _)); clear own3 low3))
  go_loopw [13] (fun v wr => ∃ i : Nat, i ≤ z ∧ Hid (OwnB w1.heap.size (G0 ++ zeros i) v wr) ∧ Hid (Below w1.heap.size w1 wr)) (fun v _ => match v with | .slice _ l _ => B - l | _ => 0)
  case atStart => exact ⟨0, Nat.zero_le _, by show OwnB _ _ _ _; rw [show zeros 0 = [] from rfl, List.append_nil]; exact Ho3.out, Hb3.out⟩
  case round =>
    clear Ho3 Hb3 Ho2 Hb2
    obtain ⟨i, hi, own, low⟩ := hrel
    obtain ⟨G, hG⟩ : ∃ G, G = G0 ++ zeros i := ⟨_, rfl⟩
    have hown := own.out
    rw [← hG] at hown
    obtain ⟨q, hq⟩ : ∃ q, q = 4 + m + i := ⟨_, rfl⟩
    have hGl : G.length = q := by rw [hG, List.length_append, zeros_len, HG0.out, hq]
    obtain ⟨AG, cG, rfl, _⟩ := hown.sl
    rw [hGl] at hown ⊢
    have Hown := Lib.hid hown
    have HGe := Lib.hid hG
    have HGl := Lib.hid hGl
    have Hq := Lib.hid hq
    by_cases hlt : q < B
    · have hltI : (q : Int) < (B : Int) := by omega
      have hmore : G ++ [0] = G0 ++ zeros (i + 1) := by rw [hG, List.append_assoc, zeros_more]
      have Hmore := Lib.hid hmore
      have hsz := low.out.size
      clear hown hG hGl hq hmore own
      go_wp2_with (at_builtin; refine wpList_append_any rfl (.tmp 33) (.tmp 34) rfl w1.heap.size _ G.length G rfl (OwnB.later Hown.out ((Below.refl _ _).alloc (Nat.le_refl _) _)) (some ⟨wr.heap.size, 0, none⟩) 1 1 [0] rfl rfl (byt_rowF (l := [0]) (Go.heap_alloc_new wr _) rfl) (by rw [HGl.out]; have := HPP.out.2.2; omega) (by rw [World.size_alloc]; omega) ?_; intro v4 w4 own4 low4; have h4 : OwnB w1.heap.size (G0 ++ zeros (i + 1)) v4 w4 := Hmore.out ▸ own_app rfl rfl own4; have Own4 := Lib.hid h4; have Low4 := Lib.hid (low4 _ _ (low.out.alloc hsz _) (Nat.le_refl _)); obtain ⟨A4, c4, e4, _⟩ := h4.sl; have E4 := Lib.hid e4; clear own4 low4 h4 e4)
      refine ⟨⟨i + 1, by have := Hz.out; have := Hq.out; omega, Own4.out, Low4.out⟩, ?_⟩
      have e5 := E4.out
      rw [List.length_append, zeros_len, HG0.out] at e5
      rw [e5]
      have := Hq.out
      show B - (4 + m + (i + 1)) < B - q
      omega
    · have hge : ¬ (q : Int) < (B : Int) := by omega
      have hqB : q = B := by have := Hz.out; omega
      have hiz : i = z := by have := Hz.out; omega
      subst hqB
      have hGP : G = PP := by rw [hG, hiz]; exact HPad.out
      subst hGP
      have BP := Lib.hid (show Byt wr AG cG G by obtain ⟨_, _, e9, b9⟩ := hown.sl; rw [hGl] at e9; cases e9; exact b9)
      have HLr := Lib.hid (HL0.out.trans (low.out.mono HL0.out.size))
      have HKr := Lib.hid ((low.out.block _ (Array.getElem?_eq_some_iff.1 HK0.out).1).trans HK0.out)
      have hqI : (q : Int) ≤ 18006 := by have := HPP.out.2.2; omega
      clear hown hG hGl hq own low Hown HGe HGl Hq hlt hiz hi HK0 HL0 HPad Hz
      go_upto_region 8 with (first
        | (go_at_call 28; refine (rstreamP_any k C G pos ep A AG n c q cG wr Hk.out.1 Hk.out.2 HCC.out.1 HCC.out.2.1 HCC.out.2.2 HPP.out.1 (by have := HPP.out.2.2; omega) HpE.out (HB1.out.below HLr.out (Nat.le_refl _)) BP.out).mono ?_; rintro e w5 ⟨v5, rfl, hs5, hb5⟩; rw [HBe.out] at hs5; obtain ⟨A5, c5, rfl, b5⟩ := hs5; rw [HBB.out.1]; have B5 := Lib.hid b5; have HL5 := Lib.hid (HLr.out.trans (hb5.mono HLr.out.size)); have HK5 := Lib.hid ((hb5.block _ (Array.getElem?_eq_some_iff.1 HKr.out).1).trans HKr.out); clear b5 hb5)
        | (refine wpList_load_row rfl 23 (.tmp 5) rfl w.heap.size rfl 23 (u8s k) (0, 0) _ HKr.out Tryd.underlying23 rfl HsK0.out ?_))
      clear BP HLr HKr
      go_upto_region 9 with (first
        | (go_at_call 29; refine (rtag_any k C BB pos ep A A5 n c q c5 w5 Hk.out.1 Hk.out.2 HCC.out.1 HCC.out.2.1 HCC.out.2.2 HBB.out.1 HBB.out.2 (by have := HPP.out.2.2; omega) HpE.out (HB1.out.below HL5.out (Nat.le_refl _)) B5.out).mono ?_; rintro e w6 ⟨rfl, hb6⟩; rw [HTe.out]; have Hb6 := Lib.hid hb6; clear hb6)
        | (refine wpList_store_new rfl (.tmp 15) (.tmp 47) rfl TT HTT.out.1 _ (by rfl) (by rfl) (by rfl) ?_; intro w7 hr7 hb7; have HT7 := Lib.hid hr7; have Hb7 := Lib.hid (Hb6.out.trans (hb7.mono Hb6.out.size)); have hgt : w6.heap.size < w7.heap.size := (Array.getElem?_eq_some_iff.1 hr7).1; have Hgt := Lib.hid hgt; clear hr7 hb7 hgt)
        | (refine wpList_load_row rfl 23 (.tmp 5) rfl w.heap.size rfl 23 (u8s k) (0, 0) _ HK5.out Tryd.underlying23 rfl HsK0.out ?_))
      have HL7 := Lib.hid (HL5.out.trans (Hb7.out.mono HL5.out.size))
      have B7 := Lib.hid (B5.out.below Hb7.out (Nat.le_refl _))
      have heI : (ep : Int) < 4294967296 := by have := HpE.out.2; omega
      have hwe : IntKind.u64.wrap (ep : Int) = ep := by simp [IntKind.wrap, IntKind.bits, IntKind.signed]; omega
      clear HL5 B5 HK5 Hb6 Hb7
      go_upto_region 10 with (first
        | (go_at_call 27; with_reducible refine (rnum4 ep (by have := HpE.out.2; omega) _).mono ?_; rintro e w8 ⟨v8, rfl, ho8, hb8⟩; have Ho8 := Lib.hid ho8; have Hb8 := Lib.hid hb8; clear ho8 hb8)
        | (at_builtin; refine wpList_append_any rfl (.tmp 50) (.tmp 51) rfl w7.heap.size _ (numL ep 4).length (numL ep 4) rfl Ho8.out A5 q c5 BB rfl HBB.out.1 (B7.out.below Hb8.out (Nat.le_refl _)) (by rw [numL_length]; have := HPP.out.2.2; omega) Hb8.out.size ?_; intro v9 w9 own9 low9; have Ho9 := Lib.hid (own_app rfl HBB.out.1 own9); have Hb9 := Lib.hid (low9 _ _ Hb8.out (Nat.le_refl _)); clear own9 low9))
      clear heI hwe Ho8 Hb8
      obtain ⟨G9, hG9⟩ : ∃ G9, G9 = numL ep 4 ++ BB := ⟨_, rfl⟩
      have HG9 : Hid (G9 ++ TT = SS) := by show _ = _; rw [hG9]; exact HSS.out
      have HG9l : Hid (G9.length = 4 + q) := by show _ = _; rw [hG9, List.length_append, numL_length, HBB.out.1]
      rw [← hG9] at Ho9
      clear hG9
      go_upto_region 11 with (fail)
      go_loopw [16, 17] (fun v x wx => ∃ i : Nat, i ≤ 32 ∧ x = .int .i64 i ∧ Hid (OwnB w7.heap.size (G9 ++ TT.take i) v wx) ∧ Hid (Below w7.heap.size w7 wx)) (fun _ x _ => 32 - (intOf x).toNat)
      case atStart => exact ⟨0, Nat.zero_le _, rfl, by show OwnB _ _ _ _; rw [List.take_zero, List.append_nil]; exact Ho9.out, Hb9.out⟩
      case round =>
        clear Ho9 Hb9
        obtain ⟨i, hi, rfl, own, low⟩ := hrel
        by_cases hlt : i < 32
        · have hltI : (i : Int) < 32 := by omega
          have hrow := (low.out.block _ Hgt.out).trans HT7.out
          have hc := row8_cell hrow i (by rw [HTT.out.1]; exact hlt)
          have htm := take_more (L := TT) (i := i) (by rw [HTT.out.1]; exact hlt)
          obtain ⟨y, hy⟩ : ∃ y, y = TT.getD i 0 := ⟨_, rfl⟩
          rw [← hy] at hc htm
          have hGl : (G9 ++ TT.take i).length = 4 + q + i := by rw [List.length_append, HG9l.out, List.length_take, HTT.out.1]; omega
          have Htm := Lib.hid htm
          have HGl := Lib.hid hGl
          have hsz := low.out.size
          clear hrow htm hy hGl
          go_wp2_with (at_builtin; refine wpList_append_any rfl (.tmp 57) (.tmp 61) rfl w7.heap.size _ (G9 ++ TT.take i).length (G9 ++ TT.take i) rfl (OwnB.later own.out ((Below.refl _ _).alloc (Nat.le_refl _) _)) (some ⟨wr.heap.size, 0, none⟩) 1 1 [y] rfl rfl (byt_rowF (l := [y]) (Go.heap_alloc_new wr _) rfl) (by rw [HGl.out]; have := HPP.out.2.2; omega) (by rw [World.size_alloc]; omega) ?_; intro v4 w4 own4 low4; have h4 : OwnB w7.heap.size (G9 ++ TT.take (i + 1)) v4 w4 := (by have h5 := own_app (L := G9 ++ TT.take i) (M := [y]) rfl rfl own4; rwa [List.append_assoc, Htm.out] at h5); have Own4 := Lib.hid h4; have Low4 := Lib.hid (low4 _ _ (low.out.alloc hsz _) (Nat.le_refl _)); clear own4 low4 h4)
          exact ⟨⟨i + 1, by omega, rfl, Own4.out, Low4.out⟩, by simp [intOf]; omega⟩
        · obtain rfl : i = 32 := by omega
          have hK := own.out
          rw [List.take_of_length_le (by rw [HTT.out.1]; exact Nat.le_refl _), HG9.out] at hK
          have HKo := Lib.hid (hK.base HL7.out.size)
          have Hlow := Lib.hid (HL7.out.trans (low.out.mono HL7.out.size))
          have hltI : ¬ ((32 : Nat) : Int) < 32 := by omega
          clear hK own low HT7 Hgt HL7 hlt hi
          go_wp2
          go_ret2
          exact ⟨_, rfl, HKo.out, Hlow.out⟩
end Go.Proofs.YtgkmbamoffolgaaDoor.Seal
