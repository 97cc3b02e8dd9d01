/- Texts of ours, merged. -/
import Derived.Test.YteeghgjkjicjoaaGreatDoorC33
set_option maxRecDepth 100000
set_option maxHeartbeats 16000000
namespace Go.Proofs.YteeghgjkjicjoaaGreatDoor.Seal
open Go.RowKit
theorem zeros_more (i:Nat):zeros i ++ [0] = zeros (i + 1):=by
 unfold zeros
 rw [<- List.replicate_succ']
theorem zeros_len (i:Nat):(zeros i).length = i:=by unfold zeros; rw [List.length_replicate]
theorem padL_more (L:List Int) {z:Nat} (h:z = bkt L.length - 4 - L.length):(numL L.length 4 ++ L) ++ zeros z = padL L:=by
 subst h
 rw [List.append_assoc]; rfl
theorem rseal_any (k C L:List Int) (pos ep:Nat) (A A2:Option Addr) (n c m c2:Nat) (w:World) (hk:k.length = 32) (hb:InB k) (hC:C.length = n) (hCb:InB C) (hn:n <= 1000) (hL:L.length = m) (hLb:InB L) (hm:m <= 9000) (hp:pos < 18446744073709551616 /\ ep < 4294967296) (hB1:Byt w A c C) (hB2:Byt w A2 c2 L) :
 Calls Tryz.prog 68 #[.agg (u8s k),.slice A n c,.int .u64 (pos:Nat),.int .u32 (ep:Nat),.slice A2 m c2] w fun e w' => ∃ v,e = .returned (.tuple #[v,.int .i64 0]) /\ OwnB w.heap.size (sealL k C pos ep L) v w' /\ Below w.heap.size w w':=by
 obtain ⟨B,hB⟩:∃ B,B = bkt m:=⟨_,rfl⟩
 obtain ⟨G0,hG0⟩:∃ G0,G0 = numL m 4 ++ L:=⟨_,rfl⟩
 obtain ⟨z,hz⟩:∃ z,z = B - 4 - m:=⟨_,rfl⟩
 obtain ⟨PP,hPP⟩:∃ PP,PP = padL L:=⟨_,rfl⟩
 obtain ⟨BB,hBB⟩:∃ BB,BB = bodyL k C pos ep PP:=⟨_,rfl⟩
 obtain ⟨TT,hTT⟩:∃ TT,TT = tagL k C pos ep BB:=⟨_,rfl⟩
 obtain ⟨SS,hSS⟩:∃ SS,SS = sealL k C pos ep L:=⟨_,rfl⟩
 have hge:=bkt_ge (n:=m) (by omega)
 have hle:=bkt_le (n:=m) (by omega)
 have hB2k:B <= 18006:=by
  have:=bkt_small hm
  omega
 have hG0l:G0.length = 4 + m:=by rw [hG0,List.length_append,numL_length,hL]
 have hPad:G0 ++ zeros z = PP:=by rw [hG0,hPP,<- hL]; exact padL_more L (by rw [hz,hB,hL])
 have hPl:PP.length = B:=by rw [hPP,padL_length (by omega),hL,hB]
 have hBl:BB.length = B:=by rw [hBB,bodyL_length,hPl]
 have hTl:TT.length = 32:=by rw [hTT]; exact tagL_length _ _ _ _ _
 have hS:numL ep 4 ++ BB ++ TT = SS:=by rw [hSS,hTT,hBB,hPP]; rfl
 rw [<- hSS]
 have HNl:Hid (numL m 4 ++ L = G0):=hG0.symm
 have HG0:=lhd hG0l
 have HPad:=lhd hPad
 have HPP:Hid (PP.length = B /\ InB PP /\ B <= 18006):=⟨hPl,by rw [hPP]; exact padL_in hLb,hB2k⟩
 have HBB:Hid (BB.length = B /\ InB BB):=⟨hBl,by rw [hBB]; exact bodyL_in HPP.out.2.1⟩
 have HBe:Hid (bodyL k C pos ep PP = BB):=hBB.symm
 have HTe:Hid (tagL k C pos ep BB = TT):=hTT.symm
 have HTT:Hid (TT.length = 32 /\ InB TT):=⟨hTl,by rw [hTT]; exact tagL_in _ _ _ _ _⟩
 have HSS:=lhd hS
 have Hz:Hid (z = B - 4 - m /\ m + 4 <= B):=⟨hz,by omega⟩
 have HbB:Hid (∀ w,Calls Tryz.prog 67 #[.int .i64 (m:Nat)] w fun e w' => e = .returned (.int .i64 (B:Nat)) /\ w = w'):=fun w => by
  have h:=rbucket_any (m:Nat) w
  rwa [show bktI (m:Nat) = (B:Nat) by unfold bktI; rw [if_neg (by omega),Int.toNat_natCast,hB]] at h
 have Hk:Hid (k.length = 32 /\ InB k):=⟨hk,hb⟩
 have HCC:Hid (C.length = n /\ InB C /\ n <= 1000):=⟨hC,hCb,hn⟩
 have HLL:Hid (L.length = m /\ m <= 9000):=⟨hL,hm⟩
 have HpE:=lhd hp
 have HB1:=lhd hB1
 have HB2:=lhd hB2
 have HsK0:Hid ((Tryz.prog.info? 24).map (·.size) = some (u8s k).size):=by show _ = _; rw [u8s_size,hk]; exact infoH
 have hl0:Below w.heap.size w (w.alloc (.cells (u8s k) 24)):=(Below.refl _ _).alloc (Nat.le_refl _) _
 have hk0:=Go.heap_alloc_new w (.cells (u8s k) 24)
 have HL0:=lhd hl0
 have HK0:=lhd hk0
 have hmI:(m:Int) <= 9000:=by omega
 have hB0:¬ (B:Int) = 0:=by omega
 clear hB hG0 hz hPP hBB hTT hSS hge hle hB2k hG0l hPad hPl hBl hTl hS hk hb hC hCb hn hL hLb hm hp hB1 hB2 hl0 hk0
 go_enter Tryz.func68,Tryz.ntmps68
 go_upto_region 4 with (go_at_call 67; refine (HbB.out _).mono ?_; rintro e w' ⟨rfl,rfl⟩)
 generalize w.alloc _ = w1 at HL0 HK0 ⊢
 go_upto_region 5 with (first
  | (go_at_call 95; with_reducible refine (rnum4 m (by omega) _).mono ?_; rintro e w2 ⟨v2,rfl,ho2,hb2⟩; have Ho2:=lhd ho2; have Hb2:=lhd hb2; clear ho2 hb2)
  | (at_builtin; refine wpList_append_any rfl (.tmp 26) (.tmp 27) rfl w1.heap.size _ (numL m 4).length (numL m 4) rfl Ho2.out A2 m c2 L rfl HLL.out.1 (HB2.out.below (HL0.out.trans (Hb2.out.mono HL0.out.size)) (Nat.le_refl _)) (by rw [numL_length]; omega) Hb2.out.size ?_; intro v3 w3 own3 low3; have Ho3:=lhd (HNl.out ▸ own_app rfl HLL.out.1 own3); have Hb3:=lhd (low3 _ _ Hb2.out (Nat.le_refl _)); clear own3 low3))
 go_loopw [13] (fun v wr => ∃ i:Nat,i <= z /\ Hid (OwnB w1.heap.size (G0 ++ zeros i) v wr) /\ Hid (Below w1.heap.size w1 wr)) (fun v _ => match v with | .slice _ l _ => B - l | _ => 0)
 case atStart => exact ⟨0,Nat.zero_le _,by show OwnB _ _ _ _; rw [show zeros 0 = [] from rfl,List.append_nil]; exact Ho3.out,Hb3.out⟩
 case round =>
  clear Ho3 Hb3 Ho2 Hb2
  obtain ⟨i,hi,own,low⟩:=hrel
  obtain ⟨G,hG⟩:∃ G,G = G0 ++ zeros i:=⟨_,rfl⟩
  have hown:=own.out
  rw [<- hG] at hown
  obtain ⟨q,hq⟩:∃ q,q = 4 + m + i:=⟨_,rfl⟩
  have hGl:G.length = q:=by rw [hG,List.length_append,zeros_len,HG0.out,hq]
  obtain ⟨AG,cG,rfl,_⟩:=hown.sl
  rw [hGl] at hown ⊢
  have Hown:=lhd hown
  have HGe:=lhd hG
  have HGl:=lhd hGl
  have Hq:=lhd hq
  by_cases hlt:q < B
  . have hltI:(q:Int) < (B:Int):=by omega
    have hmore:G ++ [0] = G0 ++ zeros (i + 1):=by rw [hG,List.append_assoc,zeros_more]
    have Hmore:=lhd hmore
    have hsz:=low.out.size
    clear hown hG hGl hq hmore own
    go_wp2_with (at_builtin; refine wpList_append_any rfl (.tmp 33) (.tmp 34) rfl w1.heap.size _ G.length G rfl (OwnB.later Hown.out ((Below.refl _ _).alloc (Nat.le_refl _) _)) (some ⟨wr.heap.size,0,none⟩) 1 1 [0] rfl rfl (byt_rowF (l:=[0]) (Go.heap_alloc_new wr _) rfl) (by rw [HGl.out]; have:=HPP.out.2.2; omega) (by rw [World.size_alloc]; omega) ?_; intro v4 w4 own4 low4; have h4:OwnB w1.heap.size (G0 ++ zeros (i + 1)) v4 w4:=Hmore.out ▸ own_app rfl rfl own4; have Own4:=lhd h4; have Low4:=lhd (low4 _ _ (low.out.alloc hsz _) (Nat.le_refl _)); obtain ⟨A4,c4,e4,_⟩:=h4.sl; have E4:=lhd e4; clear own4 low4 h4 e4)
    refine ⟨⟨i + 1,by have:=Hz.out; have:=Hq.out; omega,Own4.out,Low4.out⟩,?_⟩
    have e5:=E4.out
    rw [List.length_append,zeros_len,HG0.out] at e5
    rw [e5]
    have:=Hq.out
    show B - (4 + m + (i + 1)) < B - q
    omega
  . have hge:¬ (q:Int) < (B:Int):=by omega
    have hqB:q = B:=by have:=Hz.out; omega
    have hiz:i = z:=by have:=Hz.out; omega
    subst hqB
    have hGP:G = PP:=by rw [hG,hiz]; exact HPad.out
    subst hGP
    have BP:=lhd (show Byt wr AG cG G by obtain ⟨_,_,e9,b9⟩:=hown.sl; rw [hGl] at e9; cases e9; exact b9)
    have HLr:=lhd (HL0.out.trans (low.out.mono HL0.out.size))
    have HKr:=lhd ((low.out.block _ (Array.getElem?_eq_some_iff.1 HK0.out).1).trans HK0.out)
    have hqI:(q:Int) <= 18006:=by have:=HPP.out.2.2; omega
    clear hown hG hGl hq own low Hown HGe HGl Hq hlt hiz hi HK0 HL0 HPad Hz
    go_upto_region 8 with (first
     | (go_at_call 82; refine (rstreamP_any k C G pos ep A AG n c q cG wr Hk.out.1 Hk.out.2 HCC.out.1 HCC.out.2.1 HCC.out.2.2 HPP.out.1 (by have:=HPP.out.2.2; omega) HpE.out (HB1.out.below HLr.out (Nat.le_refl _)) BP.out).mono ?_; rintro e w5 ⟨v5,rfl,hs5,hb5⟩; rw [HBe.out] at hs5; obtain ⟨A5,c5,rfl,b5⟩:=hs5; rw [HBB.out.1]; have B5:=lhd b5; have HL5:=lhd (HLr.out.trans (hb5.mono HLr.out.size)); have HK5:=lhd ((hb5.block _ (Array.getElem?_eq_some_iff.1 HKr.out).1).trans HKr.out); clear b5 hb5)
     | (refine wpList_load_row rfl 24 (.tmp 5) rfl w.heap.size rfl 24 (u8s k) (0,0) _ HKr.out Tryz.underlying24 rfl HsK0.out ?_))
    clear BP HLr HKr
    go_upto_region 9 with (first
     | (go_at_call 96; refine (rtag_any k C BB pos ep A A5 n c q c5 w5 Hk.out.1 Hk.out.2 HCC.out.1 HCC.out.2.1 HCC.out.2.2 HBB.out.1 HBB.out.2 (by have:=HPP.out.2.2; omega) HpE.out (HB1.out.below HL5.out (Nat.le_refl _)) B5.out).mono ?_; rintro e w6 ⟨rfl,hb6⟩; rw [HTe.out]; have Hb6:=lhd hb6; clear hb6)
     | (refine wpList_store_new rfl (.tmp 15) (.tmp 47) rfl TT HTT.out.1 _ (by rfl) (by rfl) (by rfl) ?_; intro w7 hr7 hb7; have HT7:=lhd hr7; have Hb7:=lhd (Hb6.out.trans (hb7.mono Hb6.out.size)); have hgt:w6.heap.size < w7.heap.size:=(Array.getElem?_eq_some_iff.1 hr7).1; have Hgt:=lhd hgt; clear hr7 hb7 hgt)
     | (refine wpList_load_row rfl 24 (.tmp 5) rfl w.heap.size rfl 24 (u8s k) (0,0) _ HK5.out Tryz.underlying24 rfl HsK0.out ?_))
    have HL7:=lhd (HL5.out.trans (Hb7.out.mono HL5.out.size))
    have B7:=lhd (B5.out.below Hb7.out (Nat.le_refl _))
    have heI:(ep:Int) < 4294967296:=by have:=HpE.out.2; omega
    have hwe:IntKind.u64.wrap (ep:Int) = ep:=by simp [IntKind.wrap,IntKind.bits,IntKind.signed]; omega
    clear HL5 B5 HK5 Hb6 Hb7
    go_upto_region 10 with (first
     | (go_at_call 95; with_reducible refine (rnum4 ep (by have:=HpE.out.2; omega) _).mono ?_; rintro e w8 ⟨v8,rfl,ho8,hb8⟩; have Ho8:=lhd ho8; have Hb8:=lhd hb8; clear ho8 hb8)
     | (at_builtin; refine wpList_append_any rfl (.tmp 50) (.tmp 51) rfl w7.heap.size _ (numL ep 4).length (numL ep 4) rfl Ho8.out A5 q c5 BB rfl HBB.out.1 (B7.out.below Hb8.out (Nat.le_refl _)) (by rw [numL_length]; have:=HPP.out.2.2; omega) Hb8.out.size ?_; intro v9 w9 own9 low9; have Ho9:=lhd (own_app rfl HBB.out.1 own9); have Hb9:=lhd (low9 _ _ Hb8.out (Nat.le_refl _)); clear own9 low9))
    clear heI hwe Ho8 Hb8
    obtain ⟨G9,hG9⟩:∃ G9,G9 = numL ep 4 ++ BB:=⟨_,rfl⟩
    have HG9:Hid (G9 ++ TT = SS):=by show _ = _; rw [hG9]; exact HSS.out
    have HG9l:Hid (G9.length = 4 + q):=by show _ = _; rw [hG9,List.length_append,numL_length,HBB.out.1]
    rw [<- hG9] at Ho9
    clear hG9
    go_upto_region 11 with (fail)
    go_loopw [16,17] (fun v x wx => ∃ i:Nat,i <= 32 /\ x = .int .i64 i /\ Hid (OwnB w7.heap.size (G9 ++ TT.take i) v wx) /\ Hid (Below w7.heap.size w7 wx)) (fun _ x _ => 32 - (intOf x).toNat)
    case atStart => exact ⟨0,Nat.zero_le _,rfl,by show OwnB _ _ _ _; rw [List.take_zero,List.append_nil]; exact Ho9.out,Hb9.out⟩
    case round =>
     clear Ho9 Hb9
     obtain ⟨i,hi,rfl,own,low⟩:=hrel
     by_cases hlt:i < 32
     . have hltI:(i:Int) < 32:=by omega
       have hrow:=(low.out.block _ Hgt.out).trans HT7.out
       have hc:=row8_cell hrow i (by rw [HTT.out.1]; exact hlt)
       have htm:=take_more (L:=TT) (i:=i) (by rw [HTT.out.1]; exact hlt)
       obtain ⟨y,hy⟩:∃ y,y = TT.getD i 0:=⟨_,rfl⟩
       rw [<- hy] at hc htm
       have hGl:(G9 ++ TT.take i).length = 4 + q + i:=by rw [List.length_append,HG9l.out,List.length_take,HTT.out.1]; omega
       have Htm:=lhd htm
       have HGl:=lhd hGl
       have hsz:=low.out.size
       clear hrow htm hy hGl
       go_wp2_with (at_builtin; refine wpList_append_any rfl (.tmp 57) (.tmp 61) rfl w7.heap.size _ (G9 ++ TT.take i).length (G9 ++ TT.take i) rfl (OwnB.later own.out ((Below.refl _ _).alloc (Nat.le_refl _) _)) (some ⟨wr.heap.size,0,none⟩) 1 1 [y] rfl rfl (byt_rowF (l:=[y]) (Go.heap_alloc_new wr _) rfl) (by rw [HGl.out]; have:=HPP.out.2.2; omega) (by rw [World.size_alloc]; omega) ?_; intro v4 w4 own4 low4; have h4:OwnB w7.heap.size (G9 ++ TT.take (i + 1)) v4 w4:=(by have h5:=own_app (L:=G9 ++ TT.take i) (M:=[y]) rfl rfl own4; rwa [List.append_assoc,Htm.out] at h5); have Own4:=lhd h4; have Low4:=lhd (low4 _ _ (low.out.alloc hsz _) (Nat.le_refl _)); clear own4 low4 h4)
       exact ⟨⟨i + 1,by omega,rfl,Own4.out,Low4.out⟩,by simp [intOf]; omega⟩
     . obtain rfl:i = 32:=by omega
       have hK:=own.out
       rw [List.take_of_length_le (by rw [HTT.out.1]; exact Nat.le_refl _),HG9.out] at hK
       have HKo:=lhd (hK.base HL7.out.size)
       have Hlow:=lhd (HL7.out.trans (low.out.mono HL7.out.size))
       have hltI:¬ ((32:Nat):Int) < 32:=by omega
       clear hK own low HT7 Hgt HL7 hlt hi
       go_wp2
       go_ret2
       exact ⟨_,rfl,HKo.out,Hlow.out⟩
theorem beP_lt {S:List Int} (h:InB S) {i:Nat} (hi:i < 4):0 <= beP S i /\ beP S i < 16777216:=by
 have h1:=beP_in h i
 obtain rfl | rfl | rfl | rfl:i = 0 \/ i = 1 \/ i = 2 \/ i = 3:=by omega
 all_goals (refine ⟨h1.1,Int.lt_of_lt_of_le h1.2 (by decide)⟩)
theorem ropen_any (k C S:List Int) (pos:Nat) (A A2:Option Addr) (n c m c2:Nat) (w:World) (hk:k.length = 32) (hb:InB k) (hC:C.length = n) (hCb:InB C) (hn:n <= 1000) (hS:S.length = m) (hSb:InB S) (hm:m <= 9000) (hp:pos < 18446744073709551616) (hB1:Byt w A c C) (hB2:Byt w A2 c2 S) :
 Calls Tryz.prog 49 #[.agg (u8s k),.slice A n c,.int .u64 (pos:Nat),.slice A2 m c2] w fun e w' => OpenQ (openL k C pos S) e w' /\ Below w.heap.size w w':=by
 obtain ⟨r,hr⟩:∃ r,r = openL k C pos S:=⟨_,rfl⟩
 rw [<- hr]
 obtain ⟨d,hd⟩:∃ d:Int,d = (m:Int) - 36:=⟨_,rfl⟩
 have hNb:¬ isBk d -> r = none:=fun h => by rw [hr]; exact openL_no1 (by rw [hS,<- hd]; exact h)
 have HNb:=lhd hNb
 have HR:=lhd hr
 have HD:=lhd hd
 have hdm:(m:Int) - 36 = d:=hd.symm
 have HSl:Hid (S.length = m /\ InB S /\ m <= 9000):=⟨hS,hSb,hm⟩
 have Hk:Hid (k.length = 32 /\ InB k):=⟨hk,hb⟩
 have HCC:Hid (C.length = n /\ InB C /\ n <= 1000):=⟨hC,hCb,hn⟩
 have HpE:=lhd hp
 have HB1:=lhd hB1
 have HB2:=lhd hB2
 have HsK0:Hid ((Tryz.prog.info? 24).map (·.size) = some (u8s k).size):=by show _ = _; rw [u8s_size,hk]; exact infoH
 have hl0:Below w.heap.size w (w.alloc (.cells (u8s k) 24)):=(Below.refl _ _).alloc (Nat.le_refl _) _
 have hk0:=Go.heap_alloc_new w (.cells (u8s k) 24)
 have HL0:=lhd hl0
 have HK0:=lhd hk0
 have hmI:(m:Int) <= 9000:=by omega
 clear hr hd hNb hk hb hC hCb hn hS hSb hm hp hB1 hB2 hl0 hk0
 go_enter Tryz.func49,Tryz.ntmps49
 go_upto_region 4 with (fail)
 clear hdm
 generalize w.alloc _ = w1 at HL0 HK0 ⊢
 go_loopw [12,13] (fun v x wr => ∃ (j:Nat) (f:Bool) (y:Nat),j <= 12 /\ x = .int .i64 (y:Nat) /\ v = .bool f /\ Hid (f = fitB d j /\ y = 64 * 2 ^ j) /\ wr = w1) (fun _ x _ => (262144 - intOf x).toNat)
 case atStart => exact ⟨0,false,64,Nat.zero_le _,rfl,rfl,⟨fit0 d,rfl⟩,rfl⟩
 case round =>
  obtain ⟨j,f,y,hj,rfl,rfl,hf,rfl⟩:=hrel
  by_cases hlt:y <= 131072
  . have hltI:(y:Int) <= 131072:=by omega
    have hj12:j < 12:=by
     rcases Nat.lt_or_ge j 12 with h | h
     . exact h
     . exfalso
       have h2:2 ^ 12 <= 2 ^ j:=Nat.pow_le_pow_right (by decide) h
       have:=hf.out.2
       omega
    have hypos:0 < y:=by rw [hf.out.2]; exact Nat.mul_pos (by decide) (Nat.two_pow_pos _)
    have Hy:Hid (2 * y = 64 * 2 ^ (j + 1) /\ 0 < y):=⟨by rw [hf.out.2,Nat.pow_succ]; omega,hypos⟩
    cases f with
    | true =>
      have Hf2:=lhd (fit_yes hf.out.1)
      clear hf hypos hlt
      go_wp2
      exact ⟨⟨j + 1,true,2 * y,by omega,by go_num,rfl,⟨Hf2.out,Hy.out.1⟩,trivial⟩,by have:=Hy.out.2; simp [intOf]; omega⟩
    | false =>
      have hf2:=fit_no hf.out.1
      rw [<- hf.out.2] at hf2
      have Hf2:=lhd hf2
      clear hf hf2 hypos hlt
      go_wp2
      exact ⟨⟨j + 1,_,2 * y,by omega,by go_num,rfl,⟨Hf2.out,Hy.out.1⟩,trivial⟩,by have:=Hy.out.2; simp [intOf]; omega⟩
  . have hltI:¬ (y:Int) <= 131072:=by omega
    obtain rfl:j = 12:=by
     rcases Nat.lt_or_ge j 12 with h | h
     . exfalso
       have h2:2 ^ j <= 2 ^ 11:=Nat.pow_le_pow_right (by decide) (by omega)
       have:=hf.out.2
       omega
     . omega
    have hfe:=hf.out.1
    rw [fit_bk] at hfe
    clear hf hlt hj
    by_cases hbk:isBk d
    rotate_left
    . rw [decide_eq_false hbk] at hfe
      subst hfe
      have Hr:=lhd (HNb.out hbk)
      clear HNb hbk
      go_wp2
      go_ret3
      exact ⟨by rw [Hr.out]; rfl,HL0.out⟩
    . rw [decide_eq_true hbk] at hfe
      subst hfe
      clear HNb
      have hbp:=isBk_pos hbk
      obtain ⟨q,rfl⟩:∃ q:Nat,d = q:=⟨d.toNat,by omega⟩
      have hSi:=HSl.out.2.1
      have hSm:=HSl.out.1
      have hmq:m = 36 + q:=by have:=HD.out; omega
      have hq4:q <= 8964:=by have:=HSl.out.2.2; omega
      have hq64:64 <= q:=by omega
      have hE4:=be4_in hSi
      obtain ⟨E,hE⟩:∃ E:Nat,be4 S = E:=⟨(be4 S).toNat,by omega⟩
      obtain ⟨B,hB⟩:∃ B,B = (S.drop 4).take q:=⟨_,rfl⟩
      obtain ⟨P,hP⟩:∃ P,P = bodyL k C pos E B:=⟨_,rfl⟩
      have hBl:B.length = q:=by rw [hB,List.length_take,List.length_drop]; omega
      have hBi:InB B:=by rw [hB]; exact (hSi.drop 4).take q
      have hPl:P.length = q:=by rw [hP,bodyL_length,hBl]
      have hPi:InB P:=by rw [hP]; exact bodyL_in hBi
      have hPb:=be4_in hPi
      obtain ⟨nL,hnL⟩:∃ nL:Nat,be4 P = nL:=⟨(be4 P).toNat,by omega⟩
      obtain ⟨T,hT⟩:∃ T,T = (P.drop 4).take nL:=⟨_,rfl⟩
      have hparts:=ropen_parts (k:=k) (C:=C) (pos:=pos) hSi (hSm.trans hmq) hbk hE hB hP hnL
      rw [<- HR.out,<- hT] at hparts
      have HP3:=lhd hparts
      have HBB:Hid (B.length = q /\ InB B):=⟨hBl,hBi⟩
      have HPP:Hid (P.length = q /\ InB P):=⟨hPl,hPi⟩
      have HPe:Hid (bodyL k C pos E B = P):=hP.symm
      have HTT:Hid (InB T /\ (nL + 4 <= q -> T.length = nL)):=⟨by rw [hT]; exact (hPi.drop 4).take nL,fun h => by rw [hT,List.length_take,List.length_drop]; omega⟩
      have HTe:=lhd hT
      have HEe:Hid (beP S 4 = (E:Int)):=by show _ = _; rw [beP4,hE]
      have HLe:Hid (beP P 4 = (nL:Int)):=by show _ = _; rw [beP4,hnL]
      have HE32:Hid (E < 4294967296):=by show _ < _; omega
      have hmc:m <= c2:=by rw [<- hSm]; exact HB2.out.1
      obtain ⟨g,off,rfl,hgw,hcell⟩:=HB2.out.2.2 (by omega)
      have hcw:∀ j,j < 4 -> wr.cell? ⟨g,off + j,none⟩ = some (.int .u8 (S.getD j 0)):=fun j hj => (HL0.out.cell (p:=⟨g,off + j,none⟩) hgw).trans (hcell j (by omega))
      have HCw:=lhd hcw
      have HSi:=lhd hSi
      have Hmq:=lhd hmq
      have HBb:Hid (Byt wr (some ⟨g,off + 4,none⟩) (c2 - 4) B):=by rw [hB]; exact byt_sub (HB2.out.below HL0.out (Nat.le_refl _)) 4 q (by omega) (by omega)
      have h4m:(4:Int) <= m:=by omega
      have hqI:(q:Int) <= 8964:=by omega
      have hq64I:64 <= (q:Int):=by omega
      have hgm:4 + (q:Int) <= m:=by omega
      have hgc:4 + (q:Int) <= c2:=by omega
      have hc4:¬ c2 = 4:=by omega
      clear hbk hbp hSi hSm hmq hq4 hq64 hE4 hE hB hP hBl hBi hPl hPi hPb hnL hT hparts hmc hgw hcell hcw HR HD
      go_upto_region 11 with (fail)
      go_loopw [14,15] (fun v x wx => ∃ i:Nat,i <= 4 /\ x = .int .i64 (i:Nat) /\ v = .int .u32 (beP S i) /\ wx = wr) (fun _ x _ => 4 - (intOf x).toNat)
      case atStart => exact ⟨0,Nat.zero_le _,rfl,rfl,rfl⟩
      case round =>
       obtain ⟨i,hi,rfl,rfl,rfl⟩:=hrel
       by_cases hlt:i < 4
       . have hltI:(i:Int) < 4:=by omega
         have him:(i:Int) < m:=by omega
         have hb1:=beP_lt HSi.out hlt
         have hc:=HCw.out i hlt
         have hy:=HSi.out i
         have hnx:beP S (i + 1) = 256 * beP S i + S.getD i 0:=rfl
         have HNx:=lhd hnx
         obtain ⟨b,hb⟩:∃ b,b = beP S i:=⟨_,rfl⟩
         obtain ⟨y,hy2⟩:∃ y,y = S.getD i 0:=⟨_,rfl⟩
         rw [<- hb] at hb1 HNx ⊢
         rw [<- hy2] at hc hy HNx
         obtain ⟨hb10,hb11⟩:=hb1
         obtain ⟨hy0,hy1⟩:=hy
         clear hnx hb hy2 hlt
         go_wp2
         exact ⟨⟨i + 1,by omega,by go_num,by rw [HNx.out],trivial⟩,by simp [intOf]; omega⟩
       . obtain rfl:i = 4:=by omega
         have hltI4:¬ ((4:Nat):Int) < 4:=by omega
         rw [HEe.out]
         clear hlt hi HCw HEe
         go_upto_region 16 with (first
          | (go_at_call 82; refine (rstreamP_any k C B pos E A (some ⟨g,off + 4,none⟩) n c q (c2 - 4) wr Hk.out.1 Hk.out.2 HCC.out.1 HCC.out.2.1 HCC.out.2.2 HBB.out.1 (by omega) ⟨HpE.out,HE32.out⟩ (HB1.out.below HL0.out (Nat.le_refl _)) HBb.out).mono ?_; rintro e w5 ⟨v5,rfl,hs5,hb5⟩; rw [HPe.out] at hs5; obtain ⟨A5,c5,rfl,b5⟩:=hs5; rw [HPP.out.1]; have B5:=lhd b5; have HL5:=lhd (HL0.out.trans (hb5.mono HL0.out.size)); have HK5:=lhd ((hb5.block _ (Array.getElem?_eq_some_iff.1 HK0.out).1).trans HK0.out); clear b5 hb5)
          | (refine wpList_load_row rfl 24 (.tmp 4) rfl w.heap.size rfl 24 (u8s k) (0,0) _ HK0.out Tryz.underlying24 rfl HsK0.out ?_))
         clear HL0 HK0 HBb hltI4
         have hc5:q <= c5:=by have:=B5.out.1; rw [HPP.out.1] at this; exact this
         obtain ⟨g5,off5,rfl,hg5,hcell5⟩:=B5.out.2.2 (by rw [HPP.out.1]; omega)
         rw [HPP.out.1] at hcell5
         have hcw5:∀ j,j < 4 -> w5.cell? ⟨g5,off5 + j,none⟩ = some (.int .u8 (P.getD j 0)):=fun j hj => hcell5 j (by omega)
         have HCw5:=lhd hcw5
         have hq4I:(4:Int) <= q:=by omega
         clear hcell5 hcw5 hg5
         go_upto_region 18 with (fail)
         go_loopw [18,19] (fun v x wx => ∃ i:Nat,i <= 4 /\ x = .int .i64 (i:Nat) /\ v = .int .i64 (beP P i) /\ wx = w5) (fun _ x _ => 4 - (intOf x).toNat)
         case atStart => exact ⟨0,Nat.zero_le _,rfl,rfl,rfl⟩
         case round =>
          obtain ⟨i,hi,rfl,rfl,rfl⟩:=hrel
          by_cases hlt:i < 4
          . have hltI:(i:Int) < 4:=by omega
            have him:(i:Int) < q:=by omega
            have hb1:=beP_lt HPP.out.2 hlt
            have hc:=HCw5.out i hlt
            have hy:=HPP.out.2 i
            have hnx:beP P (i + 1) = 256 * beP P i + P.getD i 0:=rfl
            have HNx:=lhd hnx
            obtain ⟨b,hb⟩:∃ b,b = beP P i:=⟨_,rfl⟩
            obtain ⟨y,hy2⟩:∃ y,y = P.getD i 0:=⟨_,rfl⟩
            rw [<- hb] at hb1 HNx ⊢
            rw [<- hy2] at hc hy HNx
            obtain ⟨hb10,hb11⟩:=hb1
            obtain ⟨hy0,hy1⟩:=hy
            clear hnx hb hy2 hlt
            go_wp2
            exact ⟨⟨i + 1,by omega,by go_num,by rw [HNx.out],trivial⟩,by simp [intOf]; omega⟩
          . obtain rfl:i = 4:=by omega
            have hltI4:¬ ((4:Nat):Int) < 4:=by omega
            rw [HLe.out]
            clear hlt hi HCw5 HLe
            by_cases hbig:(q:Int) - 4 < nL
            . have Hr:=lhd (HP3.out.1 hbig)
              clear HP3
              go_wp2
              go_ret3
              exact ⟨by rw [Hr.out]; rfl,HL5.out⟩
            . have hle:(nL:Int) <= (q:Int) - 4:=by omega
              have Hno:=lhd (HP3.out.2.1 hle)
              have Hyes:=lhd (HP3.out.2.2 hle)
              have hTl:T.length = nL:=HTT.out.2 (by omega)
              have HTl:=lhd hTl
              have HTb:Hid (Byt wr (some ⟨g5,off5 + 4,none⟩) (c5 - 4) T):=by rw [HTe.out]; exact byt_sub B5.out 4 nL (by have:=HPP.out.1; omega) (by have:=HPP.out.1; omega)
              have hmade:=World.ownsRow_made wr (base:=wr.heap.size) (e := 5) (size:=1) #[] 0 (Nat.le_refl _) (by unfold maxLen; omega) rfl
              have Hmade:=lhd hmade
              have hn0:0 <= (nL:Int):=by omega
              have hnq:4 + (nL:Int) <= q:=by omega
              have hnc:4 + (nL:Int) <= c5:=by omega
              have hc54:¬ c5 = 4:=by omega
              have hT4:(4 + (nL:Int)).toNat = 4 + nL:=by omega
              have hnI:(nL:Int) <= 8960:=by omega
              have h44:(4:Int) <= 4 + (nL:Int):=by omega
              clear HP3 hmade hbig hTl
              go_upto_region 23 with (fail)
              go_upto_region 24 with (at_builtin; refine wpList_append_any rfl (.tmp 76) (.tmp 80) rfl wr.heap.size _ 0 [] rfl Hmade.out (some ⟨g5,off5 + 4,none⟩) nL (c5 - 4) T rfl HTl.out (HTb.out.alloc _) (by omega) (by rw [World.size_alloc]; omega) ?_; intro v6 w6 own6 low6; have h6:OwnB wr.heap.size T v6 w6:=own_app (L:=[]) (n:=0) rfl HTl.out own6; have hb6:=low6 _ _ ((Below.refl wr.heap.size wr).alloc (Nat.le_refl _) _) (Nat.le_refl _); obtain ⟨A6,c6,rfl,b6⟩:=h6.sl; rw [HTl.out]; have B6:=lhd b6; have HL6:=lhd (HL5.out.trans (hb6.mono HL5.out.size)); have HK6:=lhd ((hb6.block _ (Array.getElem?_eq_some_iff.1 HK5.out).1).trans HK5.out); clear h6 hb6 b6 own6 low6)
              clear Hmade HTb hn0 hnq hnc hc54 hT4 h44 HL5 HK5
              go_upto_region 25 with (first
               | (go_at_call 68; refine (rseal_any k C T pos E A A6 n c nL c6 w6 Hk.out.1 Hk.out.2 HCC.out.1 HCC.out.2.1 HCC.out.2.2 HTl.out HTT.out.1 (by omega) ⟨HpE.out,HE32.out⟩ (HB1.out.below HL6.out (Nat.le_refl _)) B6.out).mono ?_; rintro e w7 ⟨v7,rfl,ho7,hb7⟩; have Ho7:=lhd ho7; have Hb7:=lhd hb7; clear ho7 hb7)
               | (refine wpList_load_row rfl 24 (.tmp 4) rfl w.heap.size rfl 24 (u8s k) (0,0) _ HK6.out Tryz.underlying24 rfl HsK0.out ?_))
              obtain ⟨X,hX⟩:∃ X,X = sealL k C pos E T:=⟨_,rfl⟩
              have hXin:InB X:=by rw [hX]; exact sealL_in HTT.out.1
              have ho7:=Ho7.out
              rw [<- hX] at ho7 Hno Hyes
              obtain ⟨A7,c7,rfl,b7⟩:=ho7.sl
              have k1:=Cha.conv_any b7 rfl
              have HL7:=lhd (HL6.out.trans (Hb7.out.mono HL6.out.size))
              have k2:=Cha.conv_any (HB2.out.below HL7.out (Nat.le_refl _)) HSl.out.1
              have B7:=lhd (B6.out.below Hb7.out (Nat.le_refl _))
              obtain ⟨lX,hlX⟩:∃ lX,lX = X.length:=⟨_,rfl⟩
              rw [<- hlX] at k1 ⊢
              by_cases he:X = S
              . have Hr:=lhd (Hyes.out he)
                obtain ⟨TS,hTS⟩:∃ TS,TS = strOfNums S:=⟨_,rfl⟩
                rw [he,<- hTS] at k1
                rw [<- hTS] at k2
                clear Hno Hyes hTS he hX hXin ho7 b7 Ho7 Hb7 HL6 HK6 B6 hlX
                go_wp2
                go_ret3
                exact ⟨by rw [Hr.out]; exact ⟨_,rfl,A6,c6,by rw [HTl.out]; rfl,B7.out⟩,HL7.out⟩
              . have Hr:=lhd (Hno.out he)
                have hne:=Str.str_ne hXin HSi.out he
                have hne2:((strOfNums X).toList == (strOfNums S).toList) = false:=by rw [beq_eq_false_iff_ne]; exact hne
                obtain ⟨TX,hTX⟩:∃ TX,TX = strOfNums X:=⟨_,rfl⟩
                obtain ⟨TS,hTS⟩:∃ TS,TS = strOfNums S:=⟨_,rfl⟩
                rw [<- hTX] at k1 hne2
                rw [<- hTS] at k2 hne2
                clear Hno Hyes hTS hTX he hX hXin ho7 b7 Ho7 Hb7 HL6 HK6 B6 hlX hne
                go_wp2
                go_ret3
                exact ⟨by rw [Hr.out]; rfl,HL7.out⟩
end Go.Proofs.YteeghgjkjicjoaaGreatDoor.Seal
namespace Go.Proofs.YteeghgjkjicjoaaGreatDoor.Sgm
open Go.RowKit Dsk Slt Seal
def erO (r:Option (List Int × Nat)):Int:=if r.isSome then 0 else 9
def TU (x:Int) (v:Value) (_w:World):Prop:=∃ sv ep,v = .tuple #[sv,.int .u32 (ep:Nat),.int .i64 x]
theorem TU.later {x:Int} {v:Value} {w w':World} (h:TU x v w) (_:Below w.heap.size w w'):TU x v w':=h
theorem tu_of {r:Option (List Int × Nat)} {e:Ending} {w:World} (h:OpenQ r e w):∃ v,e = .returned v /\ TU (erO r) v w:=by
 cases r with
 | none => exact ⟨_,h,_,0,rfl⟩
 | some x => obtain ⟨v,rfl,_⟩:=h; exact ⟨_,rfl,v,x.2,rfl⟩
def ForgedAt (k C:List Int) (ts ws:List (List Int)) (i:Nat):Prop:=(openL k C i (ts.getD i [])).isSome = true /\ (ws.length <= i \/ ws.getD i [] ≠ ts.getD i [])
def FgQ (n:Nat) (k C:List Int) (ts ws:List (List Int)) (e:Ending):Prop:=∃ b,e = .returned (.bool b) /\ (b = true ↔ ∃ i,i < n /\ ForgedAt k C ts ws i)
theorem infoHs:(Tryz.prog.info? 24).map (·.size) = some 32:=by kernel_rfl
theorem forged_any {w:World} (A A2 A3:Option Addr) (n c m c2 q c3:Nat) (ts ws:List (List Int)) (k C:List Int) (hn:ts.length = n) (hm:ws.length = m) (h1:TxAt w A ts) (h2:TxAt w A2 ws) (hn1:n <= 1000000) (_hm1:m <= 1000000) (h9:∀ t ∈ ts,t.length <= 9000) (hk:k.length = 32) (hkb:InB k) (hC:C.length = q) (hCb:InB C) (hq:q <= 1000) (hB:Byt w A3 c3 C) :
 Calls Tryz.prog 20 #[.slice A n c,.slice A2 m c2,.agg (u8s k),.slice A3 q c3] w fun e w' => FgQ n k C ts ws e /\ Below w.heap.size w w':=by
 obtain ⟨w1,hw1⟩:∃ w1,w1 = w.alloc (.cells (u8s k) 24):=⟨_,rfl⟩
 have hb1:Below w.heap.size w w1:=by rw [hw1]; exact (Below.refl _ _).alloc (Nat.le_refl _) _
 have hrow:w1.heap[w.heap.size]? = some (.cells (u8s k) 24 (0,0)):=by rw [hw1]; exact Go.heap_alloc_new w _
 have HlG:Hid (w.heap.size < w1.heap.size):=(Array.getElem?_eq_some_iff.1 hrow).1
 have HR:=lhd hrow
 have Hi:Hid ((Tryz.prog.info? 24).map (·.size) = some (u8s k).size):=by show _ = _; rw [u8s_size,hk]; exact infoHs
 have HT1:Hid (TxAt w1 A ts):=h1.later hb1
 have HT2:Hid (TxAt w1 A2 ws):=h2.later hb1
 have HBC:Hid (Byt w1 A3 c3 C /\ InB C /\ C.length = q /\ q <= 1000):=⟨hB.below hb1 (Nat.le_refl _),hCb,hC,hq⟩
 have Hk:Hid (k.length = 32 /\ InB k):=⟨hk,hkb⟩
 have Hn:=lhd hn
 have Hm:=lhd hm
 have H9:Hid (∀ i,(ts.getD i []).length <= 9000):=fun i => by
  rw [List.getD_eq_getElem?_getD]
  by_cases hi:i < ts.length
  . rw [List.getElem?_eq_getElem hi,Option.getD_some]; exact h9 _ (List.getElem_mem hi)
  . rw [List.getElem?_eq_none (by omega)]; exact Nat.zero_le _
 have Hb1:=lhd hb1
 have Hw1:=lhd hw1
 clear hn hm h1 h2 h9 hk hkb hC hCb hq hB hb1 hrow
 go_enter Tryz.func20,Tryz.ntmps20
 go_upto_region 2 with (fail)
 rw [<- hw1]
 clear hw1
 go_loopw [9] (fun v wr => ∃ i:Nat,i <= n /\ v = .int .i64 i /\ Hid (∀ j,j < i -> ¬ ForgedAt k C ts ws j) /\ Hid (Below w1.heap.size w1 wr)) (fun v _ => n - (intOf v).toNat)
 case atStart => exact ⟨0,Nat.zero_le _,rfl,fun j hj => absurd hj (Nat.not_lt_zero _),Below.refl _ _⟩
 case round =>
  obtain ⟨i,hi,rfl,hj,hr⟩:=hrel
  by_cases hlt:i < n
  . have hltI:(i:Int) < (n:Int):=by omega
    obtain ⟨g,off,B,cb,rfl,hg,hc,hB,hi1⟩:=(HT1.out.later hr.out).at_ i (by rw [Hn.out]; exact hlt)
    obtain ⟨t,ht⟩:∃ t,t = ts.getD i []:=⟨_,rfl⟩
    have ht9:=H9.out i
    rw [<- ht] at hc hB hi1 ht9
    obtain ⟨l,hl⟩:∃ l,l = t.length:=⟨_,rfl⟩
    rw [<- hl] at hc ht9
    have hwi:IntKind.u64.wrap (i:Int) = ((i:Nat):Int):=by show (i:Int) % 18446744073709551616 = i; omega
    have Hwi:=lhd hwi
    have Hc:=lhd hc
    have HBt:Hid (Byt wr B cb t /\ InB t /\ t.length = l /\ l <= 9000):=⟨hB,hi1,hl.symm,ht9⟩
    have Hrow:Hid (wr.heap[w.heap.size]? = some (.cells (u8s k) 24 (0,0))):=(hr.out.block _ HlG.out).trans HR.out
    have HBC2:Hid (Byt wr A3 c3 C):=HBC.out.1.below hr.out (Nat.le_refl _)
    have Hg:Hid (g < wr.heap.size):=hg
    obtain ⟨X,hX⟩:∃ X,X = erO (openL k C i t):=⟨_,rfl⟩
    have HX:=lhd hX
    have Ht:=lhd ht
    have Hi64:Hid (i < 18446744073709551616):=by show _ < _; omega
    clear hc hB hi1 hl hX ht ht9 hwi hg
    go_upto_region 4 with (fail)
    have apx:apartB [20,21,22,23,24,25,26,27,28,19,29,30,31,10,11,12] = true:=by decide
    refine wp_region_any (by kernel_rfl) ?_
    change wpAny _ _ _ _ _ _ _ (World.drew _)
    refine wpAny_inv2 (fun ll aa wx => Hid (ll.size = 16 /\ Below wr.heap.size wr wx) /\ ∃ (z:Nat -> Value),Hid (aa = ⟨#[Value.slice (some { block:=g,off:=off }) n c,Value.slice A2 m c2,Value.agg (u8s k),Value.slice A3 q c3,undef,undef,Value.pointer (some { block:=w.heap.size,off:=0 }),undef,u8,Value.int IntKind.i64 ((i:Nat):Int),z 10,z 11,z 12,Value.int IntKind.i64 ((i:Nat):Int),Value.slice (some { block:=g,off:=off }) n c,Value.int IntKind.i64 ((n:Nat):Int),Value.bool true,u17,u18,z 19,z 20,z 21,z 22,z 23,z 24,z 25,z 26,z 27,z 28,z 29,z 30,z 31,u32,u33,u34,u35,u36,u37,u38,u39,u40,u41,u42,u43,u44,u45,u46,u47,u48,u49,u50,u51,u52],[]⟩) /\ Holding [20,21,22,23,24,25,26,27,28,19,29,30,31,10,11,12] [some (.agg (u8s k)),some (.slice A3 q c3),some (.int .i64 ((i:Nat):Int)),some (.int .u64 ((i:Nat):Int)),some (.slice (some ⟨g,off,none⟩) n c),some (.int .i64 ((i:Nat):Int)),some (.pointer (some ⟨g,off + i,none⟩)),some (.slice B l cb),none,none,none,none,some (.int .i64 X),none,none,some (.int .i64 X)] ll z /\ Whn ll 8 (TU X) (z 28) wx /\ Whn ll 9 (TU X) (z 19) wx) ?_ (by kernel_rfl) ?_ ?_ _ rfl _ _ ?_
    . rintro ll aa wx ⟨hI,_⟩
      exact hI.out.1
    . rintro ll aa wx ⟨hI,z,ha,hz,hp8,hp9⟩ hall
      have hx:=lhd hI.out.2
      have e15:z 12 = .int .i64 X:=hz 15 _ (hall 15 (by decide)) rfl
      have p8:=hp8.get (hall 8 (by decide))
      have p9:=hp9.get (hall 9 (by decide))
      clear hall hz hI hp8 hp9
      obtain rfl:=ha.out
      clear ha
      clear apx
      have HX4:=lhd hx.out
      rw [e15]
      clear e15 hx p8 p9
      have hlow:Hid (Below w1.heap.size w1 wx):=hr.out.trans (HX4.out.mono hr.out.size)
      by_cases ho:(openL k C i t).isSome = true
      . have hX0:X = 0:=by rw [HX.out]; unfold erO; rw [if_pos ho]
        have Ho:Hid ((openL k C i (ts.getD i [])).isSome = true):=by show _ = _; rw [<- Ht.out]; exact ho
        clear HX
        subst hX0
        by_cases hge:m <= i
        . have hgeI:(m:Int) <= (i:Int):=by omega
          have Hfin:Hid (ForgedAt k C ts ws i):=⟨Ho.out,.inl (by rw [Hm.out]; exact hge)⟩
          clear ho hge
          go_upto_region 5 with (fail)
          go_quiet (fail)
          go_wp2
          go_ret
          exact ⟨⟨true,rfl,fun _ => ⟨i,hlt,Hfin.out⟩,fun _ => rfl⟩,Hb1.out.trans ((Below.drewN hlow.out _).mono Hb1.out.size)⟩
        . have hgeI:¬ (m:Int) <= (i:Int):=by omega
          have hmI:(i:Int) < (m:Int):=by omega
          obtain ⟨g2,off2,B2,cb2,rfl,hg2,hc2,hB2,hi2⟩:=(HT2.out.later hlow.out).at_ i (by rw [Hm.out]; omega)
          have hcr:wx.cell? ⟨g,off + i,none⟩ = some (.slice B l cb):=(HX4.out.cell (p:=⟨g,off + i,none⟩) Hg.out).trans Hc.out
          have k1:=fun a => Str.conv_any (w:=wx.drewN a) ((HBt.out.1.below HX4.out (Nat.le_refl _)).below (Below.drewN (Below.refl _ _) a) (Nat.le_refl _)) HBt.out.2.2.1
          have k2:=fun a => Str.conv_any (w:=wx.drewN a) (hB2.below (Below.drewN (Below.refl _ _) a) (Nat.le_refl _)) rfl
          have Hne:=lhd (texts_ne hi2 HBt.out.2.1)
          obtain ⟨T1,hT1⟩:∃ T,T = strOfNums t:=⟨_,rfl⟩
          obtain ⟨T2,hT2⟩:∃ T,T = strOfNums (ws.getD i []):=⟨_,rfl⟩
          obtain ⟨l2,hl2⟩:∃ l,l = (ws.getD i []).length:=⟨_,rfl⟩
          rw [<- hT1] at k1
          rw [<- hT2,<- hl2] at k2
          rw [<- hl2] at hc2
          rw [<- hT1,<- hT2] at Hne
          have HTa:=lhd hT1
          have HTb:=lhd hT2
          clear hB2 hi2 hT1 hT2 hl2 ho
          by_cases he:ws.getD i [] = t
          . have hT:T2 = T1:=by rw [HTa.out,HTb.out,he]
            have He:=lhd he
            clear he
            subst hT
            go_upto_region 5 with (fail)
            go_quiet (fail)
            go_wp2
            refine ⟨⟨i + 1,by omega,by go_num,?_,Below.drewN hlow.out _⟩,by simp [intOf]; omega⟩
            intro j hj1
            by_cases hji:j = i
            . subst hji
              rintro ⟨_,h | h⟩
              . rw [Hm.out] at h; exact hge h
              . exact h (He.out.trans Ht.out)
            . exact hj.out j (by omega)
          . have hT:=Hne.out he
            have Hfin:Hid (ForgedAt k C ts ws i):=⟨Ho.out,.inr (by rw [<- Ht.out]; exact he)⟩
            clear he
            go_upto_region 5 with (fail)
            go_quiet (fail)
            go_wp2
            go_ret
            exact ⟨⟨true,rfl,fun _ => ⟨i,hlt,Hfin.out⟩,fun _ => rfl⟩,Hb1.out.trans ((Below.drewN hlow.out _).mono Hb1.out.size)⟩
      . have hX0:X = 9:=by rw [HX.out]; unfold erO; rw [if_neg ho]
        have Ho:Hid (¬ (openL k C i (ts.getD i [])).isSome = true):=by show ¬ _; rw [<- Ht.out]; exact ho
        clear HX ho
        subst hX0
        go_upto_region 5 with (fail)
        go_quiet (fail)
        go_wp2
        refine ⟨⟨i + 1,by omega,by go_num,?_,Below.drewN hlow.out _⟩,by simp [intOf]; omega⟩
        intro j hj1
        by_cases hji:j = i
        . subst hji
          exact fun h => Ho.out h.1
        . exact hj.out j (by omega)
    . rintro ll aa wx i ⟨hI,z,ha,hz,hp8,hp9⟩ hcl hi hu hw
      obtain rfl:=ha.out
      have hsz:=lhd hI.out.1
      have hx:=lhd hI.out.2
      clear ha hI
      have hin:i < 16:=hi
      obtain rfl | rfl | rfl | rfl | rfl | rfl | rfl | rfl | rfl | rfl | rfl | rfl | rfl | rfl | rfl | rfl:i = 0 \/ i = 1 \/ i = 2 \/ i = 3 \/ i = 4 \/ i = 5 \/ i = 6 \/ i = 7 \/ i = 8 \/ i = 9 \/ i = 10 \/ i = 11 \/ i = 12 \/ i = 13 \/ i = 14 \/ i = 15:=by omega
      . have cl:=(hx.out.block _ (Array.getElem?_eq_some_iff.1 Hrow.out).1).trans Hrow.out
        refine wpOp_plain rfl rfl (wp_load_row 24 (.tmp 6) rfl (w.heap.size) rfl 24 (u8s k) (0,0) _ cl Tryz.underlying24 rfl Hi.out ?_)
        go_simp
        exact ⟨⟨by simp [hsz.out],hx.out⟩,upd z 20 (.agg (u8s k)),(by unfold Hid; simp [upd]),hz.nx apx hsz.out 0,hp8.kp,hp9.kp⟩
      . refine wpOp_plain rfl rfl ?_
        go_simp
        exact ⟨⟨by simp [hsz.out],hx.out⟩,upd z 21 (.slice A3 q c3),(by unfold Hid; simp [upd]),hz.nx apx hsz.out 1,hp8.kp,hp9.kp⟩
      . refine wpOp_plain rfl rfl ?_
        go_simp
        exact ⟨⟨by simp [hsz.out],hx.out⟩,upd z 22 (.int .i64 ((i:Nat):Int)),(by unfold Hid; simp [upd]),hz.nx apx hsz.out 2,hp8.kp,hp9.kp⟩
      . have e2:z 22 = .int .i64 ((i:Nat):Int):=hz 2 _ (hw 2 (by kernel_rfl)) rfl
        refine wpOp_plain rfl rfl ?_
        go_simp
        exact ⟨⟨by simp [hsz.out],hx.out⟩,upd z 23 (.int .u64 ((i:Nat):Int)),(by unfold Hid; simp [upd,e2,Hwi.out]),hz.nx apx hsz.out 3,hp8.kp,hp9.kp⟩
      . refine wpOp_plain rfl rfl ?_
        go_simp
        exact ⟨⟨by simp [hsz.out],hx.out⟩,upd z 24 (.slice (some ⟨g,off,none⟩) n c),(by unfold Hid; simp [upd]),hz.nx apx hsz.out 4,hp8.kp,hp9.kp⟩
      . refine wpOp_plain rfl rfl ?_
        go_simp
        exact ⟨⟨by simp [hsz.out],hx.out⟩,upd z 25 (.int .i64 ((i:Nat):Int)),(by unfold Hid; simp [upd]),hz.nx apx hsz.out 5,hp8.kp,hp9.kp⟩
      . have e4:z 24 = .slice (some ⟨g,off,none⟩) n c:=hz 4 _ (hw 4 (by kernel_rfl)) rfl
        have e5:z 25 = .int .i64 ((i:Nat):Int):=hz 5 _ (hw 5 (by kernel_rfl)) rfl
        refine wpOp_plain rfl rfl ?_
        go_simp
        exact ⟨⟨by simp [hsz.out],hx.out⟩,upd z 26 (.pointer (some ⟨g,off + i,none⟩)),(by unfold Hid; simp [upd,e4,e5]),hz.nx apx hsz.out 6,hp8.kp,hp9.kp⟩
      . have e6:z 26 = .pointer (some ⟨g,off + i,none⟩):=hz 6 _ (hw 6 (by kernel_rfl)) rfl
        have cl:wx.cell? ⟨g,off + i,none⟩ = some (.slice B l cb):=(hx.out.cell (p:=⟨g,off + i,none⟩) Hg.out).trans Hc.out
        refine wpOp_plain rfl rfl ?_
        go_simp
        exact ⟨⟨by simp [hsz.out],hx.out⟩,upd z 27 (.slice B l cb),(by unfold Hid; simp [upd,e6]),hz.nx apx hsz.out 7,hp8.kp,hp9.kp⟩
      . have e0:z 20 = .agg (u8s k):=hz 0 _ (hw 0 (by kernel_rfl)) rfl
        have e1:z 21 = .slice A3 q c3:=hz 1 _ (hw 1 (by kernel_rfl)) rfl
        have e3:z 23 = .int .u64 ((i:Nat):Int):=hz 3 _ (hw 3 (by kernel_rfl)) rfl
        have e7:z 27 = .slice B l cb:=hz 7 _ (hw 7 (by kernel_rfl)) rfl
        refine wpOp_plain rfl rfl ?_
        go_simp
        go_at_call 49
        refine (ropen_any k C t i A3 B q c3 l cb wx Hk.out.1 Hk.out.2 HBC.out.2.2.1 HBC.out.2.1 HBC.out.2.2.2 HBt.out.2.2.1 HBt.out.2.1 HBt.out.2.2.2 Hi64.out (HBC2.out.below hx.out (Nat.le_refl _)) (HBt.out.1.below hx.out (Nat.le_refl _))).mono ?_
        rintro e w' ⟨ho,low⟩
        obtain ⟨vr,rfl,htu⟩:=tu_of ho
        rw [<- HX.out] at htu
        exact ⟨⟨by simp [hsz.out],hx.out.trans (low.mono hx.out.size)⟩,upd z 28 (vr),(by unfold Hid; simp [upd,e0,e1,e3,e7]),hz.nn apx hsz.out 8,Whn.done (htu),hp9.kp.map (fun h => h.later low)⟩
      . have p8:=hp8.get (hw 8 (by kernel_rfl))
        refine wpOp_plain rfl rfl ?_
        go_simp
        exact ⟨⟨by simp [hsz.out],hx.out⟩,upd z 19 (z 28),(by unfold Hid; simp [upd]),hz.nn apx hsz.out 9,hp8.kp,Whn.done (p8)⟩
      . have p9:=hp9.get (hw 9 (by kernel_rfl))
        obtain ⟨sv,ep,e19⟩:=p9
        refine wpOp_plain rfl rfl ?_
        simp only [e19]
        go_simp
        exact ⟨⟨by simp [hsz.out],hx.out⟩,upd z 29 (sv),(by unfold Hid; simp [upd,e19]),hz.nn apx hsz.out 10,hp8.kp,hp9.kp⟩
      . have p9:=hp9.get (hw 9 (by kernel_rfl))
        obtain ⟨sv,ep,e19⟩:=p9
        refine wpOp_plain rfl rfl ?_
        simp only [e19]
        go_simp
        exact ⟨⟨by simp [hsz.out],hx.out⟩,upd z 30 (.int .u32 (ep:Nat)),(by unfold Hid; simp [upd,e19]),hz.nn apx hsz.out 11,hp8.kp,hp9.kp⟩
      . have p9:=hp9.get (hw 9 (by kernel_rfl))
        obtain ⟨sv,ep,e19⟩:=p9
        refine wpOp_plain rfl rfl ?_
        simp only [e19]
        go_simp
        exact ⟨⟨by simp [hsz.out],hx.out⟩,upd z 31 (.int .i64 X),(by unfold Hid; simp [upd,e19]),hz.nx apx hsz.out 12,hp8.kp,hp9.kp⟩
      . refine wpOp_plain rfl rfl ?_
        go_simp
        exact ⟨⟨by simp [hsz.out],hx.out⟩,upd z 10 (z 29),(by unfold Hid; simp [upd]),hz.nn apx hsz.out 13,hp8.kp,hp9.kp⟩
      . refine wpOp_plain rfl rfl ?_
        go_simp
        exact ⟨⟨by simp [hsz.out],hx.out⟩,upd z 11 (z 30),(by unfold Hid; simp [upd]),hz.nn apx hsz.out 14,hp8.kp,hp9.kp⟩
      . have e12:z 31 = .int .i64 X:=hz 12 _ (hw 12 (by kernel_rfl)) rfl
        refine wpOp_plain rfl rfl ?_
        go_simp
        exact ⟨⟨by simp [hsz.out],hx.out⟩,upd z 12 (.int .i64 X),(by unfold Hid; simp [upd,e12]),hz.nx apx hsz.out 15,hp8.kp,hp9.kp⟩
    . exact ⟨⟨rfl,(Below.refl _ _).drew⟩,fun xx => (#[Value.slice (some { block:=g,off:=off }) n c,Value.slice A2 m c2,Value.agg (u8s k),Value.slice A3 q c3,undef,undef,Value.pointer (some { block:=w.heap.size,off:=0 }),undef,u8,Value.int IntKind.i64 ((i:Nat):Int),u10,u11,u12,Value.int IntKind.i64 ((i:Nat):Int),Value.slice (some { block:=g,off:=off }) n c,Value.int IntKind.i64 ((n:Nat):Int),Value.bool true,u17,u18,u19,u20,u21,u22,u23,u24,u25,u26,u27,u28,u29,u30,u31,u32,u33,u34,u35,u36,u37,u38,u39,u40,u41,u42,u43,u44,u45,u46,u47,u48,u49,u50,u51,u52]:Array Value).getD xx undef,rfl,Holding.start,Whn.none (by decide),Whn.none (by decide)⟩
  . have hltI:¬ (i:Int) < (n:Int):=by omega
    obtain rfl:i = n:=by omega
    go_wp2
    go_ret
    exact ⟨⟨false,rfl,fun h => (Bool.false_ne_true h).elim,fun ⟨j,h,h2⟩ => (hj.out j h h2).elim⟩,Hb1.out.trans (hr.out.mono Hb1.out.size)⟩
end Go.Proofs.YteeghgjkjicjoaaGreatDoor.Sgm
namespace Go.Proofs.YteeghgjkjicjoaaGreatDoor.Slt
open Go.RowKit Dsk
def rowR (gb n:Nat) (off has:Bool) (wh:Int) (m:List Int):Array Value:=(.slice (some ⟨gb,0,none⟩) n n :: .bool off :: .bool has :: .int .i64 wh :: vals m).toArray
structure MK where
 g:Nat
 b:Nat
def MK.bl (M:MK):List Nat:=[M.g,M.b]
def MK.ptr (M:MK):Value:=.pointer (some ⟨M.g,0,none⟩)
structure RD (w:World) (M:MK) (D:DS):Prop where
 row:∃ wh m,w.heap[M.g]? = some (.cells (rowR M.b D.data.length D.off D.laid wh m) 41 (0,0)) /\ (D.laid = true -> wh = D.whole /\ m = D.mask) /\ m.length = 16 /\ InB m
 body:w.heap[M.b]? = some (.cells (vals D.data).toArray 5 (0,0))
 ne:M.g ≠ M.b
 wb:0 <= D.whole /\ D.whole <= 9223372036854775807
theorem RD.blt {w:World} {M:MK} {D:DS} (h:RD w M D):M.b < w.heap.size:=(Array.getElem?_eq_some_iff.1 h.body).1
def newT (D:DS) (k:Nat) (b:List Int):List Int:=if D.due then tornL D.mask (secL D.data k) b else b
theorem newT_len {D:DS} {k:Nat} {b:List Int} (hb:b.length = 128):(newT D k b).length = 128:=by
 unfold newT; split
 . exact torn_len _ _ _
 . exact hb
theorem stepD_due {D:DS} {k:Nat} {b:List Int} (h:D.due = true):stepD D k b = { data:=splice D.data (k * 128) (newT D k b),writes:=D.writes + 1,off:=true,laid:=false,whole:=0,mask:=z16 }:=by
 unfold stepD newT; rw [if_pos h,if_pos h]
structure WI2 (W:World) (M:MK) (D:DS) (k j:Nat) (b:List Int) (wr:World):Prop where
 body:wr.heap[M.b]? = some (.cells (splice (vals D.data) (k * 128) (vals ((newT D k b).take j))).toArray 5 (0,0))
 chg:Chg [M.b] W wr
theorem vals_splice (d:List Int) (k:Nat) (t:List Int):splice (vals d) k (vals t) = vals (splice d k t):=by
 simp [splice,vals]
structure WO (W:World) (M:MK) (D0:DS) (at_:Nat) (b:List Int) (n i:Nat) (D:DS) (wr:World):Prop where
 rd:RD wr M D
 chg:Chg M.bl W wr
 run:runD D0 at_ b 0 n = runD D at_ b i (n - i)
 off:D.off = false
 len:D.data.length = D0.data.length
theorem rowR_off (gb n:Nat) (off has x:Bool) (wh:Int) (m:List Int):(rowR gb n off has wh m).setIfInBounds 1 (.bool x) = rowR gb n x has wh m:=rfl
theorem rowR_has (gb n:Nat) (off has x:Bool) (wh:Int) (m:List Int):(rowR gb n off has wh m).setIfInBounds 2 (.bool x) = rowR gb n off x wh m:=rfl
theorem WO.stop {W wc wr:World} {M:MK} {D0 D:DS} {at_ n i:Nat} {b:List Int} {wh:Int} {mm:List Int} (h:WO W M D0 at_ b n i D wc) (hi:i < n) (hw:WI2 wc M D (at_ + i) 128 (secL b i) wr) (hsl:(secL b i).length = 128) (hfit:(at_ + i) * 128 + 128 <= D.data.length)
 (hrow:wr.heap[M.g]? = some (.cells (rowR M.b D.data.length D.off D.laid wh mm) 41 (0,0))) (hml:mm.length = 16) (hmi:InB mm) (hd:D.due = true) :
 (runD D0 at_ b 0 n).2 = 12 /\ RD ((wr.setCell ⟨M.g,1,none⟩ (.bool true)).setCell ⟨M.g,2,none⟩ (.bool false)) M (runD D0 at_ b 0 n).1 /\ Chg M.bl W ((wr.setCell ⟨M.g,1,none⟩ (.bool true)).setCell ⟨M.g,2,none⟩ (.bool false)):=by
 have lT:(newT D (at_ + i) (secL b i)).length = 128:=newT_len hsl
 have hst:=stepD_due (k:=at_ + i) (b:=secL b i) hd
 have hlen:(splice D.data ((at_ + i) * 128) (newT D (at_ + i) (secL b i))).length = D.data.length:=splice_len _ _ _ (by rw [lT]; exact hfit)
 have hne:=h.rd.ne
 have hrun:runD D0 at_ b 0 n = (stepD D (at_ + i) (secL b i),12):=by
  rw [h.run,show n - i = n - (i + 1) + 1 by omega,run_off (by rw [hst])]
 rw [hrun]
 refine ⟨rfl,⟨⟨wh,mm,?_,fun hla => ?_,hml,hmi⟩,?_,hne,?_⟩,h.chg.trans (((hw.chg.mono (fun q hq => .inl (by simp at hq; simp [MK.bl,hq]))).setCell (by simp [MK.bl]) _).setCell (by simp [MK.bl]) _)⟩
 . rw [heap_setCell_same _ _ _ _ _ _ (heap_setCell_same _ _ _ _ _ _ hrow),rowR_off,rowR_has,hst]
   simp only [hlen]
 . rw [hst] at hla; cases hla
 . rw [heap_setCell_other _ _ _ _ (by simpa using fun e => hne e.symm),heap_setCell_other _ _ _ _ (by simpa using fun e => hne e.symm),hw.body,hst]
   simp only
   rw [List.take_of_length_le (by omega),vals_splice]
 . rw [hst]
   show (0:Int) <= 0 /\ (0:Int) <= 9223372036854775807
   decide
end Go.Proofs.YteeghgjkjicjoaaGreatDoor.Slt
