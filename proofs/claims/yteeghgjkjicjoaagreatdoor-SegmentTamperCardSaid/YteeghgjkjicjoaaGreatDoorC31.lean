/- Texts of ours, merged. -/
import Derived.Test.YteeghgjkjicjoaaGreatDoorC30
set_option maxRecDepth 100000
set_option maxHeartbeats 16000000
namespace Go.Proofs.YteeghgjkjicjoaaGreatDoor.Seal
open Go.RowKit
theorem rkey_call (k C nm:List Int) (s:ByteArray) (hs:bytesOf s = nm) (A:Option Addr) (n c g:Nat) (w:World) (hk:k.length = 32) (hb:InB k) (hC:C.length = n) (hCb:InB C) (hn:n <= 1000) (hs2:nm.length <= 100) (hB:Byt w A c C) (hg:w.cell? ⟨g,0,none⟩ = some (.slice A n c)) :
 Calls Tryz.prog 112 #[.agg (u8s k),.string s,.slice (some ⟨g,0,none⟩) 1 1] w fun e w' => e = .returned (.agg (u8s (keyL k nm C))) /\ Below w.heap.size w w':=by
 subst hs hC
 have e:canonL (bytesOf s) [⟨A,c,C⟩] = partL (bytesOf s) ++ partL C:=by simp [canonL]
 have h:=rderive_any k s (some ⟨g,0,none⟩) 1 1 [⟨A,c,C⟩] w hk hb rfl (fun h => by cases h) (partsAt_one hg hB hCb) (by rw [e,List.length_append,partL_length,partL_length]; omega)
 rw [e] at h
 exact h
theorem own_app {B n m:Nat} {L M:List Int} {v:Value} {w:World} (hL:L.length = n) (hM:M.length = m) (h:w.ownsRow B 5 1 v (n + m) (vals (L ++ M))):OwnB B (L ++ M) v w:=by
 subst hL hM
 unfold OwnB
 rw [List.length_append]
 exact h
theorem take_more {L:List Int} {i:Nat} (h:i < L.length):L.take i ++ [L.getD i 0] = L.take (i + 1):=by
 have e:L.getD i 0 = L[i]:=by simp [List.getD_eq_getElem?_getD,h]
 rw [e,List.take_succ_eq_append_getElem h]
theorem rtag_any (k C L:List Int) (pos ep:Nat) (A A2:Option Addr) (n c m c2:Nat) (w:World) (hk:k.length = 32) (hb:InB k) (hC:C.length = n) (hCb:InB C) (hn:n <= 1000) (hL:L.length = m) (hLb:InB L) (hm:m <= 20000) (hp:pos < 18446744073709551616 /\ ep < 4294967296) (hB1:Byt w A c C) (hB2:Byt w A2 c2 L) :
 Calls Tryz.prog 96 #[.agg (u8s k),.slice A n c,.int .u64 (pos:Nat),.int .u32 (ep:Nat),.slice A2 m c2] w fun e w' => e = .returned (.agg (u8s (tagL k C pos ep L))) /\ Below w.heap.size w w':=by
 obtain ⟨KK,hKK⟩:∃ KK,KK = keyL k tagName C:=⟨_,rfl⟩
 obtain ⟨TT,hTT⟩:∃ TT,TT = tagL k C pos ep L:=⟨_,rfl⟩
 obtain ⟨G1,hG1⟩:∃ G1,G1 = numL n 4 ++ C:=⟨_,rfl⟩
 obtain ⟨G2,hG2⟩:∃ G2,G2 = G1 ++ numL pos 8:=⟨_,rfl⟩
 obtain ⟨G3,hG3⟩:∃ G3,G3 = G2 ++ numL ep 4:=⟨_,rfl⟩
 obtain ⟨G4,hG4⟩:∃ G4,G4 = G3 ++ L:=⟨_,rfl⟩
 rw [<- hTT]
 have hT4:G4 = taggedL C pos ep L:=by rw [hG4,hG3,hG2,hG1,taggedL,hC]
 have HTT:Hid (TT = hmacL KK G4):=by show _ = _; rw [hTT,hKK,hT4]; rfl
 have hT32:TT.length = 32:=by rw [hTT]; exact hmacL_length _ _
 have HKe:=lhd hKK
 have HG1:Hid (numL n 4 ++ C = G1):=hG1.symm
 have HG2:Hid (G1 ++ numL pos 8 = G2):=hG2.symm
 have HG3:Hid (G2 ++ numL ep 4 = G3):=hG3.symm
 have HG4:Hid (G3 ++ L = G4):=hG4.symm
 have HGl:Hid (G1.length <= 2000 /\ G2.length <= 2000 /\ G3.length <= 2000 /\ G4.length <= 22000):=by
  have h1:G1.length = 4 + n:=by rw [hG1,List.length_append,numL_length,hC]
  have h2:G2.length = 12 + n:=by rw [hG2,List.length_append,numL_length,h1]; omega
  have h3:G3.length = 16 + n:=by rw [hG3,List.length_append,numL_length,h2]; omega
  have h4:G4.length = 16 + n + m:=by rw [hG4,List.length_append,h3,hL]
  exact ⟨by omega,by omega,by omega,by omega⟩
 have HGi:Hid (InB G4):=by rw [hT4]; exact taggedL_in hCb hLb
 have HKN:Hid (KK.length = 32 /\ InB KK):=⟨by rw [hKK]; exact keyL_length _ _ _,by rw [hKK]; exact keyL_in _ _ _⟩
 have Hk:Hid (k.length = 32 /\ InB k):=⟨hk,hb⟩
 have HCC:Hid (C.length = n /\ InB C /\ n <= 1000):=⟨hC,hCb,hn⟩
 have HL2:Hid (L.length = m /\ m <= 20000):=⟨hL,hm⟩
 have HpE:=lhd hp
 have HB1:=lhd hB1
 have HB2:=lhd hB2
 have HsT:Hid ((Tryz.prog.info? 24).map (·.size) = some (u8s TT).size):=by show _ = _; rw [u8s_size,hT32]; exact infoH
 have HsK0:Hid ((Tryz.prog.info? 24).map (·.size) = some (u8s k).size):=by show _ = _; rw [u8s_size,hk]; exact infoH
 have HzT:Hid ((u8s (zeros 32)).size = (u8s TT).size):=by show _ = _; rw [u8s_size,u8s_size,hT32]; rfl
 have hnI:(n:Int) <= 1000:=by omega
 clear hKK hTT hG1 hG2 hG3 hG4 hT4 hT32 hk hb hC hCb hL hLb hB1 hB2 hp hn hm
 go_enter Tryz.func96,Tryz.ntmps96
 go_upto_region 2 with (first
  | (go_at_call 112; refine (rkey_call k C tagName _ rfl A n c (w.heap.size + 1 + 1) _ Hk.out.1 Hk.out.2 HCC.out.1 HCC.out.2.1 HCC.out.2.2 (by decide) (HB1.out.below (low3 w _ _ _) (Nat.le_refl _)) (cell_row (three_new w _ _ _).2.2 0)).mono ?_; rintro e w2 ⟨rfl,hb2⟩; rw [<- HKe.out]; have Hb2:=lhd hb2; clear hb2)
  | (refine wpList_store_new rfl (.tmp 11) (.tmp 18) rfl KK HKN.out.1 _ (by rfl) (by rfl) (by rfl) ?_; intro w3 hr3 hb3; have HKK:=lhd hr3; have Hb3:=lhd hb3; clear hr3 hb3)
  | (refine wpList_load_row rfl 24 (.tmp 5) rfl w.heap.size rfl 24 (u8s k) (0,0) _ (two_new w _ _).1 Tryz.underlying24 rfl HsK0.out ?_))
 have h3:=Hb2.out.size
 rw [World.size_alloc,World.size_alloc,World.size_alloc] at h3
 have hlow2:Below w.heap.size w w2:=(low3 w _ _ _).trans (Hb2.out.mono (by rw [World.size_alloc,World.size_alloc,World.size_alloc]; omega))
 have HLow:=lhd (hlow2.trans (Hb3.out.mono hlow2.size))
 have HZ:Hid (w3.heap[w.heap.size + 1]? = some (.cells (u8s (zeros 32)) 24 (0,0))):=(Hb3.out.block _ (by omega)).trans ((Hb2.out.block _ (by rw [World.size_alloc,World.size_alloc,World.size_alloc]; omega)).trans (three_new w _ _ _).2.1)
 have hgk:w2.heap.size < w3.heap.size:=(Array.getElem?_eq_some_iff.1 HKK.out).1
 clear Hb2 Hb3 h3 hlow2
 go_upto_region 4 with (fail)
 go_loopw [12,13] (fun v x wr => ∃ i:Nat,i <= 32 /\ x = .int .i64 i /\ Hid (OwnB w3.heap.size (KK.take i) v wr) /\ Hid (Below w3.heap.size w3 wr)) (fun _ x _ => 32 - (intOf x).toNat)
 case atStart => exact ⟨0,Nat.zero_le _,rfl,World.ownsRow_nil w3 w3.heap.size 5 1,Below.refl _ _⟩
 case round =>
  obtain ⟨i,hi,rfl,own,low⟩:=hrel
  by_cases hlt:i < 32
  . have hltI:(i:Int) < 32:=by omega
    have hrow:=(low.out.block _ hgk).trans HKK.out
    have hc:=row8_cell hrow i (by rw [HKN.out.1]; exact hlt)
    have htm:=take_more (L:=KK) (i:=i) (by rw [HKN.out.1]; exact hlt)
    obtain ⟨y,hy⟩:∃ y,y = KK.getD i 0:=⟨_,rfl⟩
    rw [<- hy] at hc htm
    have hKl:(KK.take i).length = i:=by rw [List.length_take,HKN.out.1]; omega
    have Htm:=lhd htm
    have HKl:=lhd hKl
    have hsz:=low.out.size
    clear hrow htm hy hKl
    go_wp2_with (at_builtin; refine wpList_append_any rfl (.tmp 23) (.tmp 27) rfl w3.heap.size _ (KK.take i).length (KK.take i) rfl (OwnB.later own.out ((Below.refl _ _).alloc (Nat.le_refl _) _)) (some ⟨wr.heap.size,0,none⟩) 1 1 [y] rfl rfl (byt_rowF (l:=[y]) (Go.heap_alloc_new wr _) rfl) (by rw [HKl.out]; omega) (by rw [World.size_alloc]; omega) ?_; intro v4 w4 own4 low4; have Own4:=lhd (Htm.out ▸ own_app rfl rfl own4); have Low4:=lhd (low4 _ _ (low.out.alloc hsz _) (Nat.le_refl _)); clear own4 low4)
    exact ⟨⟨i + 1,by omega,rfl,Own4.out,Low4.out⟩,by simp [intOf]; omega⟩
  . obtain rfl:i = 32:=by omega
    have hK:=own.out
    rw [List.take_of_length_le (by rw [HKN.out.1]; exact Nat.le_refl _)] at hK
    obtain ⟨AK,cK,rfl,bK⟩:=hK.sl
    rw [HKN.out.1]
    have BK:=lhd bK
    have HLr:=lhd (HLow.out.trans (low.out.mono HLow.out.size))
    have HZr:=lhd ((low.out.block _ (Array.getElem?_eq_some_iff.1 HZ.out).1).trans HZ.out)
    have hltI:¬ ((32:Nat):Int) < 32:=by omega
    clear hK bK own low HZ HKK hgk HLow hlt hi
    go_upto_region 8 with (go_at_call 95; refine (rnumber_any n 4 (by decide) (by omega) _).mono ?_; rintro e w4 ⟨v4,rfl,ho4,hb4⟩; have Ho4:=lhd ho4; have Hb4:=lhd hb4; clear ho4 hb4)
    go_upto_region 9 with (at_builtin; refine wpList_append_any rfl (.tmp 33) (.tmp 34) rfl wr.heap.size _ (numL n 4).length (numL n 4) rfl Ho4.out A n c C rfl HCC.out.1 (HB1.out.below (HLr.out.trans (Hb4.out.mono HLr.out.size)) (Nat.le_refl _)) (by rw [numL_length]; omega) Hb4.out.size ?_; intro v5 w5 own5 low5; have Ho5:=lhd (HG1.out ▸ own_app rfl HCC.out.1 own5); have Hb5:=lhd (low5 _ _ Hb4.out (Nat.le_refl _)); clear own5 low5)
    clear Ho4 Hb4
    go_upto_region 10 with (first
     | (go_at_call 95; refine (rnumber_any pos 8 (by decide) HpE.out.1 _).mono ?_; rintro e w6 ⟨v6,rfl,ho6,hb6⟩; obtain ⟨A6,c6,rfl,b6⟩:=ho6.sl; rw [numL_length]; have B6:=lhd b6; have Ho6:=lhd (Ho5.out.later hb6); have Hb6:=lhd (Hb5.out.trans (hb6.mono Hb5.out.size)); clear ho6 hb6 b6)
     | (at_builtin; refine wpList_append_any rfl (.tmp 36) (.tmp 38) rfl wr.heap.size _ G1.length G1 rfl Ho6.out A6 8 c6 (numL pos 8) rfl (numL_length pos 8) B6.out (by have:=HGl.out.1; omega) Hb6.out.size ?_; intro v7 w7 own7 low7; have Ho7:=lhd (HG2.out ▸ own_app rfl (numL_length pos 8) own7); have Hb7:=lhd (low7 _ _ Hb6.out (Nat.le_refl _)); clear own7 low7))
    clear Ho5 Hb5 Ho6 Hb6 B6
    have heI:(ep:Int) < 4294967296:=by have:=HpE.out.2; omega
    have hwe:IntKind.u64.wrap (ep:Int) = ep:=by simp [IntKind.wrap,IntKind.bits,IntKind.signed]; omega
    go_upto_region 11 with (first
     | (go_at_call 95; refine (rnumber_any ep 4 (by decide) (by omega) _).mono ?_; rintro e w8 ⟨v8,rfl,ho8,hb8⟩; obtain ⟨A8,c8,rfl,b8⟩:=ho8.sl; rw [numL_length]; have B8:=lhd b8; have Ho8:=lhd (Ho7.out.later hb8); have Hb8:=lhd (Hb7.out.trans (hb8.mono Hb7.out.size)); clear ho8 hb8 b8)
     | (at_builtin; refine wpList_append_any rfl (.tmp 40) (.tmp 43) rfl wr.heap.size _ G2.length G2 rfl Ho8.out A8 4 c8 (numL ep 4) rfl (numL_length ep 4) B8.out (by have:=HGl.out.2.1; omega) Hb8.out.size ?_; intro v9 w9 own9 low9; have Ho9:=lhd (HG3.out ▸ own_app rfl (numL_length ep 4) own9); have Hb9:=lhd (low9 _ _ Hb8.out (Nat.le_refl _)); clear own9 low9))
    clear Ho7 Hb7 Ho8 Hb8 B8 heI hwe
    go_wp2_with (first
     | (at_builtin; refine wpList_append_any rfl (.tmp 46) (.tmp 47) rfl wr.heap.size _ G3.length G3 rfl Ho9.out A2 m c2 L rfl HL2.out.1 (HB2.out.below (HLr.out.trans (Hb9.out.mono HLr.out.size)) (Nat.le_refl _)) (by have:=HGl.out.2.2.1; have:=HL2.out.2; omega) Hb9.out.size ?_; intro v10 w10 own10 low10; obtain ⟨A10,c10,rfl,b10⟩:=OwnB.sl (HG4.out ▸ own_app rfl HL2.out.1 own10); have B10:=lhd b10; have Hb10:=lhd (low10 _ _ Hb9.out (Nat.le_refl _)); clear own10 low10 b10)
     | (go_at_call 119; refine (rhmac_any KK G4 AK A10 cK 32 c10 G4.length w10 HKN.out.1 rfl HKN.out.2 HGi.out (BK.out.below Hb10.out (Nat.le_refl _)) B10.out (by decide) (by have:=HGl.out.2.2.2; omega)).mono ?_; rintro e w11 ⟨rfl,hb11⟩; rw [<- HTT.out]; have Hb11:=lhd (Hb10.out.trans (hb11.mono Hb10.out.size)); clear hb11)
     | (refine wpList_store_row rfl 24 (.tmp 10) (.tmp 49) rfl (w.heap.size + 1) (u8s TT) (by rfl) (by rfl) 24 _ ((Hb11.out.block _ (Array.getElem?_eq_some_iff.1 HZr.out).1).trans HZr.out) HsT.out HzT.out (u8s_one TT) ?_))
    exact bodyPost_ret (v:=.agg (u8s TT)) (results_cell_row rfl _ _ (w.heap.size + 1) 24 _ (0,0) _ rfl (setRow_heap _ _ _ _ _ _ ((Hb11.out.block _ (Array.getElem?_eq_some_iff.1 HZr.out).1).trans HZr.out)) Tryz.underlying24 rfl HsT.out) rfl ⟨rfl,below_setRow (HLr.out.trans (Hb11.out.mono HLr.out.size)) (by omega) _⟩
end Go.Proofs.YteeghgjkjicjoaaGreatDoor.Seal
namespace Go.Proofs.YteeghgjkjicjoaaGreatDoor.Cha
open Go.RowKit
theorem left_any (x:Int) (n:Nat) (h1:1 <= n) (h2:n <= 31) (w:World) :
 Calls Tryz.prog 165 #[.int .u32 x,.int .i64 (n:Int)] w fun e w' => e = .returned (.int .u32 (rotl x n)) /\ w = w':=by
 have e1:IntKind.i64.wrap (32 - (n:Int)) = ((32 - n:Nat):Int):=by rw [IntWalk.i64_in _ (by omega)]; omega
 have e2:(((32 - n:Nat):Int)).toNat = 32 - n:=by omega
 have b1:((32 - n:Nat):Int) <= 31:=by omega
 have b2:(0:Int) <= ((32 - n:Nat):Int):=by omega
 go_enter Tryz.func165,Tryz.ntmps165
 go_wp2
 go_ret
 exact ⟨ret_u32 (rotl_eq x n),rfl⟩
theorem left_same (x n:Int) (h1:1 <= n) (h2:n <= 31) (w:World) :
 Calls Tryz.prog 165 #[.int .u32 x,.int .i64 n] w fun e w' => e = .returned (.int .u32 (rotl x n.toNat)) /\ w = w':=by
 obtain ⟨m,rfl⟩:=Int.eq_ofNat_of_zero_le (show 0 <= n by omega)
 exact left_any x m (by omega) (by omega) w
theorem results_tmp4 {fn:Func} {t u v x:Tmp} (h:fn.results = #[.tmp t,.tmp u,.tmp v,.tmp x]) (tmps:Array Value) (P:Program) (w:World) :
 (results fn tmps).run P w = .ok (.tuple #[tmps.getD t undef,tmps.getD u undef,tmps.getD v undef,tmps.getD x undef]) w:=by
 simp [results,h]
theorem rquarter_any (a b c d:Int) (w:World) :
 Calls Tryz.prog 155 #[.int .u32 a,.int .u32 b,.int .u32 c,.int .u32 d] w
  fun e' w' => e' = .returned (.tuple #[.int .u32 (qa2 a b c d),.int .u32 (qb2 a b c d),.int .u32 (qc2 a b c d),.int .u32 (qd2 a b c d)]) /\ w = w':=by
 go_enter Tryz.func155,Tryz.ntmps155
 go_wp2_with (go_at_call 165; refine (left_same _ _ (by decide) (by decide) _).mono ?_; rintro e0 w0 ⟨rfl,rfl⟩)
 refine bodyPost_ret (results_tmp4 rfl _ _ _) rfl ?_
 exact ⟨rfl,rfl⟩
theorem or_join (n:Nat) (lo hi:Int) (b1:0 <= lo) (b2:lo < 4294967296) (b3:0 <= hi) (b4:hi < 4294967296) (h1:hi.toNat % 2 ^ n = 0) (h2:lo.toNat < 2 ^ n):bits .or .u32 lo hi = lo + hi:=by
 rw [u32_or lo hi b1 b2 b3 b4,Nat.or_comm,nat_join n _ _ h1 h2]; omega
theorem word4_sum (a b c d:Int) (ha:0 <= a /\ a < 256) (hb:0 <= b /\ b < 256) (hc:0 <= c /\ c < 256) (hd:0 <= d /\ d < 256):word4 a b c d = a + b * 256 + c * 65536 + d * 16777216:=by
 unfold word4
 rw [or_join 8 a (b * 256) (by omega) (by omega) (by omega) (by omega) (by omega) (by omega),or_join 16 (a + b * 256) (c * 65536) (by omega) (by omega) (by omega) (by omega) (by omega) (by omega),or_join 24 (a + b * 256 + c * 65536) (d * 16777216) (by omega) (by omega) (by omega) (by omega) (by omega) (by omega)]
def accW (a b c d:Int):Nat -> Int
 | 0 => 0
 | 1 => d
 | 2 => 256 * d + c
 | 3 => 65536 * d + 256 * c + b
 | _ => 16777216 * d + 65536 * c + 256 * b + a
theorem rword_any (g n cap m:Nat) (a b c d:Int) (hm:m + 4 <= n) (hn:n <= 100000) (w:World)
 (h0:w.cell? ⟨g,m,none⟩ = some (.int .u8 a)) (h1:w.cell? ⟨g,m + 1,none⟩ = some (.int .u8 b)) (h2:w.cell? ⟨g,m + 2,none⟩ = some (.int .u8 c)) (h3:w.cell? ⟨g,m + 3,none⟩ = some (.int .u8 d))
 (ha:0 <= a /\ a < 256) (hb:0 <= b /\ b < 256) (hc:0 <= c /\ c < 256) (hd:0 <= d /\ d < 256) :
 Calls Tryz.prog 154 #[.slice (some ⟨g,0,none⟩) n cap,.int .i64 (m:Int)] w fun e w' => e = .returned (.int .u32 (word4 a b c d)) /\ w = w':=by
 have hs:=word4_sum a b c d ha hb hc hd
 have l0:(m:Int) < n:=by omega
 have l1:(m:Int) + 1 < n:=by omega
 have l2:(m:Int) + 2 < n:=by omega
 have l3:(m:Int) + 3 < n:=by omega
 have t1:((m:Int) + 1).toNat = m + 1:=by omega
 have t2:((m:Int) + 2).toNat = m + 2:=by omega
 have t3:((m:Int) + 3).toNat = m + 3:=by omega
 have HS:=lhd hs
 have H0:=lhd h0
 have H1:=lhd h1
 have H2:=lhd h2
 have H3:=lhd h3
 have HA:=lhd ha
 have HB:=lhd hb
 have HC:=lhd hc
 have HD:=lhd hd
 clear hs h0 h1 h2 h3 ha hb hc hd hm
 go_enter Tryz.func154,Tryz.ntmps154
 go_wp2
 go_loopw [5,6] (fun v i wr => ∃ j:Nat,j <= 4 /\ i = .int .i64 (3 - (j:Int)) /\ v = .int .u32 (accW a b c d j) /\ wr = w) (fun _ i _ => (intOf i + 1).toNat)
 case atStart => exact ⟨0,by omega,rfl,rfl,rfl⟩
 case round =>
  obtain ⟨j,hj,rfl,rfl,hw⟩:=hrel
  obtain rfl | rfl | rfl | rfl | rfl:j = 0 \/ j = 1 \/ j = 2 \/ j = 3 \/ j = 4:=by omega
  . have hc:=H3.out
    go_wp2
    go_roundw
    case rel => exact ⟨1,by omega,by go_num,congrArg (Value.int .u32) (by { have:=HA.out; have:=HB.out; have:=HC.out; have:=HD.out; simp only [accW]; omega }),trivial⟩
    case measure => simp [intOf]
  . have hc:=H2.out
    go_wp2
    go_roundw
    case rel => exact ⟨2,by omega,by go_num,congrArg (Value.int .u32) (by { have:=HA.out; have:=HB.out; have:=HC.out; have:=HD.out; simp only [accW]; omega }),trivial⟩
    case measure => simp [intOf]
  . have hc:=H1.out
    go_wp2
    go_roundw
    case rel => exact ⟨3,by omega,by go_num,congrArg (Value.int .u32) (by { have:=HA.out; have:=HB.out; have:=HC.out; have:=HD.out; simp only [accW]; omega }),trivial⟩
    case measure => simp [intOf]
  . have hc:=H0.out
    go_wp2
    go_roundw
    case rel => exact ⟨4,by omega,by go_num,congrArg (Value.int .u32) (by { have:=HA.out; have:=HB.out; have:=HC.out; have:=HD.out; simp only [accW]; omega }),trivial⟩
    case measure => simp [intOf]
  . go_wp2
    go_ret
    exact ⟨congrArg (fun x => Ending.returned (Value.int .u32 x)) (by rw [HS.out]; simp only [accW]; omega),rfl⟩
def vals32 (L:List Int):List Value:=L.map (Value.int .u32)
theorem vals32_one (x:Int):∀ u ∈ [Value.int .u32 x],u.oneCell' = true:=by
 intro u hu
 simp at hu
 subst hu
 rfl
theorem vals8_one (x:Int):∀ u ∈ [Value.int .u8 x],u.oneCell' = true:=by
 intro u hu
 simp at hu
 subst hu
 rfl
theorem info32:(Tryz.prog.info? 47).map (fun i => (i.zero,i.size,i.bytes)) = some (some (.int .u32 0),1,4):=by kernel_rfl
theorem info08:(Tryz.prog.info? 5).map (fun i => (i.zero,i.size,i.bytes)) = some (some (.int .u8 0),1,1):=by kernel_rfl
theorem parts3 {t:TypeId} {z:Value} {s b:Nat} (h:(Tryz.prog.info? t).map (fun i => (i.zero,i.size,i.bytes)) = some (some z,s,b)):∃ i,Tryz.prog.info? t = some i /\ i.zero = some z /\ i.size = s /\ i.bytes = b:=by
 cases hq:Tryz.prog.info? t with
 | none => rw [hq] at h; cases h
 | some i =>
   rw [hq] at h
   simp at h
   exact ⟨i,rfl,h.1,h.2.1,h.2.2⟩
theorem take_more {L:List Int} {j:Nat} (h:j < L.length):vals (L.take j) ++ [.int .u8 (L.getD j 0)] = vals (L.take (j + 1)):=by
 have e:L.getD j 0 = L[j]:=by simp [List.getD_eq_getElem?_getD,h]
 rw [e,List.take_succ_eq_append_getElem h]
 simp only [vals,List.map_append,List.map_cons,List.map_nil]
theorem more32 (L:List Int) (x:Int):vals32 L ++ [.int .u32 x] = vals32 (L ++ [x]):=by simp [vals32]
def Wds (w:World) (g:Nat) (L:List Int):Prop:=g < w.heap.size /\ ∀ j,j < L.length -> w.cell? ⟨g,j,none⟩ = some (.int .u32 (L.getD j 0))
theorem Wds.below {w w':World} {g B:Nat} {L:List Int} (h:Wds w g L) (hb:Below B w w') (hB:g < B):Wds w' g L :=
 ⟨Nat.lt_of_lt_of_le h.1 hb.size,fun j hj => (World.cell?_of_block (hb.block _ hB)).trans (h.2 j hj)⟩
theorem own_cells8 {w:World} {base n:Nat} {v:Value} {L:List Int} (h:w.ownsRow base 5 1 v n (vals L)) (hl:L.length = n) (h0:0 < n):∃ g c,v = .slice (some ⟨g,0,none⟩) n c /\ base <= g /\ g < w.heap.size /\ ∀ j,j < n -> w.cell? ⟨g,j,none⟩ = some (.int .u8 (L.getD j 0)):=by
 obtain ⟨_,h⟩:=h
 rcases h with ⟨_,h⟩ | ⟨g,cap,cur,hv,hb,hh,hcap,_,hs,ht⟩
 . omega
 . refine ⟨g,cap,hv,hb,(Array.getElem?_eq_some_iff.1 hh).1,fun j hj => ?_⟩
   rw [cell_row hh]
   have h2:cur[j]? = cur.toList[j]?:=by simp
   have h3:(cur.toList.take (n * 1))[j]? = cur.toList[j]?:=by rw [List.getElem?_take,if_pos (by omega)]
   rw [h2,<- h3,ht]
   simp [vals,show j < L.length by omega]
theorem own_cells32 {w:World} {base n:Nat} {v:Value} {L:List Int} (h:w.ownsRow base 47 1 v n (vals32 L)) (hl:L.length = n) (h0:0 < n):∃ g c,v = .slice (some ⟨g,0,none⟩) n c /\ base <= g /\ Wds w g L:=by
 obtain ⟨_,h⟩:=h
 rcases h with ⟨_,h⟩ | ⟨g,cap,cur,hv,hb,hh,hcap,_,hs,ht⟩
 . omega
 . refine ⟨g,cap,hv,hb,(Array.getElem?_eq_some_iff.1 hh).1,fun j hj => ?_⟩
   rw [cell_row hh]
   have h2:cur[j]? = cur.toList[j]?:=by simp
   have h3:(cur.toList.take (n * 1))[j]? = cur.toList[j]?:=by rw [List.getElem?_take,if_pos (by omega)]
   rw [h2,<- h3,ht]
   simp [vals32,show j < L.length by omega]
def sK (K:List Int) (k:Nat):List Int:=[1634760805,857760878,2036477234,1797285236] ++ (List.range k).map (wordAt K)
def sN (K:List Int) (c:Int) (Nn:List Int) (k:Nat):List Int:=sK K 8 ++ [c] ++ (List.range k).map (wordAt Nn)
theorem sK_length (K:List Int) (k:Nat):(sK K k).length = 4 + k:=by simp [sK]; omega
theorem sN_length (K:List Int) (c:Int) (Nn:List Int) (k:Nat):(sN K c Nn k).length = 13 + k:=by simp [sN,sK_length]; omega
theorem sK_more (K:List Int) (k:Nat):sK K k ++ [wordAt K k] = sK K (k + 1):=by simp [sK,List.range_succ]
theorem sN_more (K:List Int) (c:Int) (Nn:List Int) (k:Nat):sN K c Nn k ++ [wordAt Nn k] = sN K c Nn (k + 1):=by simp [sN,List.range_succ]
theorem sN_all (K:List Int) (c:Int) (Nn:List Int):sN K c Nn 3 = stL K c Nn:=rfl
theorem own_keep {w w':World} {base n:Nat} {e:TypeId} {v:Value} {xs:List Value} (h:w.ownsRow base e 1 v n xs) (hb:Below w.heap.size w w'):w'.ownsRow base e 1 v n xs:=by
 refine ⟨h.1,?_⟩
 rcases h.2 with h | ⟨g,cap,cur,hv,h1,h2,h3⟩
 . exact .inl h
 . exact .inr ⟨g,cap,cur,hv,h1,(hb.block g (Array.getElem?_eq_some_iff.1 h2).1).trans h2,h3⟩
structure WL (Nn Src L:List Int) (gs:Nat) (w wr:World) (v:Value):Prop where
 own:wr.ownsRow (w.heap.size + 1 + 1) 47 1 v L.length (vals32 L)
 hgs:gs < wr.heap.size
 src:∀ j,j < Src.length -> wr.cell? ⟨gs,j,none⟩ = some (.int .u8 (Src.getD j 0))
 sep:v.ownBlock ≠ some gs
 nce:wr.heap[w.heap.size + 1]? = some (.cells (u8s Nn) 155 (0,0))
 low:Below w.heap.size w wr
theorem WL.more {Nn Src L:List Int} {gs:Nat} {w wr w2:World} {v v2:Value} {x:Int} (h:WL Nn Src L gs w wr v) (ho:w2.ownsRow (w.heap.size + 1 + 1) 47 1 v2 (L.length + 1) (vals32 L ++ [.int .u32 x])) (hg:(wr.alloc (.cells #[.int .u32 x] 47)).grownBy w2 v.ownBlock)
 (hat:v2.ownBlock = v.ownBlock \/ v2.ownBlock = some (wr.alloc (.cells #[.int .u32 x] 47)).heap.size):WL Nn Src (L ++ [x]) gs w w2 v2:=by
 have hs:(wr.alloc (.cells #[.int .u32 x] 47)).heap.size = wr.heap.size + 1:=by rw [World.size_alloc]
 have hsz:=hg.size
 have hg2:=h.hgs
 have hn:=(Array.getElem?_eq_some_iff.1 h.nce).1
 refine ⟨by rw [more32] at ho; rw [List.length_append,List.length_singleton]; exact ho,by omega,fun j hj => ?_,?_,?_,?_⟩
 . have e:w2.heap[gs]? = wr.heap[gs]?:=(hg.block gs (by omega) (fun e => h.sep e.symm)).trans (Go.heap_alloc_old _ _ hg2)
   exact (World.cell?_of_block e).trans (h.src j hj)
 . rcases hat with e | e
   . rw [e]; exact h.sep
   . rw [e]; intro e2; cases e2; omega
 . exact ((hg.block _ (by omega) (fun e => by have:=(h.own.lt _ e.symm).1; omega)).trans (Go.heap_alloc_old _ _ hn)).trans h.nce
 . exact (h.low.alloc (by omega) _).grown hg (by omega) (fun k hk => by have:=(h.own.lt k hk).1; omega)
theorem rfirst_any (K Nn:List Int) (c:Int) (hK:K.length = 32) (hN:Nn.length = 12) (bK:InB K) (bN:InB Nn) (w:World) :
 Calls Tryz.prog 140 #[.agg (u8s K),.int .u32 c,.agg (u8s Nn)] w fun e' w' => ∃ g cap,e' = .returned (.slice (some ⟨g,0,none⟩) 16 cap) /\ w.heap.size <= g /\ Wds w' g (stL K c Nn) /\ Below w.heap.size w w':=by
 obtain ⟨i8,hi8,hz80,hz81,hz82⟩:=parts3 info08
 obtain ⟨i32,hi32,hz320,hz321,hz322⟩:=parts3 info32
 have HK:=lhd hK
 have HN:=lhd hN
 have BK:=lhd bK
 have BN:=lhd bN
 have hi:=lhd hi8
 have hz0:=lhd hz80
 have hz1:=lhd hz81
 have hz2:=lhd hz82
 have gi:=lhd hi32
 have gz0:=lhd hz320
 have gz1:=lhd hz321
 have gz2:=lhd hz322
 clear hi8 hz80 hz81 hz82 hi32 hz320 hz321 hz322 hK hN bK bN
 go_enter Tryz.func140,Tryz.ntmps140
 go_wp2
 obtain ⟨W1,hW1⟩:∃ W,W = (((w.alloc (.cells (u8s K) 24)).alloc (.cells (u8s Nn) 155)).alloc (.cells #[.int .u32 1634760805,.int .u32 857760878,.int .u32 2036477234,.int .u32 1797285236] 47)):=⟨_,rfl⟩
 rw [<- hW1]
 have h3:=three_new w (.cells (u8s K) 24) (.cells (u8s Nn) 155) (.cells #[.int .u32 1634760805,.int .u32 857760878,.int .u32 2036477234,.int .u32 1797285236] 47)
 have k3:=below3 w (.cells (u8s K) 24) (.cells (u8s Nn) 155) (.cells #[.int .u32 1634760805,.int .u32 857760878,.int .u32 2036477234,.int .u32 1797285236] 47)
 rw [<- hW1] at h3 k3
 have hs1:W1.heap.size = w.heap.size + 1 + 1 + 1:=by rw [hW1]; simp
 have HH3:=lhd h3
 have Hk3:=lhd k3
 have Hs1:=lhd hs1
 clear h3 k3 hs1 hW1
 go_loopw [8,9] (fun v i wr => ∃ j:Nat,j <= 32 /\ i = .int .i64 j /\ Hid (wr.ownsRow W1.heap.size 5 1 v j (vals (K.take j)) /\ Below W1.heap.size W1 wr)) (fun _ i _ => 32 - (intOf i).toNat)
 case atStart => exact ⟨0,by omega,rfl,World.ownsRow_nil _ _ _ _,Below.refl _ _⟩
 case round =>
  obtain ⟨j,hj,rfl,hr⟩:=hrel
  by_cases hlt:j < 32
  . have hlt':(j:Int) < 32:=by omega
    obtain ⟨x,hx⟩:∃ x,x = K.getD j 0:=⟨_,rfl⟩
    have cc:wr.cell? ⟨w.heap.size,j,none⟩ = some (.int .u8 x):=by rw [hx]; exact row8_cell ((hr.out.2.block _ (by rw [Hs1.out]; omega)).trans HH3.out.1) j (by rw [HK.out]; exact hlt)
    have Hx:=lhd hx
    clear hx
    go_wp2_with (at_builtin; refine wpList_append_own_at _ rfl (.tmp 21) (.tmp 25) 38 rfl W1.heap.size 5 i8 (.int .u8 0) 1 1 Tryz.underlying38 hi.out hz0.out hz1.out hz2.out rfl (by decide) u8 j (vals (K.take j)) rfl (hr.out.1.alloc _) ⟨wr.heap.size,0,none⟩ 1 1 [.int .u8 x] rfl rfl (cell_one_new _ _ _) (vals8_one _) (by unfold maxLen; omega) (by omega) (by have:=hr.out.2.size; rw [World.size_alloc]; omega) ?_; intro v2 w2 hown2 hgrow2 _ _; have Hown2:=lhd hown2; have Hgrow2:=lhd hgrow2; clear hown2 hgrow2)
    go_roundw
    case rel => exact ⟨j + 1,by omega,by go_num,by rw [<- take_more (by rw [HK.out]; exact hlt),<- Hx.out]; exact Hown2.out,(hr.out.2.alloc hr.out.2.size _).grown Hgrow2.out (by have:=hr.out.2.size; rw [World.size_alloc]; omega) (fun k hk => (hr.out.1.lt k hk).1)⟩
    case measure => simp [intOf]; omega
  . have e32:j = 32:=by omega
    rw [e32] at hr
    clear e32 hj
    obtain ⟨gk,ck,rfl,hgk,hgk2,hck⟩:=own_cells8 hr.out.1 (by rw [List.length_take,HK.out]; rfl) (by decide)
    have hkk:K.take 32 = K:=List.take_of_length_le (by rw [HK.out]; exact Nat.le_refl _)
    rw [hkk] at hck
    have hwl:WL Nn K (sK K 0) gk w wr (.slice (some ⟨w.heap.size + 1 + 1,0,none⟩) 4 4):=by
     have hrow:wr.heap[w.heap.size + 1 + 1]? = some (.cells #[.int .u32 1634760805,.int .u32 857760878,.int .u32 2036477234,.int .u32 1797285236] 47 (0,0)):=(hr.out.2.block _ (by rw [Hs1.out]; omega)).trans HH3.out.2.2
     refine ⟨⟨rfl,.inr ⟨w.heap.size + 1 + 1,4,_,rfl,Nat.le_refl _,hrow,Nat.le_refl _,by unfold maxLen; decide,rfl,rfl⟩⟩,hgk2,fun j hj => hck j (by rw [HK.out] at hj; exact hj),fun e => ?_,(hr.out.2.block _ (by rw [Hs1.out]; omega)).trans HH3.out.2.1,Hk3.out.trans (hr.out.2.mono (by rw [Hs1.out]; omega))⟩
     simp [Value.ownBlock] at e
     have:=Hs1.out
     omega
    have Hwl:=lhd hwl
    clear hwl hck hgk hgk2 hkk hr
    go_wp2_with fail
    go_loopw [7,10] (fun v i wx => ∃ j:Nat,j <= 8 /\ i = .int .i64 j /\ Hid (WL Nn K (sK K j) gk w wx v)) (fun _ i _ => 8 - (intOf i).toNat)
    case atStart => exact ⟨0,by omega,rfl,Hwl.out⟩
    case round =>
     obtain ⟨j,hj,rfl,hq⟩:=hrel
     by_cases hlt8:j < 8
     . have hlt':(j:Int) < 8:=by omega
       have hword:Calls Tryz.prog 154 #[.slice (some ⟨gk,0,none⟩) 32 ck,.int .i64 (4 * (j:Int))] wr fun e w' => e = .returned (.int .u32 (wordAt K j)) /\ wr = w':=by
        have h:=rword_any gk 32 ck (4 * j) (K.getD (4 * j) 0) (K.getD (4 * j + 1) 0) (K.getD (4 * j + 2) 0) (K.getD (4 * j + 3) 0) (by omega) (by omega) wr (hq.out.src _ (by rw [HK.out]; omega)) (hq.out.src _ (by rw [HK.out]; omega)) (hq.out.src _ (by rw [HK.out]; omega)) (hq.out.src _ (by rw [HK.out]; omega)) (BK.out _) (BK.out _) (BK.out _) (BK.out _)
        rw [show ((4 * j:Nat):Int) = 4 * (j:Int) by omega] at h
        exact h
       obtain ⟨y,hy⟩:∃ y,y = wordAt K j:=⟨_,rfl⟩
       rw [<- hy] at hword
       have Hword:=lhd hword
       have Hy:=lhd hy
       clear hword hy
       go_wp2_with (first
        | (go_at_call 154; refine Hword.out.mono ?_; rintro e w' ⟨rfl,rfl⟩)
        | (at_builtin; refine wpList_append_own_at _ rfl (.tmp 35) (.tmp 37) 182 rfl (w.heap.size + 1 + 1) 47 i32 (.int .u32 0) 1 4 Tryz.underlying182 gi.out gz0.out gz1.out gz2.out rfl (by decide) u7 (sK K j).length (vals32 (sK K j)) rfl (hq.out.own.alloc _) ⟨wr.heap.size,0,none⟩ 1 1 [.int .u32 y] rfl rfl (cell_one_new _ _ _) (vals32_one _) (by rw [sK_length]; unfold maxLen; omega) (by rw [sK_length]; omega) (by have:=(Array.getElem?_eq_some_iff.1 hq.out.nce).1; rw [World.size_alloc]; omega) ?_; intro v2 w2 hown2 hgrow2 _ hat2; have HM:=lhd (hq.out.more hown2 hgrow2 hat2); clear hown2 hgrow2 hat2))
       go_roundw
       case rel => exact ⟨j + 1,by omega,by go_num,by { have h:=HM.out; rw [Hy.out,sK_more] at h; exact h }⟩
       case measure => simp [intOf]; omega
     . have e8:j = 8:=by omega
       rw [e8] at hq
       clear e8 hj
       go_wp2_with (at_builtin; refine wpList_append_own_at _ rfl (.tmp 39) (.tmp 41) 182 rfl (w.heap.size + 1 + 1) 47 i32 (.int .u32 0) 1 4 Tryz.underlying182 gi.out gz0.out gz1.out gz2.out rfl (by decide) u7 (sK K 8).length (vals32 (sK K 8)) rfl (hq.out.own.alloc _) ⟨wr.heap.size,0,none⟩ 1 1 [.int .u32 c] rfl rfl (cell_one_new _ _ _) (vals32_one _) (by rw [sK_length]; unfold maxLen; omega) (by rw [sK_length]; omega) (by have:=(Array.getElem?_eq_some_iff.1 hq.out.nce).1; rw [World.size_alloc]; omega) ?_; intro v2 w2 hown2 hgrow2 _ hat2; have HM:=lhd (hq.out.more hown2 hgrow2 hat2); clear hown2 hgrow2 hat2)
       have hm:WL Nn K (sN K c Nn 0) gk w w2 v2:=HM.out
       have Hm:=lhd hm
       clear hm HM hq
       go_loopw [12,13] (fun v i wx => ∃ j:Nat,j <= 12 /\ i = .int .i64 j /\ Hid (wx.ownsRow w2.heap.size 5 1 v j (vals (Nn.take j)) /\ Below w2.heap.size w2 wx)) (fun _ i _ => 12 - (intOf i).toNat)
       case atStart => exact ⟨0,by omega,rfl,World.ownsRow_nil _ _ _ _,Below.refl _ _⟩
       case round =>
        obtain ⟨j,hj,rfl,hr⟩:=hrel
        have hn2:=(Array.getElem?_eq_some_iff.1 Hm.out.nce).1
        by_cases hlt12:j < 12
        . have hlt':(j:Int) < 12:=by omega
          obtain ⟨x,hx⟩:∃ x,x = Nn.getD j 0:=⟨_,rfl⟩
          have cc:wr.cell? ⟨w.heap.size + 1,j,none⟩ = some (.int .u8 x):=by rw [hx]; exact row8_cell ((hr.out.2.block _ hn2).trans Hm.out.nce) j (by rw [HN.out]; exact hlt12)
          have Hx:=lhd hx
          clear hx hn2
          go_wp2_with (at_builtin; refine wpList_append_own_at _ rfl (.tmp 47) (.tmp 51) 38 rfl w2.heap.size 5 i8 (.int .u8 0) 1 1 Tryz.underlying38 hi.out hz0.out hz1.out hz2.out rfl (by decide) u12 j (vals (Nn.take j)) rfl (hr.out.1.alloc _) ⟨wr.heap.size,0,none⟩ 1 1 [.int .u8 x] rfl rfl (cell_one_new _ _ _) (vals8_one _) (by unfold maxLen; omega) (by omega) (by have:=hr.out.2.size; rw [World.size_alloc]; omega) ?_; intro v3 w3 hown3 hgrow3 _ _; have Hown3:=lhd hown3; have Hgrow3:=lhd hgrow3; clear hown3 hgrow3)
          go_roundw
          case rel => exact ⟨j + 1,by omega,by go_num,by rw [<- take_more (by rw [HN.out]; exact hlt12),<- Hx.out]; exact Hown3.out,(hr.out.2.alloc hr.out.2.size _).grown Hgrow3.out (by have:=hr.out.2.size; rw [World.size_alloc]; omega) (fun k hk => (hr.out.1.lt k hk).1)⟩
          case measure => simp [intOf]; omega
        . have e12:j = 12:=by omega
          rw [e12] at hr
          clear e12 hj
          obtain ⟨gn,cn,rfl,hgn,hgn2,hcn⟩:=own_cells8 hr.out.1 (by rw [List.length_take,HN.out]; rfl) (by decide)
          have hkk:Nn.take 12 = Nn:=List.take_of_length_le (by rw [HN.out]; exact Nat.le_refl _)
          rw [hkk] at hcn
          have hwl:WL Nn Nn (sN K c Nn 0) gn w wr v2:=⟨own_keep Hm.out.own hr.out.2,hgn2,fun j hj => hcn j (by rw [HN.out] at hj; exact hj),fun e => by have:=(Hm.out.own.lt _ e).2; omega,(hr.out.2.block _ hn2).trans Hm.out.nce,Hm.out.low.trans (hr.out.2.mono Hm.out.low.size)⟩
          have Hwl2:=lhd hwl
          clear hwl hcn hgn hgn2 hkk hr hn2
          go_wp2_with fail
          go_loopw [7,14] (fun v i wx => ∃ j:Nat,j <= 3 /\ i = .int .i64 j /\ Hid (WL Nn Nn (sN K c Nn j) gn w wx v)) (fun _ i _ => 3 - (intOf i).toNat)
          case atStart => exact ⟨0,by omega,rfl,Hwl2.out⟩
          case round =>
           obtain ⟨j,hj,rfl,hq⟩:=hrel
           by_cases hlt3:j < 3
           . have hlt':(j:Int) < 3:=by omega
             have hword:Calls Tryz.prog 154 #[.slice (some ⟨gn,0,none⟩) 12 cn,.int .i64 (4 * (j:Int))] wr fun e w' => e = .returned (.int .u32 (wordAt Nn j)) /\ wr = w':=by
              have h:=rword_any gn 12 cn (4 * j) (Nn.getD (4 * j) 0) (Nn.getD (4 * j + 1) 0) (Nn.getD (4 * j + 2) 0) (Nn.getD (4 * j + 3) 0) (by omega) (by omega) wr (hq.out.src _ (by rw [HN.out]; omega)) (hq.out.src _ (by rw [HN.out]; omega)) (hq.out.src _ (by rw [HN.out]; omega)) (hq.out.src _ (by rw [HN.out]; omega)) (BN.out _) (BN.out _) (BN.out _) (BN.out _)
              rw [show ((4 * j:Nat):Int) = 4 * (j:Int) by omega] at h
              exact h
             obtain ⟨y,hy⟩:∃ y,y = wordAt Nn j:=⟨_,rfl⟩
             rw [<- hy] at hword
             have Hword:=lhd hword
             have Hy:=lhd hy
             clear hword hy
             go_wp2_with (first
              | (go_at_call 154; refine Hword.out.mono ?_; rintro e w' ⟨rfl,rfl⟩)
              | (at_builtin; refine wpList_append_own_at _ rfl (.tmp 61) (.tmp 63) 182 rfl (w.heap.size + 1 + 1) 47 i32 (.int .u32 0) 1 4 Tryz.underlying182 gi.out gz0.out gz1.out gz2.out rfl (by decide) u7 (sN K c Nn j).length (vals32 (sN K c Nn j)) rfl (hq.out.own.alloc _) ⟨wr.heap.size,0,none⟩ 1 1 [.int .u32 y] rfl rfl (cell_one_new _ _ _) (vals32_one _) (by rw [sN_length]; unfold maxLen; omega) (by rw [sN_length]; omega) (by have:=(Array.getElem?_eq_some_iff.1 hq.out.nce).1; rw [World.size_alloc]; omega) ?_; intro v2 w2 hown2 hgrow2 _ hat2; have HM:=lhd (hq.out.more hown2 hgrow2 hat2); clear hown2 hgrow2 hat2))
             go_roundw
             case rel => exact ⟨j + 1,by omega,by go_num,by { have h:=HM.out; rw [Hy.out,sN_more] at h; exact h }⟩
             case measure => simp [intOf]; omega
           . have e3:j = 3:=by omega
             rw [e3] at hq
             clear e3 hj
             have hw3:=hq.out.own
             have hlow:=hq.out.low
             obtain ⟨gs,cs,rfl,hgs,hws⟩:=own_cells32 (n:=16) (by rw [sN_length] at hw3; exact hw3) (by rw [sN_length]) (by decide)
             rw [sN_all] at hws
             have Hws:=lhd hws
             have Hlow:=lhd hlow
             clear hws hlow hw3 hq
             go_wp2_with fail
             go_ret
             exact ⟨gs,cs,rfl,by omega,Hws.out,Hlow.out⟩
end Go.Proofs.YteeghgjkjicjoaaGreatDoor.Cha
