/- Texts of ours, merged. -/
import Derived.Test.YteeghgjkjicjoaaGreatDoorC29
set_option maxRecDepth 100000
set_option maxHeartbeats 16000000
namespace Go.Proofs.YteeghgjkjicjoaaGreatDoor
open Go.RowKit
theorem rblock2_any (K:List Int) (A:Option Addr) (c n:Nat) (w:World) (hn:K.length = n) (hb:InB K) (hB:Byt w A c K) (hx:n <= 90000) :
 Calls Tryz.prog 138 #[.slice A n c] w fun e w' => ∃ A' c',e = .returned (.slice A' 64 c') /\ Byt w' A' c' (blockL K) /\ Below w.heap.size w w':=by
 obtain ⟨i8,hi8,hz80,hz81,hz82⟩:=partsK info8k
 have gi:=lhd hi8
 have gz0:=lhd hz80
 have gz1:=lhd hz81
 have gz2:=lhd hz82
 have Hn:=lhd hn
 have Hb:=lhd hb
 have HB:=lhd hB
 clear hi8 hz80 hz81 hz82 hn hb hB
 by_cases h64:n <= 64
 . have h64I:¬ (64:Int) < n:=by omega
   go_enter Tryz.func138,Tryz.ntmps138
   go_wp2_with (at_builtin; refine lawAnybody.wpList_append_byt rfl (.tmp 21) (.tmp 22) rfl w.heap.size _ 0 [] rfl (World.ownsRow_nil _ _ _ _) A n c K rfl Hn.out HB.out (by omega) (Nat.le_refl _) ?_; intro v1 w1 hown1 hlow1 _; have Low1:=lhd (hlow1 _ _ (Below.refl w.heap.size w) (Nat.le_refl _)); simp only [List.nil_append,Nat.zero_add] at hown1; obtain ⟨A1,c1,hv1⟩:=own_nilK hown1; subst hv1; have Own1:=lhd hown1; clear hown1 hlow1)
   go_loopw [3] (fun v wr => ∃ (j c:Nat) (A:Option Addr),n + j <= 64 /\ v = .slice A (n + j) c /\ Hid (wr.ownsRow w.heap.size 5 1 v (n + j) (valsK .u8 (K ++ List.replicate j 0)) /\ Below w.heap.size w wr)) (fun v _ => match v with | .slice _ m _ => 64 - m | _ => 0)
   case atStart => exact ⟨0,_,_,by omega,rfl,by rw [List.replicate_zero,List.append_nil]; exact ⟨Own1.out,Low1.out⟩⟩
   case round =>
    obtain ⟨j,c',A',hj,rfl,hr⟩:=hrel
    by_cases hlt:n + j < 64
    . have hltI:((n:Nat):Int) + (j:Int) < 64:=by omega
      go_wp2_with (at_builtin; refine wpList_append_mine rfl (.tmp 27) (.tmp 28) 38 rfl w.heap.size 5 i8 (.int .u8 0) 1 Tryz.underlying38 gi.out gz0.out gz1.out gz2.out rfl (by decide) _ (n + j) (K ++ List.replicate j 0) 0 rfl hr.out.1 rfl (by omega) hr.out.2.size ?_; intro v' w' hgr; obtain ⟨A2,c2,hv'⟩:=own_nilK hgr.own; subst hv'; have Hgr:=lhd hgr; clear hgr)
      go_roundw
      case rel => exact ⟨j + 1,c2,A2,by omega,by rw [show n + j + 1 = n + (j + 1) by omega],by { have h:=Hgr.out.own; rw [List.append_assoc,<- List.replicate_succ'] at h; exact ⟨h,Hgr.out.low _ _ hr.out.2 (Nat.le_refl _)⟩ }⟩
      case measure => show 64 - (n + j + 1) < 64 - (n + j); omega
    . have hltI:¬ ((n:Nat):Int) + (j:Int) < 64:=by omega
      have hown:=hr.out.1
      have e64:n + j = 64:=by omega
      have hbl:K ++ List.replicate j 0 = blockL K:=by unfold blockL keyL; rw [if_pos (by rw [Hn.out]; exact h64),pad64,Hn.out,show 64 - n = j by omega]
      rw [hbl] at hown
      have hlen:(blockL K).length = n + j:=by rw [blockL_length,e64]
      have hq:∃ A2 c2,Value.slice A' (n + j) c' = .slice A2 (n + j) c2 /\ Byt wr A2 c2 (blockL K):=own_bytK hown hlen
      obtain ⟨A2,c2,hv,hbyt⟩:=hq
      injection hv with hA hn2 hc
      subst hA hc
      have Hbyt:=lhd hbyt
      have Low2:=lhd hr.out.2
      have E64:=lhd e64
      clear hown hr hbyt hbl e64 hlen
      go_wp2
      go_ret
      refine ⟨A',c',?_,Hbyt.out,Low2.out⟩
      show Ending.returned (Value.slice A' (n + j) c') = _
      rw [E64.out]
 . have h64I:(64:Int) < n:=by omega
   obtain ⟨X,hX⟩:∃ X,X = sumL K:=⟨_,rfl⟩
   have hX32:X.length = 32:=by rw [hX,sumL_length]
   have HX:=lhd hX
   have HX32:=lhd hX32
   have H35:Hid ((Tryz.prog.info? 24).map (·.size) = some (u8s X).size):=by show _ = _; rw [u8s_size,hX32]; exact info35
   clear hX hX32
   go_enter Tryz.func138,Tryz.ntmps138
   go_wp2_with (first
    | (go_at_call 136; refine (rsum_any K A c n w Hn.out Hb.out HB.out hx).mono ?_; rintro e w1 ⟨rfl,low1⟩; rw [<- HX.out]; have Low1:=lhd low1; clear low1)
    | (refine wpList_store_row rfl 24 (.tmp 4) (.tmp 10) rfl w1.heap.size (u8s X) rfl rfl 24 _ (Go.heap_alloc_new _ _) H35.out (by rw [u8s_size,HX32.out]; rfl) (u8s_one _) ?_; rw [World.setRow_alloc_new]; generalize hw2:World.alloc w1 _ = w2; have Hw2:=lhd hw2; clear hw2))
   have hrow2:w2.heap[w1.heap.size]? = some (.cells (u8s X) 24 (0,0)):=by rw [<- Hw2.out]; exact Go.heap_alloc_new _ _
   have hs2:w2.heap.size = w1.heap.size + 1:=by rw [<- Hw2.out,World.size_alloc]
   have low2:Below w.heap.size w w2:=by rw [<- Hw2.out]; exact Low1.out.alloc Low1.out.size _
   have Hrow2:=lhd hrow2
   have Hs2:=lhd hs2
   have Low2:=lhd low2
   clear hrow2 hs2 low2 Hw2
   go_wp2
   go_loopw [3,5] (fun v i wr => ∃ j:Nat,j <= 32 /\ i = .int .i64 j /\ Hid (wr.ownsRow w2.heap.size 5 1 v j (valsK .u8 (X.take j)) /\ Below w2.heap.size w2 wr)) (fun _ i _ => 32 - (intOf i).toNat)
   case atStart => exact ⟨0,by omega,rfl,World.ownsRow_nil _ _ _ _,Below.refl _ _⟩
   case round =>
    obtain ⟨j,hj,rfl,hr⟩:=hrel
    by_cases hlt:j < 32
    . have hltI:(j:Int) < 32:=by omega
      obtain ⟨x,hx⟩:∃ x,x = X.getD j 0:=⟨_,rfl⟩
      have cell:wr.cell? ⟨w1.heap.size,j,none⟩ = some (.int .u8 x):=by rw [hx]; exact row8_cell ((hr.out.2.block _ (by rw [Hs2.out]; omega)).trans Hrow2.out) j (by rw [HX32.out]; exact hlt)
      have hmore:X.take j ++ [x] = X.take (j + 1):=by rw [hx]; exact take_getD (by rw [HX32.out]; exact hlt)
      have Hmore:=lhd hmore
      clear hx hmore
      go_wp2_with (at_builtin; refine wpList_append_mine rfl (.tmp 15) (.tmp 19) 38 rfl w2.heap.size 5 i8 (.int .u8 0) 1 Tryz.underlying38 gi.out gz0.out gz1.out gz2.out rfl (by decide) _ j (X.take j) x rfl hr.out.1 rfl (by omega) hr.out.2.size ?_; intro v' w' hgr; have Hgr:=lhd hgr; clear hgr)
      go_roundw
      case rel => exact ⟨j + 1,by omega,by go_num,by rw [<- Hmore.out]; exact ⟨Hgr.out.own,Hgr.out.low _ _ hr.out.2 (Nat.le_refl _)⟩⟩
      case measure => simp [intOf]; omega
    . have hge:¬ (j:Int) < 32:=by omega
      have e32:j = 32:=by omega
      have own:=hr.out.1
      rw [e32,List.take_of_length_le (Nat.le_of_eq HX32.out)] at own
      have own2:=own_lower own Low2.out.size
      obtain ⟨A3,c3,rfl⟩:=own_nilK own2
      have Own3:=lhd own2
      have Low3:=lhd (Low2.out.trans (hr.out.2.mono Low2.out.size))
      clear own own2 hr e32 hj hlt
      go_wp2
      go_loopw [3] (fun v wr => ∃ (j c:Nat) (A:Option Addr),32 + j <= 64 /\ v = .slice A (32 + j) c /\ Hid (wr.ownsRow w.heap.size 5 1 v (32 + j) (valsK .u8 (X ++ List.replicate j 0)) /\ Below w.heap.size w wr)) (fun v _ => match v with | .slice _ m _ => 64 - m | _ => 0)
      case atStart => exact ⟨0,_,_,by omega,rfl,by rw [List.replicate_zero,List.append_nil]; exact ⟨Own3.out,Low3.out⟩⟩
      case round =>
       obtain ⟨j,c',A',hj,rfl,hr⟩:=hrel
       by_cases hlt:32 + j < 64
       . have hltI:((32:Nat):Int) + (j:Int) < 64:=by omega
         go_wp2_with (at_builtin; refine wpList_append_mine rfl (.tmp 27) (.tmp 28) 38 rfl w.heap.size 5 i8 (.int .u8 0) 1 Tryz.underlying38 gi.out gz0.out gz1.out gz2.out rfl (by decide) _ (32 + j) (X ++ List.replicate j 0) 0 rfl hr.out.1 rfl (by omega) hr.out.2.size ?_; intro v' w' hgr; obtain ⟨A2,c2,hv'⟩:=own_nilK hgr.own; subst hv'; have Hgr:=lhd hgr; clear hgr)
         go_roundw
         case rel => exact ⟨j + 1,c2,A2,by omega,by rw [show 32 + j + 1 = 32 + (j + 1) by omega],by { have h:=Hgr.out.own; rw [List.append_assoc,<- List.replicate_succ'] at h; exact ⟨h,Hgr.out.low _ _ hr.out.2 (Nat.le_refl _)⟩ }⟩
         case measure => show 64 - (32 + j + 1) < 64 - (32 + j); omega
       . have hltI:¬ ((32:Nat):Int) + (j:Int) < 64:=by omega
         have hown:=hr.out.1
         have e64:32 + j = 64:=by omega
         have hbl:X ++ List.replicate j 0 = blockL K:=by unfold blockL keyL; rw [if_neg (by rw [Hn.out]; omega),<- HX.out,pad64,HX32.out,show 64 - 32 = j by omega]
         rw [hbl] at hown
         have hlen:(blockL K).length = 32 + j:=by rw [blockL_length,e64]
         have hq:∃ A2 c2,Value.slice A' (32 + j) c' = .slice A2 (32 + j) c2 /\ Byt wr A2 c2 (blockL K):=own_bytK hown hlen
         obtain ⟨A2,c2,hv,hbyt⟩:=hq
         injection hv with hA hn2 hc
         subst hA hc
         have Hbyt:=lhd hbyt
         have Low2:=lhd hr.out.2
         have E64:=lhd e64
         clear hown hr hbyt hbl e64 hlen
         go_wp2
         go_ret
         refine ⟨A',c',?_,Hbyt.out,Low2.out⟩
         show Ending.returned (Value.slice A' (32 + j) c') = _
         rw [E64.out]
theorem rchanged_any (L:List Int) (y:Int) (A:Option Addr) (c n:Nat) (w:World) (hn:L.length = n) (hB:Byt w A c L) (hx:n <= 90000) :
 Calls Tryz.prog 137 #[.slice A n c,.int .u8 y] w fun e w' => ∃ v,e = .returned v /\ w'.ownsRow w.heap.size 5 1 v n (valsK .u8 (xorL y L)) /\ Below w.heap.size w w':=by
 obtain ⟨i8,hi8,hz80,hz81,hz82⟩:=partsK info8k
 have gi:=lhd hi8
 have gz0:=lhd hz80
 have gz1:=lhd hz81
 have gz2:=lhd hz82
 have Hn:=lhd hn
 have HB:=lhd hB
 clear hi8 hz80 hz81 hz82 hn hB
 go_enter Tryz.func137,Tryz.ntmps137
 go_wp2
 go_loopw [5,6] (fun v i wr => ∃ j:Nat,j <= n /\ i = .int .i64 j /\ Hid (wr.ownsRow w.heap.size 5 1 v j (valsK .u8 ((xorL y L).take j)) /\ Below w.heap.size w wr)) (fun _ i _ => n - (intOf i).toNat)
 case atStart => exact ⟨0,by omega,rfl,World.ownsRow_nil _ _ _ _,Below.refl _ _⟩
 case round =>
  obtain ⟨j,hj,rfl,hr⟩:=hrel
  by_cases hlt:j < n
  . have hltI:(j:Int) < n:=by omega
    obtain ⟨g,off,hA,hg,hcell⟩:=HB.out.2.2 (by rw [Hn.out]; omega)
    obtain ⟨x,hx⟩:∃ x,x = L.getD j 0:=⟨_,rfl⟩
    have cell:wr.cell? ⟨g,off + j,none⟩ = some (.int .u8 x):=by rw [hx]; exact (hr.out.2.cell (p:=⟨g,off + j,none⟩) hg).trans (hcell j (by rw [Hn.out]; exact hlt))
    have hmore:(xorL y L).take j ++ [bits .xor .u8 x y] = (xorL y L).take (j + 1):=by
     have e:bits .xor .u8 x y = (xorL y L).getD j 0:=by rw [hx]; simp [xorL,List.getD_eq_getElem?_getD,show j < L.length by rw [Hn.out]; exact hlt]
     rw [e]; exact take_getD (by rw [xorL_length,Hn.out]; exact hlt)
    have Hmore:=lhd hmore
    subst hA
    clear hx hmore hcell
    go_wp2_with (at_builtin; refine wpList_append_mine rfl (.tmp 13) (.tmp 20) 38 rfl w.heap.size 5 i8 (.int .u8 0) 1 Tryz.underlying38 gi.out gz0.out gz1.out gz2.out rfl (by decide) _ j ((xorL y L).take j) _ rfl hr.out.1 rfl (by omega) hr.out.2.size ?_; intro v' w' hgr; have Hgr:=lhd hgr; clear hgr)
    go_roundw
    case rel => exact ⟨j + 1,by omega,by go_num,by rw [<- Hmore.out]; exact ⟨Hgr.out.own,Hgr.out.low _ _ hr.out.2 (Nat.le_refl _)⟩⟩
    case measure => simp [intOf]; omega
  . have hge:¬ (j:Int) < n:=by omega
    have en:j = n:=by omega
    have own:=hr.out.1
    rw [en,List.take_of_length_le (Nat.le_of_eq (by rw [xorL_length,Hn.out]))] at own
    have Own:=lhd own
    have Low:=lhd hr.out.2
    clear own hr en hj hlt
    go_wp2
    go_ret
    exact ⟨_,rfl,Own.out,Low.out⟩
theorem rhmac_any (K T:List Int) (A A2:Option Addr) (c n c2 m:Nat) (w:World) (hn:K.length = n) (hm:T.length = m) (hb:InB K) (hb2:InB T) (hB:Byt w A c K) (hB2:Byt w A2 c2 T) (hx:n <= 90000) (hx2:m <= 40000) :
 Calls Tryz.prog 119 #[.slice A n c,.slice A2 m c2] w fun e w' => e = .returned (.agg (u8s (hmacL K T))) /\ Below w.heap.size w w':=by
 obtain ⟨i8,hi8,hz80,hz81,hz82⟩:=partsK info8k
 have gi:=lhd hi8
 have gz0:=lhd hz80
 have gz1:=lhd hz81
 have gz2:=lhd hz82
 have Hn:=lhd hn
 have Hm:=lhd hm
 have Hb:=lhd hb
 have Hb2:=lhd hb2
 have HB:=lhd hB
 have HB2:=lhd hB2
 obtain ⟨W1,hW1⟩:∃ W1,W1 = w.alloc (.cells zero32 24):=⟨_,rfl⟩
 have low0:Below w.heap.size w W1:=by rw [hW1]; exact (Below.refl _ _).alloc (Nat.le_refl _) _
 have new0:W1.heap[w.heap.size]? = some (.cells zero32 24 (0,0)):=by rw [hW1]; exact Go.heap_alloc_new w _
 have sz0:W1.heap.size = w.heap.size + 1:=by rw [hW1,World.size_alloc]
 have HW1:Hid (w.alloc (.cells #[.int .u8 0,.int .u8 0,.int .u8 0,.int .u8 0,.int .u8 0,.int .u8 0,.int .u8 0,.int .u8 0,.int .u8 0,.int .u8 0,.int .u8 0,.int .u8 0,.int .u8 0,.int .u8 0,.int .u8 0,.int .u8 0,.int .u8 0,.int .u8 0,.int .u8 0,.int .u8 0,.int .u8 0,.int .u8 0,.int .u8 0,.int .u8 0,.int .u8 0,.int .u8 0,.int .u8 0,.int .u8 0,.int .u8 0,.int .u8 0,.int .u8 0,.int .u8 0] 24) = W1):=hW1.symm
 obtain ⟨B,hBk⟩:∃ B,B = blockL K:=⟨_,rfl⟩
 have hB64:B.length = 64:=by rw [hBk,blockL_length]
 have hBin:InB B:=by rw [hBk]; exact hb.blockL
 obtain ⟨X,hX⟩:∃ X,X = sumL (xorL 54 B ++ T):=⟨_,rfl⟩
 have hX32:X.length = 32:=by rw [hX,sumL_length]
 have hXin:InB X:=by rw [hX]; exact sumL_in _
 obtain ⟨Y,hY⟩:∃ Y,Y = sumL (xorL 92 B ++ X):=⟨_,rfl⟩
 have hY32:Y.length = 32:=by rw [hY,sumL_length]
 have hYe:hmacL K T = Y:=by rw [hY,hX,hBk]; rfl
 rw [hYe]
 have hblk:∀ W:World,Below w.heap.size w W -> Calls Tryz.prog 138 #[.slice A n c] W fun e w' => ∃ A' c',e = .returned (.slice A' 64 c') /\ Byt w' A' c' B /\ Below W.heap.size W w':=fun W hbw => by
  rw [hBk]; exact rblock2_any K A c n W hn hb (hB.below hbw (Nat.le_refl _)) hx
 have hbyt2:∀ W:World,Below w.heap.size w W -> Byt W A2 c2 T:=fun W hbw => hB2.below hbw (Nat.le_refl _)
 have HB64:=lhd hB64
 have HBin:=lhd hBin
 have HX:=lhd hX
 have HX32:=lhd hX32
 have HXin:=lhd hXin
 have HY:=lhd hY
 have HY32:=lhd hY32
 have Hblk:=lhd hblk
 have Hbyt2:=lhd hbyt2
 have Low0:=lhd low0
 have New0:=lhd new0
 have Sz0:=lhd sz0
 have HXi:Hid ((Tryz.prog.info? 24).map (·.size) = some (u8s X).size):=by show _ = _; rw [u8s_size,hX32]; exact info35
 have HYi:Hid ((Tryz.prog.info? 24).map (·.size) = some (u8s Y).size):=by show _ = _; rw [u8s_size,hY32]; exact info35
 have Hx54:Hid ((xorL 54 B).length = 64):=by show _ = _; rw [xorL_length,hB64]
 have Hx92:Hid ((xorL 92 B).length = 64):=by show _ = _; rw [xorL_length,hB64]
 clear hi8 hz80 hz81 hz82 hn hm hb hb2 hB hB2 hW1 low0 new0 sz0 hBk hB64 hBin hX hX32 hXin hY hY32 hYe hblk hbyt2
 go_enter Tryz.func119,Tryz.ntmps119
 go_upto_region 1 with fail
 rw [HW1.out]
 go_wp2_with (first
  | (go_at_call 138; refine (Hblk.out _ Low0.out).mono ?_; rintro e w2 ⟨A3,c3,rfl,byt3,low3⟩; have Byt3:=lhd byt3; have Low3:=lhd low3; clear byt3 low3)
  | (go_at_call 137; refine (rchanged_any B 54 A3 c3 64 w2 HB64.out Byt3.out (by decide)).mono ?_; rintro e w3 ⟨v4,rfl,own4,low4⟩; have Own4:=lhd own4; have Low4:=lhd (Low3.out.trans (low4.mono Low3.out.size)); have Sz4:=lhd low4.size; clear own4 low4)
  | (at_builtin; refine lawAnybody.wpList_append_byt rfl (.tmp 10) (.tmp 11) rfl w2.heap.size v4 64 (xorL 54 B) rfl Own4.out A2 m c2 T rfl Hm.out (Hbyt2.out _ (Low0.out.trans (Low4.out.mono Low0.out.size))) (by omega) Sz4.out ?_; intro v5 w5 hown5 hlow5 _; have Low5:=lhd (hlow5 _ _ Low4.out Low3.out.size); obtain ⟨g5,c5,hv5,byt5,hlen5,_⟩:=own_form hown5 (by omega); subst hv5; have Byt5:=lhd byt5; have Hlen5:=lhd hlen5; clear hown5 hlow5 byt5 hlen5)
  | (go_at_call 136; refine (rsum_any (xorL 54 B ++ T) (some ⟨g5,0,none⟩) c5 (64 + m) w5 Hlen5.out ((HBin.out.xorL 54 (by decide) (by decide)).append Hb2.out) Byt5.out (by omega)).mono ?_; rintro e w6 ⟨rfl,low6⟩; rw [<- HX.out]; have Low6:=lhd (Low5.out.trans (low6.mono Low5.out.size)); clear low6)
  | (refine wpList_store_row rfl 24 (.tmp 5) (.tmp 13) rfl w6.heap.size (u8s X) rfl rfl 24 _ (Go.heap_alloc_new _ _) HXi.out (by rw [u8s_size,HX32.out]; rfl) (u8s_one _) ?_; rw [World.setRow_alloc_new]; generalize hw7:World.alloc w6 _ = w7; have Hw7:=lhd hw7; clear hw7))
 have hrow7:w7.heap[w6.heap.size]? = some (.cells (u8s X) 24 (0,0)):=by rw [<- Hw7.out]; exact Go.heap_alloc_new _ _
 have hs7:w7.heap.size = w6.heap.size + 1:=by rw [<- Hw7.out,World.size_alloc]
 have low7:Below W1.heap.size W1 w7:=by rw [<- Hw7.out]; exact Low6.out.alloc Low6.out.size _
 have Hrow7:=lhd hrow7
 have Hs7:=lhd hs7
 have Low7:=lhd low7
 clear hrow7 hs7 low7 Hw7 Byt3 Low3 Own4 Low4 Sz4 Low5 Byt5 Hlen5 Low6
 go_wp2
 go_loopw [6,7] (fun v i wr => ∃ j:Nat,j <= 32 /\ i = .int .i64 j /\ Hid (wr.ownsRow w7.heap.size 5 1 v j (valsK .u8 (X.take j)) /\ Below w7.heap.size w7 wr)) (fun _ i _ => 32 - (intOf i).toNat)
 case atStart => exact ⟨0,by omega,rfl,World.ownsRow_nil _ _ _ _,Below.refl _ _⟩
 case round =>
  obtain ⟨j,hj,rfl,hr⟩:=hrel
  by_cases hlt:j < 32
  . have hltI:(j:Int) < 32:=by omega
    obtain ⟨x,hx⟩:∃ x,x = X.getD j 0:=⟨_,rfl⟩
    have cell:wr.cell? ⟨w6.heap.size,j,none⟩ = some (.int .u8 x):=by rw [hx]; exact row8_cell ((hr.out.2.block _ (by rw [Hs7.out]; omega)).trans Hrow7.out) j (by rw [HX32.out]; exact hlt)
    have hmore:X.take j ++ [x] = X.take (j + 1):=by rw [hx]; exact take_getD (by rw [HX32.out]; exact hlt)
    have Hmore:=lhd hmore
    clear hx hmore
    go_wp2_with (at_builtin; refine wpList_append_mine rfl (.tmp 18) (.tmp 22) 38 rfl w7.heap.size 5 i8 (.int .u8 0) 1 Tryz.underlying38 gi.out gz0.out gz1.out gz2.out rfl (by decide) _ j (X.take j) x rfl hr.out.1 rfl (by omega) hr.out.2.size ?_; intro v' w' hgr; have Hgr:=lhd hgr; clear hgr)
    go_roundw
    case rel => exact ⟨j + 1,by omega,by go_num,by rw [<- Hmore.out]; exact ⟨Hgr.out.own,Hgr.out.low _ _ hr.out.2 (Nat.le_refl _)⟩⟩
    case measure => simp [intOf]; omega
  . have hge:¬ (j:Int) < 32:=by omega
    have e32:j = 32:=by omega
    have own:=hr.out.1
    rw [e32,List.take_of_length_le (Nat.le_of_eq HX32.out)] at own
    obtain ⟨gX,cX,rfl,hcX,_,hrowX⟩:=own_rowK own HX32.out (by decide)
    have BytX:=lhd (hrowX.byt (c:=cX) (by rw [HX32.out]; exact hcX))
    have LowX:=lhd (Low7.out.trans (hr.out.2.mono Low7.out.size))
    obtain ⟨w8,hw8⟩:∃ w8,w8 = wr:=⟨_,rfl⟩
    subst hw8
    clear own hr e32 hj hlt hrowX
    go_wp2_with (first
     | (go_at_call 138; refine (Hblk.out _ (Low0.out.trans (LowX.out.mono Low0.out.size))).mono ?_; rintro e w2 ⟨A3,c3,rfl,byt3,low3⟩; have Byt3:=lhd byt3; have BytX3:=lhd (BytX.out.below low3 (Nat.le_refl _)); have Low3:=lhd (LowX.out.trans (low3.mono LowX.out.size)); clear byt3 low3)
     | (go_at_call 137; refine (rchanged_any B 92 A3 c3 64 w2 HB64.out Byt3.out (by decide)).mono ?_; rintro e w3 ⟨v4,rfl,own4,low4⟩; have Own4:=lhd own4; have BytX4:=lhd (BytX3.out.below low4 (Nat.le_refl _)); have Low4:=lhd (Low3.out.trans (low4.mono Low3.out.size)); have Sz4:=lhd low4.size; clear own4 low4)
     | (at_builtin; refine lawAnybody.wpList_append_byt rfl (.tmp 26) (.tmp 27) rfl w2.heap.size v4 64 (xorL 92 B) rfl Own4.out (some ⟨gX,0,none⟩) 32 cX X rfl HX32.out BytX4.out (by decide) Sz4.out ?_; intro v5 w5 hown5 hlow5 _; have Low5:=lhd (hlow5 _ _ Low4.out Low3.out.size); obtain ⟨g5,c5,hv5,byt5,hlen5,_⟩:=own_form hown5 (by omega); subst hv5; have Byt5:=lhd byt5; have Hlen5:=lhd hlen5; clear hown5 hlow5 byt5 hlen5)
     | (go_at_call 136; refine (rsum_any (xorL 92 B ++ X) (some ⟨g5,0,none⟩) c5 (64 + 32) w5 Hlen5.out ((HBin.out.xorL 92 (by decide) (by decide)).append HXin.out) Byt5.out (by decide)).mono ?_; rintro e w6 ⟨rfl,low6⟩; rw [<- HY.out]; have Low6:=lhd (Low5.out.trans (low6.mono Low5.out.size)); have Hz:=lhd ((Low6.out.block _ (by rw [Sz0.out]; omega)).trans New0.out); clear low6)
     | (refine wpList_store_row rfl 24 (.tmp 4) (.tmp 29) rfl w.heap.size (u8s Y) rfl rfl 24 _ Hz.out HYi.out (by rw [u8s_size,HY32.out]; rfl) (u8s_one _) ?_))
    exact bodyPost_ret (v:=.agg (u8s Y)) (results_cell_row rfl _ _ w.heap.size 24 _ (0,0) _ rfl (setRow_heap w6 _ _ _ _ _ Hz.out) Tryz.underlying24 rfl HYi.out) rfl ⟨rfl,below_setRow (Low0.out.trans (Low6.out.mono Low0.out.size)) (Nat.le_refl _) _⟩
end Go.Proofs.YteeghgjkjicjoaaGreatDoor
namespace Go.Proofs.YteeghgjkjicjoaaGreatDoor
open Go.RowKit
theorem infoSl:(Tryz.prog.info? 38).map (fun i => (i.zero,i.size,i.bytes)) = some (some (.slice none 0 0),1,24):=by kernel_rfl
def valP (ps:List Part):List Value:=ps.map Part.val
theorem valP_length (ps:List Part):(valP ps).length = ps.length:=by simp [valP]
theorem valP_one (ps:List Part):∀ u ∈ valP ps,u.oneCell' = true:=by
 intro u hu
 simp only [valP,List.mem_map] at hu
 obtain ⟨x,_,rfl⟩:=hu
 rfl
structure GrewP (base n:Nat) (L:List Part) (wr:World) (v v':Value) (w':World):Prop where
 own:w'.ownsRow base 38 1 v' n (valP L)
 low:∀ B u,Below B u wr -> B <= base -> Below B u w'
 keep:∀ q b,wr.heap[q]? = some b -> v.ownBlock ≠ some q -> w'.heap[q]? = some b
 size:wr.heap.size <= w'.heap.size
theorem wpList_append_part {wr:World} {ops:Array Oper} {rest:List Oper} {o:Oper} {a:Act} {Q:Exit -> Act -> World -> Prop} (hgd:o.guard = none) (s x:Operand)
 (ho:o.op = .call { callee:=.builtin .append,args:=#[s,x],argTypes:=#[51, 51] }) (base:Nat) (v:Value) (n:Nat) (L:List Part) (p:Part) (hs:a.eval s = v) (hown:wr.ownsRow base 38 1 v n (valP L)) (y:Value) (hy:y = p.val) (hx:a.eval x = .slice (some ⟨wr.heap.size,0,none⟩) 1 1)
 (hn:n <= 100000) (hbase:base <= wr.heap.size) (h:∀ v' w',GrewP base (n + 1) (L ++ [p]) wr v v' w' -> wpList Tryz.prog ops Q rest (a.put o.dst v') w'):wpList Tryz.prog ops Q (o :: rest) a (wr.alloc (.cells #[y] 38)):=by
 obtain ⟨i,hi,hz,hsize,hby⟩:=partsK infoSl
 have hsz:(wr.alloc (.cells #[y] 38)).heap.size = wr.heap.size + 1:=by rw [World.size_alloc]
 have hge:∀ q,v.ownBlock = some q -> base <= q:=fun q hq => (hown.lt q hq).1
 have hlt:∀ q,v.ownBlock = some q -> q < wr.heap.size:=fun q hq => (hown.lt q hq).2
 subst hy
 refine wpList_append_own_at _ hgd s x 51 ho base 38 i (.slice none 0 0) 1 24 Tryz.underlying51 hi hz hsize hby rfl (by decide) v n (valP L) hs (own_alloc hown _) ⟨wr.heap.size,0,none⟩ 1 1 [p.val] hx rfl (cell_one_new _ _ _) (valP_one [p]) (by unfold maxLen; omega) (by omega) (by omega) ?_
 intro v' w' hown' hgrow _ _
 rw [show valP L ++ [p.val] = valP (L ++ [p]) by simp [valP]] at hown'
 have hs2:=hgrow.size
 exact h v' w' ⟨hown',fun B u hb hB => (hb.alloc (Nat.le_trans hB hbase) _).grown hgrow (by omega) (fun q hq => Nat.le_trans hB (hge q hq)),fun q b hq hne => by
  have hq2:=(Array.getElem?_eq_some_iff.1 hq).1
  rw [hgrow.block q (by omega) (fun e => hne (by rw [e]))]
  exact (Go.heap_alloc_old _ _ hq2).trans hq,by omega⟩
theorem wpList_append_parts {wr wb:World} {ops:Array Oper} {rest:List Oper} {o:Oper} {a:Act} {Q:Exit -> Act -> World -> Prop} (hgd:o.guard = none) (s x:Operand)
 (ho:o.op = .call { callee:=.builtin .append,args:=#[s,x],argTypes:=#[51, 51] }) (base:Nat) (v:Value) (n:Nat) (L:List Part) (hs:a.eval s = v) (hown:wr.ownsRow base 38 1 v n (valP L))
 (Ap:Option Addr) (m cp:Nat) (ps:List Part) (hx:a.eval x = .slice Ap m cp) (hm:ps.length = m) (hc:Ap = none -> cp = 0) (hP:PartsAt wb Ap ps) (hwb:Below wb.heap.size wb wr)
 (hn:n + m <= 100000) (hbase:base <= wr.heap.size) (h:∀ v' w',GrewP base (n + m) (L ++ ps) wr v v' w' -> wpList Tryz.prog ops Q rest (a.put o.dst v') w'):wpList Tryz.prog ops Q (o :: rest) a wr:=by
 obtain ⟨i,hi,hz,hsize,hby⟩:=partsK infoSl
 have hge:∀ q,v.ownBlock = some q -> base <= q:=fun q hq => (hown.lt q hq).1
 cases Ap with
 | none =>
   have hm0:m = 0:=by
    by_cases h0:0 < ps.length
    . obtain ⟨g,off,he,_⟩:=hP.row 0 h0
      cases he
    . omega
   have hc0:=hc rfl
   subst hm0 hc0
   obtain rfl:ps = []:=List.eq_nil_of_length_eq_zero hm
   refine wpList_append_own_none hgd s x 51 ho base 38 i 1 Tryz.underlying51 hi v n (valP L) hs hown hx ?_
   exact h v wr ⟨by rw [List.append_nil]; exact hown,fun _ _ h _ => h,fun _ _ h _ => h,Nat.le_refl _⟩
 | some ad =>
   refine wpList_append_own_at _ hgd s x 51 ho base 38 i (.slice none 0 0) 1 24 Tryz.underlying51 hi hz hsize hby rfl (by decide) v n (valP L) hs hown ad m cp (valP ps) hx (by rw [valP_length,hm]; omega) ?_ (valP_one ps) (by unfold maxLen; omega) (by omega) hbase ?_
   . intro j u hu
     have hj:j < ps.length:=by have:=(List.getElem?_eq_some_iff.1 hu).1; rwa [valP_length] at this
     obtain ⟨g,off,he,hg,hcell⟩:=hP.row j hj
     injection he with he
     rw [he,Addr.add_mid,hwb.cell (p:=⟨g,off + j,none⟩) hg,hcell]
     simp [valP,hj] at hu
     rw [hu]
   . intro v' w' hown' hgrow _ _
     rw [show valP L ++ valP ps = valP (L ++ ps) by simp [valP]] at hown'
     exact h v' w' ⟨hown',fun B u hb hB => hb.grown hgrow (by omega) (fun q hq => Nat.le_trans hB (hge q hq)),fun q b hq hne => by
      rw [hgrow.block q (Array.getElem?_eq_some_iff.1 hq).1 (fun e => hne (by rw [e]))]; exact hq,hgrow.size⟩
theorem own_parts {w:World} {base n:Nat} {v:Value} {L:List Part} (h:w.ownsRow base 38 1 v n (valP L)) (hl:L.length = n) (h0:0 < n):∃ g c,v = .slice (some ⟨g,0,none⟩) n c /\ n <= c /\ base <= g /\ g < w.heap.size /\ ∀ j (hj:j < L.length),w.cell? ⟨g,j,none⟩ = some L[j].val:=by
 obtain ⟨_,h⟩:=h
 rcases h with ⟨_,h⟩ | ⟨g,cap,cur,hv,hb,hh,hcap,_,hs,ht⟩
 . omega
 . refine ⟨g,cap,hv,hcap,hb,(Array.getElem?_eq_some_iff.1 hh).1,fun j hj => ?_⟩
   rw [cell_row hh]
   have h2:cur[j]? = cur.toList[j]?:=by simp
   have h3:(cur.toList.take (n * 1))[j]? = cur.toList[j]?:=by rw [List.getElem?_take,if_pos (by omega)]
   rw [h2,<- h3,ht]
   simp [valP,hj]
theorem byt_len4 (w:World) (n:Nat) (a b c d:Int) (h:[a,b,c,d] = lenL n):Byt (w.alloc (.cells #[.int .u8 a,.int .u8 b,.int .u8 c,.int .u8 d] 5)) (some ⟨w.heap.size,0,none⟩) 4 (lenL n):=h ▸ byt_four w a b c d
def flatM (ps:List Part):List Int:=ps.flatMap fun p => partL p.M
theorem flatM_next (ps:List Part) (j:Nat) (h:j < ps.length):flatM (ps.take (j + 1)) = flatM (ps.take j) ++ (lenL ps[j].M.length ++ ps[j].M):=by
 unfold flatM
 rw [List.take_succ_eq_append_getElem h,List.flatMap_append]
 simp [partL]
theorem flatM_le (ps:List Part) (j:Nat):(flatM (ps.take j)).length <= (flatM ps).length:=by
 have:flatM ps = flatM (ps.take j) ++ flatM (ps.drop j):=by
  unfold flatM
  rw [<- List.flatMap_append,List.take_append_drop]
 rw [this,List.length_append]
 omega
theorem canon_flat (s:List Int) (p:Part) (ps:List Part) (h:p.M = s):flatM (p :: ps) = canonL s ps:=by
 unfold flatM canonL
 rw [List.flatMap_cons,h]
theorem flatM_pos (ps:List Part):ps.length <= (flatM ps).length:=by
 unfold flatM
 induction ps with
 | nil => simp
 | cons p ps ih => rw [List.flatMap_cons,List.length_append,partL_length,List.length_cons]; omega
attribute [irreducible] flatM
end Go.Proofs.YteeghgjkjicjoaaGreatDoor
namespace Go.Proofs.YteeghgjkjicjoaaGreatDoor
open Go.RowKit
theorem rcanon_any (s:ByteArray) (Ap:Option Addr) (cp m:Nat) (ps:List Part) (wb w:World) (hm:ps.length = m) (hc:Ap = none -> cp = 0) (hP:PartsAt wb Ap ps) (hwb:Below wb.heap.size wb w) (hT:(canonL (bytesOf s) ps).length <= 40000) :
 Calls Tryz.prog 126 #[.string s,.slice Ap m cp] w fun e w' => ∃ A c,e = .returned (.slice A (canonL (bytesOf s) ps).length c) /\ Byt w' A c (canonL (bytesOf s) ps) /\ Below w.heap.size w w':=by
 have hm4:m <= 40000:=by
  have h1:=flatM_pos (⟨none,0,bytesOf s⟩ :: ps)
  rw [canon_flat (bytesOf s) ⟨none,0,bytesOf s⟩ ps rfl,List.length_cons] at h1
  omega
 have kc:=Lib.run_convert_string_bytes (P:=Tryz.prog) w 9 38 5 s Tryz.underlying9 Tryz.underlying38 Tryz.underlying5
 obtain ⟨c0,hc0⟩:∃ c,c = grownCap w s.size 0 5 := ⟨_,rfl⟩
 have hbs:=byt_string w s
 have low0:=below_string w s
 rw [<- hc0] at kc hbs
 obtain ⟨w1,hw1⟩:∃ w1,w1 = Lib.bytesWorld w 5 s:=⟨_,rfl⟩
 rw [<- hw1] at kc hbs low0
 obtain ⟨p0,hp0⟩:∃ p0:Part,p0 = ⟨some ⟨w.heap.size,0,none⟩,c0,bytesOf s⟩:=⟨_,rfl⟩
 have hv0:Value.slice (some ⟨w.heap.size,0,none⟩) s.size c0 = p0.val:=by rw [hp0]; simp [Part.val,bytesOf_length]
 have hb0:Byt w1 p0.A p0.c p0.M /\ InB p0.M:=by rw [hp0]; exact ⟨hbs,bytesOf_in s⟩
 have hcan:flatM (p0 :: ps) = canonL (bytesOf s) ps:=canon_flat _ _ _ (by rw [hp0])
 obtain ⟨qs,hqs⟩:∃ qs,qs = [p0] ++ ps:=⟨_,rfl⟩
 have hql:qs.length = 1 + m:=by rw [hqs]; simp [hm]; omega
 have hqb:∀ j (hj:j < qs.length),Byt w1 qs[j].A qs[j].c qs[j].M:=by
  intro j hj
  subst hqs
  cases j with
  | zero => exact hb0.1
  | succ j =>
    have hj':j < ps.length:=by simp at hj; omega
    have h:=(hP.byt j hj').1
    exact h.below (hwb.trans (low0.mono hwb.size)) (Nat.le_refl _)
 have hcan2:flatM qs = canonL (bytesOf s) ps:=by rw [hqs]; exact hcan
 obtain ⟨Q,hQ⟩:∃ Q,Q = canonL (bytesOf s) ps:=⟨_,rfl⟩
 rw [<- hQ] at hcan2 hT ⊢
 have Hm:=lhd hm
 have HC:=lhd hc
 have HP:=lhd hP
 have Hwb:=lhd hwb
 have HT:=lhd hT
 have Hv0:=lhd hv0
 have Hqs:=lhd hqs
 have Hql:=lhd hql
 have Hqb:=lhd hqb
 have Hcan:=lhd hcan2
 have Low0:=lhd low0
 clear hQ hm hc hP hwb hT hc0 hbs low0 hw1 hp0 hv0 hb0 hcan hqs hql hqb hcan2
 go_enter Tryz.func126,Tryz.ntmps126
 go_wp2_with (first
  | (at_builtin; refine wpList_append_part (wr:=w1) rfl (.tmp 9) (.tmp 12) rfl w1.heap.size _ 0 [] p0 rfl (World.ownsRow_nil _ _ _ _) _ Hv0.out rfl (by decide) (Nat.le_refl _) ?_; intro v2 w2 hgr2; have Hgr2:=lhd hgr2; have Low2:=lhd (hgr2.low w1.heap.size w1 (Below.refl _ _) (Nat.le_refl _)); clear hgr2)
  | (at_builtin; refine wpList_append_parts (wr:=w2) rfl (.tmp 14) (.tmp 15) rfl w1.heap.size v2 1 ([] ++ [p0]) rfl Hgr2.out.own Ap m cp ps rfl Hm.out HC.out HP.out (Hwb.out.trans ((Low0.out.trans (Low2.out.mono Low0.out.size)).mono Hwb.out.size)) (by omega) Low2.out.size ?_; intro v3 w3 hgr3; have hown3:=hgr3.own; rw [List.nil_append,<- Hqs.out] at hown3; have Low3:=lhd (hgr3.low _ _ Low2.out (Nat.le_refl _)); obtain ⟨ga,ca,hv3,_,hga,hga2,hcells⟩:=own_parts hown3 Hql.out (by omega); subst hv3; have Hcells:=lhd hcells; clear hgr3 hown3 hcells))
 have hqb3:∀ j (hj:j < qs.length),Byt w3 qs[j].A qs[j].c qs[j].M:=fun j hj => (Hqb.out j hj).below Low3.out (Nat.le_refl _)
 have Hqb3:=lhd hqb3
 have Loww:=lhd (Low0.out.trans (Low3.out.mono Low0.out.size))
 clear hqb3 Hgr2 Low2 Hqb HP HC Hwb Hqs Hv0
 go_wp2
 go_loopw [6,7] (fun v i wr => ∃ j:Nat,j <= 1 + m /\ i = .int .i64 j /\ Hid (wr.ownsRow w3.heap.size 5 1 v (flatM (qs.take j)).length (vals (flatM (qs.take j))) /\ Below w3.heap.size w3 wr)) (fun _ i _ => 1 + m - (intOf i).toNat)
 case atStart => exact ⟨0,by omega,rfl,by { have h:flatM (qs.take 0) = []:=(by rw [List.take_zero]; unfold flatM; rfl); rw [h]; exact World.ownsRow_nil _ _ _ _ },Below.refl _ _⟩
 case round =>
  obtain ⟨j,hj,rfl,hr⟩:=hrel
  by_cases hlt:j < 1 + m
  . have hltI:(j:Int) < 1 + m:=by omega
    have hltI2:(j:Int) < ((1 + m:Nat):Int):=by omega
    have hjq:j < qs.length:=by rw [Hql.out]; exact hlt
    obtain ⟨q,hq⟩:∃ q,q = qs[j]:=⟨_,rfl⟩
    have hcell:=Hcells.out j hjq
    have hbq:=Hqb3.out j hjq
    have hnext:=flatM_next qs j hjq
    have hle:=flatM_le qs (j + 1)
    rw [Hcan.out] at hle
    rw [<- hq] at hcell hbq hnext
    obtain ⟨qA,qc,qM⟩:=q
    obtain ⟨nn,hnn⟩:∃ nn,qM.length = nn:=⟨_,rfl⟩
    have hval:(Part.mk qA qc qM).val = .slice qA nn qc:=by simp [Part.val,hnn]
    rw [hval] at hcell
    have cc:wr.cell? ⟨ga,j,none⟩ = some (.slice qA nn qc):=(hr.out.2.cell (p:=⟨ga,j,none⟩) hga2).trans hcell
    obtain ⟨C,hC⟩:∃ C,C = flatM (qs.take j):=⟨_,rfl⟩
    have own':=hr.out.1
    rw [<- hC] at own' hnext
    simp only at hnext hbq
    have hlen:C.length + (4 + nn) <= 40000:=by
     have h2:(flatM (qs.take (j + 1))).length = C.length + (4 + nn):=by rw [hnext,List.length_append,List.length_append,show (lenL qM.length).length = 4 from rfl,hnn]
     have h3:=HT.out
     omega
    obtain ⟨cl,hcl⟩:∃ cl,C.length = cl:=⟨_,rfl⟩
    rw [hcl] at own' hlen
    rw [hnn] at hnext
    have Own':=lhd own'
    have Hbq:=lhd hbq
    have Hnext:=lhd hnext
    have Hnn:=lhd hnn
    have Hcl:=lhd hcl
    have HlenL:Hid ((lenL nn).length = 4):=rfl
    have hnI:(nn:Int) <= 40000:=by omega
    clear own' hbq hnext hq hcell hval hC hnn hcl hle
    go_wp2_with (first
     | (at_builtin; refine lawAnybody.wpList_append_byt rfl (.tmp 28) (.tmp 43) rfl w3.heap.size _ cl C rfl (own_alloc Own'.out _) (some ⟨wr.heap.size,0,none⟩) 4 4 (lenL nn) rfl HlenL.out (byt_len4 wr nn _ _ _ _ (by simp only [lenL,List.cons.injEq,and_true]; omega)) (by omega) (by have:=hr.out.2.size; rw [World.size_alloc]; omega) ?_; intro v5 w5 hown5 hlow5 _; have Own5:=lhd hown5; have Low5:=lhd (hlow5 _ _ (hr.out.2.alloc hr.out.2.size _) (Nat.le_refl _)); have cc5:w5.cell? ⟨ga,j,none⟩ = some (.slice qA nn qc):=(Low5.out.cell (p:=⟨ga,j,none⟩) hga2).trans (by have h:=Hcells.out j hjq; exact (hr.out.2.cell (p:=⟨ga,j,none⟩) hga2).symm.trans cc); clear hown5 hlow5)
     | (at_builtin; refine lawAnybody.wpList_append_byt rfl (.tmp 45) (.tmp 49) rfl w3.heap.size v5 (cl + 4) (C ++ lenL nn) rfl Own5.out qA nn qc qM rfl Hnn.out (Hbq.out.below Low5.out (Nat.le_refl _)) (by omega) Low5.out.size ?_; intro v6 w6 hown6 hlow6 _; have Own6:=lhd hown6; have Low6:=lhd (hlow6 _ _ Low5.out (Nat.le_refl _)); clear hown6 hlow6))
    go_roundw
    case rel => exact ⟨j + 1,by omega,by go_num,by { have h:=Own6.out; rw [List.append_assoc] at h; rw [Hnext.out]; have e:(C ++ (lenL nn ++ qM)).length = cl + 4 + nn:=(by simp [Hcl.out,Hnn.out,lenL]; omega); rw [e]; exact ⟨h,Low6.out⟩ }⟩
    case measure => simp [intOf]; omega
  . have hge:¬ (j:Int) < 1 + m:=by omega
    have hge2:¬ (j:Int) < ((1 + m:Nat):Int):=by omega
    have ej:j = 1 + m:=by omega
    have own:=hr.out.1
    rw [ej,List.take_of_length_le (Nat.le_of_eq Hql.out),Hcan.out] at own
    have hq:∃ A2 c2,_ = Value.slice A2 Q.length c2 /\ Byt wr A2 c2 Q:=own_bytK own rfl
    obtain ⟨A2,c2,rfl,hbyt⟩:=hq
    have Hbyt:=lhd hbyt
    have Low9:=lhd (Loww.out.trans (hr.out.2.mono Loww.out.size))
    clear own hr hbyt ej
    go_wp2
    go_ret
    exact ⟨A2,c2,rfl,Hbyt.out,Low9.out⟩
theorem rderive_any (k:List Int) (s:ByteArray) (Ap:Option Addr) (cp m:Nat) (ps:List Part) (w:World) (hk:k.length = 32) (hb:InB k) (hm:ps.length = m) (hc:Ap = none -> cp = 0) (hP:PartsAt w Ap ps) (hT:(canonL (bytesOf s) ps).length <= 40000) :
 Calls Tryz.prog 112 #[.agg (u8s k),.string s,.slice Ap m cp] w fun e w' => e = .returned (.agg (u8s (hmacL k (canonL (bytesOf s) ps)))) /\ Below w.heap.size w w':=by
 obtain ⟨i8,hi8,hz80,hz81,hz82⟩:=partsK info8k
 have gi:=lhd hi8
 have gz0:=lhd hz80
 have gz1:=lhd hz81
 have gz2:=lhd hz82
 have hcan:∀ W:World,Below w.heap.size w W -> Calls Tryz.prog 126 #[.string s,.slice Ap m cp] W fun e w' => ∃ A c,e = .returned (.slice A (canonL (bytesOf s) ps).length c) /\ Byt w' A c (canonL (bytesOf s) ps) /\ Below W.heap.size W w' :=
  fun W hbw => rcanon_any s Ap cp m ps w W hm hc hP hbw hT
 have hQin:InB (canonL (bytesOf s) ps):=canonL_in (bytesOf_in s) hP.byt
 obtain ⟨Q,hQ⟩:∃ Q,Q = canonL (bytesOf s) ps:=⟨_,rfl⟩
 rw [<- hQ] at hcan hQin hT ⊢
 obtain ⟨Y,hY⟩:∃ Y,Y = hmacL k Q:=⟨_,rfl⟩
 have hY32:Y.length = 32:=by rw [hY,hmacL_length]
 rw [<- hY]
 have h2:=two_new w (.cells (u8s k) 24) (.cells zero32 24)
 obtain ⟨W2,hW2⟩:∃ W2,W2 = (w.alloc (.cells (u8s k) 24)).alloc (.cells zero32 24):=⟨_,rfl⟩
 have l2:Below w.heap.size w W2:=by rw [hW2]; exact ((Below.refl _ _).alloc (Nat.le_refl _) _).alloc (by simp) _
 have s2:W2.heap.size = w.heap.size + 2:=by rw [hW2]; simp
 rw [<- hW2] at h2
 have HW2:Hid ((w.alloc (.cells (u8s k) 24)).alloc (.cells #[.int .u8 0,.int .u8 0,.int .u8 0,.int .u8 0,.int .u8 0,.int .u8 0,.int .u8 0,.int .u8 0,.int .u8 0,.int .u8 0,.int .u8 0,.int .u8 0,.int .u8 0,.int .u8 0,.int .u8 0,.int .u8 0,.int .u8 0,.int .u8 0,.int .u8 0,.int .u8 0,.int .u8 0,.int .u8 0,.int .u8 0,.int .u8 0,.int .u8 0,.int .u8 0,.int .u8 0,.int .u8 0,.int .u8 0,.int .u8 0,.int .u8 0,.int .u8 0] 24) = W2):=hW2.symm
 have Hk:=lhd hk
 have Hb:=lhd hb
 have Hcan:=lhd hcan
 have HQin:=lhd hQin
 have HT:=lhd hT
 have HY:=lhd hY
 have HY32:=lhd hY32
 have H2:=lhd h2
 have L2:=lhd l2
 have S2:=lhd s2
 have HYi:Hid ((Tryz.prog.info? 24).map (·.size) = some (u8s Y).size):=by show _ = _; rw [u8s_size,hY32]; exact info35
 clear hi8 hz80 hz81 hz82 hk hb hm hc hP hcan hQin hT hQ hY hY32 h2 hW2 l2 s2
 go_enter Tryz.func112,Tryz.ntmps112
 go_upto_region 1 with fail
 rw [HW2.out]
 go_wp2
 go_loopw [7,8] (fun v i wr => ∃ j:Nat,j <= 32 /\ i = .int .i64 j /\ Hid (wr.ownsRow W2.heap.size 5 1 v j (valsK .u8 (k.take j)) /\ Below W2.heap.size W2 wr)) (fun _ i _ => 32 - (intOf i).toNat)
 case atStart => exact ⟨0,by omega,rfl,World.ownsRow_nil _ _ _ _,Below.refl _ _⟩
 case round =>
  obtain ⟨j,hj,rfl,hr⟩:=hrel
  by_cases hlt:j < 32
  . have hltI:(j:Int) < 32:=by omega
    obtain ⟨x,hx⟩:∃ x,x = k.getD j 0:=⟨_,rfl⟩
    have cell:wr.cell? ⟨w.heap.size,j,none⟩ = some (.int .u8 x):=by rw [hx]; exact row8_cell ((hr.out.2.block _ (by rw [S2.out]; omega)).trans H2.out.1) j (by rw [Hk.out]; exact hlt)
    have hmore:k.take j ++ [x] = k.take (j + 1):=by rw [hx]; exact take_getD (by rw [Hk.out]; exact hlt)
    have Hmore:=lhd hmore
    clear hx hmore
    go_wp2_with (at_builtin; refine wpList_append_mine rfl (.tmp 13) (.tmp 17) 38 rfl W2.heap.size 5 i8 (.int .u8 0) 1 Tryz.underlying38 gi.out gz0.out gz1.out gz2.out rfl (by decide) _ j (k.take j) x rfl hr.out.1 rfl (by omega) hr.out.2.size ?_; intro v' w' hgr; have Hgr:=lhd hgr; clear hgr)
    go_roundw
    case rel => exact ⟨j + 1,by omega,by go_num,by rw [<- Hmore.out]; exact ⟨Hgr.out.own,Hgr.out.low _ _ hr.out.2 (Nat.le_refl _)⟩⟩
    case measure => simp [intOf]; omega
  . have hge:¬ (j:Int) < 32:=by omega
    have e32:j = 32:=by omega
    have own:=hr.out.1
    rw [e32,List.take_of_length_le (Nat.le_of_eq Hk.out)] at own
    obtain ⟨gK,cK,rfl,hcK,_,hrowK⟩:=own_rowK own Hk.out (by decide)
    have BytK:=lhd (hrowK.byt (c:=cK) (by rw [Hk.out]; exact hcK))
    have LowK:=lhd (L2.out.trans (hr.out.2.mono L2.out.size))
    have LowZ:=lhd hr.out.2
    obtain ⟨w8,hw8⟩:∃ w8,w8 = wr:=⟨_,rfl⟩
    subst hw8
    clear own hr e32 hj hlt hrowK
    go_wp2_with (first
     | (go_at_call 126; refine (Hcan.out _ LowK.out).mono ?_; rintro e w5 ⟨A5,c5,rfl,byt5,low5⟩; have Byt5:=lhd byt5; have BytK5:=lhd (BytK.out.below low5 (Nat.le_refl _)); have Low5:=lhd (LowZ.out.trans (low5.mono LowZ.out.size)); clear byt5 low5)
     | (go_at_call 119; refine (rhmac_any k Q (some ⟨gK,0,none⟩) A5 cK 32 c5 Q.length w5 Hk.out rfl Hb.out HQin.out BytK5.out Byt5.out (by decide) HT.out).mono ?_; rintro e w6 ⟨rfl,low6⟩; rw [<- HY.out]; have Low6:=lhd (Low5.out.trans (low6.mono Low5.out.size)); have Hz:=lhd ((Low6.out.block _ (by rw [S2.out]; omega)).trans H2.out.2); clear low6)
     | (refine wpList_store_row rfl 24 (.tmp 6) (.tmp 23) rfl (w.heap.size + 1) (u8s Y) rfl rfl 24 _ Hz.out HYi.out (by rw [u8s_size,HY32.out]; rfl) (u8s_one _) ?_))
    exact bodyPost_ret (v:=.agg (u8s Y)) (results_cell_row rfl _ _ (w.heap.size + 1) 24 _ (0,0) _ rfl (setRow_heap w6 _ _ _ _ _ Hz.out) Tryz.underlying24 rfl HYi.out) rfl ⟨rfl,below_setRow (L2.out.trans (Low6.out.mono L2.out.size)) (by omega) _⟩
end Go.Proofs.YteeghgjkjicjoaaGreatDoor
