/- Texts of ours, merged. -/
import Derived.Test.YteeghgjkjicjoaaGreatDoorC28
set_option maxRecDepth 100000
set_option maxHeartbeats 16000000
namespace Go.Proofs.YteeghgjkjicjoaaGreatDoor
open Go.RowKit
theorem root3_at (j:Nat) (h:j < 64) (w:World):Calls Tryz.prog 164 #[.int .u64 (PR.getD j 0),.int .i64 3] w fun e w' => e = .returned (.int .u32 (KW.getD j 0)) /\ w = w':=by
 have hr:=R3_all ⟨j,h⟩
 have hp:=PR_in j h
 have hs:=fun k hk => roots3_all ⟨j,h⟩ ⟨k,hk⟩
 simp only at hr hs
 rw [<- hr.2.2]
 exact root_any 3 _ _ (.inr rfl) ⟨by omega,by omega⟩ hr.1 hr.2.1 hs w
theorem root2_at (j:Nat) (h:j < 8) (w:World):Calls Tryz.prog 164 #[.int .u64 (PR.getD j 0),.int .i64 2] w fun e w' => e = .returned (.int .u32 (S0.list.getD j 0)) /\ w = w':=by
 have hr:=R2_all ⟨j,h⟩
 have hp:=PR_in j (by omega)
 have hs:=fun k hk => roots2_all ⟨j,h⟩ ⟨k,hk⟩
 simp only at hr hs
 rw [<- hr.2.2]
 exact root_any 2 _ _ (.inl rfl) ⟨by omega,by omega⟩ hr.1 hr.2.1 hs w
theorem KW_length:KW.length = 64:=rfl
theorem adds_any (w:World) :
 Calls Tryz.prog 161 #[] w fun e w' => ∃ g cap,e = .returned (.slice (some ⟨g,0,none⟩) 64 cap) /\ w.heap.size <= g /\ RowK .u32 w' g KW /\ Below w.heap.size w w':=by
 obtain ⟨i32,hi32,hz320,hz321,hz322⟩:=partsK info32k
 have gi:=lhd hi32
 have gz0:=lhd hz320
 have gz1:=lhd hz321
 have gz2:=lhd hz322
 clear hi32 hz320 hz321 hz322
 go_enter Tryz.func161,Tryz.ntmps161
 go_wp2_with (go_at_call 163; refine (primes_any 64 (by decide) (by decide) _).mono ?_; rintro e w1 ⟨g,cap,rfl,hg,hrow,low⟩; rw [List.take_of_length_le (Nat.le_of_eq PR_length)] at hrow; have Hrow:=lhd hrow; have Low:=lhd low; clear hrow low)
 go_loopw [1,3] (fun v i wr => ∃ j:Nat,j <= 64 /\ i = .int .i64 j /\ Hid (wr.ownsRow w1.heap.size 47 1 v j (valsK .u32 (KW.take j)) /\ Below w1.heap.size w1 wr)) (fun _ i _ => 64 - (intOf i).toNat)
 case atStart => exact ⟨0,by omega,rfl,World.ownsRow_nil _ _ _ _,Below.refl _ _⟩
 case round =>
  obtain ⟨j,hj,rfl,hr⟩:=hrel
  by_cases hlt:j < 64
  . have hltI:(j:Int) < 64:=by omega
    obtain ⟨x,hx⟩:∃ x,PR.getD j 0 = x:=⟨_,rfl⟩
    obtain ⟨y,hy⟩:∃ y,KW.getD j 0 = y:=⟨_,rfl⟩
    have cell:wr.cell? ⟨g,j,none⟩ = some (.int .u64 x):=by rw [<- hx]; exact (Hrow.out.later hr.out.2).2 j (by rw [PR_length]; exact hlt)
    have hroot:=root3_at j hlt wr
    rw [hx,hy] at hroot
    have Hroot:=lhd hroot
    have hmore:KW.take j ++ [y] = KW.take (j + 1):=by
     rw [<- hy]; exact take_getD (by rw [KW_length]; exact hlt)
    have Hmore:=lhd hmore
    clear hroot hmore hx hy
    go_wp2_with (first
     | (go_at_call 164; refine Hroot.out.mono ?_; rintro e w' ⟨rfl,rfl⟩)
     | (at_builtin; refine wpList_append_mine rfl (.tmp 15) (.tmp 17) 182 rfl w1.heap.size 47 i32 (.int .u32 0) 4 Tryz.underlying182 gi.out gz0.out gz1.out gz2.out rfl (by decide) _ j (KW.take j) y rfl hr.out.1 rfl (by omega) hr.out.2.size ?_; intro v' w' hgr; have Hgr:=lhd hgr; clear hgr))
    go_roundw
    case rel => exact ⟨j + 1,by omega,by go_num,by rw [<- Hmore.out]; exact ⟨Hgr.out.own,Hgr.out.low _ _ hr.out.2 (Nat.le_refl _)⟩⟩
    case measure => simp [intOf]; omega
  . obtain rfl:j = 64:=by omega
    have own:=hr.out.1
    rw [List.take_of_length_le (Nat.le_of_eq KW_length)] at own
    obtain ⟨g2,c2,rfl,_,hg2,hrow2⟩:=own_rowK own rfl (by decide)
    have low2:Below w.heap.size w wr:=Low.out.trans (hr.out.2.mono Low.out.size)
    have hsz:=Low.out.size
    have Hrow2:=lhd hrow2
    have Low2:=lhd low2
    clear own hr hrow2 low2
    go_wp2
    go_ret
    exact ⟨g2,c2,rfl,by omega,Hrow2.out,Low2.out⟩
structure StI (B k:Nat) (w1 wr:World):Prop where
 res:∃ Z:Array Value,Z.size = 8 /\ wr.heap[B]? = some (.cells Z 191 (0,0))
 row:∃ S:Array Value,Holds S 8 k (fun j => S0.list.getD j 0) /\ wr.heap[B + 1]? = some (.cells S 191 (0,0))
 low:Below B w1 wr
 old:∀ g,B + 1 < g -> g < w1.heap.size -> wr.heap[g]? = w1.heap[g]?
theorem StI.set {B k:Nat} {w1 wr:World} (x:StI B k w1 wr) (hk:k < 8) (v:Int) (hv:v = S0.list.getD k 0):StI B (k + 1) w1 (wr.setCell ⟨B + 1,k,none⟩ (.int .u32 v)):=by
 obtain ⟨S,hS,hr⟩:=x.row
 obtain ⟨Z,hZ,hz⟩:=x.res
 refine ⟨⟨Z,hZ,?_⟩,⟨_,hS.set hk v hv,heap_setCell_same _ _ _ _ _ _ hr⟩,x.low.setCell (by simp) _,fun g h1 h2 => ?_⟩
 . rw [heap_setCell_other _ _ _ _ (by simp)]; exact hz
 . rw [heap_setCell_other _ _ _ _ (by simp; omega)]; exact x.old g h1 h2
theorem S0_length:S0.list.length = 8:=rfl
theorem rstart_any (w:World) :
 Calls Tryz.prog 153 #[] w fun e w' => e = .returned (.agg (u32s S0.list)) /\ Below w.heap.size w w':=by
 go_enter Tryz.func153,Tryz.ntmps153
 have h2:=two_new w (.cells #[.int .u32 0,.int .u32 0,.int .u32 0,.int .u32 0,.int .u32 0,.int .u32 0,.int .u32 0,.int .u32 0] 191) (.cells #[.int .u32 0,.int .u32 0,.int .u32 0,.int .u32 0,.int .u32 0,.int .u32 0,.int .u32 0,.int .u32 0] 191)
 have k2:Below w.heap.size w ((w.alloc (.cells #[.int .u32 0,.int .u32 0,.int .u32 0,.int .u32 0,.int .u32 0,.int .u32 0,.int .u32 0,.int .u32 0] 191)).alloc (.cells #[.int .u32 0,.int .u32 0,.int .u32 0,.int .u32 0,.int .u32 0,.int .u32 0,.int .u32 0,.int .u32 0] 191)):=((Below.refl _ _).alloc (Nat.le_refl _) _).alloc (by simp) _
 have s2:((w.alloc (.cells #[.int .u32 0,.int .u32 0,.int .u32 0,.int .u32 0,.int .u32 0,.int .u32 0,.int .u32 0,.int .u32 0] 191)).alloc (.cells #[.int .u32 0,.int .u32 0,.int .u32 0,.int .u32 0,.int .u32 0,.int .u32 0,.int .u32 0,.int .u32 0] 191)).heap.size = w.heap.size + 2:=by simp
 have H2:=lhd h2
 have K2:=lhd k2
 have S2:=lhd s2
 clear h2 k2 s2
 go_wp2_with (go_at_call 163; refine (primes_any 8 (by decide) (by decide) _).mono ?_; rintro e w1 ⟨g,cap,rfl,hg,hrow,low⟩; have Hrow:=lhd hrow; have Low:=lhd low; have Hg:=lhd hg; clear hrow low hg)
 have hst:StI w.heap.size 0 w1 w1:=⟨⟨_,by rfl,(Low.out.block _ (by rw [S2.out]; omega)).trans H2.out.1⟩,⟨_,Holds.nil _ _ _ (by rfl),(Low.out.block _ (by rw [S2.out]; omega)).trans H2.out.2⟩,Below.refl _ _,fun _ _ _ => rfl⟩
 have hlow1:Below w.heap.size w w1:=K2.out.trans (Low.out.mono (by rw [S2.out]; omega))
 have hgg:w.heap.size + 1 < g:=by have:=Hg.out; rw [S2.out] at this; omega
 have Hst:=lhd hst
 have Hlow1:=lhd hlow1
 clear hst hlow1 H2 K2 Low Hg
 go_loopw [3] (fun i wr => ∃ j:Nat,j <= 8 /\ i = .int .i64 j /\ Hid (StI w.heap.size j w1 wr)) (fun i _ => 8 - (intOf i).toNat)
 case atStart => exact ⟨0,by omega,rfl,Hst.out⟩
 case round =>
  obtain ⟨j,hj,rfl,hr⟩:=hrel
  by_cases hlt:j < 8
  . have hltI:(j:Int) < 8:=by omega
    obtain ⟨x,hx⟩:∃ x,PR.getD j 0 = x:=⟨_,rfl⟩
    obtain ⟨y,hy⟩:∃ y,S0.list.getD j 0 = y:=⟨_,rfl⟩
    have cell:wr.cell? ⟨g,j,none⟩ = some (.int .u64 x):=by
     rw [<- hx,World.cell?_of_block (hr.out.old g hgg Hrow.out.1),Hrow.out.2 j (by rw [List.length_take,PR_length]; omega)]
     simp [List.getD_eq_getElem?_getD,hlt]
    have hroot:=root2_at j hlt wr
    rw [hx,hy] at hroot
    have Hroot:=lhd hroot
    have Hy:=lhd hy
    obtain ⟨S,hS,hrw⟩:=hr.out.row
    obtain ⟨v,hv⟩:∃ v,wr.cell? ⟨w.heap.size + 1,j,none⟩ = some v:=by
     rw [cell_row hrw]; exact ⟨_,Array.getElem?_eq_getElem (by rw [hS.1]; omega)⟩
    have hfz:=free_row hrw j
    clear hroot hx hy hS hrw
    go_wp2_with (go_at_call 164; refine Hroot.out.mono ?_; rintro e w' ⟨rfl,rfl⟩)
    go_roundw
    case rel => exact ⟨j + 1,by omega,by go_num,hr.out.set hlt _ Hy.out.symm⟩
    case measure => simp [intOf]; omega
  . obtain rfl:j = 8:=by omega
    obtain ⟨S,hS,hr2⟩:=hr.out.row
    obtain ⟨Z,hZ,hz⟩:=hr.out.res
    have low:Below w.heap.size w wr:=Hlow1.out.trans (hr.out.low.mono (Nat.le_refl _))
    have hS':S = u32s S0.list:=hS.whole rfl (fun j hj => rfl)
    subst hS'
    obtain ⟨L,hL⟩:∃ L,L = S0.list:=⟨_,rfl⟩
    rw [<- hL] at hr2
    have hsz:(Tryz.prog.info? 191).map (·.size) = some (u32s L).size:=by rw [u32s_size,hL,S0_length]; exact info23
    have hzz:Z.size = (u32s L).size:=by rw [u32s_size,hL,S0_length]; exact hZ
    have Hsz:=lhd hsz
    have Hzz:=lhd hzz
    have Hr:=lhd hr2
    have Hz:=lhd hz
    have HL:=lhd hL
    clear hr hz hS hZ hr2 hsz hzz hL
    go_wp2_with (first | (refine wpList_load_row rfl 191 (.tmp 1) rfl (w.heap.size + 1) rfl 191 (u32s L) (0,0) _ Hr.out Tryz.underlying191 rfl Hsz.out ?_) | (refine wpList_store_row rfl 191 (.tmp 0) (.tmp 16) rfl w.heap.size (u32s L) rfl rfl 191 Z Hz.out Hsz.out Hzz.out (u32s_one _) ?_))
    rw [<- HL.out]
    exact bodyPost_ret (v:=.agg (u32s L)) (results_cell_row rfl _ _ w.heap.size 191 _ (0,0) _ rfl (setRow_heap wr _ _ _ _ _ Hz.out) Tryz.underlying191 rfl Hsz.out) rfl ⟨rfl,below_setRow low (Nat.le_refl _) _⟩
theorem padL_take (n j:Nat) (h:j < padLen n) (x:Int) (hx:x = padF n j):(padL n).take j ++ [x] = (padL n).take (j + 1):=by
 rw [hx,padL_getD n j h]
 exact take_getD (by rw [padL_length]; exact h)
theorem rbehind_any (n:Nat) (h:n <= 1152921504606846976) (w:World) :
 Calls Tryz.prog 150 #[.int .i64 (n:Int)] w fun e' w' => ∃ g c,e' = .returned (.slice (some ⟨g,0,none⟩) (padLen n) c) /\ padLen n <= c /\ w.heap.size <= g /\ RowK .u8 w' g (padL n) /\ Below w.heap.size w w':=by
 obtain ⟨i8,hi8,hz80,hz81,hz82⟩:=partsK info8k
 have gi:=lhd hi8
 have gz0:=lhd hz80
 have gz1:=lhd hz81
 have gz2:=lhd hz82
 clear hi8 hz80 hz81 hz82
 have h1:¬ (n:Int) < 0:=by omega
 have h2:¬ 1152921504606846976 < (n:Int):=by omega
 have h3:(n:Int) <= 1152921504606846976:=by omega
 have hz:=zeros_lt n
 have hz2:zeros n = (128 - (n % 64 + 9)) % 64:=rfl
 have hpl:padLen n = 9 + zeros n:=rfl
 obtain ⟨Z,hZ⟩:∃ Z,zeros n = Z:=⟨_,rfl⟩
 rw [hZ] at hz hz2 hpl
 have hnew:(w.alloc (.cells #[.int .u8 128] 5)).ownsRow w.heap.size 5 1 (.slice (some ⟨w.heap.size,0,none⟩) 1 1) 1 (valsK .u8 ((padL n).take 1)):=by
  have e:(padL n).take 1 = [128]:=by
   have:=padL_take n 0 (by omega) 128 (padF_zero n).symm
   simpa using this.symm
  rw [e]
  exact ⟨rfl,.inr ⟨w.heap.size,1,_,rfl,Nat.le_refl _,Go.heap_alloc_new w _,Nat.le_refl _,by unfold maxLen; omega,rfl,rfl⟩⟩
 have low1:Below w.heap.size w (w.alloc (.cells #[.int .u8 128] 5)):=(Below.refl _ _).alloc (Nat.le_refl _) _
 have Hnew:=lhd hnew
 have Low1:=lhd low1
 have HZ:=lhd hZ
 have Hz2:=lhd hz2
 have Hpl:=lhd hpl
 clear h hnew low1 hZ hz2 hpl
 go_enter Tryz.func150,Tryz.ntmps150
 go_wp2
 go_loopw [3] (fun v wr => ∃ (k c:Nat) (A:Option Addr),k <= Z /\ v = .slice A (1 + k) c /\ Hid (wr.ownsRow w.heap.size 5 1 v (1 + k) (valsK .u8 ((padL n).take (1 + k))) /\ Below w.heap.size w wr)) (fun v _ => match v with | .slice _ m _ => 100 - m | _ => 0)
 case atStart => exact ⟨0,1,_,by omega,rfl,Hnew.out,Low1.out⟩
 case round =>
  obtain ⟨k,c,A,hk,rfl,hr⟩:=hrel
  by_cases hlt:k < Z
  . have hne:¬ (((n:Int) + (1 + (k:Int)) + 8) % 64 = 0):=by have:=Hz2.out; omega
    have hmore:=padL_take n (1 + k) (by rw [Hpl.out]; omega) 0 (padF_mid n (1 + k) (by omega) (by rw [HZ.out]; omega)).symm
    have Hmore:=lhd hmore
    clear hmore
    go_wp2_with (at_builtin; refine wpList_append_mine rfl (.tmp 21) (.tmp 22) 38 rfl w.heap.size 5 i8 (.int .u8 0) 1 Tryz.underlying38 gi.out gz0.out gz1.out gz2.out rfl (by decide) _ (1 + k) ((padL n).take (1 + k)) 0 rfl hr.out.1 rfl (by omega) hr.out.2.size ?_; intro v' w' hgr; obtain ⟨A',c',hv'⟩:=own_nilK hgr.own; subst hv'; have Hgr:=lhd hgr; clear hgr)
    go_roundw
    case rel => exact ⟨k + 1,c',A',by omega,by rw [show 1 + k + 1 = 1 + (k + 1) by omega],by rw [show 1 + (k + 1) = 1 + k + 1 by omega,<- Hmore.out]; exact ⟨Hgr.out.own,Hgr.out.low _ _ hr.out.2 (Nat.le_refl _)⟩⟩
    case measure => show 100 - (1 + k + 1) < 100 - (1 + k); omega
  . obtain rfl:Z = k:=by omega
    have heq:((n:Int) + (1 + (Z:Int)) + 8) % 64 = 0:=by have:=Hz2.out; omega
    have hn8:8 * (n:Int) < 18446744073709551616:=by omega
    obtain ⟨wo,hwo⟩:∃ wo,wo = wr:=⟨_,rfl⟩
    subst hwo
    obtain ⟨M,hM⟩:∃ M:Int,M = 8 * (n:Int):=⟨_,rfl⟩
    have HM:=lhd hM
    go_wp2
    rw [<- hM]
    clear heq hM
    go_loopw [3,5] (fun v i wx => ∃ j:Nat,j <= 8 /\ i = .int .i64 j /\ Hid (wx.ownsRow w.heap.size 5 1 v (1 + Z + j) (valsK .u8 ((padL n).take (1 + Z + j))) /\ Below w.heap.size w wx)) (fun _ i _ => 8 - (intOf i).toNat)
    case atStart => exact ⟨0,by omega,rfl,hr.out⟩
    case round =>
     obtain ⟨j,hj,rfl,hq⟩:=hrel
     by_cases hlt8:j < 8
     . have hltI:(j:Int) < 8:=by omega
       have hs:IntKind.u64.wrap (56 - 8 * (j:Int)) = ((56 - 8 * j:Nat):Int):=by rw [show IntKind.u64.wrap (56 - 8 * (j:Int)) = (56 - 8 * (j:Int)) % 18446744073709551616 by simp [IntKind.wrap,IntKind.bits,IntKind.signed]]; omega
       have hs2:(((56 - 8 * j:Nat):Int)).toNat = 56 - 8 * j:=by omega
       have hs3:(56:Int) - 8 * (j:Int) = ((56 - 8 * j:Nat):Int):=by omega
       have hs4:((56 - 8 * j:Nat):Int) < 64:=by omega
       have hs5:0 <= ((56 - 8 * j:Nat):Int):=by omega
       have hx:M / 2 ^ (56 - 8 * j) % 256 = padF n (1 + Z + j):=by
        have h:=padF_tail n (7 - j) (by omega)
        rw [show padLen n - 1 - (7 - j) = 1 + Z + j by rw [Hpl.out]; omega] at h
        rw [h,HM.out,show 8 * (7 - j) = 56 - 8 * j by omega]
       have hmore:=padL_take n (1 + Z + j) (by rw [Hpl.out]; omega) _ hx
       have Hmore:=lhd hmore
       clear hmore hx
       go_wp2_with (at_builtin; refine wpList_append_mine rfl (.tmp 35) (.tmp 40) 38 rfl w.heap.size 5 i8 (.int .u8 0) 1 Tryz.underlying38 gi.out gz0.out gz1.out gz2.out rfl (by decide) _ (1 + Z + j) ((padL n).take (1 + Z + j)) _ rfl hq.out.1 rfl (by omega) hq.out.2.size ?_; intro v' w' hgr; have Hgr:=lhd hgr; clear hgr)
       go_roundw
       case rel => exact ⟨j + 1,by omega,by go_num,by rw [show 1 + Z + (j + 1) = 1 + Z + j + 1 by omega,<- Hmore.out]; exact ⟨Hgr.out.own,Hgr.out.low _ _ hq.out.2 (Nat.le_refl _)⟩⟩
       case measure => simp [intOf]; omega
     . obtain rfl:j = 8:=by omega
       have own:=hq.out.1
       have hp:1 + Z + 8 = padLen n:=by rw [Hpl.out]; omega
       rw [hp,List.take_of_length_le (Nat.le_of_eq (padL_length n))] at own
       obtain ⟨g2,c2,rfl,hc2,hg2,hrow2⟩:=own_rowK own (padL_length n) (by rw [Hpl.out]; omega)
       have Hrow2:=lhd hrow2
       have Low2:=lhd hq.out.2
       clear own hq hrow2 hp
       go_wp2
       go_ret
       exact ⟨g2,c2,rfl,hc2,hg2,Hrow2.out,Low2.out⟩
theorem hashF_at2 (l:List Int) (k:Nat):hashF l k = l.getD (k / 4) 0 / 2 ^ (24 - 8 * (k % 4)) % 256:=by
 have hf:=hashF_at l (k / 4)
 have:k % 4 = 0 \/ k % 4 = 1 \/ k % 4 = 2 \/ k % 4 = 3:=by omega
 rcases this with e | e | e | e
 . have h2:hashF l k = hashF l (4 * (k / 4)):=by congr 1; omega
   rw [h2,hf.1,e]; rfl
 . have h2:hashF l k = hashF l (4 * (k / 4) + 1):=by congr 1; omega
   rw [h2,hf.2.1,e]; rfl
 . have h2:hashF l k = hashF l (4 * (k / 4) + 2):=by congr 1; omega
   rw [h2,hf.2.2.1,e]; rfl
 . have h2:hashF l k = hashF l (4 * (k / 4) + 3):=by congr 1; omega
   rw [h2,hf.2.2.2,e]
   simp
structure ToI (l:List Int) (N k:Nat) (w wr:World):Prop where
 src:wr.heap[N]? = some (.cells (u32s l) 191 (0,0))
 res:∃ Z:Array Value,Z.size = 32 /\ wr.heap[N + 1]? = some (.cells Z 24 (0,0))
 row:∃ S:Array Value,HoldsB S 32 k (hashF l) /\ wr.heap[N + 1 + 1]? = some (.cells S 24 (0,0))
 low:Below N w wr
theorem ToI.set {l:List Int} {N k:Nat} {w wr:World} (h:ToI l N k w wr) (hk:k < 32) (v:Int) (hv:v = hashF l k):ToI l N (k + 1) w (wr.setCell ⟨N + 1 + 1,k,none⟩ (.int .u8 v)):=by
 obtain ⟨S,hS,hr⟩:=h.row
 obtain ⟨Z,hZ,hz⟩:=h.res
 refine ⟨?_,⟨Z,hZ,?_⟩,⟨_,hS.set hk v hv,heap_setCell_same _ _ _ _ _ _ hr⟩,h.low.setCell (by simp; omega) _⟩
 . rw [heap_setCell_other _ _ _ _ (by simp; omega)]; exact h.src
 . rw [heap_setCell_other _ _ _ _ (by simp)]; exact hz
theorem rtold_any (l:List Int) (hl:l.length = 8) (w:World) :
 Calls Tryz.prog 151 #[.agg (u32s l)] w fun e' w' => e' = .returned (.agg (u8s (hashL l))) /\ Below w.heap.size w w':=by
 have Hl:=lhd hl
 clear hl
 go_enter Tryz.func151,Tryz.ntmps151
 have h3:=lhd (three_new w (.cells (u32s l) 191))
 go_wp2
 go_loopw [4] (fun i wr => ∃ k:Nat,k <= 32 /\ i = .int .i64 k /\ Hid (ToI l w.heap.size k w wr)) (fun i _ => 32 - (intOf i).toNat)
 case atStart => exact ⟨0,Nat.zero_le _,rfl,(h3.out _ _).1,⟨_,rfl,(h3.out _ _).2.1⟩,⟨_,HoldsB.nil _ _ _ rfl,(h3.out _ _).2.2⟩,below3 _ _ _ _⟩
 case round =>
  obtain ⟨k,hk,rfl,hinv⟩:=hrel
  clear h3
  by_cases hlt:k < 32
  . have hltI:(k:Int) < 32:=by omega
    obtain ⟨S,hS,hr⟩:=hinv.out.row
    obtain ⟨v,hv⟩:∃ v,wr.cell? ⟨w.heap.size + 1 + 1,k,none⟩ = some v:=by
     rw [cell_row hr]; exact ⟨_,Array.getElem?_eq_getElem (by rw [hS.1]; omega)⟩
    have hfz:=free_row hr k
    obtain ⟨x,hx⟩:∃ x,x = l.getD (k / 4) 0:=⟨_,rfl⟩
    have cell:wr.cell? ⟨w.heap.size,k / 4,none⟩ = some (.int .u32 x):=by rw [hx]; exact row32_cell hinv.out.src _ (by rw [Hl.out]; omega)
    have hf:=hashF_at2 l k
    rw [<- hx] at hf
    have Hf:=lhd hf
    have q1:IntKind.i64.wrap ((k:Int).tdiv 4) = ((k / 4:Nat):Int):=by rw [show (k:Int).tdiv 4 = ((k / 4:Nat):Int) from rfl]; exact IntWalk.i64_in _ (by omega)
    have q8:(k:Int).tmod 4 = (k:Int) % 4:=rfl
    have q5:24 - 8 * ((k:Int) % 4) < 32:=by omega
    have q6:0 <= 24 - 8 * ((k:Int) % 4):=by omega
    have q7:(24 - 8 * ((k:Int) % 4)).toNat = 24 - 8 * (k % 4):=by omega
    have q9:IntKind.u64.wrap (24 - 8 * ((k:Int) % 4)) = 24 - 8 * ((k:Int) % 4):=by rw [show IntKind.u64.wrap (24 - 8 * ((k:Int) % 4)) = (24 - 8 * ((k:Int) % 4)) % 18446744073709551616 by simp [IntKind.wrap,IntKind.bits,IntKind.signed]]; omega
    clear hr hS hx hf
    go_wp2
    go_roundw
    case rel => exact ⟨k + 1,by omega,by go_num,hinv.out.set hlt _ Hf.out.symm⟩
    case measure => simp [intOf]; omega
  . obtain rfl:k = 32:=by omega
    obtain ⟨S,hS,hr⟩:=hinv.out.row
    obtain ⟨Z,hZ,hz⟩:=hinv.out.res
    have low:=hinv.out.low
    have hS':S = u8s (hashL l):=hS.whole (hashL_length l) (fun j hj => hashL_getD l j hj)
    subst hS'
    have hs35:(Tryz.prog.info? 24).map (·.size) = some (u8s (hashL l)).size:=by rw [u8s_size,hashL_length]; exact info35
    have hzz:Z.size = (u8s (hashL l)).size:=by rw [u8s_size,hashL_length,hZ]
    have Hs35:=lhd hs35
    have Hzz:=lhd hzz
    have Hr:=lhd hr
    have Hz:=lhd hz
    clear hs35 hzz hr hz hinv hS hZ
    go_wp2_with (first | (refine wpList_load_row rfl 24 (.tmp 3) rfl (w.heap.size + 1 + 1) rfl 24 (u8s (hashL l)) (0,0) _ Hr.out Tryz.underlying24 rfl Hs35.out ?_) | (refine wpList_store_row rfl 24 (.tmp 2) (.tmp 22) rfl (w.heap.size + 1) (u8s (hashL l)) rfl rfl 24 Z Hz.out Hs35.out Hzz.out (u8s_one _) ?_))
    exact bodyPost_ret (v:=.agg (u8s (hashL l))) (results_cell_row rfl _ _ (w.heap.size + 1) 24 _ (0,0) _ rfl (setRow_heap wr _ _ _ _ _ Hz.out) Tryz.underlying24 rfl Hs35.out) rfl ⟨rfl,below_setRow low (by omega) _⟩
end Go.Proofs.YteeghgjkjicjoaaGreatDoor
namespace Go.Proofs.YteeghgjkjicjoaaGreatDoor
open Go.RowKit
noncomputable def load8A (v:Value):Sem Value:=Instr.loadAt 191 v
theorem loadAt8A (v:Value):Instr.loadAt 191 v = load8A v:=rfl
theorem load8A_eq {w:World} {g:Nat} {L:List Int} (hl:L.length = 8) (h:w.heap[g]? = some (.cells (u32s L) 191 (0,0))):(load8A (.pointer (some ⟨g,0,none⟩))).run Tryz.prog w = .ok (.agg (u32s L)) w:=by
 have hi:(Tryz.prog.info? 191).map (·.size) = some (u32s L).size:=by rw [u32s_size,hl]; exact info23
 unfold load8A
 simp only [Instr.loadAt,Instr.sureAddr,Sem.run_bind,Sem.run_pure,Result.andThen_ok,run_loadVar_row w g 191 191 _ (0,0) _ h Tryz.underlying191 rfl hi]
attribute [irreducible] load8A
attribute [local go_sem ↓ high] loadAt8A
structure FoI (X:List Int) (N:Nat) (w w1 wr:World):Prop where
 st:wr.heap[N]? = some (.cells (u32s X) 191 (0,0))
 old:∀ g,g < w1.heap.size -> g ≠ N -> wr.heap[g]? = w1.heap[g]?
 sz:w1.heap.size <= wr.heap.size
 low:Below N w wr
theorem FoI.later {X:List Int} {N:Nat} {w w1 wr wx:World} (h:FoI X N w w1 wr) (hb:Below wr.heap.size wr wx):FoI X N w w1 wx:=by
 have h1:=(Array.getElem?_eq_some_iff.1 h.st).1
 exact ⟨(hb.block _ h1).trans h.st,fun g hg hne => (hb.block g (Nat.lt_of_lt_of_le hg h.sz)).trans (h.old g hg hne),Nat.le_trans h.sz hb.size,h.low.trans (hb.mono (by omega))⟩
theorem FoI.row {X:List Int} {N:Nat} {w w1 wr:World} (h:FoI X N w w1 wr) (Y:List Int):FoI Y N w w1 (wr.setRow N (u32s Y)) :=
 ⟨setRow_heap wr _ _ _ _ _ h.st,fun g hg hne => by rw [setRow_other wr _ _ _ hne]; exact h.old g hg hne,by have:=(below_setRow (Below.refl N wr) (Nat.le_refl _) (u32s Y)).size; exact Nat.le_trans h.sz this,below_setRow h.low (Nat.le_refl _) _⟩
theorem rfold_any (s:W8) (L:List Int) (g c n:Nat) (w:World) (hn:L.length = n) (hb:InB L) (hB:Byt w (some ⟨g,0,none⟩) c L) (hn1:n <= 1000000) (h0:0 < n) :
 Calls Tryz.prog 152 #[.agg (u32s s.list),.slice (some ⟨g,0,none⟩) n c] w fun e' w' => e' = .returned (.agg (u32s (foldB s L (n / 64)).list)) /\ Below w.heap.size w w':=by
 have Hn:=lhd hn
 have Hb:=lhd hb
 obtain ⟨g',off',hgg,hgl,hcell⟩:=hB.2.2 (by omega)
 injection hgg with hgg
 injection hgg with e1 e2 e3
 subst e1 e2
 have hcn:=hB.1
 rw [hn] at hcn
 have Hcell:=lhd hcell
 obtain ⟨S,hS⟩:∃ S,S = s.list:=⟨_,rfl⟩
 have hS8:S.length = 8:=by rw [hS]; rfl
 rw [<- hS]
 have HS:=lhd hS
 have h2:=two_new w (.cells (u32s S) 191) (.cells #[.int .u32 0,.int .u32 0,.int .u32 0,.int .u32 0,.int .u32 0,.int .u32 0,.int .u32 0,.int .u32 0] 191)
 have k2:Below w.heap.size w ((w.alloc (.cells (u32s S) 191)).alloc (.cells #[.int .u32 0,.int .u32 0,.int .u32 0,.int .u32 0,.int .u32 0,.int .u32 0,.int .u32 0,.int .u32 0] 191)):=((Below.refl _ _).alloc (Nat.le_refl _) _).alloc (by simp) _
 have s2:((w.alloc (.cells (u32s S) 191)).alloc (.cells #[.int .u32 0,.int .u32 0,.int .u32 0,.int .u32 0,.int .u32 0,.int .u32 0,.int .u32 0,.int .u32 0] 191)).heap.size = w.heap.size + 2:=by simp
 have H2:=lhd h2
 have K2:=lhd k2
 have S2:=lhd s2
 clear hn hb hB hS hS8 h2 k2 s2 hcell
 go_enter Tryz.func152,Tryz.ntmps152
 go_wp2_with (go_at_call 161; refine (adds_any _).mono ?_; rintro e w1 ⟨ga,capa,rfl,hga,hrow,low⟩; have Hrow:=lhd hrow; have Low:=lhd low; have Hga:=lhd hga; have HN:=lhd ((low.block _ (by rw [S2.out]; omega)).trans H2.out.1); have HZ:=lhd ((low.block _ (by rw [S2.out]; omega)).trans H2.out.2); clear hrow low hga)
 have hs1:=Low.out.size
 rw [S2.out] at hs1
 have hga:=Hga.out
 rw [S2.out] at hga
 have hbase:FoI S w.heap.size w w1 w1:=⟨HN.out,fun _ _ _ => rfl,Nat.le_refl _,K2.out.trans (Low.out.mono K2.out.size)⟩
 have hsa:∀ wr X,FoI X w.heap.size w w1 wr -> RowK .u32 wr ga KW:=fun wr X hm => ⟨Nat.lt_of_lt_of_le Hrow.out.1 hm.sz,fun j hj => (World.cell?_of_block (hm.old ga Hrow.out.1 (by omega))).trans (Hrow.out.2 j hj)⟩
 have hsz:∀ wr X,FoI X w.heap.size w w1 wr -> wr.heap[w.heap.size + 1]? = some (.cells #[.int .u32 0,.int .u32 0,.int .u32 0,.int .u32 0,.int .u32 0,.int .u32 0,.int .u32 0,.int .u32 0] 191 (0,0)):=fun wr X hm => (hm.old _ (by omega) (by omega)).trans HZ.out
 have Base:=lhd hbase
 have Hsa:=lhd hsa
 have Hsz:=lhd hsz
 clear hbase hsa hsz hs1 hga HN HZ Hrow Low Hga H2 K2 S2
 go_loopw [6] (fun i wr => ∃ k:Nat,64 * k <= n /\ i = .int .i64 (64 * (k:Int)) /\ Hid (FoI (foldB s L k).list w.heap.size w w1 wr)) (fun i _ => n + 64 - (intOf i).toNat)
 case atStart => exact ⟨0,by omega,rfl,by { have h:=Base.out; rw [HS.out] at h; exact h }⟩
 case round =>
  obtain ⟨k,hk,rfl,hm⟩:=hrel
  by_cases hlt:64 * k + 64 <= n
  . have hltI:64 * (k:Int) + 64 <= n:=by omega
    have l6:=load8A_eq (L:=(foldB s L k).list) rfl (hm.out.later (Below.refl _ _).drew).st
    obtain ⟨X,hX⟩:∃ X,X = (foldB s L k).list:=⟨_,rfl⟩
    have hne:¬ c = 64 * k:=by omega
    have t64:(64 * (k:Int)).toNat = 64 * k:=by omega
    have t65:(64 * (k:Int) + 64).toNat = 64 * k + 64:=by omega
    have u1:0 <= 64 * (k:Int):=by omega
    have u2:64 * (k:Int) <= (c:Int):=by omega
    have u3:64 * (k:Int) + 64 <= (c:Int):=by omega
    have u4:64 * (k:Int) <= 64 * (k:Int) + 64:=by omega
    have u5:64 * k + 64 - 64 * k = 64:=by omega
    have ew:IntKind.i64.wrap (64 * (k:Int) + 64) = 64 * (k:Int) + 64:=IntWalk.i64_in _ (by omega)
    have hmd:=hm.out.later (wx:=wr.drew) (Below.refl _ _).drew
    have hcl:∀ j,j < 64 -> wr.drew.cell? ⟨g,64 * k + j,none⟩ = some (.int .u8 ((blk L k).getD j 0)):=fun j hj => by
     rw [hmd.low.cell (p:=⟨g,64 * k + j,none⟩) hgl]
     have h:=Hcell.out (64 * k + j) (by rw [Hn.out]; omega)
     rw [Nat.zero_add] at h
     rw [h]
     simp [blk,List.getD_eq_getElem?_getD,List.getElem?_drop,hj]
    have hmix:=rmix_any (foldB s L k) (blk L k) (Hb.out.blk k) g (64 * k) (c - 64 * k) ga capa wr.drew (Nat.lt_of_lt_of_le hgl hmd.low.size) hcl (Hsa.out _ _ hmd)
    rw [<- hX] at l6 hmix hmd
    have HX:=lhd hX
    have Hmix:=lhd hmix
    have Hmd:=lhd hmd
    clear hX hcl hmix hmd hm
    go_wp2_with fail
    refine wp_region_still_tail 7 (by kernel_rfl) (by kernel_rfl) ?_
    simp only [List.take_succ_cons,List.take_zero,List.drop_succ_cons,List.drop_zero]
    change wpStill _ _ wr.drew _ _ _
    repeat (refine wpStill_step (fun K hK => ?_); go_simp; refine hK _ ?_; clear hK K)
    refine wpStill_nil ?_
    change wpList _ _ _ _ _ wr.drew
    go_wp2_with (first
     | (go_at_call 162; refine Hmix.out.mono ?_; rintro e w7 ⟨rfl,low7⟩; have Hm7:=lhd (Hmd.out.later low7); have Hi8:Hid ((Tryz.prog.info? 191).map (·.size) = some (u32s (foldB s L (k + 1)).list).size):=info23; clear low7)
     | (refine wpList_store_row rfl 191 (.tmp 2) (.tmp 22) rfl w.heap.size (u32s (foldB s L (k + 1)).list) rfl rfl 191 _ Hm7.out.st Hi8.out (by rw [HX.out]; rfl) (u32s_one _) ?_))
    go_roundw
    case rel => exact ⟨k + 1,by omega,by go_num,Hm7.out.row _⟩
    case measure => simp [intOf]; omega
  . have hltI:¬ 64 * (k:Int) + 64 <= n:=by omega
    obtain ⟨R,hR⟩:∃ R,R = (foldB s L k).list:=⟨_,rfl⟩
    have hk2:k = n / 64:=by omega
    have hRl:R.length = 8:=by rw [hR]; rfl
    have hm1:=hm.out
    rw [<- hR] at hm1
    have hR2:R = (foldB s L (n / 64)).list:=by rw [hR,hk2]
    have Hz:=lhd (Hsz.out _ _ hm1)
    have Hsz8:Hid ((Tryz.prog.info? 191).map (·.size) = some (u32s R).size):=by show _ = _; rw [u32s_size,hRl]; exact info23
    have Hzz:Hid ((#[.int .u32 0,.int .u32 0,.int .u32 0,.int .u32 0,.int .u32 0,.int .u32 0,.int .u32 0,.int .u32 0]:Array Value).size = (u32s R).size):=by show _ = _; rw [u32s_size,hRl]; rfl
    have Hm1:=lhd hm1
    have HR:=lhd hR2
    have low:=hm1.low
    clear hm hm1 hR hRl hR2 hk2
    go_wp2_with (first | (refine wpList_load_row rfl 191 (.tmp 2) rfl w.heap.size rfl 191 (u32s R) (0,0) _ Hm1.out.st Tryz.underlying191 rfl Hsz8.out ?_) | (refine wpList_store_row rfl 191 (.tmp 4) (.tmp 23) rfl (w.heap.size + 1) (u32s R) rfl rfl 191 _ Hz.out Hsz8.out Hzz.out (u32s_one _) ?_))
    rw [<- HR.out]
    exact bodyPost_ret (v:=.agg (u32s R)) (results_cell_row rfl _ _ (w.heap.size + 1) 191 _ (0,0) _ rfl (setRow_heap wr _ _ _ _ _ Hz.out) Tryz.underlying191 rfl Hsz8.out) rfl ⟨rfl,below_setRow low (by omega) _⟩
theorem rsum_any (L:List Int) (A:Option Addr) (c m:Nat) (w:World) (hm:L.length = m) (hb:InB L) (hB:Byt w A c L) (hn:m <= 90000) :
 Calls Tryz.prog 136 #[.slice A m c] w fun e' w' => e' = .returned (.agg (u8s (sumL L))) /\ Below w.heap.size w w':=by
 have Hm:=lhd hm
 have Hb:=lhd hb
 obtain ⟨W1,hW1⟩:∃ W1,W1 = w.alloc (.cells zero32 24):=⟨_,rfl⟩
 have low0:Below w.heap.size w W1:=by rw [hW1]; exact (Below.refl _ _).alloc (Nat.le_refl _) _
 have new0:W1.heap[w.heap.size]? = some (.cells zero32 24 (0,0)):=by rw [hW1]; exact Go.heap_alloc_new w _
 have sz0:W1.heap.size = w.heap.size + 1:=by rw [hW1,World.size_alloc]
 have HW1:Hid (w.alloc (.cells #[.int .u8 0,.int .u8 0,.int .u8 0,.int .u8 0,.int .u8 0,.int .u8 0,.int .u8 0,.int .u8 0,.int .u8 0,.int .u8 0,.int .u8 0,.int .u8 0,.int .u8 0,.int .u8 0,.int .u8 0,.int .u8 0,.int .u8 0,.int .u8 0,.int .u8 0,.int .u8 0,.int .u8 0,.int .u8 0,.int .u8 0,.int .u8 0,.int .u8 0,.int .u8 0,.int .u8 0,.int .u8 0,.int .u8 0,.int .u8 0,.int .u8 0,.int .u8 0] 24) = W1):=hW1.symm
 have byt0:Byt W1 A c L:=hB.below low0 (Nat.le_refl _)
 obtain ⟨P,hP⟩:∃ P,P = padLen m:=⟨_,rfl⟩
 have hP1:9 <= P:=by rw [hP]; unfold padLen; omega
 have hP2:P <= 72:=by have:=zeros_lt m; rw [hP]; unfold padLen; omega
 have hsum:sumL L = hashL (foldB S0 (L ++ padL m) ((m + P) / 64)).list:=by rw [sumL,fin_eq,hm,<- hP]
 have Low0:=lhd low0
 have New0:=lhd new0
 have Sz0:=lhd sz0
 have Byt0:=lhd byt0
 have HP:=lhd hP
 have Hsum:=lhd hsum
 have Hbh:Hid (∀ W:World,Calls Tryz.prog 150 #[.int .i64 (m:Int)] W fun e' w' => ∃ g c,e' = .returned (.slice (some ⟨g,0,none⟩) P c) /\ P <= c /\ W.heap.size <= g /\ RowK .u8 w' g (padL m) /\ Below W.heap.size W w'):=by
  show ∀ W:World,_
  intro W; rw [hP]; exact rbehind_any m (by omega) W
 clear hm hb hB hW1 low0 new0 sz0 byt0 hP hsum
 go_enter Tryz.func136,Tryz.ntmps136
 go_upto_region 1 with fail
 rw [HW1.out]
 go_wp2_with (first
  | (at_builtin; refine lawAnybody.wpList_append_byt rfl (.tmp 4) (.tmp 5) rfl W1.heap.size _ 0 [] rfl (World.ownsRow_nil _ _ _ _) A m c L rfl Hm.out Byt0.out (by omega) (Nat.le_refl _) ?_; intro v1 w1 hown1 hlow1 _; have Low1:=lhd (hlow1 _ _ (Below.refl W1.heap.size W1) (Nat.le_refl _)); simp only [List.nil_append,Nat.zero_add] at hown1; have Own1:=lhd hown1; clear hown1 hlow1)
  | (go_at_call 150; refine (Hbh.out w1).mono ?_; rintro e w2 ⟨gp,cp,rfl,hcp,hgp,hrow2,low2⟩; have Hp2:=lhd (hrow2.byt (c:=cp) (by rw [padL_length,<- HP.out]; exact hcp)); have Own2:=lhd (own_below Own1.out low2); have Low2:=lhd (Low1.out.trans (low2.mono Low1.out.size)); clear hrow2 low2)
  | (at_builtin; refine lawAnybody.wpList_append_byt rfl (.tmp 7) (.tmp 10) rfl W1.heap.size v1 m L rfl Own2.out (some ⟨gp,0,none⟩) P cp (padL m) rfl (by rw [padL_length,<- HP.out]) Hp2.out (by omega) Low2.out.size ?_; intro v2 w3 hown3 hlow3 _; have Low3:=lhd (hlow3 _ _ Low2.out (Nat.le_refl _)); obtain ⟨g,c3,hv2,byt3,hlen3,hg3⟩:=own_form hown3 (by omega); subst hv2; have Byt3:=lhd byt3; have Hlen3:=lhd hlen3; clear hown3 hlow3 byt3 hlen3)
  | (go_at_call 153; refine (rstart_any w3).mono ?_; rintro e w4 ⟨rfl,low4⟩; have Byt4:=lhd (Byt3.out.below low4 (Nat.le_refl _)); have Low4:=lhd (Low3.out.trans (low4.mono Low3.out.size)); clear low4)
  | (go_at_call 152; refine (rfold_any S0 (L ++ padL m) g c3 (m + P) w4 Hlen3.out (Hb.out.append (padL_in m)) Byt4.out (by omega) (by omega)).mono ?_; rintro e w5 ⟨rfl,low5⟩; have Low5:=lhd (Low4.out.trans (low5.mono Low4.out.size)); clear low5)
  | (go_at_call 151; refine (rtold_any _ rfl w5).mono ?_; rintro e w6 ⟨rfl,low6⟩; rw [<- Hsum.out]; have Low6:=lhd (Low5.out.trans (low6.mono Low5.out.size)); have Hz:=lhd ((Low6.out.block _ (by rw [Sz0.out]; omega)).trans New0.out); have H35:Hid ((Tryz.prog.info? 24).map (·.size) = some (u8s (sumL L)).size):=(by show _ = _; rw [u8s_size,sumL,fin,hashL_length]; exact info35); clear low6)
  | (refine wpList_store_row rfl 24 (.tmp 2) (.tmp 15) rfl w.heap.size (u8s (sumL L)) rfl rfl 24 _ Hz.out H35.out (by rw [u8s_size,sumL,fin,hashL_length]; rfl) (u8s_one _) ?_))
 exact bodyPost_ret (v:=.agg (u8s (sumL L))) (results_cell_row rfl _ _ w.heap.size 24 _ (0,0) _ rfl (setRow_heap w6 _ _ _ _ _ Hz.out) Tryz.underlying24 rfl H35.out) rfl ⟨rfl,below_setRow (Low0.out.trans (Low6.out.mono Low0.out.size)) (Nat.le_refl _) _⟩
end Go.Proofs.YteeghgjkjicjoaaGreatDoor
