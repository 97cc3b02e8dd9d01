/- Texts of ours, merged. -/
import Derived.Test.YteeghgjkjicjoaaGreatDoorC32
set_option maxRecDepth 100000
set_option maxHeartbeats 16000000
namespace Go.Proofs.YteeghgjkjicjoaaGreatDoor.Cha
open Go.RowKit
theorem rstream_no (K Nn:List Int) (c:Int) (A:Option Addr) (n cap:Nat) (hsm:n <= 100000) (c0:0 <= c) (c1:c < 4294967296) (cb:¬ c + (nbl n:Nat) <= 4294967296) (w:World) :
 Calls Tryz.prog 111 #[.agg (u8s K),.int .u32 c,.agg (u8s Nn),.slice A n cap] w fun e' w' => e' = .returned (.tuple #[.slice none 0 0,.int .i64 13]) /\ Below w.heap.size w w':=by
 obtain ⟨B,hB⟩:∃ B,B = nbl n:=⟨_,rfl⟩
 have b0:0 < B:=by rw [hB]; unfold nbl at *; omega
 have b1:B <= 100000:=by rw [hB]; unfold nbl; omega
 rw [<- hB] at cb
 have hq:((n:Int) + 63).tdiv 64 = (B:Int):=by
  rw [Int.tdiv_eq_ediv_of_nonneg (by omega),hB]; unfold nbl; omega
 have hq2:((n:Int) + 63) / 64 = (B:Int):=by rw [hB]; unfold nbl; omega
 have b0':(0:Int) < (B:Int):=by omega
 have g1:4294967295 < c + (B:Int) - 1:=by omega
 have c1':c <= 4294967295:=by omega
 clear hB cb c1
 go_enter Tryz.func111,Tryz.ntmps111
 go_wp2
 refine bodyPost_ret (results_tmp2 rfl _ _ _) rfl ?_
 exact ⟨rfl,((Below.refl _ _).alloc (Nat.le_refl _) _).alloc (by simp) _⟩
attribute [local go_sem ↓ high] appendC_eq
structure RS (K Nn X:List Int) (m:Nat) (w wx:World) (v:Value):Prop where
 own:wx.ownsRow (w.heap.size + 1 + 1) 5 1 v m (vals (X.take m))
 key:wx.heap[w.heap.size]? = some (.cells (u8s K) 24 (0,0))
 non:wx.heap[w.heap.size + 1]? = some (.cells (u8s Nn) 155 (0,0))
 low:Below w.heap.size w wx
theorem RS.later {K Nn X:List Int} {m:Nat} {w wx wy:World} {v:Value} (h:RS K Nn X m w wx v) (hb:Below wx.heap.size wx wy):RS K Nn X m w wy v:=by
 have h1:=(Array.getElem?_eq_some_iff.1 h.key).1
 have h2:=(Array.getElem?_eq_some_iff.1 h.non).1
 exact ⟨own_keep h.own hb,(hb.block _ h1).trans h.key,(hb.block _ h2).trans h.non,h.low.trans (hb.mono (by omega))⟩
theorem append_one2 {w:World} (ty:TypeId) {base k:Nat} {v:Value} {xs:List Int} (hown:w.ownsRow base 5 1 v k (vals xs)) {G:Nat} {y:Int} (hcell:w.cell? ⟨G,0,none⟩ = some (.int .u8 y)) (b1:k <= 1000000) (b3:base <= w.heap.size) :
 ∃ v' w',(appendC #[38, 38] ty #[v,.slice (some ⟨G,0,none⟩) 1 1]).run Tryz.prog w = .ok v' w' /\ w'.ownsRow base 5 1 v' (k + 1) (vals xs ++ [.int .u8 y]) /\ w.grownBy w' v.ownBlock /\ (v'.ownBlock = v.ownBlock \/ v'.ownBlock = some w.heap.size):=by
 obtain ⟨i0,hi,hz0,hz1,hz2⟩:=parts3 info08
 unfold appendC
 obtain ⟨v',w',hr,hown',hgrow,_,hat⟩:=run_append_own_at (P:=Tryz.prog) w base 38 ty 5 i0 (.int .u8 0) 1 1 Tryz.underlying38 hi hz0 hz1 hz2 rfl (by decide) v k (vals xs) hown ⟨G,0,none⟩ 1 1 [.int .u8 y] rfl
  (fun j u hj => by
   match j,hj with
   | 0,hj => simp at hj; subst hj; simpa [Addr.add_mid] using hcell)
  (fun u hu => by simp at hu; subst hu; rfl) (by unfold maxLen; omega) (by omega) b3
 exact ⟨v',w',hr,hown',hgrow,hat⟩
theorem RS.more {K Nn X:List Int} {m:Nat} {w wx w2:World} {v v2:Value} {y:Int} {o:Obj} (h:RS K Nn X m w wx v) (hm:m < X.length) (hy:y = X.getD m 0) (ho:w2.ownsRow (w.heap.size + 1 + 1) 5 1 v2 (m + 1) (vals (X.take m) ++ [.int .u8 y])) (hg:(wx.alloc o).drew.grownBy w2 v.ownBlock):RS K Nn X (m + 1) w w2 v2:=by
 have h1:=(Array.getElem?_eq_some_iff.1 h.key).1
 have h2:=(Array.getElem?_eq_some_iff.1 h.non).1
 have hs:(wx.alloc o).drew.heap.size = wx.heap.size + 1:=by show (wx.alloc o).heap.size = _; rw [World.size_alloc]
 refine ⟨by rw [hy,take_more hm] at ho; exact ho,?_,?_,(((h.low.alloc (by omega) o).trans (Below.refl _ _).drew).grown hg (by omega) (fun k hk => by have:=(h.own.lt k hk).1; omega))⟩
 . exact ((hg.block _ (by omega) (fun e => by have:=(h.own.lt _ e.symm).1; omega)).trans (Go.heap_alloc_old _ _ h1)).trans h.key
 . exact ((hg.block _ (by omega) (fun e => by have:=(h.own.lt _ e.symm).1; omega)).trans (Go.heap_alloc_old _ _ h2)).trans h.non
theorem rstream_ok (K Nn L:List Int) (c:Int) (A:Option Addr) (n cap:Nat) (hK:K.length = 32) (hN:Nn.length = 12) (bK:InB K) (bN:InB Nn) (hl:L.length = n) (hsm:n <= 100000) (c0:0 <= c) (c1:c < 4294967296) (cb:c + (nbl n:Nat) <= 4294967296) (w:World) (hB:Byt w A cap L) :
 Calls Tryz.prog 111 #[.agg (u8s K),.int .u32 c,.agg (u8s Nn),.slice A n cap] w fun e' w' => ∃ A' c',e' = .returned (.tuple #[.slice A' n c',.int .i64 0]) /\ Byt w' A' c' (streamL K c Nn L) /\ Below w.heap.size w w':=by
 obtain ⟨B,hBq⟩:∃ B,B = nbl n:=⟨_,rfl⟩
 have HBn:Hid (∀ k,k < B -> 64 * k < n):=fun k hk => by rw [hBq] at hk; unfold nbl at hk; omega
 have HBm:Hid (n <= 64 * B):=by show _ <= _; rw [hBq]; unfold nbl; omega
 have b1:B <= 100000:=by rw [hBq]; unfold nbl; omega
 rw [<- hBq] at cb
 have hq:((n:Int) + 63).tdiv 64 = (B:Int):=by
  rw [Int.tdiv_eq_ediv_of_nonneg (by omega),hBq]; unfold nbl; omega
 have hq2:((n:Int) + 63) / 64 = (B:Int):=by rw [hBq]; unfold nbl; omega
 have g1:¬ 4294967295 < c + (B:Int) - 1:=by omega
 obtain ⟨X,hX⟩:∃ X,X = streamL K c Nn L:=⟨_,rfl⟩
 have HX:=lhd hX
 have HXl:Hid (X.length = n):=by show _ = _; rw [hX,streamL_length,hl]
 have Hblk:=lhd (fun d W => rblock_any K Nn d hK hN bK bN W)
 have HsK:Hid ((Tryz.prog.info? 24).map (·.size) = some (u8s K).size):=by show _ = _; rw [u8s_size,hK]; kernel_rfl
 have HsN:Hid ((Tryz.prog.info? 155).map (·.size) = some (u8s Nn).size):=by show _ = _; rw [u8s_size,hN]; kernel_rfl
 have HCb:Hid (c + (B:Nat) <= 4294967296):=cb
 have Hl:=lhd hl
 have HB:=lhd hB
 have c1':c <= 4294967295:=by omega
 have hr0:RS K Nn X 0 w ((w.alloc (.cells (u8s K) 24)).alloc (.cells (u8s Nn) 155)) (.slice none 0 0):=by
  have h2:=two_new w (.cells (u8s K) 24) (.cells (u8s Nn) 155)
  exact ⟨World.ownsRow_nil _ _ _ _,h2.1,h2.2,((Below.refl _ _).alloc (Nat.le_refl _) _).alloc (by simp) _⟩
 have Hr0:=lhd hr0
 clear hBq cb c1 hX hK hN bK bN hl hB hr0
 go_enter Tryz.func111,Tryz.ntmps111
 by_cases hB0:(0:Int) < (B:Int)
 . go_wp2
   go_loopw [11,12] (fun v i wx => ∃ k:Nat,k <= B /\ i = .int .i64 k /\ Hid (RS K Nn X (min n (64 * k)) w wx v)) (fun _ i _ => B - (intOf i).toNat)
   case atStart => exact ⟨0,Nat.zero_le _,rfl,by rw [show min n (64 * 0) = 0 by omega]; exact Hr0.out⟩
   case round =>
    obtain ⟨k,hk,rfl,hinv⟩:=hrel
    by_cases hlt:k < B
    . have hlt':(k:Int) < (B:Int):=by omega
      have hk64:=HBn.out k hlt
      have hck:c + (k:Int) <= 4294967295:=by have:=HCb.out; omega
      rw [show min n (64 * k) = 64 * k by omega] at hinv
      obtain ⟨Bl,hBl⟩:∃ Bl,Bl = blockL K (c + (k:Nat)) Nn:=⟨_,rfl⟩
      have hb:=Hblk.out (c + (k:Nat))
      rw [<- hBl] at hb
      have Hb:=lhd hb
      have HBl:=lhd hBl
      have Hi64:Hid ((Tryz.prog.info? 167).map (·.size) = some (u8s Bl).size):=by show _ = _; rw [u8s_size,hBl,blockL_length]; exact info64
      have Hs64:Hid ((u8s Bl).size = 64):=by show _ = _; rw [u8s_size,hBl,blockL_length]
      clear hb hBl hk
      go_wp2_with (first
       | (with_reducible refine wpList_load_row rfl 24 (.tmp 4) rfl w.heap.size rfl 24 (u8s K) (0,0) _ hinv.out.key Tryz.underlying24 rfl HsK.out ?_)
       | (with_reducible refine wpList_load_row rfl 155 (.tmp 6) rfl (w.heap.size + 1) rfl 155 (u8s Nn) (0,0) _ hinv.out.non Tryz.underlying155 rfl HsN.out ?_)
       | (go_at_call 125; refine (Hb.out _).mono ?_; rintro e w1 ⟨rfl,low1⟩; have Low1:=lhd low1; clear low1)
       | (refine wpList_store_row rfl 167 (.tmp 13) (.tmp 40) rfl w1.heap.size (u8s Bl) rfl rfl 167 _ (Go.heap_alloc_new w1 _) Hi64.out (by rw [Hs64.out]; rfl) (u8s_one _) ?_; rw [World.setRow_alloc_new]))
      have hr2:RS K Nn X (64 * k) w (w1.alloc (.cells (u8s Bl) 167)) u11:=(hinv.out.later Low1.out).later ((Below.refl _ _).alloc (Nat.le_refl _) _)
      have hsep:u11.ownBlock ≠ some w1.heap.size:=fun e => by have:=((hinv.out.later Low1.out).own.lt _ e).2; omega
      have Hsep:=lhd hsep
      have Hr2:=lhd hr2
      have Hrow2:=lhd (Go.heap_alloc_new w1 (.cells (u8s Bl) 167))
      clear hr2 hsep hinv Low1
      go_loopw [11,14] (fun v i wx => ∃ m:Nat,64 * k <= m /\ m <= 64 * k + 64 /\ m <= n /\ i = .int .i64 m /\ Hid (RS K Nn X m w wx v /\ wx.heap[w1.heap.size]? = some (.cells (u8s Bl) 167 (0,0)) /\ v.ownBlock ≠ some w1.heap.size)) (fun _ i _ => 64 * k + 64 - (intOf i).toNat)
      case atStart => exact ⟨64 * k,Nat.le_refl _,by omega,by omega,by go_num,Hr2.out,Hrow2.out,Hsep.out⟩
      case round =>
       obtain ⟨m,hm1,hm2,hm3,rfl,hr⟩:=hrel
       by_cases h1:m < 64 * k + 64
       . have h1':(m:Int) < 64 * (k:Int) + 64:=by omega
         by_cases h2:m < n
         . have h2':(m:Int) < (n:Int):=by omega
           obtain ⟨gb,ob,hA,hgb,hcb⟩:=HB.out.2.2 (by rw [Hl.out]; omega)
           subst hA
           obtain ⟨x,hx⟩:∃ x,x = L.getD m 0:=⟨_,rfl⟩
           obtain ⟨z,hz⟩:∃ z,z = Bl.getD (m - 64 * k) 0:=⟨_,rfl⟩
           have cb:wr.cell? ⟨gb,ob + m,none⟩ = some (.int .u8 x):=by rw [hx]; exact (World.cell?_of_block (hr.out.1.low.block gb hgb)).trans (hcb m (by rw [Hl.out]; exact h2))
           have cz:wr.cell? ⟨w1.heap.size,m - 64 * k,none⟩ = some (.int .u8 z):=by rw [hz]; exact row8_cell hr.out.2.1 _ (by have:=Hs64.out; rw [u8s_size] at this; omega)
           have hy:bits .xor .u8 x z = X.getD m 0:=by
            rw [HX.out,streamL_getD _ _ _ _ _ (by rw [Hl.out]; exact h2)]
            unfold strF
            rw [show m / 64 = k by omega,show m % 64 = m - 64 * k by omega,hx,hz,HBl.out]
           obtain ⟨y,hyy⟩:∃ y,y = bits .xor .u8 x z:=⟨_,rfl⟩
           rw [<- hyy] at hy
           have hsz1:=(Array.getElem?_eq_some_iff.1 hr.out.2.1).1
           have hsz2:=(Array.getElem?_eq_some_iff.1 hr.out.1.non).1
           obtain ⟨v2,w2,hrun,hown2,hgrow2,hat2⟩:=append_one2 38 (own_keep hr.out.1.own (((Below.refl _ wr).alloc (Nat.le_refl _) (.cells #[.int .u8 y] 5)).trans (Below.refl _ _).drew)) (G:=wr.heap.size) (y:=y) (cell_row (t := 5) (Go.heap_alloc_new wr (.cells #[.int .u8 y] 5)) 0) (by omega) (by show _ <= (wr.alloc _).heap.size; rw [World.size_alloc]; omega)
           have hnext:=hr.out.1.more (by rw [HXl.out]; exact h2) hy hown2 hgrow2
           have hrow3:w2.heap[w1.heap.size]? = some (.cells (u8s Bl) 167 (0,0)):=((hgrow2.block _ (by show _ < (wr.alloc _).heap.size; rw [World.size_alloc]; omega) (fun e => hr.out.2.2 e.symm)).trans (Go.heap_alloc_old _ _ hsz1)).trans hr.out.2.1
           have hsep3:v2.ownBlock ≠ some w1.heap.size:=by
            rcases hat2 with e | e
            . rw [e]; exact hr.out.2.2
            . rw [e]; intro e3; injection e3 with e3; have:(wr.alloc (.cells #[.int .u8 y] 5)).heap.size = w1.heap.size:=e3; rw [World.size_alloc] at this; omega
           have Hnext:=lhd hnext
           have Hrow3:=lhd hrow3
           have Hsep3:=lhd hsep3
           have tn:((m:Int) - 64 * (k:Int)).toNat = m - 64 * k:=by omega
           have t0:0 <= (m:Int) - 64 * (k:Int):=by omega
           have t64:(m:Int) - 64 * (k:Int) < 64:=by omega
           have hw1:IntKind.i64.wrap (64 * (k:Int)) = 64 * (k:Int):=IntWalk.i64_in _ (by omega)
           have hw2:IntKind.i64.wrap ((m:Int) - 64 * (k:Int)) = (m:Int) - 64 * (k:Int):=IntWalk.i64_in _ (by omega)
           have hyy':=hyy.symm
           clear hyy hx hz hy hown2 hgrow2 hat2 hnext hrow3 hsep3 hsz1 hsz2 hcb hr
           go_wp2
           go_region_with (fail)
           all_goals
            go_wp2_with fail
            go_roundw
            case rel => exact ⟨m + 1,by omega,by omega,by omega,by go_num,Hnext.out,Hrow3.out,Hsep3.out⟩
            case measure => simp [intOf]; omega
         . have h2':¬ (m:Int) < (n:Int):=by omega
           have e2:m = n:=by omega
           rw [e2] at hr
           clear e2
           go_wp2
           go_roundw
           case rel => exact ⟨k + 1,by omega,by go_num,by rw [show min n (64 * (k + 1)) = n by omega]; exact hr.out.1⟩
           case measure => simp [intOf]; omega
       . have h1':¬ (m:Int) < 64 * (k:Int) + 64:=by omega
         have e2:m = 64 * (k + 1):=by omega
         rw [e2] at hr
         clear e2
         go_wp2
         go_roundw
         case rel => exact ⟨k + 1,by omega,by go_num,by rw [show min n (64 * (k + 1)) = 64 * (k + 1) by omega]; exact hr.out.1⟩
         case measure => simp [intOf]; omega
    . have hge:¬ (k:Int) < (B:Int):=by omega
      have hmin:min n (64 * k) = n:=by have:=HBm.out; omega
      rw [hmin] at hinv
      have hpos:0 < n:=by have:=HBn.out 0 (by omega); omega
      have hown:=hinv.out.own
      rw [List.take_of_length_le (by rw [HXl.out]; exact Nat.le_refl _),<- HXl.out] at hown
      obtain ⟨g,cg,rfl,hbyt,_,_⟩:=own_slice2 hown HXl.out hpos
      rw [HX.out] at hbyt
      have Hbyt:=lhd hbyt
      have Hlow:=lhd hinv.out.low
      clear hmin hinv hown hbyt hpos
      go_wp2_with fail
      refine bodyPost_ret (results_tmp2 rfl _ _ _) rfl ?_
      exact ⟨some ⟨g,0,none⟩,cg,rfl,Hbyt.out,Hlow.out⟩
 . have hn0:n = 0:=by have:=HBm.out; omega
   have hB00:B = 0:=by omega
   subst hn0 hB00
   have Hlow:=lhd Hr0.out.low
   have hL0:L = []:=List.eq_nil_of_length_eq_zero Hl.out
   subst hL0
   clear HB Hr0 HBn HBm
   go_wp2_with fail
   go_loopw [11,12] (fun v i wx => v = .slice none 0 0 /\ i = .int .i64 0 /\ Hid (Below w.heap.size w wx)) (fun _ _ _ => 0)
   case atStart => exact ⟨rfl,rfl,Hlow.out⟩
   case round =>
    obtain ⟨rfl,rfl,hlow⟩:=hrel
    go_wp2_with fail
    refine bodyPost_ret (results_tmp2 rfl _ _ _) rfl ?_
    exact ⟨none,0,rfl,⟨Nat.le_refl _,fun _ => rfl,fun h => absurd h (Nat.lt_irrefl 0)⟩,hlow.out⟩
end Go.Proofs.YteeghgjkjicjoaaGreatDoor.Cha
namespace Go.Proofs.YteeghgjkjicjoaaGreatDoor.Seal
open Go.RowKit
def OneS (sl:Value) (v:Value) (w:World):Prop:=∃ g,v = .slice (some ⟨g,0,none⟩) 1 1 /\ w.cell? ⟨g,0,none⟩ = some sl
theorem OneS.later {sl v:Value} {w w':World} (h:OneS sl v w) (hb:Below w.heap.size w w'):OneS sl v w':=by
 obtain ⟨g,e,hc⟩:=h
 exact ⟨g,e,(hb.cell (p:=⟨g,0,none⟩) (World.block_lt_of_cell? _ _ hc)).trans hc⟩
theorem rkey_at {k C KK:List Int} {A:Option Addr} {n c g:Nat} {w:World} (hKK:KK = keyL k encName C) (hk:k.length = 32) (hb:InB k) (hC:C.length = n) (hCb:InB C) (hn:n <= 1000) (hB:Byt w A c C) (hg:w.cell? ⟨g,0,none⟩ = some (.slice A n c)) :
 Calls Tryz.prog 112 #[.agg (u8s k),.string { data:=#[101,110,99,114,121,112,116] },.slice (some ⟨g,0,none⟩) 1 1] w fun e w' => e = .returned (.agg (u8s KK)) /\ Below w.heap.size w w':=by
 subst hKK
 exact rkey_call k C encName _ rfl A n c g w hk hb hC hCb hn (by decide) hB hg
theorem rstream_at {K N L:List Int} {A:Option Addr} {m c:Nat} {w:World} (hK:K.length = 32) (bK:InB K) (hN:N.length = 12) (bN:InB N) (hl:L.length = m) (hs:m <= 20000) (hB:Byt w A c L) :
 Calls Tryz.prog 111 #[.agg (u8s K),.int .u32 1,.agg (u8s N),.slice A m c] w fun e w' => ∃ v,e = .returned v /\ TuB (Cha.streamL K 1 N L) v w' /\ Below w.heap.size w w':=by
 have hc:(1:Int) + (Cha.nbl m:Nat) <= 4294967296:=by unfold Cha.nbl; omega
 refine (Cha.rstream_ok K N L 1 A m c hK hN bK bN hl (by omega) (by decide) (by decide) hc w hB).mono ?_
 rintro e w' ⟨A',c',rfl,hb,low⟩
 exact ⟨_,rfl,⟨A',c',by rw [Cha.streamL_length,hl],hb⟩,low⟩
theorem rnum4 (n:Nat) (hn:n < 18446744073709551616) (w:World):Calls Tryz.prog 95 #[.int .u64 (n:Int),.int .i64 4] w fun e w' => ∃ v,e = .returned v /\ OwnB w.heap.size (numL n 4) v w' /\ Below w.heap.size w w':=rnumber_any n 4 (by decide) hn w
theorem rnum8 (n:Nat) (hn:n < 18446744073709551616) (w:World):Calls Tryz.prog 95 #[.int .u64 (n:Int),.int .i64 8] w fun e w' => ∃ v,e = .returned v /\ OwnB w.heap.size (numL n 8) v w' /\ Below w.heap.size w w':=rnumber_any n 8 (by decide) hn w
theorem info12b:(Tryz.prog.info? 155).map (·.size) = some 12:=by kernel_rfl
theorem copy_step {N:List Int} {i:Nat} (hN:N.length = 12) (h:i < 12):(N.take i ++ zeros (12 - i)).set i (N.getD i 0) = N.take (i + 1) ++ zeros (12 - (i + 1)):=by
 have hl:(N.take i).length = i:=by rw [List.length_take]; omega
 obtain ⟨m,hm⟩:∃ m,12 - i = m + 1:=⟨12 - i - 1,by omega⟩
 rw [hm,show 12 - (i + 1) = m by omega,zeros,List.replicate_succ,List.set_append_right _ _ (by omega),hl,Nat.sub_self,List.set_cons_zero,<- take_more (by omega),List.append_assoc]
 rfl
theorem rstreamP_any (k C L:List Int) (pos ep:Nat) (A A2:Option Addr) (n c m c2:Nat) (w:World) (hk:k.length = 32) (hb:InB k) (hC:C.length = n) (hCb:InB C) (hn:n <= 1000) (hL:L.length = m) (hm:m <= 20000) (hp:pos < 18446744073709551616 /\ ep < 4294967296) (hB1:Byt w A c C) (hB2:Byt w A2 c2 L) :
 Calls Tryz.prog 82 #[.agg (u8s k),.slice A n c,.int .u64 (pos:Nat),.int .u32 (ep:Nat),.slice A2 m c2] w fun e w' => ∃ v,e = .returned v /\ SlB (bodyL k C pos ep L) v w' /\ Below w.heap.size w w':=by
 obtain ⟨KK,hKK⟩:∃ KK,KK = keyL k encName C:=⟨_,rfl⟩
 obtain ⟨NN,hNN⟩:∃ NN,NN = nonceL pos ep:=⟨_,rfl⟩
 have e:bodyL k C pos ep L = Cha.streamL KK 1 NN L:=by rw [hKK,hNN]; rfl
 rw [e]
 have HKe:=lhd hKK
 have HNe:Hid (numL ep 4 ++ numL pos 8 = NN):=hNN.symm
 have HKN:Hid (KK.length = 32 /\ InB KK /\ NN.length = 12 /\ InB NN):=⟨by rw [hKK]; exact keyL_length _ _ _,by rw [hKK]; exact keyL_in _ _ _,by rw [hNN]; exact nonceL_length _ _,by rw [hNN]; exact nonceL_in _ _⟩
 have Hk:Hid (k.length = 32 /\ InB k):=⟨hk,hb⟩
 have HCC:Hid (C.length = n /\ InB C /\ n <= 1000):=⟨hC,hCb,hn⟩
 have HL2:Hid (L.length = m /\ m <= 20000):=⟨hL,hm⟩
 have HpE:=lhd hp
 have HB1:=lhd hB1
 have HB2:=lhd hB2
 have HsK0:Hid ((Tryz.prog.info? 24).map (·.size) = some (u8s k).size):=by show _ = _; rw [u8s_size,hk]; exact infoH
 have HsN:Hid ((Tryz.prog.info? 155).map (·.size) = some (u8s NN).size):=by show _ = _; rw [u8s_size,HKN.out.2.2.1]; exact info12b
 have hlow0:=below_two w (.cells (u8s k) 24) (.cells (u8s (zeros 12)) 155)
 have hK0:=(two_new w (.cells (u8s k) 24) (.cells (u8s (zeros 12)) 155)).1
 have hN0:=(two_new w (.cells (u8s k) 24) (.cells (u8s (zeros 12)) 155)).2
 have ez:u8s (zeros 12) = #[.int .u8 0,.int .u8 0,.int .u8 0,.int .u8 0,.int .u8 0,.int .u8 0,.int .u8 0,.int .u8 0,.int .u8 0,.int .u8 0,.int .u8 0,.int .u8 0]:=rfl
 rw [ez] at hlow0 hK0 hN0
 have HL0:=lhd hlow0
 have HK0:=lhd hK0
 have HN0:=lhd hN0
 clear hKK hNN e hk hb hC hCb hL hB1 hB2 hp hn hm hlow0 hK0 hN0 ez
 go_enter Tryz.func82,Tryz.ntmps82
 go_upto_region 2 with (fail)
 generalize World.alloc _ _ = w1 at HL0 HK0 HN0 ⊢
 have heI:(ep:Int) < 4294967296:=by have:=HpE.out.2; omega
 have hwe:IntKind.u64.wrap (ep:Int) = ep:=by simp [IntKind.wrap,IntKind.bits,IntKind.signed]; omega
 go_upto_region 3 with (first
  | (go_at_call 95; with_reducible refine (rnum4 ep (by have:=HpE.out.2; omega) _).mono ?_; rintro e w2 ⟨v2,rfl,ho2,hb2⟩; have Ho2:=lhd ho2; have Hb2:=lhd hb2; clear ho2 hb2))
 go_at_call 95
 with_reducible refine (rnum8 pos HpE.out.1 _).mono ?_
 rintro e w3 ⟨v3,rfl,ho3,hb3⟩
 obtain ⟨A3,c3,rfl,b3⟩:=ho3.sl
 rw [numL_length]
 have B3:=lhd b3
 have Ho3:=lhd (Ho2.out.later hb3)
 have Hb3:=lhd (Hb2.out.trans (hb3.mono Hb2.out.size))
 clear ho3 hb3 b3 heI hwe
 go_upto_region 4 with (at_builtin; refine wpList_append_any rfl (.tmp 18) (.tmp 20) rfl w1.heap.size _ (numL ep 4).length (numL ep 4) rfl Ho3.out A3 8 c3 (numL pos 8) rfl (numL_length pos 8) B3.out (by rw [numL_length]; omega) Hb3.out.size ?_; intro v4 w4 own4 low4; have h4:OwnB w1.heap.size NN v4 w4:=HNe.out ▸ own_app rfl (numL_length pos 8) own4; unfold OwnB at h4; rw [HKN.out.2.2.1] at h4; obtain ⟨g4,c4,rfl,hc4,hg4,hrow4⟩:=own_rowK (k:=.u8) (n:=12) h4 HKN.out.2.2.1 (by decide); have HG4:=lhd hg4; have HR4:=lhd hrow4; have Hb4:=lhd (low4 _ _ Hb3.out (Nat.le_refl _)); clear own4 low4 h4 hrow4 hg4)
 have hK4:=(Hb4.out.block _ (Array.getElem?_eq_some_iff.1 HK0.out).1).trans HK0.out
 have hN4:=(Hb4.out.block _ (Array.getElem?_eq_some_iff.1 HN0.out).1).trans HN0.out
 have hs1:w.heap.size + 1 < w1.heap.size:=(Array.getElem?_eq_some_iff.1 HN0.out).1
 have HL4:=lhd (HL0.out.trans (Hb4.out.mono HL0.out.size))
 have HK4:=lhd hK4
 have HN4:=lhd hN4
 clear hK4 hN4 Hb4 HK0 HN0 HL0 Ho2 Hb2 Ho3 Hb3 B3
 go_loopw [13] (fun x wr => ∃ i:Nat,i <= 12 /\ x = .int .i64 i /\ Hid (wr.heap[w.heap.size + 1]? = some (.cells (u8s (NN.take i ++ zeros (12 - i))) 155 (0,0))) /\ Hid (Chg [w.heap.size + 1] w4 wr)) (fun x _ => 12 - (intOf x).toNat)
 case atStart => exact ⟨0,Nat.zero_le _,rfl,HN4.out,Chg.refl _ _⟩
 case round =>
  obtain ⟨i,hi,rfl,hr,hch⟩:=hrel
  by_cases hlt:i < 12
  . have hltI:(i:Int) < 12:=by omega
    have hlen:(NN.take i ++ zeros (12 - i)).length = 12:=by rw [List.length_append,List.length_take,HKN.out.2.2.1,zeros,List.length_replicate]; omega
    have hc:=(World.cell?_of_block (a:=⟨g4,i,none⟩) (hch.out.block g4 HR4.out.1 (by have:=HG4.out; simp; omega))).trans (HR4.out.2 i (by rw [HKN.out.2.2.1]; exact hlt))
    obtain ⟨y,hy⟩:∃ y,y = NN.getD i 0:=⟨_,rfl⟩
    have hst:=copy_step HKN.out.2.2.1 hlt
    rw [<- hy] at hc hst
    have hc2:=row8_cell hr.out i (by rw [hlen]; exact hlt)
    have hf2:=free_row hr.out i
    have hr2:=row8_set hr.out i y
    rw [hst] at hr2
    have HR2:=lhd hr2
    have Hc2:=lhd (hch.out.setCell (p:=⟨w.heap.size + 1,i,none⟩) (by simp) (.int .u8 y))
    clear hst hr2 hy hlen
    go_wp2
    exact ⟨⟨i + 1,by omega,rfl,HR2.out,Hc2.out⟩,by simp [intOf]; omega⟩
  . obtain rfl:i = 12:=by omega
    have hr12:=hr.out
    rw [List.take_of_length_le (by rw [HKN.out.2.2.1]; exact Nat.le_refl _),Nat.sub_self,zeros,List.replicate_zero,List.append_nil] at hr12
    have HN7:=lhd hr12
    have HK7:=lhd ((hch.out.block _ (Array.getElem?_eq_some_iff.1 HK4.out).1 (by simp)).trans HK4.out)
    have HLw:=lhd (hch.out.below HL4.out HL4.out.size (fun q hq => by simp at hq; omega))
    have HB17:=lhd (HB1.out.below HLw.out (Nat.le_refl _))
    have HB27:=lhd (HB2.out.below HLw.out (Nat.le_refl _))
    have hltI:¬ ((12:Nat):Int) < 12:=by omega
    clear hr12 hr hch HK4 HN4 HL4 HB1 HB2 hlt hi HR4 HG4
    go_upto_region 7 with (fail)
    have apx:apartB [33,34,35,36,37,38,39,32,40,41,14,15] = true:=by decide
    refine wp_region_any (by kernel_rfl) ?_
    change wpAny _ _ _ _ _ _ _ (World.drew _)
    refine wpAny_inv (fun ll aa wx => Hid (ll.size = 12 /\ Below wr.heap.size wr wx) /\ ∃ (z:Nat -> Value),Hid (aa = ⟨#[.agg (u8s k),.slice A n c,.int .u64 (pos:Nat),.int .u32 (ep:Nat),.slice A2 m c2,.pointer (some ⟨w.heap.size,0,none⟩),undef,undef,undef,undef,.slice none 0 0,.pointer (some ⟨w.heap.size + 1,0,none⟩),.slice (some ⟨g4,0,none⟩) 12 c4,.int .i64 12,z 14,z 15,.int .u32 (ep:Nat),.int .u64 (ep:Nat),v2,.int .u64 (pos:Nat),.slice A3 8 c3,.slice (some ⟨g4,0,none⟩) 12 c4,.int .i64 12,.bool false,u24,u25,u26,u27,u28,u29,u30,u31,z 32,z 33,z 34,z 35,z 36,z 37,z 38,z 39,z 40,z 41,undef],[]⟩) /\ Holding [33,34,35,36,37,38,39,32,40,41,14,15] [some (.agg (u8s k)),some (.slice A n c),none,some (.agg (u8s KK)),some (.agg (u8s NN)),some (.slice A2 m c2),none,none,none,some (.int .i64 0),none,some (.int .i64 0)] ll z /\ Whn ll 2 (OneS (.slice A n c)) (z 35) wx /\ Whn ll 6 (TuB (Cha.streamL KK 1 NN L)) (z 39) wx /\ Whn ll 7 (TuB (Cha.streamL KK 1 NN L)) (z 32) wx /\ Whn ll 8 (SlB (Cha.streamL KK 1 NN L)) (z 40) wx /\ Whn ll 10 (SlB (Cha.streamL KK 1 NN L)) (z 14) wx) ?_ (by kernel_rfl) ?_ ?_ _ _ _ _ (unlisted_none _) ?_
    . rintro ll aa wx ⟨hI,_⟩
      exact hI.out.1
    . rintro ll aa wx ⟨hI,z,ha,hz,hp2,hp6,hp7,hp8,hp10⟩ hall
      have hx:=lhd hI.out.2
      have p2:=hp2.get (hall 2 (by decide))
      have p6:=hp6.get (hall 6 (by decide))
      have p7:=hp7.get (hall 7 (by decide))
      have p8:=hp8.get (hall 8 (by decide))
      have p10:=hp10.get (hall 10 (by decide))
      clear hall hz hI hp2 hp6 hp7 hp8 hp10
      obtain rfl:=ha.out
      clear ha
      clear apx
      obtain ⟨A9,c9,eS,b9⟩:=p10
      have HX:=lhd hx.out
      have B9:=lhd b9
      clear hx b9 p2 p6 p7 p8
      go_wp2
      go_ret
      exact ⟨_,rfl,⟨A9,c9,rfl,B9.out⟩,HLw.out.trans (HX.out.mono HLw.out.size)⟩
    . rintro ll aa wx i ⟨hI,z,ha,hz,hp2,hp6,hp7,hp8,hp10⟩ hi hu hw
      obtain rfl:=ha.out
      have hsz:=lhd hI.out.1
      have hx:=lhd hI.out.2
      clear ha hI
      have hin:i < 12:=hi
      obtain rfl | rfl | rfl | rfl | rfl | rfl | rfl | rfl | rfl | rfl | rfl | rfl:i = 0 \/ i = 1 \/ i = 2 \/ i = 3 \/ i = 4 \/ i = 5 \/ i = 6 \/ i = 7 \/ i = 8 \/ i = 9 \/ i = 10 \/ i = 11:=by omega
      . have cl:=(hx.out.block _ (Array.getElem?_eq_some_iff.1 HK7.out).1).trans HK7.out
        refine wpOp_plain rfl rfl (wp_load_row 24 (.tmp 5) rfl (w.heap.size) rfl 24 (u8s k) (0,0) _ cl Tryz.underlying24 rfl HsK0.out ?_)
        go_simp
        exact ⟨⟨by simp [hsz.out],hx.out⟩,upd z 33 (.agg (u8s k)),(by unfold Hid; simp [upd]),hz.nx apx hsz.out 0,hp2.kp,hp6.kp,hp7.kp,hp8.kp,hp10.kp⟩
      . refine wpOp_plain rfl rfl ?_
        go_simp
        exact ⟨⟨by simp [hsz.out],hx.out⟩,upd z 34 (.slice A n c),(by unfold Hid; simp [upd]),hz.nx apx hsz.out 1,hp2.kp,hp6.kp,hp7.kp,hp8.kp,hp10.kp⟩
      . have e1:z 34 = .slice A n c:=hz 1 _ (hw 1 (by kernel_rfl)) rfl
        refine wpOp_plain rfl rfl ?_
        go_simp
        have lown:=Below.alloc (Below.refl wx.heap.size wx) (Nat.le_refl _) (.cells #[.slice A n c] 38)
        exact ⟨⟨by simp [hsz.out],hx.out.trans (lown.mono hx.out.size)⟩,upd z 35 (.slice (some ⟨wx.heap.size,0,none⟩) 1 1),(by unfold Hid; simp [upd,e1]),hz.nn apx hsz.out 2,Whn.done (⟨wx.heap.size,rfl,cell_row (Go.heap_alloc_new wx _) 0⟩),hp6.kp.map (fun h => h.later lown),hp7.kp.map (fun h => h.later lown),hp8.kp.map (fun h => h.later lown),hp10.kp.map (fun h => h.later lown)⟩
      . have e0:z 33 = .agg (u8s k):=hz 0 _ (hw 0 (by kernel_rfl)) rfl
        have p2:=hp2.get (hw 2 (by kernel_rfl))
        obtain ⟨g9,e9,h9⟩:=p2
        refine wpOp_plain rfl rfl ?_
        simp only [e9]
        go_simp
        go_at_call 112
        refine (rkey_at HKe.out Hk.out.1 Hk.out.2 HCC.out.1 HCC.out.2.1 HCC.out.2.2 (HB17.out.below hx.out (Nat.le_refl _)) h9).mono ?_
        rintro e w8 ⟨rfl,low⟩
        exact ⟨⟨by simp [hsz.out],hx.out.trans (low.mono hx.out.size)⟩,upd z 36 (.agg (u8s KK)),(by unfold Hid; simp [upd,e0,e9]),hz.nx apx hsz.out 3,hp2.kp.map (fun h => h.later low),hp6.kp.map (fun h => h.later low),hp7.kp.map (fun h => h.later low),hp8.kp.map (fun h => h.later low),hp10.kp.map (fun h => h.later low)⟩
      . have cl:=(hx.out.block _ (Array.getElem?_eq_some_iff.1 HN7.out).1).trans HN7.out
        refine wpOp_plain rfl rfl (wp_load_row 155 (.tmp 11) rfl (w.heap.size + 1) rfl 155 (u8s NN) (0,0) _ cl Tryz.underlying155 rfl HsN.out ?_)
        go_simp
        exact ⟨⟨by simp [hsz.out],hx.out⟩,upd z 37 (.agg (u8s NN)),(by unfold Hid; simp [upd]),hz.nx apx hsz.out 4,hp2.kp,hp6.kp,hp7.kp,hp8.kp,hp10.kp⟩
      . refine wpOp_plain rfl rfl ?_
        go_simp
        exact ⟨⟨by simp [hsz.out],hx.out⟩,upd z 38 (.slice A2 m c2),(by unfold Hid; simp [upd]),hz.nx apx hsz.out 5,hp2.kp,hp6.kp,hp7.kp,hp8.kp,hp10.kp⟩
      . have e3:z 36 = .agg (u8s KK):=hz 3 _ (hw 3 (by kernel_rfl)) rfl
        have e4:z 37 = .agg (u8s NN):=hz 4 _ (hw 4 (by kernel_rfl)) rfl
        have e5:z 38 = .slice A2 m c2:=hz 5 _ (hw 5 (by kernel_rfl)) rfl
        refine wpOp_plain rfl rfl ?_
        go_simp
        go_at_call 111
        refine (rstream_at HKN.out.1 HKN.out.2.1 HKN.out.2.2.1 HKN.out.2.2.2 HL2.out.1 HL2.out.2 (HB27.out.below hx.out (Nat.le_refl _))).mono ?_
        rintro e w8 ⟨vr,rfl,hsb,low⟩
        exact ⟨⟨by simp [hsz.out],hx.out.trans (low.mono hx.out.size)⟩,upd z 39 (vr),(by unfold Hid; simp [upd,e3,e4,e5]),hz.nn apx hsz.out 6,hp2.kp.map (fun h => h.later low),Whn.done (hsb),hp7.kp.map (fun h => h.later low),hp8.kp.map (fun h => h.later low),hp10.kp.map (fun h => h.later low)⟩
      . have p6:=hp6.get (hw 6 (by kernel_rfl))
        obtain ⟨A9,c9,e9,b9⟩:=p6
        refine wpOp_plain rfl rfl ?_
        go_simp
        exact ⟨⟨by simp [hsz.out],hx.out⟩,upd z 32 (.tuple #[.slice A9 (Cha.streamL KK 1 NN L).length c9,.int .i64 0]),(by unfold Hid; simp [upd,e9]),hz.nn apx hsz.out 7,hp2.kp,hp6.kp,Whn.done (⟨A9,c9,rfl,b9⟩),hp8.kp,hp10.kp⟩
      . have p7:=hp7.get (hw 7 (by kernel_rfl))
        obtain ⟨A9,c9,e9,b9⟩:=p7
        refine wpOp_plain rfl rfl ?_
        go_simp
        exact ⟨⟨by simp [hsz.out],hx.out⟩,upd z 40 (.slice A9 (Cha.streamL KK 1 NN L).length c9),(by unfold Hid; simp [upd,e9]),hz.nn apx hsz.out 8,hp2.kp,hp6.kp,hp7.kp,Whn.done (⟨A9,c9,rfl,b9⟩),hp10.kp⟩
      . have p7:=hp7.get (hw 7 (by kernel_rfl))
        obtain ⟨A9,c9,e9,b9⟩:=p7
        refine wpOp_plain rfl rfl ?_
        go_simp
        exact ⟨⟨by simp [hsz.out],hx.out⟩,upd z 41 (.int .i64 0),(by unfold Hid; simp [upd,e9]),hz.nx apx hsz.out 9,hp2.kp,hp6.kp,hp7.kp,hp8.kp,hp10.kp⟩
      . have p8:=hp8.get (hw 8 (by kernel_rfl))
        obtain ⟨A9,c9,e9,b9⟩:=p8
        refine wpOp_plain rfl rfl ?_
        go_simp
        exact ⟨⟨by simp [hsz.out],hx.out⟩,upd z 14 (.slice A9 (Cha.streamL KK 1 NN L).length c9),(by unfold Hid; simp [upd,e9]),hz.nn apx hsz.out 10,hp2.kp,hp6.kp,hp7.kp,hp8.kp,Whn.done (⟨A9,c9,rfl,b9⟩)⟩
      . have e9:z 41 = .int .i64 0:=hz 9 _ (hw 9 (by kernel_rfl)) rfl
        refine wpOp_plain rfl rfl ?_
        go_simp
        exact ⟨⟨by simp [hsz.out],hx.out⟩,upd z 15 (.int .i64 0),(by unfold Hid; simp [upd,e9]),hz.nx apx hsz.out 11,hp2.kp,hp6.kp,hp7.kp,hp8.kp,hp10.kp⟩
    . exact ⟨⟨rfl,(Below.refl _ _).drew⟩,fun xx => (#[.agg (u8s k),.slice A n c,.int .u64 (pos:Nat),.int .u32 (ep:Nat),.slice A2 m c2,.pointer (some ⟨w.heap.size,0,none⟩),undef,undef,undef,undef,.slice none 0 0,.pointer (some ⟨w.heap.size + 1,0,none⟩),.slice (some ⟨g4,0,none⟩) 12 c4,.int .i64 12,undef,undef,.int .u32 (ep:Nat),.int .u64 (ep:Nat),v2,.int .u64 (pos:Nat),.slice A3 8 c3,.slice (some ⟨g4,0,none⟩) 12 c4,.int .i64 12,.bool false,u24,u25,u26,u27,u28,u29,u30,u31,undef,undef,undef,undef,undef,undef,undef,undef,undef,undef,undef]:Array Value).getD xx undef,(by rfl),Holding.start,Whn.none (by decide),Whn.none (by decide),Whn.none (by decide),Whn.none (by decide),Whn.none (by decide)⟩
theorem rbucket_any (n:Int) (w:World):Calls Tryz.prog 67 #[.int .i64 n] w fun e w' => e = .returned (.int .i64 (bktI n)) /\ w = w':=by
 by_cases h0:n < 0
 . have e:Hid (0 = bktI n):=by unfold Hid bktI; rw [if_pos (Or.inl h0)]
   go_enter Tryz.func67,Tryz.ntmps67
   go_wp2
   go_ret
   exact ⟨ret_i64 e.out,rfl⟩
 by_cases h1:131068 < n
 . have e:Hid (0 = bktI n):=by unfold Hid bktI; rw [if_pos (Or.inr h1)]
   go_enter Tryz.func67,Tryz.ntmps67
   go_wp2
   go_ret
   exact ⟨ret_i64 e.out,rfl⟩
 obtain ⟨m,rfl⟩:∃ m:Nat,n = m:=⟨n.toNat,by omega⟩
 have hm:m <= 131068:=by omega
 have E:Hid (((bkt m:Nat):Int) = bktI m):=by unfold Hid bktI; rw [if_neg (by omega),Int.toNat_natCast]
 have h1':¬ (131068 < (m:Int)):=by omega
 go_enter Tryz.func67,Tryz.ntmps67
 go_upto_region 4 with (fail)
 go_loopw [3] (fun v wr => ∃ b:Nat,v = .int .i64 b /\ Hid (BkI m b) /\ wr = w) (fun v _ => 131072 - (intOf v).toNat)
 case atStart => exact ⟨64,rfl,BkI.start m,rfl⟩
 case round =>
  obtain ⟨b,rfl,hb,rfl⟩:=hrel
  have hle:=hb.out.le
  have hps:=hb.out.pos
  have hmI:(m:Int) <= 131068:=by omega
  have hbI:(b:Int) <= 131072:=by omega
  by_cases hlt:b < m + 4
  . have hltI:(b:Int) < (m:Int) + 4:=by omega
    have Hn:=lhd (hb.out.next hlt hm)
    have hn2:=Hn.out.le
    have hn2I:2 * (b:Int) <= 131072:=by omega
    go_wp2
    refine ⟨⟨2 * b,by go_num,Hn.out,trivial⟩,by simp [intOf]; omega⟩
  . have hltI:¬ (b:Int) < (m:Int) + 4:=by omega
    have He:=lhd (hb.out.end hlt)
    go_wp2
    go_ret
    exact ⟨ret_i64 (by rw [He.out,E.out]),rfl⟩
def ropenL (k C:List Int) (pos:Nat) (S:List Int):Option (List Int × Nat) :=
 if isBk ((S.length:Int) - 36) then
  if be4 (bodyL k C pos (be4 S).toNat ((S.drop 4).take (S.length - 36))) <= (S.length:Int) - 40 /\
   sealL k C pos (be4 S).toNat (((bodyL k C pos (be4 S).toNat ((S.drop 4).take (S.length - 36))).drop 4).take (be4 (bodyL k C pos (be4 S).toNat ((S.drop 4).take (S.length - 36)))).toNat) = S then
   some (((bodyL k C pos (be4 S).toNat ((S.drop 4).take (S.length - 36))).drop 4).take (be4 (bodyL k C pos (be4 S).toNat ((S.drop 4).take (S.length - 36)))).toNat,(be4 S).toNat)
  else none
 else none
theorem take_tagged' {S:List Int} {q E:Nat} (hi:InB S) (hS:S.length = 36 + q) (hE:be4 S = E):S.take (4 + q) = numL E 4 ++ (S.drop 4).take q:=by
 have h4:=numL_be4 (L:=S.take 4) (hi.take 4) (by rw [List.length_take]; omega)
 rw [be4_take,hE,Int.toNat_natCast] at h4
 rw [h4,List.take_add]
theorem bka_small (n:Nat):∀ k b,bkA n k b <= b \/ bkA n k b <= 2 * (n + 3):=by
 intro k
 induction k with
 | zero => intro b; exact .inl (Nat.le_refl _)
 | succ k ih =>
   intro b
   show (if b < n + 4 then bkA n k (2 * b) else b) <= b \/ (if b < n + 4 then bkA n k (2 * b) else b) <= 2 * (n + 3)
   by_cases h:b < n + 4
   . rw [if_pos h]
     rcases ih (2 * b) with h2 | h2
     . right; omega
     . exact .inr h2
   . rw [if_neg h]; exact .inl (Nat.le_refl _)
theorem bkt_small {n:Nat} (h:n <= 9000):bkt n <= 18006:=by
 rcases bka_small n 11 64 with h1 | h1
 . have e:bkt n = bkA n 11 64:=rfl
   omega
 . have e:bkt n = bkA n 11 64:=rfl
   omega
def beP (S:List Int):Nat -> Int
 | 0 => 0
 | i + 1 => 256 * beP S i + S.getD i 0
theorem beP4 (S:List Int):beP S 4 = be4 S:=by
 simp only [beP,be4]; omega
theorem beP_in {S:List Int} (h:InB S):∀ i,0 <= beP S i /\ beP S i < 256 ^ i:=by
 intro i
 induction i with
 | zero => exact ⟨Int.le_refl _,by show (0:Int) < 256 ^ 0; decide⟩
 | succ i ih =>
   have:=h i
   simp only [beP,Int.pow_succ]
   omega
theorem bodyL_twice (k C:List Int) (pos ep:Nat) {L:List Int} (h:InB L):bodyL k C pos ep (bodyL k C pos ep L) = L:=Cha.stream_twice _ _ _ _ h
theorem ropenL_eq (k C:List Int) (pos:Nat) (S:List Int) (hS:InB S):openL k C pos S = ropenL k C pos S:=by
 by_cases hbk:isBk ((S.length:Int) - 36)
 rotate_left
 . rw [openL_no1 hbk]; unfold ropenL; rw [if_neg hbk]
 obtain ⟨q,hq⟩:∃ q:Nat,S.length = 36 + q:=⟨S.length - 36,by have:=isBk_pos hbk; omega⟩
 have hb4:=be4_in hS
 obtain ⟨E,hE⟩:∃ E:Nat,be4 S = E:=⟨(be4 S).toNat,by omega⟩
 obtain ⟨B,hB⟩:∃ B,B = (S.drop 4).take q:=⟨_,rfl⟩
 obtain ⟨P,hP⟩:∃ P,P = bodyL k C pos E B:=⟨_,rfl⟩
 have hBl:B.length = q:=by rw [hB,List.length_take,List.length_drop]; omega
 have hBi:InB B:=by rw [hB]; exact (hS.drop 4).take q
 have hPl:P.length = q:=by rw [hP,bodyL_length,hBl]
 have hPi:InB P:=by rw [hP]; exact bodyL_in hBi
 have hPb:=be4_in hPi
 obtain ⟨n,hn⟩:∃ n:Nat,be4 P = n:=⟨(be4 P).toNat,by omega⟩
 have eR:ropenL k C pos S = if (n:Int) <= (S.length:Int) - 40 /\ sealL k C pos E ((P.drop 4).take n) = S then some ((P.drop 4).take n,E) else none:=by
  unfold ropenL
  rw [if_pos hbk,hE,Int.toNat_natCast,show S.length - 36 = q by omega,<- hB,<- hP,hn,Int.toNat_natCast]
 rw [eR]
 have hq64:=isBk_pos hbk
 have hS4:S = numL E 4 ++ B ++ S.drop (4 + q):=by
  have h:=take_tagged' hS hq hE
  rw [<- hB] at h
  rw [<- h,List.take_append_drop]
 by_cases hc:(n:Int) <= (S.length:Int) - 40 /\ sealL k C pos E ((P.drop 4).take n) = S
 . rw [if_pos hc]
   have hTl:((P.drop 4).take n).length = n:=by rw [List.length_take,List.length_drop,hPl]; omega
   have h:=open_seal k C ((P.drop 4).take n) pos E ((hPi.drop 4).take n) (by rw [hTl]; omega) (by omega)
   rwa [hc.2] at h
 . rw [if_neg hc]
   by_cases ht:tagL k C pos E B = S.drop (4 + q)
   . rw [openL_yes hbk hq hE (by rw [<- hB]; exact ht),<- hB,<- hP]
     cases hu:unpad P with
     | none => rfl
     | some L =>
       exfalso
       apply hc
       obtain ⟨h1,h2,h3⟩:=pad_unpad hPi hu
       rw [hn] at h3
       have hLn:L.length = n:=by omega
       have hge:=bkt_ge h2
       have hpl:=padL_length h2
       rw [<- h1,hPl] at hpl
       have hL:(P.drop 4).take n = L:=by
        rw [h1,pad_drop4,<- hLn,List.take_append_of_le_length (Nat.le_refl _),List.take_length]
       refine ⟨by omega,?_⟩
       rw [hL]
       have hb:bodyL k C pos E (padL L) = B:=by rw [<- h1,hP]; exact bodyL_twice k C pos E hBi
       unfold sealL
       rw [hb,ht]
       exact hS4.symm
   . rw [openL_no2 hq hE (by rw [<- hB]; exact ht)]
theorem ropen_parts {k C S B P:List Int} {pos q E n:Nat} (hS:InB S) (hq:S.length = 36 + q) (hbk:isBk (q:Int)) (hE:be4 S = E) (hB:B = (S.drop 4).take q) (hP:P = bodyL k C pos E B) (hn:be4 P = n) :
 ((q:Int) - 4 < n -> openL k C pos S = none) /\ ((n:Int) <= (q:Int) - 4 -> sealL k C pos E ((P.drop 4).take n) ≠ S -> openL k C pos S = none) /\ ((n:Int) <= (q:Int) - 4 -> sealL k C pos E ((P.drop 4).take n) = S -> openL k C pos S = some ((P.drop 4).take n,E)):=by
 have e1:(S.length:Int) - 36 = q:=by omega
 have eR:openL k C pos S = if (n:Int) <= (S.length:Int) - 40 /\ sealL k C pos E ((P.drop 4).take n) = S then some ((P.drop 4).take n,E) else none:=by
  rw [ropenL_eq k C pos S hS]
  unfold ropenL
  rw [e1,if_pos hbk,hE,Int.toNat_natCast,show S.length - 36 = q by omega,<- hB,<- hP,hn,Int.toNat_natCast]
 refine ⟨fun h => ?_,fun h1 h2 => ?_,fun h1 h2 => ?_⟩
 . rw [eR,if_neg (fun h3 => by have:=h3.1; omega)]
 . rw [eR,if_neg (fun h3 => h2 h3.2)]
 . rw [eR,if_pos ⟨by omega,h2⟩]
def fitB (d:Int) (j:Nat):Bool:=decide (∃ i,i < j /\ d = ((64 * 2 ^ i:Nat):Int))
theorem fit0 (d:Int):false = fitB d 0:=by
 unfold fitB
 rw [eq_comm,decide_eq_false_iff_not]
 rintro ⟨i,hi,_⟩; omega
theorem fit_yes {d:Int} {j:Nat} (h:true = fitB d j):true = fitB d (j + 1):=by
 unfold fitB at h ⊢
 obtain ⟨i,hi,e⟩:=of_decide_eq_true h.symm
 exact (decide_eq_true ⟨i,by omega,e⟩).symm
theorem fit_no {d:Int} {j:Nat} (h:false = fitB d j):decide (d = ((64 * 2 ^ j:Nat):Int)) = fitB d (j + 1):=by
 unfold fitB at h ⊢
 have h:=of_decide_eq_false h.symm
 by_cases e:d = ((64 * 2 ^ j:Nat):Int)
 . rw [decide_eq_true e,decide_eq_true ⟨j,by omega,e⟩]
 . rw [decide_eq_false e,decide_eq_false]
   rintro ⟨i,hi,e2⟩
   by_cases hij:i = j
   . subst hij; exact e e2
   . exact h ⟨i,by omega,e2⟩
theorem fit_bk (d:Int):fitB d 12 = decide (isBk d):=by
 unfold fitB
 congr 1
 apply propext
 constructor
 . rintro ⟨i,hi,rfl⟩
   obtain rfl | rfl | rfl | rfl | rfl | rfl | rfl | rfl | rfl | rfl | rfl | rfl:i = 0 \/ i = 1 \/ i = 2 \/ i = 3 \/ i = 4 \/ i = 5 \/ i = 6 \/ i = 7 \/ i = 8 \/ i = 9 \/ i = 10 \/ i = 11:=by omega
   all_goals decide
 . rintro (rfl | rfl | rfl | rfl | rfl | rfl | rfl | rfl | rfl | rfl | rfl | rfl)
   all_goals first | exact ⟨0,by decide,rfl⟩ | exact ⟨1,by decide,rfl⟩ | exact ⟨2,by decide,rfl⟩ | exact ⟨3,by decide,rfl⟩ | exact ⟨4,by decide,rfl⟩ | exact ⟨5,by decide,rfl⟩ | exact ⟨6,by decide,rfl⟩ | exact ⟨7,by decide,rfl⟩ | exact ⟨8,by decide,rfl⟩ | exact ⟨9,by decide,rfl⟩ | exact ⟨10,by decide,rfl⟩ | exact ⟨11,by decide,rfl⟩
end Go.Proofs.YteeghgjkjicjoaaGreatDoor.Seal
