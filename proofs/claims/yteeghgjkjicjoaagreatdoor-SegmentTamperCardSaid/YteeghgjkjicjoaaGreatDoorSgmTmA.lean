import Derived.Test.YteeghgjkjicjoaaGreatDoorB12
import Derived.Test.YteeghgjkjicjoaaGreatDoorB11
import Derived.Test.YteeghgjkjicjoaaGreatDoorC25
import Derived.Test.YteeghgjkjicjoaaGreatDoorB14
set_option maxRecDepth 100000
set_option maxHeartbeats 16000000
namespace Go.Proofs.YteeghgjkjicjoaaGreatDoor.Dsk
open Go.RowKit
theorem put_ok {w:World} {K:DK} {D:DS} (h:Dsk w K D) (k m:Nat) (hk:k + m <= D.data.length) (A:Option Addr) (c:Nat) (b:List Int) (hl:b.length = m) (hi:InB b) (hB:Byt w A c b) :
 Calls Tryz.prog 16 #[K.ptr,.int .i64 k,.slice A m c] w fun e w' => e = .returned (.int .i64 0) /\ Dsk w' K { D with data:=splice D.data k b } /\ Chg K.bl w w':=by
 have hlen:=h.ok.len
 have Hm:=lhd (made_any h)
 have Hw:=lhd (within_any k m D.data.length w (by omega) (by omega) (by omega))
 rw [within_of hk] at Hw
 obtain ⟨_,c1,_⟩:=row0 h.row
 have H:=lhd h
 have HB:=lhd hB
 have HL:=lhd hl
 have HI:=lhd hi
 have HK:=lhd hk
 obtain ⟨n,hn⟩:∃ n,n = D.data.length:=⟨_,rfl⟩
 rw [<- hn] at c1 Hw hlen hk
 obtain ⟨C,hC⟩:∃ C,C = n + K.sp.length:=⟨_,rfl⟩
 rw [<- hC] at c1
 have hnC:n <= C:=by omega
 have HN:=lhd hn
 unfold DK.ptr at *
 clear h hB hl hi hn hC
 by_cases e:C = k
 . subst e
   have hm0:m = 0:=by omega
   subst hm0
   go_enter Tryz.func16,Tryz.ntmps16
   go_wp2_with (first
    | (go_at_call 33; refine Hm.out.mono ?_; rintro e w' ⟨rfl,rfl⟩)
    | (go_at_call 36; refine Hw.out.mono ?_; rintro e w' ⟨rfl,rfl⟩)
    | (refine wpList_copy_chg rfl (.tmp 27) (.tmp 28) rfl _ _ _ A 0 c b (by rfl) (by rfl) HL.out HB.out (Nat.zero_le _) K.h 0 _ H.out.body (fun h => absurd h (Nat.lt_irrefl 0)) (Nat.zero_le _) ?_; intro w2 hh2 hc2; have Hh2:=lhd hh2; have Hc2:=lhd hc2; clear hh2 hc2))
   go_ret
   obtain rfl:b = []:=List.eq_nil_of_length_eq_zero HL.out
   have h2:=H.out.setData [] 0 HI.out (Nat.zero_le _) Hh2.out Hc2.out
   refine ⟨rfl,?_,chg_bl Hc2.out⟩
   simpa [splice] using h2
 . go_enter Tryz.func16,Tryz.ntmps16
   go_wp2_with (first
    | (go_at_call 33; refine Hm.out.mono ?_; rintro e w' ⟨rfl,rfl⟩)
    | (go_at_call 36; refine Hw.out.mono ?_; rintro e w' ⟨rfl,rfl⟩)
    | (refine wpList_copy_chg rfl (.tmp 27) (.tmp 28) rfl _ (n - k) _ A m c b (by rfl) (by rfl) HL.out HB.out (by omega) K.h k _ H.out.body (fun _ => rfl) (by rw [List.length_append,vals_length]; exact Nat.le_trans HK.out (Nat.le_add_right _ _)) ?_; intro w2 hh2 hc2; have H2:=lhd (H.out.setData b k HI.out (by rw [HL.out]; exact HK.out) hh2 hc2); have G2:=lhd (chg_bl hc2); clear hh2 hc2))
   go_ret
   exact ⟨rfl,H2.out,G2.out⟩
end Go.Proofs.YteeghgjkjicjoaaGreatDoor.Dsk

namespace Go.Proofs.YteeghgjkjicjoaaGreatDoor.Slt
open Go.ChangeShapes Go.WideShapes Go.ChangeAt Go.RowKit Dsk
end Go.Proofs.YteeghgjkjicjoaaGreatDoor.Slt
namespace Go.Proofs.YteeghgjkjicjoaaGreatDoor.Sgm
open Go.ChangeShapes Go.WideShapes Go.ChangeAt Go.RowKit Dsk Slt
theorem wf32 {z:Int} (h:(Lit.int .u32 z).wf = true):0 <= z /\ z <= 4294967295:=by simpa [Lit.wf,IntKind.bits,IntKind.signed,IntKind.min,IntKind.max] using h
theorem cellsAct:Tryz.prog.cellsOf 49 = 20:=by kernel_rfl
theorem cellsU32:Tryz.prog.cellsOf 47 = 1:=by kernel_rfl
theorem cellsM:Tryz.prog.cellsOf 39 = 16:=by kernel_rfl
theorem arrMask:WideMaps.ArrKey Tryz.prog 39 5 16:=⟨by kernel_rfl,by kernel_rfl,by kernel_rfl,by kernel_rfl⟩
structure Ac.Ok (x:Ac):Prop where
 what:0 <= x.what /\ x.what <= 255
 whole:0 <= x.whole /\ x.whole <= 255
 at_:0 <= x.at_ /\ x.at_ <= 4294967295
 inb:InB x.L
 len:x.L.length <= maxLen
 mlen:x.mask.length = 16
 minb:InB x.mask
theorem bytes_cell {H:Type} {enc:TypeId × Value -> H} {W:World} {fuel:Nat} {cs:List Value} {y:DataW H × List MemPlace} (hf:DataW.trod enc Tryz.prog W 0 (fun _ => true) true fuel 38 cs = some y) :
 ∃ (A:Option Addr) (c:Nat) (L:List Int),cs = [.slice A L.length c] /\ InB L /\ Byt W A c L /\ L.length <= maxLen:=by
 rcases open_ints Tryz.underlying38 Tryz.underlying5 cells5 hf with ⟨hcs,_⟩ | ⟨a,len,cap,zs,hcs,_,hl,hm,hz,_,hcell,hwz⟩
 . exact ⟨none,0,[],hcs,fun j => by simp,⟨Nat.le_refl _,fun _ => rfl,fun h => absurd h (Nat.lt_irrefl 0)⟩,Nat.zero_le _⟩
 . simp only [if_true] at hz
   have hlen:(zs.take len).length = len:=by simp; omega
   refine ⟨some a,cap,zs.take len,by rw [hlen]; exact hcs,?_,⟨by rw [hlen]; exact hl,(fun h => by cases h),(fun h => ?_)⟩,by rw [hlen]; omega⟩
   . intro j
     by_cases hj:j < len
     . have hj':j < zs.length:=by omega
       have e:(zs.take len).getD j 0 = zs[j]:=by simp [List.getD_eq_getElem?_getD,hj,hj']
       have:=hwz zs[j] (List.getElem_mem hj')
       have h2:0 <= zs[j] /\ zs[j] <= 255:=by simpa [Lit.wf,IntKind.bits,IntKind.signed,IntKind.min,IntKind.max] using this
       rw [e]
       omega
     . rw [List.getD_eq_getElem?_getD,List.getElem?_eq_none (by rw [hlen]; exact Nat.le_of_not_lt hj)]; simp
   . rw [hlen] at h
     obtain ⟨b,off,spot⟩:=a
     have hspot:spot = none:=by simpa [Addr.add] using World.cell?_spot (hcell 0 (by omega))
     subst hspot
     refine ⟨b,off,rfl,?_,fun j hj => ?_⟩
     . have:=World.block_lt_of_cell? W _ (hcell 0 (by omega))
       simpa [Addr.add] using this
     . rw [hlen] at hj
       rw [<- Addr.add_mid,hcell j (by omega)]
       simp [List.getD_eq_getElem?_getD,hj]
theorem act_cells {H:Type} {enc:TypeId × Value -> H} {W:World} {fuel:Nat} {cs:List Value} {y:DataW H × List MemPlace} (hl:cs.length = 20)
 (hf:DataW.trod enc Tryz.prog W 0 (fun _ => true) true fuel 49 cs = some y):∃ x:Ac,cs = x.c.toList /\ x.Ok /\ Byt W x.A x.cap x.L:=by
 obtain ⟨xs,n,_,_,_,hlen,hff⟩:=DataW.trod_struct Tryz.underlying49 hf
 obtain ⟨y0,y1,y2,y3,y4,rfl⟩:∃ y0 y1 y2 y3 y4,xs = [y0,y1,y2,y3,y4]:=by
  match xs,hlen with
  | [a,b,c,d,e],_ => exact ⟨a,b,c,d,e,rfl⟩
 have q0:DataW.trod enc Tryz.prog W 0 (fun _ => true) true n 5 (List.take (Tryz.prog.cellsOf 5) (List.drop 0 cs)) = some y0:=hff 0 _ rfl
 have q1:DataW.trod enc Tryz.prog W 0 (fun _ => true) true n 38 (List.take (Tryz.prog.cellsOf 38) (List.drop 1 cs)) = some y1:=hff 1 _ rfl
 have q2:DataW.trod enc Tryz.prog W 0 (fun _ => true) true n 5 (List.take (Tryz.prog.cellsOf 5) (List.drop 2 cs)) = some y2:=hff 2 _ rfl
 have q3:DataW.trod enc Tryz.prog W 0 (fun _ => true) true n 39 (List.take (Tryz.prog.cellsOf 39) (List.drop 3 cs)) = some y3:=hff 3 _ rfl
 have q4:DataW.trod enc Tryz.prog W 0 (fun _ => true) true n 47 (List.take (Tryz.prog.cellsOf 47) (List.drop 19 cs)) = some y4:=hff 4 _ rfl
 rw [cellsU8] at q0 q2
 rw [cellsSl] at q1
 rw [cellsM] at q3
 rw [cellsU32] at q4
 obtain ⟨a,ha,_,haw⟩:=DataW.trod_int Tryz.underlying5 q0
 obtain ⟨A,cap,L,hL,hin,hbyt,hmax⟩:=bytes_cell q1
 obtain ⟨b,hb,_,hbw⟩:=DataW.trod_int Tryz.underlying5 q2
 obtain ⟨m,hm,hm1,hm2⟩:=trod_arr arrMask Tryz.underlying5 (xs:=((cs.drop 3).take 16).toArray) (by simp; omega) (d:=y3.1) (p:=y3.2) ⟨n,q3⟩
 obtain ⟨e,he,_,hew⟩:=DataW.trod_int Tryz.underlying47 q4
 have hm':(cs.drop 3).take 16 = m.map (Value.int .u8):=by simpa using congrArg Array.toList hm
 have e0:cs = cs.take 3 ++ ((cs.drop 3).take 16 ++ cs.drop 19):=by
  rw [show cs.drop 19 = (cs.drop 3).drop 16 by rw [List.drop_drop],List.take_append_drop,List.take_append_drop]
 have e3:cs.take 3 = [.int .u8 a,.slice A L.length cap,.int .u8 b]:=by
  match cs,hl with
  | u0 :: u1 :: u2 :: r,hl =>
    simp only [List.drop_zero,List.take_succ_cons,List.take_zero,List.drop_succ_cons,List.cons.injEq,and_true] at ha hb hL
    rw [ha,hb,hL]
    rfl
 have e4:cs.drop 19 = [.int .u32 e]:=by
  rw [<- he,List.take_of_length_le (by rw [List.length_drop]; omega)]
 refine ⟨⟨a,A,cap,L,b,m,e⟩,?_,⟨wf8 haw,wf8 hbw,wf32 hew,hin,hmax,hm1,inB_wf hm1 hm2⟩,hbyt⟩
 rw [e0,e3,e4,hm']
 rfl
theorem Acts.below {w w':World} {B c:Nat} {A:Option Addr} {xs:List Ac} (h:Acts w A c xs) (hb:Below B w w') (hB:w.heap.size <= B):Acts w' A c xs :=
 ⟨h.1,h.2.1,fun hl => by
  obtain ⟨b,off,hA,hg,hc⟩:=h.2.2 hl
  exact ⟨b,off,hA,Nat.lt_of_lt_of_le hg hb.size,fun i x hx j v hv => (hb.cell (p:=⟨b,off + i * 20 + j,none⟩) (Nat.lt_of_lt_of_le hg hB)).trans (hc i x hx j v hv)⟩⟩
theorem acts_list {H:Type} {enc:TypeId × Value -> H} {W:World} {n:Nat} {a:Addr}:∀ (len:Nat) (elems:List (DataW H × List MemPlace)),elems.length = len ->
 (∀ i,i < len -> (W.cells? 0 (a.add (i * 20)) 20).bind (DataW.trod enc Tryz.prog W 0 (fun _ => true) true n 49) = elems[i]?) ->
 ∃ xs:List Ac,xs.length = len /\ (∀ x ∈ xs,x.Ok /\ Byt W x.A x.cap x.L) /\ ∀ i x,xs[i]? = some x -> W.cells? 0 (a.add (i * 20)) 20 = some x.c.toList:=by
 intro len
 induction len with
 | zero => exact fun _ _ _ => ⟨[],rfl,(fun _ h => by cases h),(fun i x h => by simp at h)⟩
 | succ m ih =>
   intro elems hl h
   obtain ⟨xs,hxl,hok,hx⟩:=ih (elems.take m) (by simp; omega) (fun i hi => by rw [h i (by omega),List.getElem?_take,if_pos hi])
   have hm:=h m (by omega)
   rw [List.getElem?_eq_getElem (by omega:m < elems.length)] at hm
   obtain ⟨cs,hcs,htr⟩:=Option.bind_eq_some_iff.1 hm
   obtain ⟨x,rfl,ok⟩:=act_cells (World.cells?_some hcs).2.1 htr
   refine ⟨xs ++ [x],by simp [hxl],?_,?_⟩
   . intro y hy
     rcases List.mem_append.1 hy with hy | hy
     . exact hok y hy
     . obtain rfl:=List.mem_singleton.1 hy
       exact ok
   . intro i y hy
     by_cases hi:i < m
     . rw [List.getElem?_append_left (by omega)] at hy
       exact hx i y hy
     . have hlen:=(List.getElem?_eq_some_iff.1 hy).1
       simp only [List.length_append,List.length_singleton] at hlen
       obtain rfl:i = m:=by omega
       rw [List.getElem?_append_right (by omega),hxl,Nat.sub_self] at hy
       obtain rfl:=Option.some.inj hy
       exact hcs
theorem open_acts {H:Type} {enc:TypeId × Value -> H} {W:World} {base:Nat} {v:Value} {d:DataW H} {p:List MemPlace} (hv:Value.okWide Tryz.prog W .any base 22 v)
 (h:DataW.Trod enc Tryz.prog W 0 (fun _ => true) true 22 v d p):∃ (A:Option Addr) (c:Nat) (xs:List Ac),v = .slice A xs.length c /\ (∀ x ∈ xs,x.Ok /\ Byt W x.A x.cap x.L) /\ Acts W A c xs /\ xs.length <= maxLen:=by
 obtain ⟨a0,len,cap,rfl⟩:=okWide_slice Tryz.underlying22 hv
 obtain ⟨fuel,hf⟩:=h
 rcases DataW.trod_slice Tryz.underlying22 hf with ⟨hcs,_⟩ | ⟨a,len',cap',elems,rest,n,_,hcs,_,_,hl,hm,hz,hel,_,_⟩
 . simp [Value.cells] at hcs
   obtain ⟨rfl,rfl,rfl⟩:=hcs
   exact ⟨none,0,[],rfl,(fun _ h => by cases h),⟨Nat.le_refl _,fun _ => rfl,fun h => absurd h (Nat.lt_irrefl 0)⟩,Nat.zero_le _⟩
 . simp [Value.cells] at hcs
   obtain ⟨rfl,rfl,rfl⟩:=hcs
   rw [cellsAct] at hel
   obtain ⟨xs,hxl,hok,hx⟩:=acts_list len elems hz hel
   refine ⟨some a,cap,xs,by rw [hxl],hok,⟨by rw [hxl]; exact hl,(fun h => by cases h),(fun h => ?_)⟩,by rw [hxl]; omega⟩
   obtain ⟨x0,h0⟩:∃ x0,xs[0]? = some x0:=⟨_,List.getElem?_eq_getElem h⟩
   have k0:=(World.cells?_some (hx 0 x0 h0)).2.2 0 (by omega)
   rw [show x0.c.toList[0]? = some (.int .u8 x0.what) from rfl] at k0
   obtain ⟨b,off,spot⟩:=a
   have hspot:spot = none:=by simpa [Addr.add] using World.cell?_spot k0
   subst hspot
   refine ⟨b,off,rfl,?_,fun i x hi j v hv => ?_⟩
   . have:=World.block_lt_of_cell? W _ k0
     simpa [Addr.add] using this
   . obtain ⟨_,hlen,hc⟩:=World.cells?_some (hx i x hi)
     have hj:j < 20:=by rw [<- hlen]; exact (List.getElem?_eq_some_iff.1 hv).1
     have:=hc j hj
     rw [hv] at this
     rw [Addr.add_mid,Addr.add_mid] at this
     exact this
end Go.Proofs.YteeghgjkjicjoaaGreatDoor.Sgm

namespace Go.Proofs.YteeghgjkjicjoaaGreatDoor.Sgm
open Go.RowKit Dsk Slt Epo
theorem begins_any {w:World} (A A2:Option Addr) (n m c c2:Nat) (L M:List (List Int)) (hn:L.length = n) (hm:M.length = m) (h1:TxAt w A L) (h2:TxAt w A2 M) (hmc:m <= c2) (hn1:n <= 1000000) (_hm1:m <= 1000000) :
 Calls Tryz.prog 18 #[.slice A n c,.slice A2 m c2] w fun e w' => e = .returned (.bool (decide (n <= m /\ L = M.take n))) /\ Below w.heap.size w w':=by
 by_cases h:n <= m
 . have h2':TxAt w A2 (M.take n):=⟨fun i hi => by
    have hi':i < n:=by rw [List.length_take] at hi; omega
    obtain ⟨g,off,B,cc,e,a1,a2,a3,a4⟩:=h2.at_ i (by omega)
    have hg:(M.take n).getD i [] = M.getD i []:=by simp [List.getD_eq_getElem?_getD,hi']
    rw [hg]
    exact ⟨g,off,B,cc,e,a1,a2,a3,a4⟩⟩
   have Hs:=lhd (lsame_any A A2 n n c c2 L (M.take n) hn (by rw [List.length_take]; omega) h1 h2' (by omega) (by omega))
   have e1:decide (n <= m /\ L = M.take n) = decide (L = M.take n):=by
    by_cases e:L = M.take n
    . rw [decide_eq_true ⟨h,e⟩,decide_eq_true e]
    . rw [decide_eq_false (fun hh => e hh.2),decide_eq_false e]
   obtain ⟨b,hb⟩:∃ b,b = decide (L = M.take n):=⟨_,rfl⟩
   rw [e1]
   rw [<- hb] at Hs ⊢
   have hI:(n:Int) <= m:=by omega
   have hIc:(n:Int) <= c2:=by omega
   have hn0:(0:Int) <= n:=by omega
   clear hn hm h1 h2 h2' hb e1 h
   go_enter Tryz.func18,Tryz.ntmps18
   go_wp2_with (go_at_call 22; refine Hs.out.mono ?_; rintro e w2 ⟨rfl,hb2⟩; have Hb2:=lhd hb2; clear hb2)
   go_ret
   exact ⟨rfl,Hb2.out⟩
 . have e1:decide (n <= m /\ L = M.take n) = false:=decide_eq_false (fun hh => h hh.1)
   rw [e1]
   have hI:¬ (n:Int) <= m:=by omega
   clear hn hm h1 h2 e1 h
   go_enter Tryz.func18,Tryz.ntmps18
   go_wp2
   go_ret
   exact ⟨rfl,Below.refl _ _⟩
end Go.Proofs.YteeghgjkjicjoaaGreatDoor.Sgm

