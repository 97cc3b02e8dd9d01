/- Texts of ours, merged. -/
import Derived.Test.YteeghgjkjicjoaaGreatDoorB5
import Derived.OrdersIn
import Derived.OwnWalkIn
import Derived.RangeFuncNested
import Derived.RangeFuncBound
import Derived.RangeFuncCalls
import Derived.RangeFuncLeaves
import Derived.RangeFuncBox
import Derived.TacticsInMore
import Derived.LoopNIn
import Derived.LoopIn
namespace Go.Proofs.YteeghgjkjicjoaaGreatDoor.Cha
open Go.RowKit
theorem index_arr32 {T:Nat} (n:Nat) (hu:Tryz.prog.underlying T = some (.array n 47)) (l:List Int) (hl:l.length = n) (k:Nat) (hk:k < n) (w:World):(Instr.index T (.agg (u32s l)) (.int .i64 (k:Int))).run Tryz.prog w = .ok (.int .u32 (l.getD k 0)) w:=by
 have ha:∀ w',(isAgg 47).run Tryz.prog w' = .ok false w':=fun _ => by kernel_rfl
 have hs:∀ w',(sizeOf 47).run Tryz.prog w' = .ok 1 w':=fun _ => by kernel_rfl
 simp [Instr.index,asIntOf,run_underlying hu,part,ha,hs,u32s_get l k (by omega)]
 exact fun h => absurd hk (by omega)
def zeros64:List Int:=List.replicate 64 0
structure BInv (S m:List Int) (B g:Nat) (w wr:World):Prop where
 start:wr.heap[g]? = some (.cells (u32s S) 187 (0,0))
 mixed:wr.heap[g + 1]? = some (.cells (u32s m) 187 (0,0))
 res:wr.heap[B + 1 + 1]? = some (.cells (u8s zeros64) 167 (0,0))
 hg:B + 1 + 1 < g
 low:Below B w wr
theorem BInv.next {S m m':List Int} {B g:Nat} {w wr w':World} (h:BInv S m B g w wr) (hb:Below wr.heap.size wr w'):BInv S m' B g w (w'.setRow (g + 1) (u32s m')):=by
 have h1:=(Array.getElem?_eq_some_iff.1 h.start).1
 have h2:=(Array.getElem?_eq_some_iff.1 h.mixed).1
 have h3:=(Array.getElem?_eq_some_iff.1 h.res).1
 have hg:=h.hg
 refine ⟨?_,?_,?_,h.hg,below_setRow (h.low.trans (hb.mono (by omega))) (by omega) _⟩
 · rw [setRow_other _ _ _ _ (by omega)]; exact (hb.block _ h1).trans h.start
 · exact setRow_heap _ _ _ _ _ _ ((hb.block _ h2).trans h.mixed)
 · rw [setRow_other _ _ _ _ (by omega)]; exact (hb.block _ h3).trans h.res
structure OInv (S M:List Int) (B g G k:Nat) (w wr:World):Prop where
 start:wr.heap[g]? = some (.cells (u32s S) 187 (0,0))
 res:wr.heap[B + 1 + 1]? = some (.cells (u8s zeros64) 167 (0,0))
 row:∃ C:Array Value,HoldsB C 64 (4 * k) (outF M S) ∧ wr.heap[G]? = some (.cells C 167 (0,0))
 hg:B + 1 + 1 < g ∧ g < G
 low:Below B w wr
theorem OInv.set {S M:List Int} {B g G k:Nat} {w wr:World} (h:OInv S M B g G k w wr) (hk:k < 16) (x:Int) (hx:x = (M.getD k 0 + S.getD k 0) % 4294967296) :
 OInv S M B g G (k + 1) w ((((wr.setCell ⟨G,4 * k,none⟩ (.int .u8 (x % 256))).setCell ⟨G,4 * k + 1,none⟩ (.int .u8 (x / 256 % 256))).setCell ⟨G,4 * k + 2,none⟩ (.int .u8 (x / 65536 % 256))).setCell ⟨G,4 * k + 3,none⟩ (.int .u8 (x / 16777216))):=by
 obtain ⟨C,hC,hr⟩:=h.row
 have hf:=outF_at M S k x hx
 have h3:x / 16777216 = outF M S (4 * k + 3):=by rw [hf.2.2.2]; omega
 have hg:=h.hg
 refine ⟨?_,?_,⟨_,(((hC.set (by omega) _ hf.1.symm).set (by omega) _ hf.2.1.symm).set (by omega) _ hf.2.2.1.symm).set (by omega) _ h3,?_⟩,h.hg,(((h.low.setCell (by simp; omega) _).setCell (by simp; omega) _).setCell (by simp; omega) _).setCell (by simp; omega) _⟩
 · rw [heap_setCell_other _ _ _ _ (by simp; omega),heap_setCell_other _ _ _ _ (by simp; omega),heap_setCell_other _ _ _ _ (by simp; omega),heap_setCell_other _ _ _ _ (by simp; omega)]; exact h.start
 · rw [heap_setCell_other _ _ _ _ (by simp; omega),heap_setCell_other _ _ _ _ (by simp; omega),heap_setCell_other _ _ _ _ (by simp; omega),heap_setCell_other _ _ _ _ (by simp; omega)]; exact h.res
 · exact heap_setCell_same _ _ _ _ _ _ (heap_setCell_same _ _ _ _ _ _ (heap_setCell_same _ _ _ _ _ _ (heap_setCell_same _ _ _ _ _ _ hr)))
theorem info64:(Tryz.prog.info? 167).map (·.size) = some 64:=by kernel_rfl
set_option maxRecDepth 100000 in
set_option maxHeartbeats 1000000 in
theorem block_any (K Nn:List Int) (c:Int) (hK:K.length = 32) (hN:Nn.length = 12) (bK:InB K) (bN:InB Nn) (w:World) (hL:Laid w) :
 Calls Tryz.prog 130 #[.agg (u8s K),.int .u32 c,.agg (u8s Nn)] w fun e' w' => e' = .returned (.agg (u8s (blockL K c Nn))) ∧ Below w.heap.size w w':=by
 have hlt:=hL.lt
 have h3:=Lib.hid (three_new w)
 have b3:=Lib.hid (below3 w)
 have Hst:=Lib.hid (stateOf_any K Nn c hK hN bK bN)
 have HsK:Hid ((Tryz.prog.info? 24).map (·.size) = some (u8s K).size):=by show _ = _; rw [u8s_size,hK]; kernel_rfl
 have HsN:Hid ((Tryz.prog.info? 160).map (·.size) = some (u8s Nn).size):=by show _ = _; rw [u8s_size,hN]; kernel_rfl
 have HL:=Lib.hid hL
 obtain ⟨S,hS⟩:∃ S,S = stL K c Nn:=⟨_,rfl⟩
 rw [← hS] at Hst
 have HS:=Lib.hid hS
 have Hl:Hid (S.length = 16):=by show _ = _; rw [hS,stL_length]
 have Hi:Hid ((Tryz.prog.info? 187).map (·.size) = some (u32s S).size):=by show _ = _; rw [u32s_size,Hl.out]; exact infoS
 clear hS hK hN bK bN hL
 go_enter Tryz.func130,Tryz.ntmps130
 go_upto_region 3 with (first
  | (with_reducible refine wpList_load_row rfl 24 (.tmp 3) rfl w.heap.size rfl 24 (u8s K) (0,0) _ (h3.out _ _ _).1 Tryz.underlying24 rfl HsK.out ?_)
  | (with_reducible refine wpList_load_row rfl 160 (.tmp 5) rfl (w.heap.size + 1) rfl 160 (u8s Nn) (0,0) _ (h3.out _ _ _).2.1 Tryz.underlying160 rfl HsN.out ?_)
  | (go_at_call 143; refine (Hst.out _).mono ?_; rintro e w1 ⟨rfl,low1⟩; have Low1:=Lib.hid low1; clear low1)
  | (with_reducible refine wpList_store_row rfl 187 (.tmp 7) (.tmp 15) rfl w1.heap.size (u32s S) rfl rfl 187 _ (Go.heap_alloc_new w1 _) Hi.out (by simp [u32s_size,Hl.out]) (u32s_one _) ?_; rw [World.setRow_alloc_new])
  | (with_reducible refine wpList_load_row rfl 187 (.tmp 7) rfl w1.heap.size rfl 187 (u32s S) (0,0) _ (Go.heap_alloc_new w1 _) Tryz.underlying187 rfl Hi.out ?_)
  | (with_reducible refine wpList_store_row rfl 187 (.tmp 8) (.tmp 16) rfl (w1.heap.size + 1) (u32s S) rfl rfl 187 _ (two_new w1 _ _).2 Hi.out (by simp [u32s_size,Hl.out]) (u32s_one _) ?_))
 have low0:=b3.out (.cells (u8s K) 24) (.cells (u8s Nn) 160) (.cells (u8s zeros64) 167)
 have hz:=(h3.out (.cells (u8s K) 24) (.cells (u8s Nn) 160) (.cells (u8s zeros64) 167)).2.2
 have hi0:BInv S S w.heap.size w1.heap.size w (((w1.alloc (.cells (u32s S) 187)).alloc (.cells (u32s (List.replicate 16 0)) 187)).setRow (w1.heap.size + 1) (u32s S)):=by
  have l1:=Low1.out
  have hs:=l1.size
  have hzlt:=(Array.getElem?_eq_some_iff.1 hz).1
  have l2:=low0.trans (l1.mono low0.size)
  have hz1:w1.heap[w.heap.size + 1 + 1]? = _:=(l1.block _ hzlt).trans hz
  have hzl:=(Array.getElem?_eq_some_iff.1 hz1).1
  have k2:Below w1.heap.size w1 ((w1.alloc (.cells (u32s S) 187)).alloc (.cells (u32s (List.replicate 16 0)) 187)):=((Below.refl _ _).alloc (Nat.le_refl _) _).alloc (by simp) _
  have h2:=two_new w1 (.cells (u32s S) 187) (.cells (u32s (List.replicate 16 0)) 187)
  refine ⟨?_,setRow_heap _ _ _ _ _ _ h2.2,?_,hzl,below_setRow (l2.trans (k2.mono l2.size)) (by have:=l2.size; omega) _⟩
  · rw [setRow_other _ _ _ _ (by omega)]; exact h2.1
  · rw [setRow_other _ _ _ _ (by omega)]; exact (k2.block _ hzl).trans hz1
 have Hi0:=Lib.hid hi0
 clear low0 hz hi0 h3 b3 Low1 Hst
 go_wp2
 go_loopw [17] (fun i wr => ∃ k:Nat,k ≤ 10 ∧ i = .int .i64 k ∧ BInv S (drs S k) w.heap.size w1.heap.size w wr) (fun i _ => 10 - (intOf i).toNat)
 case atStart => exact ⟨0,Nat.zero_le _,rfl,Hi0.out⟩
 case round =>
  clear Hi0
  obtain ⟨k,hk,rfl,hinv⟩:=hrel
  have hlen:Hid ((drs S k).length = 16):=by show _ = _; rw [drs_length,Hl.out]
  have Hik:Hid ((Tryz.prog.info? 187).map (·.size) = some (u32s (drs S k)).size):=by show _ = _; rw [u32s_size,hlen.out]; exact infoS
  have Hik2:Hid ((Tryz.prog.info? 187).map (·.size) = some (u32s (drs S (k + 1))).size):=by show _ = _; rw [u32s_size,drs_length,Hl.out]; exact infoS
  have Hinv:=Lib.hid hinv
  clear hinv
  by_cases hlt10:k < 10
  · go_wp2_with (first
     | (with_reducible refine wpList_load_row rfl 187 (.tmp 8) rfl (w1.heap.size + 1) rfl 187 (u32s (drs S k)) (0,0) _ Hinv.out.mixed Tryz.underlying187 rfl Hik.out ?_)
     | (go_at_call 144; refine (doubleRound_any (drs S k) hlen.out _ (HL.out.below Hinv.out.low hlt)).mono ?_; rintro e w2 ⟨rfl,low2⟩; have Low2:=Lib.hid low2; clear low2)
     | (with_reducible refine wpList_store_row rfl 187 (.tmp 8) (.tmp 20) rfl (w1.heap.size + 1) (u32s (drs S (k + 1))) rfl rfl 187 _ ((Low2.out.block _ (Array.getElem?_eq_some_iff.1 Hinv.out.mixed).1).trans Hinv.out.mixed) Hik2.out (by rw [u32s_size,u32s_size,drs_length,drs_length]) (u32s_one _) ?_))
    go_roundw
    case rel => exact ⟨k + 1,by omega,by go_num,Hinv.out.next Low2.out⟩
    case measure => simp [intOf]; omega
  · have h10:k = 10:=by omega
    rw [h10] at Hinv
    have H10:=Lib.hid h10
    clear h10 hk
    obtain ⟨M,hM⟩:∃ M,M = drs S 10:=⟨_,rfl⟩
    have HM:=Lib.hid hM
    rw [← hM] at Hinv
    have HMl:Hid (M.length = 16):=by show _ = _; rw [hM,drs_length,Hl.out]
    have HiM:Hid ((Tryz.prog.info? 187).map (·.size) = some (u32s M).size):=by show _ = _; rw [u32s_size,HMl.out]; exact infoS
    have hb9:Below wr.heap.size wr (wr.alloc (.cells (u8s zeros64) 167)):=(Below.refl _ _).alloc (Nat.le_refl _) _
    have hm9:(wr.alloc (.cells (u8s zeros64) 167)).heap[w1.heap.size + 1]? = some (.cells (u32s M) 187 (0,0)):=(hb9.block _ (Array.getElem?_eq_some_iff.1 Hinv.out.mixed).1).trans Hinv.out.mixed
    have ho9:OInv S M w.heap.size w1.heap.size wr.heap.size 0 w (wr.alloc (.cells (u8s zeros64) 167)):=by
     have s1:=(Array.getElem?_eq_some_iff.1 Hinv.out.start).1
     have s2:=(Array.getElem?_eq_some_iff.1 Hinv.out.res).1
     exact ⟨(hb9.block _ s1).trans Hinv.out.start,(hb9.block _ s2).trans Hinv.out.res,⟨_,HoldsB.nil _ _ _ rfl,Go.heap_alloc_new _ _⟩,⟨Hinv.out.hg,s1⟩,Hinv.out.low.trans (hb9.mono (by omega))⟩
    have Hm9:=Lib.hid hm9
    have Ho9:=Lib.hid ho9
    clear hM hb9 hm9 ho9 Hinv hlen Hik Hik2
    go_wp2_with (refine wpList_load_row rfl 187 (.tmp 8) rfl (w1.heap.size + 1) rfl 187 (u32s M) (0,0) _ Hm9.out Tryz.underlying187 rfl HiM.out ?_)
    go_loopw [23] (fun i wx => ∃ k:Nat,k ≤ 16 ∧ i = .int .i64 k ∧ OInv S M w.heap.size w1.heap.size wr.heap.size k w wx) (fun i _ => 16 - (intOf i).toNat)
    case atStart => exact ⟨0,Nat.zero_le _,rfl,Ho9.out⟩
    case round =>
     clear Ho9 Hm9
     rename World => wx
     obtain ⟨k,hk,rfl,hinv⟩:=hrel
     by_cases hlt16:k < 16
     · obtain ⟨C,hC,hr⟩:=hinv.row
       have hv:∀ j,j < 64 → (wx.cell? ⟨wr.heap.size,j,none⟩).isSome = true:=fun j hj => by
        rw [cell_row hr,Array.getElem?_eq_getElem (by rw [hC.1]; omega)]; rfl
       obtain ⟨v0,hv0⟩:=Option.isSome_iff_exists.1 (hv (4 * k) (by omega))
       obtain ⟨v1,hv1⟩:=Option.isSome_iff_exists.1 (hv (4 * k + 1) (by omega))
       obtain ⟨v2,hv2⟩:=Option.isSome_iff_exists.1 (hv (4 * k + 2) (by omega))
       obtain ⟨v3,hv3⟩:=Option.isSome_iff_exists.1 (hv (4 * k + 3) (by omega))
       have f0:=free_row hr (4 * k)
       have f1:=free_row hr (4 * k + 1)
       have f2:=free_row hr (4 * k + 2)
       have f3:=free_row hr (4 * k + 3)
       have hix:=index_arr32 16 Tryz.underlying187 M HMl.out k hlt16 wx
       have hc:=row32_cell hinv.start k (by rw [Hl.out]; exact hlt16)
       have hlt16':(k:Int) < 16:=by omega
       obtain ⟨mk,hmk⟩:∃ mk,mk = M.getD k 0:=⟨_,rfl⟩
       obtain ⟨sk,hsk⟩:∃ sk,sk = S.getD k 0:=⟨_,rfl⟩
       rw [← hmk] at hix
       rw [← hsk] at hc
       have Hmk:=Lib.hid hmk
       have Hsk:=Lib.hid hsk
       clear hv hr hC hmk hsk
       go_upto_region 12 with (fail)
       generalize hx:(mk + sk) % 4294967296 = x
       have x0:0 ≤ x:=by omega
       have x1:x < 4294967296:=by omega
       have Hx:Hid (x = (M.getD k 0 + S.getD k 0) % 4294967296):=by show _ = _; rw [← Hmk.out,← Hsk.out,hx]
       clear hx hix hc
       go_wp2
       go_roundw
       case rel => exact ⟨k + 1,by omega,by go_num,hinv.set hlt16 x Hx.out⟩
       case measure => simp [intOf]; omega
     · have h16:k = 16:=by omega
       rw [h16] at hinv
       have H16:=Lib.hid h16
       clear h16 hk
       obtain ⟨C,hC,hr⟩:=hinv.row
       have hCe:C = u8s (blockL K c Nn):=hC.whole (blockL_length _ _ _) (fun j hj => by rw [HM.out,HS.out]; exact outL_getD _ _ j hj)
       rw [hCe] at hr
       have hrow:=setRow_heap wx _ _ (u8s (blockL K c Nn)) _ _ hinv.res
       have hlow:Below w.heap.size w (wx.setRow (w.heap.size + 1 + 1) (u8s (blockL K c Nn))):=below_setRow hinv.low (by omega) _
       have Hsz:Hid ((Tryz.prog.info? 167).map (·.size) = some (u8s (blockL K c Nn)).size):=by show _ = _; rw [u8s_size,blockL_length]; exact info64
       have Hzz:Hid ((u8s zeros64).size = (u8s (blockL K c Nn)).size):=by show _ = _; rw [u8s_size,u8s_size,blockL_length]; rfl
       have Hr:=Lib.hid hr
       have Hz:=Lib.hid hinv.res
       have Hrow:=Lib.hid hrow
       clear hCe hC hr hrow hinv
       go_wp2_with (first | (with_reducible refine wpList_load_row rfl 167 (.tmp 9) rfl wr.heap.size rfl 167 (u8s (blockL K c Nn)) (0,0) _ Hr.out Tryz.underlying167 rfl Hsz.out ?_) | (with_reducible refine wpList_store_row rfl 167 (.tmp 6) (.tmp 59) rfl (w.heap.size + 1 + 1) (u8s (blockL K c Nn)) rfl rfl 167 (u8s zeros64) Hz.out Hsz.out Hzz.out (u8s_one _) ?_))
       exact bodyPost_ret (v:=.agg (u8s (blockL K c Nn))) (results_cell_row rfl _ _ (w.heap.size + 1 + 1) 167 _ (0,0) _ rfl Hrow.out Tryz.underlying167 rfl Hsz.out) rfl ⟨rfl,hlow⟩
end Go.Proofs.YteeghgjkjicjoaaGreatDoor.Cha
namespace Go.Proofs.YteeghgjkjicjoaaGreatDoor
section
variable {F:Fence} {n:Nat} {P:Program} {ops:Array Oper} {Q:Exit → Act → World → Prop} {md:Region.Mode}
theorem wpAnyIn_inv (I:Array Bool → Act → World → Prop) (hs:∀ l a w,I l a w → l.size = ops.size) (hb:backB md ops = true)
 (hfin:∀ l a w,I l a w → (∀ i,i < ops.size → l.getD i false = true) → Q .normal a w)
 (hstep:∀ l a w i,I l a w → i < ops.size → l.getD i false = false → (∀ j,waitsB md ops i j = true → l.getD j false = true) → wpOpIn F n P ops Q i (I (l.setIfInBounds i true)) a w) :
 ∀ (fuel:Nat) (l:Array Bool) (a:Act) (w:World),unlisted ops.size l ≤ fuel → I l a w → wpAnyIn F n P md ops Q fuel l a w:=by
 intro fuel
 induction fuel with
 | zero =>
   intro l a w hu h
   have hr:Region.ready md ops l = []:=by
    cases he:Region.ready md ops l with
    | nil => rfl
    | cons i rest =>
      have hm:i ∈ Region.ready md ops l:=by rw [he]; exact List.mem_cons_self ..
      have hlt:=ready_lt hm
      have h0:=(mem_ready.1 hm).1
      have:i ∈ (List.range ops.size).filter fun i => !l.getD i true:=List.mem_filter.2 ⟨List.mem_range.2 hlt,by simp only [h0]; rfl⟩
      have:=List.length_pos_of_mem this
      unfold unlisted at hu
      omega
   exact ⟨hr,hfin l a w h (all_listed (hs l a w h) hb hr)⟩
 | succ fuel ih =>
   intro l a w hu h
   refine ⟨fun hr => hfin l a w h (all_listed (hs l a w h) hb hr),fun i hi => ?_⟩
   have hlt:=ready_lt hi
   have h0:=(mem_ready.1 hi).1
   refine wpOpIn_mono (fun a' w' h' => ih _ _ _ ?_ h') (hstep l a w i h hlt (getD_un h0) (ready_pred hi))
   have hl:=hs l a w h
   have:unlisted ops.size (l.setIfInBounds i true) < unlisted ops.size l:=by
    unfold unlisted
    refine filter_less _ _ _ (fun j hj => ?_) i (List.mem_range.2 hlt) (by simp only [h0]; rfl) ?_
    · by_cases e:i = j
      · subst e
        simp [hl,hlt] at hj
      · rw [getD_set_ne true e] at hj; exact hj
    · simp [hl,hlt]
   omega
theorem wpOpIn_plain {i:Nat} {o:Oper} {K:Act → World → Prop} {a:Act} {w:World} (ho:ops[i]? = some o) (hg:o.guard = none) (h:o.wpIn F n P a w K Q):wpOpIn F n P ops Q i K a w:=by
 unfold wpOpIn
 rw [ho]
 show if Region.wanted o (yielded ops a.tmps) = true then _ else _
 rw [if_pos (by simp [Region.wanted,hg])]
 exact h
end
end Go.Proofs.YteeghgjkjicjoaaGreatDoor
namespace Go.Proofs.YteeghgjkjicjoaaGreatDoor.Cha
open Go.RowKit
attribute [local go_sem] Oper.semAt_some
def nbl (n:Nat):Nat:=(n + 63) / 64
theorem ret_u64 {a b:Int} (h:a = b):Ending.returned (.int .u64 a) = .returned (.int .u64 b):=by rw [h]
theorem blocksOf_any (n:Nat) (h:n ≤ 1000000) (w:World):Calls Tryz.prog 128 #[.int .i64 (n:Int)] w fun e w' => e = .returned (.int .u64 (nbl n:Nat)) ∧ w = w':=by
 have h':(n:Int) ≤ 1000000:=by omega
 have hn:Hid (((n:Int) + 64 - 1) / 64 = ((nbl n:Nat):Int)):=by show _ = _; unfold nbl; omega
 clear h
 go_enter Tryz.func128,Tryz.ntmps128
 go_wp2
 go_ret
 exact ⟨ret_u64 hn.out,rfl⟩
theorem pieces_any (A:Option Addr) (n cap:Nat) (c:Int) (w:World) :
 Calls Tryz.prog 129 #[.int .u32 c,.slice A n cap] w fun e w' => e = .returned (.func (.func 142) #[] #[.pointer (some ⟨w.heap.size + 1,0,none⟩),.pointer (some ⟨w.heap.size,0,none⟩)]) ∧ w' = (w.alloc (.cells #[.int .u32 c] 47)).alloc (.cells #[.slice A n cap] 38):=by
 go_enter Tryz.func129,Tryz.ntmps129
 go_wp2
 go_ret
 exact ⟨rfl,rfl⟩
def piece (g off n cap:Nat) (x:Nat):Value:=.slice (some ⟨g,off + x * 64,none⟩) (min 64 (n - x * 64)) (cap - x * 64)
def encs (g off n cap:Nat) (c:Int) (x:Fin (nbl n)):Array Value:=#[.int .u32 (c + (x.val:Nat)),piece g off n cap x.val]
def KpB (Bb Bc:Nat) (W W':World):Prop:=W'.heap[Bb]? = W.heap[Bb]? ∧ W'.heap[Bc]? = W.heap[Bc]?
theorem KpB.trans {Bb Bc:Nat} {A B C:World} (h:KpB Bb Bc A B) (k:KpB Bb Bc B C):KpB Bb Bc A C:=⟨k.1.trans h.1,k.2.trans h.2⟩
structure YI {α:Type} (J Jx:List α → World → Prop) (pre:List α) (x:α) (Bb Bc:Nat) (L:Array Bool) (v26 v27:Value) (wr wx:World):Prop where
 sz:L.size = 12
 bef:L.getD 10 false = false → wx = wr.drew
 aft:L.getD 10 false = true → ∃ b,v26 = .bool b ∧ ((b = true ∧ J (pre ++ [x]) wx ∧ KpB Bb Bc wr wx) ∨ (b = false ∧ Jx (pre ++ [x]) wx)) ∧ (L.getD 11 false = true → v27 = .bool (!b))
 c4:L.getD 4 false = true → L.getD 1 false = true
 c10:L.getD 10 false = true → L.getD 1 false = true
 c11:L.getD 11 false = true → L.getD 10 false = true
section
variable {α:Type} {J Jx:List α → World → Prop} {pre:List α} {x:α} {Bb Bc:Nat} {L:Array Bool} {v26 v27:Value} {wr wx:World}
theorem YI.read (h:YI J Jx pre x Bb Bc L v26 v27 wr wx) (i:Nat) (hi:i < 10) (h4:i = 4 → L.getD 1 false = true):YI J Jx pre x Bb Bc (L.setIfInBounds i true) v26 v27 wr wx where
 sz:=by simp [h.sz]
 bef hl:=h.bef (by rw [getD_set_ne false (by omega)] at hl; exact hl)
 aft hl:=by
  rw [getD_set_ne false (by omega)] at hl ⊢
  exact h.aft hl
 c4 hl:=by
  by_cases e:i = 4
  · exact getD_set_true (h4 e)
  · exact getD_set_true (h.c4 (lst hl (Ne.symm e)))
 c10 hl:=getD_set_true (h.c10 (lst hl (by omega)))
 c11 hl:=getD_set_true (h.c11 (lst hl (by omega)))
theorem YI.early (h:YI J Jx pre x Bb Bc L v26 v27 wr wx) (hu:L.getD 1 false = false):wx = wr.drew:=h.bef (by
 cases e:L.getD 10 false with
 | false => rfl
 | true => rw [h.c10 e] at hu; cases hu)
theorem YI.goes (h:YI J Jx pre x Bb Bc L v26 v27 wr wx) (hu:L.getD 10 false = false) (h4:L.getD 4 false = true) {wy:World} (hj:J (pre ++ [x]) wy) (hk:KpB Bb Bc wr wy):YI J Jx pre x Bb Bc (L.setIfInBounds 10 true) (.bool true) v27 wr wy where
 sz:=by simp [h.sz]
 bef hl:=by simp [h.sz] at hl
 aft _:=⟨true,rfl,.inl ⟨rfl,hj,hk⟩,fun hl => by have:=h.c11 (lst hl (by omega)); rw [this] at hu; cases hu⟩
 c4 hl:=getD_set_true (h.c4 (lst hl (by omega)))
 c10 _:=getD_set_true (h.c4 h4)
 c11 _:=by simp [h.sz]
theorem YI.stops (h:YI J Jx pre x Bb Bc L v26 v27 wr wx) (hu:L.getD 10 false = false) (h4:L.getD 4 false = true) {wy:World} (hj:Jx (pre ++ [x]) wy):YI J Jx pre x Bb Bc (L.setIfInBounds 10 true) (.bool false) v27 wr wy where
 sz:=by simp [h.sz]
 bef hl:=by simp [h.sz] at hl
 aft _:=⟨false,rfl,.inr ⟨rfl,hj⟩,fun hl => by have:=h.c11 (lst hl (by omega)); rw [this] at hu; cases hu⟩
 c4 hl:=getD_set_true (h.c4 (lst hl (by omega)))
 c10 _:=getD_set_true (h.c4 h4)
 c11 _:=by simp [h.sz]
theorem YI.last (h:YI J Jx pre x Bb Bc L v26 v27 wr wx) (h10:L.getD 10 false = true):∃ b,v26 = .bool b ∧ YI J Jx pre x Bb Bc (L.setIfInBounds 11 true) v26 (.bool (!b)) wr wx:=by
 obtain ⟨b,e,hq,_⟩:=h.aft h10
 refine ⟨b,e,by simp [h.sz],fun hl => ?_,fun _ => ⟨b,e,hq,fun _ => rfl⟩,fun hl => getD_set_true (h.c4 (lst hl (by omega))),fun _ => getD_set_true (h.c10 h10),fun _ => getD_set_true h10⟩
 rw [getD_set_true h10] at hl
 cases hl
end
theorem take_next {n k:Nat} (h:k < n):(List.finRange n).take (k + 1) = (List.finRange n).take k ++ [⟨k,h⟩]:=by
 rw [List.take_succ_eq_append_getElem (by simpa using h)]
 simp
theorem d12_apart:apartB [16,17,18,19,20,21,22,23,24,25,26,27] = true:=by decide
set_option maxRecDepth 100000 in
set_option maxHeartbeats 4000000 in
theorem pieces1_in (m l Bb Bc:Nat) (hm:2 ≤ m) (g off:Nat) (n cap:Nat) (hn:n ≤ cap) (hsm:n ≤ 1000000) (c:Int) (c0:0 ≤ c) (cb:c + (nbl n:Nat) ≤ 4294967296) (J Jx:List (Fin (nbl n)) → World → Prop)
 (hJ:∀ pre W,J pre W → J pre W.drew)
 (hY:∀ pre x W,J pre W → pre.length < nbl n → YieldAt Fence.wide (m - 1) Tryz.prog l (encs g off n cap c x) W fun e W' =>
  (e = .returned (.bool true) ∧ J (pre ++ [x]) W' ∧ KpB Bb Bc W W') ∨ (e = .returned (.bool false) ∧ Jx (pre ++ [x]) W'))
 (W:World) (hb:Boxed W Bb 38 (.slice (some ⟨g,off,none⟩) n cap)) (hc:Boxed W Bc 47 (.int .u32 c)) (h0:J [] W) :
 CallsIn Fence.wide m Tryz.prog 142 #[.func (.yield l) #[] #[],.pointer (some ⟨Bb,0,none⟩),.pointer (some ⟨Bc,0,none⟩)] W fun e W' => (∃ v,e = .returned v) ∧
  ((∃ ys,ys = List.finRange (nbl n) ∧ J ys W') ∨ (∃ pre,True ∧ Jx pre W')):=by
 have hnb:=Lib.hid hn
 have hcb:=hb.cell
 have hcc:=hc.cell
 have hblk:=Lib.hid (blocksOf_any n (by omega) W)
 have Hb:=Lib.hid hb
 have Hc:=Lib.hid hc
 have HJ:=Lib.hid hJ
 have HY:=Lib.hid hY
 clear hb hc hJ hY
 refine callsIn_of_wp Tryz.func142 rfl trivial ?_ rfl
 simp only [Tryz.ntmps142,List.size_toArray,List.length_cons,List.length_nil,Nat.reduceAdd,Nat.reduceSub,Array.replicate_succ,Array.replicate_zero,List.push_toArray,List.append_toArray,List.nil_append,List.cons_append]
 gi_wp2_with (refine ⟨trivial,(fun _ => by omega),?_⟩; gi_at_call 128; refine (callsIn_wide.2 hblk.out).mono ?_; rintro e w' ⟨rfl,rfl⟩)
 gi_loopw [9] (fun i wr => ∃ k:Nat,k ≤ nbl n ∧ i = .int .u64 (k:Nat) ∧ Hid (J ((List.finRange (nbl n)).take k) wr) ∧ Hid (KpB Bb Bc W wr)) (fun i _ => nbl n - (intOf i).toNat)
 case atStart => exact ⟨0,Nat.zero_le _,rfl,by show J _ _; simpa using h0,rfl,rfl⟩
 case round =>
  obtain ⟨k,hk,rfl,hj,hkp⟩:=hrel
  by_cases hlt:k < nbl n
  · have hbx:Boxed wr Bb 38 (.slice (some ⟨g,off,none⟩) n cap):=hkp.out.1.trans Hb.out
    have hcx:Boxed wr Bc 47 (.int .u32 c):=hkp.out.2.trans Hc.out
    have hcb2:=hbx.cell
    have hcc2:=hcx.cell
    have hlt':(k:Int) < (nbl n:Nat):=by omega
    have hk64:k * 64 < n:=by unfold nbl at hlt; omega
    have hk1:((k:Nat):Int) * 64 ≤ (n:Nat):=by omega
    have hk2:¬ cap = k * 64:=by have:=hnb.out; omega
    have hk3:((k:Nat):Int) * 64 ≤ (cap:Nat):=by have:=hnb.out; omega
    have hck:c + (k:Nat) < 4294967296:=by omega
    have hk4:((k:Nat):Int) < 4294967296:=by omega
    gi_wp2
    generalize hr:n - k * 64 = r
    generalize hcr:cap - k * 64 = cr
    obtain ⟨mn,hmn⟩:∃ mn,mn = min 64 r:=⟨_,rfl⟩
    have hr2:mn ≤ r:=by omega
    have hr3:mn ≤ cr:=by have:=hnb.out; omega
    have hr3':(mn:Int) ≤ cr:=by omega
    have hr4:(if ((r:Nat):Int) < 64 then ((r:Nat):Int) else 64) = (mn:Nat):=by split <;> omega
    have hw1:IntKind.u32.wrap ((k:Nat):Int) = (k:Nat):=by rw [IntKind.wrap_u32']; omega
    have hw2:IntKind.u32.wrap (c + (k:Nat)) = c + (k:Nat):=by rw [IntKind.wrap_u32']; omega
    have Hw1:=Lib.hid hw1
    have Hw2:=Lib.hid hw2
    obtain ⟨fn,tmps,assign,body,hy,hR⟩:=HY.out ((List.finRange (nbl n)).take k) ⟨k,hlt⟩ wr.drew (HJ.out _ _ hj.out) (by simp; omega)
    have hy':(Instr.yield l #[.int .u32 (c + (k:Nat)),.slice (some ⟨g,off + k * 64,none⟩) mn cr]).run Tryz.prog wr.drew = .ok (.round l fn tmps assign body) wr.drew:=by
     unfold encs piece at hy
     simp only [hr,hcr,← hmn] at hy
     exact hy
    have Hy:=Lib.hid hy'
    have HR:=Lib.hid hR
    have Hmn:=Lib.hid hmn
    have Hr4:=Lib.hid hr4
    have Hr:=Lib.hid hr
    have Hcr:=Lib.hid hcr
    clear hmn hr hcr hj hk1 hk2 hk3 hbx hcx hy hy' hR hr4 hw1 hw2
    refine wpIn_region_any (by kernel_rfl) ?_
    change wpAnyIn _ _ _ _ _ _ _ _ _ (World.drew _)
    refine wpAnyIn_inv (fun L a wx => ∃ (z:Nat → Value),Hid (a = ⟨#[.func (.yield l) #[] #[],.pointer (some ⟨Bb,0,none⟩),.pointer (some ⟨Bc,0,none⟩),undef,.int .u64 (k:Nat),.slice (some ⟨g,off + k * 64,none⟩) r cr,.slice (some ⟨g,off,none⟩) n cap,.int .i64 (n:Nat),.int .u64 (nbl n:Nat),.int .u64 (k:Nat),.bool true,.int .u64 (k:Nat),.slice (some ⟨g,off,none⟩) n cap,.int .u64 (k:Nat),.int .u64 ((k:Nat) * 64),.slice (some ⟨g,off + k * 64,none⟩) r cr,z 16,z 17,z 18,z 19,z 20,z 21,z 22,z 23,z 24,z 25,z 26,z 27,u28],[]⟩) ∧ Holding [16,17,18,19,20,21,22,23,24,25,26,27] [some (.func (.yield l) #[] #[]),some (.int .u32 c),some (.int .u64 (k:Nat)),some (.int .u32 (k:Nat)),some (.int .u32 (c + (k:Nat))),some (.slice (some ⟨g,off + k * 64,none⟩) r cr),some (.slice (some ⟨g,off + k * 64,none⟩) r cr),some (.int .i64 (r:Nat)),some (.int .i64 (mn:Nat)),some (.slice (some ⟨g,off + k * 64,none⟩) mn cr),none,none] L z ∧ YI J Jx ((List.finRange (nbl n)).take k) ⟨k,hlt⟩ Bb Bc L (z 26) (z 27) wr wx) ?_ (by kernel_rfl) ?_ ?_ _ _ _ _ (unlisted_none _) ?_
    · rintro L a wx ⟨z,_,_,h⟩
      exact h.sz
    · rintro L a wx ⟨z,ha,hz,h⟩ hall
      have ha':=ha.out
      clear ha
      obtain ⟨b,e26,hq,h27⟩:=h.aft (hall 10 (by decide))
      have e27:=h27 (hall 11 (by decide))
      clear h27 h hall hz
      rcases hq with ⟨rfl,hJ3,hk3⟩ | ⟨rfl,hJx3⟩
      · have HJ3:=Lib.hid hJ3
        have Hk3:=Lib.hid hk3
        clear hJ3 hk3
        rw [e26,e27] at ha'
        clear e26 e27 hck hk4
        subst ha'
        gi_wp2
        go_roundw
        case rel => exact ⟨k + 1,by omega,by go_num,by show J _ _; rw [take_next hlt]; exact HJ3.out,hkp.out.trans Hk3.out⟩
        case measure => simp [intOf]; omega
      · have HJx3:=Lib.hid hJx3
        clear hJx3
        rw [e26,e27] at ha'
        clear e26 e27 hck hk4
        subst ha'
        gi_wp2
        refine bodyPost_ret (results_none rfl _ _ _) rfl ?_
        exact ⟨⟨_,rfl⟩,.inr ⟨_,trivial,HJx3.out⟩⟩
    · rintro L a wx i ⟨z,ha,hz,h⟩ hi hu hw
      obtain rfl:=ha.out
      clear ha
      have hi12:i < 12:=hi
      obtain rfl | rfl | rfl | rfl | rfl | rfl | rfl | rfl | rfl | rfl | rfl | rfl:i = 0 ∨ i = 1 ∨ i = 2 ∨ i = 3 ∨ i = 4 ∨ i = 5 ∨ i = 6 ∨ i = 7 ∨ i = 8 ∨ i = 9 ∨ i = 10 ∨ i = 11:=by omega
      · refine wpOpIn_plain rfl rfl ?_
        go_simp
        exact ⟨upd z 16 (.func (.yield l) #[] #[]),(by unfold Hid; simp [upd]),hz.next d12_apart h.sz 0 (by decide) _ (fun _ h => Option.some.inj h),h.read 0 (by omega) (fun e => by cases e)⟩
      · obtain rfl:=h.early hu
        refine wpOpIn_plain rfl rfl ?_
        go_simp
        exact ⟨upd z 17 (.int .u32 c),(by unfold Hid; simp [upd]),hz.next d12_apart h.sz 1 (by decide) _ (fun _ h => Option.some.inj h),h.read 1 (by omega) (fun e => by cases e)⟩
      · refine wpOpIn_plain rfl rfl ?_
        go_simp
        exact ⟨upd z 18 (.int .u64 (k:Nat)),(by unfold Hid; simp [upd]),hz.next d12_apart h.sz 2 (by decide) _ (fun _ h => Option.some.inj h),h.read 2 (by omega) (fun e => by cases e)⟩
      · have e2:z 18 = .int .u64 (k:Nat):=hz 2 _ (hw 2 (by kernel_rfl)) rfl
        refine wpOpIn_plain rfl rfl ?_
        go_simp
        exact ⟨upd z 19 (.int .u32 (k:Nat)),(by unfold Hid; simp [upd,e2,Hw1.out]),hz.next d12_apart h.sz 3 (by decide) _ (fun _ h => Option.some.inj h),h.read 3 (by omega) (fun e => by cases e)⟩
      · have e1:z 17 = .int .u32 c:=hz 1 _ (hw 1 (by kernel_rfl)) rfl
        have e3:z 19 = .int .u32 (k:Nat):=hz 3 _ (hw 3 (by kernel_rfl)) rfl
        refine wpOpIn_plain rfl rfl ?_
        go_simp
        exact ⟨upd z 20 (.int .u32 (c + (k:Nat))),(by unfold Hid; simp [upd,e1,e3,Hw2.out]),hz.next d12_apart h.sz 4 (by decide) _ (fun _ h => Option.some.inj h),h.read 4 (by omega) (fun _ => hw 1 (by kernel_rfl))⟩
      · refine wpOpIn_plain rfl rfl ?_
        go_simp
        exact ⟨upd z 21 (.slice (some ⟨g,off + k * 64,none⟩) r cr),(by unfold Hid; simp [upd]),hz.next d12_apart h.sz 5 (by decide) _ (fun _ h => Option.some.inj h),h.read 5 (by omega) (fun e => by cases e)⟩
      · refine wpOpIn_plain rfl rfl ?_
        go_simp
        exact ⟨upd z 22 (.slice (some ⟨g,off + k * 64,none⟩) r cr),(by unfold Hid; simp [upd]),hz.next d12_apart h.sz 6 (by decide) _ (fun _ h => Option.some.inj h),h.read 6 (by omega) (fun e => by cases e)⟩
      · have e6:z 22 = .slice (some ⟨g,off + k * 64,none⟩) r cr:=hz 6 _ (hw 6 (by kernel_rfl)) rfl
        refine wpOpIn_plain rfl rfl ?_
        go_simp
        exact ⟨upd z 23 (.int .i64 (r:Nat)),(by unfold Hid; simp [upd,e6]),hz.next d12_apart h.sz 7 (by decide) _ (fun _ h => Option.some.inj h),h.read 7 (by omega) (fun e => by cases e)⟩
      · have e7:z 23 = .int .i64 (r:Nat):=hz 7 _ (hw 7 (by kernel_rfl)) rfl
        have hr4:=Hr4.out
        refine wpOpIn_plain rfl rfl ?_
        go_simp
        exact ⟨upd z 24 (.int .i64 (mn:Nat)),(by unfold Hid; simp [upd,e7]),hz.next d12_apart h.sz 8 (by decide) _ (fun _ h => Option.some.inj h),h.read 8 (by omega) (fun e => by cases e)⟩
      · have e5:z 21 = .slice (some ⟨g,off + k * 64,none⟩) r cr:=hz 5 _ (hw 5 (by kernel_rfl)) rfl
        have e8:z 24 = .int .i64 (mn:Nat):=hz 8 _ (hw 8 (by kernel_rfl)) rfl
        refine wpOpIn_plain rfl rfl ?_
        go_simp
        exact ⟨upd z 25 (.slice (some ⟨g,off + k * 64,none⟩) mn cr),(by unfold Hid; simp [upd,e5,e8]),hz.next d12_apart h.sz 9 (by decide) _ (fun _ h => Option.some.inj h),h.read 9 (by omega) (fun e => by cases e)⟩
      · have e0:z 16 = .func (.yield l) #[] #[]:=hz 0 _ (hw 0 (by kernel_rfl)) rfl
        have e4:z 20 = .int .u32 (c + (k:Nat)):=hz 4 _ (hw 4 (by kernel_rfl)) rfl
        have e9:z 25 = .slice (some ⟨g,off + k * 64,none⟩) mn cr:=hz 9 _ (hw 9 (by kernel_rfl)) rfl
        obtain rfl:=h.bef hu
        have h4:=hw 4 (by kernel_rfl)
        have hy:=Hy.out
        refine wpOpIn_plain rfl rfl ?_
        go_simp
        refine ⟨(fun _ => by omega),HR.out.mono ?_⟩
        rintro e W' (⟨rfl,hJ3,hk3⟩ | ⟨rfl,hJx3⟩)
        · exact ⟨upd z 26 (.bool true),(by unfold Hid; simp [upd,e0,e4,e9]),hz.next d12_apart h.sz 10 (by decide) _ (fun _ h => by cases h),h.goes hu h4 hJ3 hk3⟩
        · exact ⟨upd z 26 (.bool false),(by unfold Hid; simp [upd,e0,e4,e9]),hz.next d12_apart h.sz 10 (by decide) _ (fun _ h => by cases h),h.stops hu h4 hJx3⟩
      · obtain ⟨b,e26,hl⟩:=h.last (hw 10 (by kernel_rfl))
        refine wpOpIn_plain rfl rfl ?_
        go_simp
        exact ⟨upd z 27 (.bool (!b)),(by unfold Hid; simp [upd,e26]),hz.next d12_apart h.sz 11 (by decide) _ (fun _ h => by cases h),hl⟩
    · refine ⟨fun x => (#[.func (.yield l) #[] #[],.pointer (some ⟨Bb,0,none⟩),.pointer (some ⟨Bc,0,none⟩),undef,.int .u64 (k:Nat),.slice (some ⟨g,off + k * 64,none⟩) r cr,.slice (some ⟨g,off,none⟩) n cap,.int .i64 (n:Nat),.int .u64 (nbl n:Nat),.int .u64 (k:Nat),.bool true,.int .u64 (k:Nat),.slice (some ⟨g,off,none⟩) n cap,.int .u64 (k:Nat),.int .u64 ((k:Nat) * 64),.slice (some ⟨g,off + k * 64,none⟩) r cr,u16,u17,u18,u19,u20,u21,u22,u23,u24,u25,u26,u27,u28]:Array Value).getD x undef,rfl,Holding.start,⟨rfl,fun _ => rfl,fun h => absurd h (by decide),fun h => absurd h (by decide),fun h => absurd h (by decide),fun h => absurd h (by decide)⟩⟩
  · have hkn:k = nbl n:=by omega
    have Hkn:=Lib.hid hkn
    have hlt2:¬ ((k:Nat):Int) < ((nbl n:Nat):Int):=by omega
    clear hkn hk
    gi_wp2
    go_end0
    exact ⟨⟨_,rfl⟩,.inl (by have:=hj.out; rw [Hkn.out,List.take_of_length_le (by simp)] at this; exact this)⟩
end Go.Proofs.YteeghgjkjicjoaaGreatDoor.Cha
namespace Go.Proofs.YteeghgjkjicjoaaGreatDoor.Cha
def strF (K:List Int) (c:Int) (Nn L:List Int) (j:Nat):Int:=bits .xor .u8 (L.getD j 0) ((blockL K (c + (j / 64:Nat)) Nn).getD (j % 64) 0)
def streamL (K:List Int) (c:Int) (Nn L:List Int):List Int:=(List.range L.length).map (strF K c Nn L)
theorem streamL_length (K:List Int) (c:Int) (Nn L:List Int):(streamL K c Nn L).length = L.length:=by simp [streamL]
theorem streamL_getD (K:List Int) (c:Int) (Nn L:List Int) (j:Nat) (h:j < L.length):(streamL K c Nn L).getD j 0 = strF K c Nn L j:=by simp [streamL,h]
def pieceL (K:List Int) (c:Int) (Nn L:List Int) (x m:Nat):List Int:=(List.range m).map fun j => strF K c Nn L (x * 64 + j)
theorem pieceL_length (K:List Int) (c:Int) (Nn L:List Int) (x m:Nat):(pieceL K c Nn L x m).length = m:=by simp [pieceL]
theorem pieceL_succ (K:List Int) (c:Int) (Nn L:List Int) (x m:Nat):pieceL K c Nn L x (m + 1) = pieceL K c Nn L x m ++ [strF K c Nn L (x * 64 + m)]:=by
 simp [pieceL,List.range_succ]
theorem strF_at (K:List Int) (c:Int) (Nn L:List Int) (x m:Nat) (h:m < 64):strF K c Nn L (x * 64 + m) = bits .xor .u8 (L.getD (x * 64 + m) 0) ((blockL K (c + (x:Nat)) Nn).getD m 0):=by
 unfold strF
 rw [show (x * 64 + m) / 64 = x by omega,show (x * 64 + m) % 64 = m by omega]
def outsL {n:Nat} (K:List Int) (c:Int) (Nn L:List Int) (xs:List (Fin n)):List Int:=xs.flatMap fun x => pieceL K c Nn L x.val (min 64 (L.length - x.val * 64))
theorem outsL_snoc {n:Nat} (K:List Int) (c:Int) (Nn L:List Int) (xs:List (Fin n)) (x:Fin n):outsL K c Nn L (xs ++ [x]) = outsL K c Nn L xs ++ pieceL K c Nn L x.val (min 64 (L.length - x.val * 64)):=by
 simp [outsL,List.flatMap_append]
theorem outsL_le {n:Nat} (K:List Int) (c:Int) (Nn L:List Int) (xs:List (Fin n)):(outsL K c Nn L xs).length ≤ 64 * xs.length:=by
 induction xs with
 | nil => simp [outsL]
 | cons x xs ih =>
   have h:outsL K c Nn L (x :: xs) = pieceL K c Nn L x.val (min 64 (L.length - x.val * 64)) ++ outsL K c Nn L xs:=by simp [outsL]
   rw [h,List.length_append,pieceL_length,List.length_cons]
   omega
theorem outs_take (K:List Int) (c:Int) (Nn L:List Int) (k:Nat) (hk:k ≤ nbl L.length):outsL K c Nn L ((List.finRange (nbl L.length)).take k) = (streamL K c Nn L).take (k * 64):=by
 induction k with
 | zero => simp [outsL]
 | succ k ih =>
   have hlt:k < nbl L.length:=by omega
   rw [take_next hlt,outsL_snoc,ih (by omega)]
   show (streamL K c Nn L).take (k * 64) ++ pieceL K c Nn L k (min 64 (L.length - k * 64)) = _
   have hk64:k * 64 < L.length:=by unfold nbl at hlt; omega
   have hm:((streamL K c Nn L).take (k * 64)).length = k * 64:=by rw [List.length_take,streamL_length]; exact Nat.min_eq_left (by omega)
   obtain ⟨r,hr⟩:∃ r,r = min 64 (L.length - k * 64):=⟨_,rfl⟩
   have hr1:r ≤ 64:=by rw [hr]; exact Nat.min_le_left _ _
   have hr2:r ≤ L.length - k * 64:=by rw [hr]; exact Nat.min_le_right _ _
   have hr3:r = 64 ∨ r = L.length - k * 64:=by rw [hr]; exact (Nat.le_total 64 (L.length - k * 64)).imp (fun h => Nat.min_eq_left h) (fun h => Nat.min_eq_right h)
   rw [← hr]
   apply List.ext_getElem?
   intro j
   rw [List.getElem?_append,hm,List.getElem?_take,List.getElem?_take]
   by_cases h1:j < k * 64
   · rw [if_pos h1,if_pos h1,if_pos (by omega)]
   · rw [if_neg h1]
     by_cases h2:j < (k + 1) * 64
     · rw [if_pos h2]
       by_cases h3:j < L.length
       · simp only [pieceL,streamL,List.getElem?_map]
         rw [List.getElem?_range (by omega),List.getElem?_range h3]
         simp only [Option.map_some]
         rw [show k * 64 + (j - k * 64) = j by omega]
       · rw [List.getElem?_eq_none (by rw [pieceL_length]; omega),List.getElem?_eq_none (by rw [streamL_length]; omega)]
     · rw [if_neg h2,List.getElem?_eq_none (by rw [pieceL_length]; omega)]
theorem outs_all (K:List Int) (c:Int) (Nn L:List Int):outsL K c Nn L (List.finRange (nbl L.length)) = streamL K c Nn L:=by
 have h:=outs_take K c Nn L (nbl L.length) (Nat.le_refl _)
 rw [List.take_of_length_le (by simp),List.take_of_length_le (by rw [streamL_length]; unfold nbl; omega)] at h
 exact h
end Go.Proofs.YteeghgjkjicjoaaGreatDoor.Cha
