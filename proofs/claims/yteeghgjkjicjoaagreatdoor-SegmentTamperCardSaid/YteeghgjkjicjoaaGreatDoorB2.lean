/- Texts of ours, merged. -/
import Derived.Test.YteeghgjkjicjoaaGreatDoorB1
import Derived.Lib.AppendZeros
import Derived.Laws.AppendOwnNone
import Derived.Deep.RegionWith
import Derived.Lib.ConvBytes
namespace Go.Proofs.YteeghgjkjicjoaaGreatDoor
open Go.RowKit
set_option maxRecDepth 100000 in
set_option maxHeartbeats 1000000 in
theorem grow_any (n:Nat) (h0:0 < n) (h1:n ≤ 400000) (w:World) :
 Calls Tryz.prog 120 #[.slice none 0 0,.int .i64 (n:Int)] w fun e' w' => ∃ c C,e' = .returned (.slice (some ⟨w.heap.size,0,none⟩) 0 c) ∧ n ≤ c ∧ c ≤ maxLen ∧ C.size = c ∧ w'.heap[w.heap.size]? = some (.cells C 5 (0,0)) ∧ Below w.heap.size w w':=by
 obtain ⟨i0,hi0,hz00,hz10,hz20⟩:=info_parts info5
 have hi:=Lib.hid hi0
 have hz0:=Lib.hid hz00
 have hz1:=Lib.hid hz10
 have hz2:=Lib.hid hz20
 have hpos:(0:Int) < n:=by omega
 clear hi0 hz00 hz10 hz20
 go_enter Tryz.func120,Tryz.ntmps120
 go_wp2_with (at_builtin; refine Lib.wpList_append_run _ rfl (.tmp 20) (.tmp 21) 38 3 rfl _ _ rfl rfl _ _ (Lib.run_append_nil_zeros w 38 3 38 5 i0 (.int .u8 0) .i64 .i64 Tryz.underlying38 Tryz.underlying3 hi.out hz0.out n h0 (by rw [hz1.out]; decide) (by omega) (by rw [hz2.out]; omega)) ?_; generalize hc:grownCap w n 0 5 = c; have Hc:=Lib.hid hc; clear hc)
 go_ret
 have h2:=grownCap_ge w n 0 5
 have h3:=grownCap_le_maxLen w n 0 5 (by unfold maxLen; omega)
 rw [Hc.out] at h2 h3
 refine ⟨c,_,rfl,h2,h3,?_,Go.heap_alloc_new w.drew _,((Below.refl _ _).drew).alloc (Nat.le_refl _) _⟩
 simp [Builtin.zeroCells]
 omega
structure CInv (B c:Nat) (L:List Int) (w wr:World):Prop where
 own:wr.ownsRow B 5 1 (.slice (some ⟨B,0,none⟩) L.length c) L.length (vals L)
 low:Below B w wr
theorem CInv.byt {B c:Nat} {L:List Int} {w wr:World} (h:CInv B c L w wr):Byt wr (some ⟨B,0,none⟩) c L:=by
 obtain ⟨_,h⟩:=h.own
 rcases h with ⟨h,_⟩ | ⟨g',cap,cur,hv,_,hh,hcap,_,hs,ht⟩
 · cases h
 · simp only [Value.slice.injEq,Option.some.injEq,Addr.mk.injEq,and_true,true_and] at hv
   obtain ⟨rfl,rfl⟩:=hv
   refine ⟨hcap,(fun h => by cases h),fun _ => ⟨B,0,rfl,(Array.getElem?_eq_some_iff.1 hh).1,fun j hj => ?_⟩⟩
   rw [Nat.zero_add,cell_row hh]
   have h2:cur[j]? = cur.toList[j]?:=by simp
   have h3:(cur.toList.take (L.length * 1))[j]? = cur.toList[j]?:=by rw [List.getElem?_take,if_pos (by omega)]
   rw [h2,← h3,ht]
   simp [vals,hj]
set_option maxRecDepth 100000 in
set_option maxHeartbeats 1000000 in
theorem concat_any (A1 A2:Option Addr) (c1 c2 gs n1 n2:Nat) (L1 L2:List Int) (w:World) (hn1:L1.length = n1) (hn2:L2.length = n2) (h1:n1 ≤ 200000) (h2:n2 ≤ 200000) (hp:0 < n1 + n2)
 (hgs:w.heap[gs]? = some (.cells #[.slice A1 n1 c1,.slice A2 n2 c2] 38 (0,0))) (b1:Byt w A1 c1 L1) (b2:Byt w A2 c2 L2) :
 Calls Tryz.prog 99 #[.slice (some ⟨gs,0,none⟩) 2 2] w fun e' w' => ∃ g c,e' = .returned (.slice (some ⟨g,0,none⟩) (n1 + n2) c) ∧ Byt w' (some ⟨g,0,none⟩) c (L1 ++ L2) ∧ Below w.heap.size w w':=by
 have B1:=Lib.hid b1
 have B2:=Lib.hid b2
 have N1:=Lib.hid hn1
 have N2:=Lib.hid hn2
 have hlt:gs < w.heap.size:=(Array.getElem?_eq_some_iff.1 hgs).1
 have d0:=cell_row hgs 0
 have d1:=cell_row hgs 1
 simp only [List.getElem?_toArray,List.getElem?_cons_zero,List.getElem?_cons_succ] at d0 d1
 have D0:=Lib.hid d0
 have D1:=Lib.hid d1
 clear hgs b1 b2 hn1 hn2
 go_enter Tryz.func99,Tryz.ntmps99
 go_wp2
 go_loop [3,11] (fun s i => (i = .int .i64 0 ∧ s = .int .i64 0) ∨ (i = .int .i64 1 ∧ s = .int .i64 (n1:Int)) ∨ (i = .int .i64 2 ∧ s = .int .i64 ((n1:Int) + n2))) (fun _ i => 2 - (intOf i).toNat)
 case atStart => exact .inl ⟨rfl,rfl⟩
 case round =>
  rcases hrel with ⟨rfl,rfl⟩ | ⟨rfl,rfl⟩ | ⟨rfl,rfl⟩
  · go_wp2
    go_round
    case rel => exact .inr (.inl ⟨rfl,by simp⟩)
    case measure => simp [intOf]
  · go_wp2
    go_round
    case rel => exact .inr (.inr ⟨rfl,rfl⟩)
    case measure => simp [intOf]
  · have hsum:(n1:Int) + n2 = ((n1 + n2:Nat):Int):=by omega
    rw [hsum]
    have Hg:=Lib.hid (grow_any (n1 + n2) (by omega) (by omega) w)
    clear hsum
    go_wp2_with (go_at_call 120; refine Hg.out.mono ?_; rintro e w1 ⟨c,C,rfl,hc1,hc2,hC,hr,hlow⟩; have HC:=Lib.hid hC; have Hr:=Lib.hid hr; clear hC hr)
    obtain ⟨i0,hi0,hz00,hz10,hz20⟩:=info_parts info5
    have hi:=Lib.hid hi0
    have hz1:=Lib.hid hz10
    clear hi0 hz00 hz10 hz20
    go_loopw [6,27] (fun v i wr => (i = .int .i64 0 ∧ v = .slice (some ⟨w.heap.size,0,none⟩) 0 c ∧ CInv w.heap.size c [] w wr) ∨ (i = .int .i64 1 ∧ v = .slice (some ⟨w.heap.size,0,none⟩) n1 c ∧ CInv w.heap.size c L1 w wr) ∨ (i = .int .i64 2 ∧ v = .slice (some ⟨w.heap.size,0,none⟩) (n1 + n2) c ∧ CInv w.heap.size c (L1 ++ L2) w wr)) (fun _ i _ => 2 - (intOf i).toNat)
    case atStart => exact .inl ⟨rfl,rfl,⟨⟨by simp [vals],.inr ⟨_,c,C,rfl,Nat.le_refl _,Hr.out,Nat.zero_le _,hc2,by rw [HC.out]; omega,by simp [vals]⟩⟩,hlow⟩⟩
    case round =>
     clear Hr HC hlow
     rcases hrel with ⟨rfl,rfl,hinv⟩ | ⟨rfl,rfl,hinv⟩ | ⟨rfl,rfl,hinv⟩
     · have e0:wr.cell? ⟨gs,0,none⟩ = some (.slice A1 n1 c1):=(hinv.low.cell (p:=⟨gs,0,none⟩) hlt).trans D0.out
       have hsz:=hinv.low.size
       go_wp2_with (at_builtin; refine wpList_append_fits_any _ rfl (.tmp 31) (.tmp 32) 38 rfl w.heap.size 5 i0 1 Tryz.underlying38 hi.out hz1.out w.heap.size 0 c (vals []) rfl hinv.own A1 n1 c1 (vals L1) rfl (by rw [vals_length,N1.out]; omega) (fun h => ⟨by have:=B1.out.1; have:=B1.out.2.1 h; have:=N1.out; omega,B1.out.2.1 h⟩) (fun ad h => B1.out.cells (fun p hp => hinv.low.cell hp) ad h) (vals_one _) (by omega) ?_; intro w2 hown2 hgrow2; have low2:=hinv.low.grown hgrow2 (by omega) (fun k hk => by cases hk; exact Nat.le_refl _); have Hown2:=Lib.hid hown2; clear hown2 hgrow2)
       go_roundw
       case rel => exact .inr (.inl ⟨rfl,by simp,⟨by have:=Hown2.out; rw [N1.out]; simpa [vals] using this,low2⟩⟩)
       case measure => simp [intOf]
     · have e1:wr.cell? ⟨gs,1,none⟩ = some (.slice A2 n2 c2):=(hinv.low.cell (p:=⟨gs,1,none⟩) hlt).trans D1.out
       have hsz:=hinv.low.size
       have hown:wr.ownsRow w.heap.size 5 1 (.slice (some ⟨w.heap.size,0,none⟩) n1 c) n1 (vals L1):=by have:=hinv.own; rwa [N1.out] at this
       have Hown:=Lib.hid hown
       clear hown
       go_wp2_with (at_builtin; refine wpList_append_fits_any _ rfl (.tmp 31) (.tmp 32) 38 rfl w.heap.size 5 i0 1 Tryz.underlying38 hi.out hz1.out w.heap.size n1 c (vals L1) rfl Hown.out A2 n2 c2 (vals L2) rfl (by rw [vals_length,N2.out]; omega) (fun h => ⟨by have:=B2.out.1; have:=B2.out.2.1 h; have:=N2.out; omega,B2.out.2.1 h⟩) (fun ad h => B2.out.cells (fun p hp => hinv.low.cell hp) ad h) (vals_one _) (by omega) ?_; intro w2 hown2 hgrow2; have low2:=hinv.low.grown hgrow2 (by omega) (fun k hk => by cases hk; exact Nat.le_refl _); have Hown2:=Lib.hid hown2; clear hown2 hgrow2)
       go_roundw
       case rel => exact .inr (.inr ⟨rfl,rfl,⟨by have:=Hown2.out; rw [List.length_append,N1.out,N2.out]; simpa [vals] using this,low2⟩⟩)
       case measure => simp [intOf]
     · go_wp2
       go_ret
       exact ⟨w.heap.size,c,rfl,hinv.byt,hinv.low⟩
def blk (L:List Int) (k:Nat):List Int:=(L.drop (64 * k)).take 64
def foldB (s:W8) (L:List Int):Nat → W8
 | 0 => s
 | k + 1 => mixK KW (foldB s L k) (blk L k)
theorem blk_length {L:List Int} {k:Nat} (h:64 * k + 64 ≤ L.length):(blk L k).length = 64:=by simp [blk]; omega
theorem InB.blk {L:List Int} (h:InB L) (k:Nat):InB (blk L k):=(h.drop _).take _
def zero64:Array Value:=#[.int .u8 0,.int .u8 0,.int .u8 0,.int .u8 0,.int .u8 0,.int .u8 0,.int .u8 0,.int .u8 0,.int .u8 0,.int .u8 0,.int .u8 0,.int .u8 0,.int .u8 0,.int .u8 0,.int .u8 0,.int .u8 0,.int .u8 0,.int .u8 0,.int .u8 0,.int .u8 0,.int .u8 0,.int .u8 0,.int .u8 0,.int .u8 0,.int .u8 0,.int .u8 0,.int .u8 0,.int .u8 0,.int .u8 0,.int .u8 0,.int .u8 0,.int .u8 0,.int .u8 0,.int .u8 0,.int .u8 0,.int .u8 0,.int .u8 0,.int .u8 0,.int .u8 0,.int .u8 0,.int .u8 0,.int .u8 0,.int .u8 0,.int .u8 0,.int .u8 0,.int .u8 0,.int .u8 0,.int .u8 0,.int .u8 0,.int .u8 0,.int .u8 0,.int .u8 0,.int .u8 0,.int .u8 0,.int .u8 0,.int .u8 0,.int .u8 0,.int .u8 0,.int .u8 0,.int .u8 0,.int .u8 0,.int .u8 0,.int .u8 0,.int .u8 0]
theorem copied (cur:Array Value) (l:List Int) (h1:cur.size = 64) (h2:l.length = 64):(cur.toList.take 0 ++ (vals l ++ cur.toList.drop (0 + (vals l).length))).toArray = u8s l:=by
 have:cur.toList.drop (0 + (vals l).length) = []:=List.drop_eq_nil_of_le (by rw [vals_length]; simp; omega)
 rw [this]
 simp [u8s,vals]
structure MInv (s:W8) (L:List Int) (N k c:Nat) (A:Option Addr) (wb w wr:World):Prop where
 byt:Byt wb A c (L.drop (64 * k))
 st:wr.heap[N]? = some (.cells (u32s (foldB s L k).list) 192 (0,0))
 res:∃ Z:Array Value,Z.size = 8 ∧ wr.heap[N + 1]? = some (.cells Z 192 (0,0))
 low:Below N w wr
theorem info26:(Tryz.prog.info? 5).map (·.size) = some 1:=by kernel_rfl

set_option maxRecDepth 100000 in
set_option maxHeartbeats 1000000 in
theorem mixBlocks_any (s:W8) (L:List Int) (A:Option Addr) (c n:Nat) (wb w:World) (hn:L.length = n) (hb:InB L) (hB:Byt wb A c L) (hwb:Below wb.heap.size wb w) (hL:Laid w) :
 Calls Tryz.prog 158 #[.agg (u32s s.list),.slice A n c] w fun e' w' => ∃ A' c',e' = .returned (.tuple #[.agg (u32s (foldB s L (n / 64)).list),.slice A' (n % 64) c']) ∧ Byt wb A' c' (L.drop (64 * (n / 64))) ∧ Below w.heap.size w w':=by
 have Hn:=Lib.hid hn
 have Hb:=Lib.hid hb
 have HB:=Lib.hid hB
 have HL:=Lib.hid hL
 have h2:=Lib.hid (two_new w (.cells (u32s s.list) 192))
 clear hn hb hB hL
 go_enter Tryz.func158,Tryz.ntmps158
 go_wp2
 go_loopw [1] (fun v wr => ∃ (k c':Nat) (A':Option Addr),64 * k ≤ n ∧ v = .slice A' (n - 64 * k) c' ∧ MInv s L w.heap.size k c' A' wb w wr) (fun v _ => match v with | .slice _ m _ => m | _ => 0)
 case atStart => exact ⟨0,c,A,Nat.zero_le _,rfl,by simpa using HB.out,(h2.out _).1,⟨_,rfl,(h2.out _).2⟩,((Below.refl _ _).alloc (Nat.le_refl _) _).alloc (by simp) _⟩
 case round =>
  obtain ⟨k,c',A',hk,rfl,hinv⟩:=hrel
  clear h2
  by_cases hlt:64 ≤ n - 64 * k
  · have hlen:(blk L k).length = 64:=blk_length (by have:=Hn.out; omega)
    have hdl:(L.drop (64 * k)).length = n - 64 * k:=by simp [Hn.out]
    obtain ⟨g,off,rfl,hg,hcell⟩:=hinv.byt.2.2 (by rw [hdl]; omega)
    have hcc:=hinv.byt.1
    rw [hdl] at hcc
    have hwr:=hinv.low.size
    have hwbs:=hwb.size
    have hsz:=HL.out.sz
    obtain ⟨w2,hw2⟩:∃ w2,w2 = wr.alloc (.cells (u8s (blk L k)) 167):=⟨_,rfl⟩
    have low2:Below w.heap.size w w2:=by rw [hw2]; exact hinv.low.alloc hwr _
    have hNlt:w.heap.size < wr.heap.size:=(Array.getElem?_eq_some_iff.1 hinv.st).1
    have st2:w2.heap[w.heap.size]? = some (.cells (u32s (foldB s L k).list) 192):=by rw [hw2]; exact (Go.heap_alloc_old wr _ hNlt).trans hinv.st
    have bl2:w2.heap[wr.heap.size]? = some (.cells (u8s (blk L k)) 167):=by rw [hw2]; exact Go.heap_alloc_new wr _
    have hs2:wr.heap.size + 1 = w2.heap.size:=by rw [hw2]; simp
    have laid2:Laid w2:=HL.out.below low2 hsz
    have Hsrc:Hid (∀ j v,(vals (blk L k))[j]? = some v → (wr.alloc (.cells zero64 167)).cell? ((⟨g,off,none⟩:Addr).add j) = some v):=by
     intro j v hv
     obtain ⟨hj,rfl⟩:=vals_get hv
     rw [Addr.add_mid,World.cell?_alloc_past _ _ _ (by omega),hinv.low.cell (p:=⟨g,off + j,none⟩) (Nat.lt_of_lt_of_le hg hwb.size),hwb.cell (p:=⟨g,off + j,none⟩) hg,hcell j (by rw [hdl]; omega)]
     simp [blk,List.getD_eq_getElem?_getD,List.getElem?_drop,show j < 64 by omega]
    have Hlen:=Lib.hid hlen
    have Hw2:=Lib.hid hw2
    have St2:=Lib.hid st2
    have Bl2:=Lib.hid bl2
    have Hcell:=Lib.hid hcell
    have Hi8:Hid ((Tryz.prog.info? 192).map (·.size) = some (u32s (foldB s L k).list).size):=info24
    have Hi64:Hid ((Tryz.prog.info? 167).map (·.size) = some (u8s (blk L k)).size):=by show _ = _; rw [u8s_size,hlen]; exact info25
    have Hi8':Hid ((Tryz.prog.info? 192).map (·.size) = some (u32s (foldB s L (k + 1)).list).size):=info24
    have Hmin:Hid ((vals (blk L k)).length = Nat.min (n - 64 * k) 64):=by show _ = _; rw [vals_length,hlen]; exact (Nat.min_eq_right hlt).symm
    have hst:w2.heap.size ≤ w2.heap.size:=Nat.le_refl _
    clear hw2 st2 bl2 hcell hlen hdl hs2
    go_wp2_with (first
     | (refine wpList_copy_own rfl (.tmp 10) (.tmp 11) 38 38 rfl 5 Tryz.underlying38 info26 wr.heap.size 0 64 64 ⟨g,off,none⟩ (n - 64 * k) c' rfl rfl zero64 167 (Go.heap_alloc_new _ _) (vals (blk L k)) Hmin.out Hsrc.out (by rw [vals_length,Hlen.out]; decide) (vals_one _) ?_; rw [World.setRow_alloc_new,copied _ _ rfl Hlen.out,← Hw2.out])
     | (refine wpList_load_row rfl 192 (.tmp 2) rfl w.heap.size rfl 192 (u32s (foldB s L k).list) (0,0) _ St2.out Tryz.underlying192 rfl Hi8.out ?_)
     | (refine wpList_load_row rfl 167 (.tmp 6) rfl wr.heap.size rfl 167 (u8s (blk L k)) (0,0) _ Bl2.out Tryz.underlying167 rfl Hi64.out ?_)
     | (go_at_call 167; refine (mix_any (foldB s L k) (blk L k) Hlen.out (Hb.out.blk k) _ laid2).mono ?_; rintro e w3 ⟨rfl,low3⟩)
     | (refine wpList_store_row rfl 192 (.tmp 2) (.tmp 15) rfl w.heap.size (u32s (foldB s L (k + 1)).list) rfl rfl 192 _ ((low3.block _ (Nat.lt_of_le_of_lt (Nat.le_refl _) (Array.getElem?_eq_some_iff.1 St2.out).1)).trans St2.out) Hi8'.out rfl (u32s_one _) ?_))
    go_roundw
    case rel =>
     have hw2:=Hw2.out
     have hcut:=hinv.byt.cut (n:=64) (by simp [Hn.out]; omega)
     rw [List.drop_drop] at hcut
     refine ⟨k + 1,c' - 64,if c' = 64 then some ⟨g,off,none⟩ else some ⟨g,off + 64,none⟩,by omega,by rw [show n - 64 * (k + 1) = n - 64 * k - 64 by omega],?_,?_,?_,?_⟩
     · simpa [Addr.add_mid,Nat.mul_add,Nat.add_comm,Nat.add_left_comm] using hcut
     · exact setRow_heap w3 _ _ _ _ _ ((low3.block _ (Array.getElem?_eq_some_iff.1 St2.out).1).trans St2.out)
     · obtain ⟨Z,hZ,hz⟩:=hinv.res
       have hzlt:=(Array.getElem?_eq_some_iff.1 hz).1
       refine ⟨Z,hZ,?_⟩
       rw [setRow_other w3 _ _ _ (by omega),low3.block _ (by rw [hw2]; simp; omega),hw2]
       exact (Go.heap_alloc_old wr _ hzlt).trans hz
     · exact below_setRow (low2.trans (low3.mono low2.size)) (Nat.le_refl _) _
    case measure =>
     show n - 64 * k - 64 < n - 64 * k
     omega
  · have hk64:k = n / 64:=by omega
    have hmod:n - 64 * k = n % 64:=by omega
    obtain ⟨Z,hZ,hz⟩:=hinv.res
    have byt:=hinv.byt
    have low:=hinv.low
    have St:=Lib.hid hinv.st
    have Hz:=Lib.hid hz
    have HZ:=Lib.hid hZ
    have Hk64:=Lib.hid hk64
    have Hmod:=Lib.hid hmod
    have Hi8:Hid ((Tryz.prog.info? 192).map (·.size) = some (u32s (foldB s L k).list).size):=info24
    clear hz hZ hinv hk64 hmod
    go_wp2_with (first
     | (refine wpList_load_row rfl 192 (.tmp 2) rfl w.heap.size rfl 192 (u32s (foldB s L k).list) (0,0) _ St.out Tryz.underlying192 rfl Hi8.out ?_)
     | (refine wpList_store_row rfl 192 (.tmp 4) (.tmp 18) rfl (w.heap.size + 1) (u32s (foldB s L k).list) rfl rfl 192 _ Hz.out Hi8.out HZ.out (u32s_one _) ?_))
    refine bodyPost_ret (v:=.tuple #[.agg (u32s (foldB s L k).list),.slice A' (n - 64 * k) c']) (results_row_tmp rfl _ _ (w.heap.size + 1) 192 _ (0,0) _ _ rfl rfl (setRow_heap wr _ _ _ _ _ Hz.out) Tryz.underlying192 rfl Hi8.out) rfl ?_
    rw [← Hk64.out,← Hmod.out]
    have low':Below w.heap.size w (wr.setRow (w.heap.size + 1) (u32s (foldB s L k).list)):=below_setRow low (by omega) _
    exact ⟨A',c',rfl,byt,low'⟩
theorem xor_zero (a b:Int) (h1:0 ≤ a) (h2:a < 256) (h3:0 ≤ b) (h4:b < 256):bits .xor .u8 a b = 0 ↔ a = b:=by
 rw [u8_xor a b h1 h2 h3 h4]
 constructor
 · intro h
   have h':a.toNat ^^^ b.toNat = 0:=by omega
   have h2':=congrArg (a.toNat ^^^ ·) h'
   simp only [← Nat.xor_assoc,Nat.xor_self,Nat.zero_xor,Nat.xor_zero] at h2'
   omega
 · rintro rfl
   simp
theorem or_zero (a b:Int) (h1:0 ≤ a) (h2:a < 256) (h3:0 ≤ b) (h4:b < 256):bits .or .u8 a b = 0 ↔ a = 0 ∧ b = 0:=by
 rw [u8_or a b h1 h2 h3 h4]
 constructor
 · intro h
   have h':a.toNat ||| b.toNat = 0:=by omega
   have:=Nat.or_eq_zero_iff.1 h'
   omega
 · rintro ⟨rfl,rfl⟩
   rfl
theorem or_in (a b:Int) (h1:0 ≤ a) (h2:a < 256) (h3:0 ≤ b) (h4:b < 256):0 ≤ bits .or .u8 a b ∧ bits .or .u8 a b < 256:=by
 rw [u8_or a b h1 h2 h3 h4]
 have:a.toNat ||| b.toNat < 2 ^ 8:=Nat.or_lt_two_pow (by omega) (by omega)
 omega
theorem xor_in (a b:Int) (h1:0 ≤ a) (h2:a < 256) (h3:0 ≤ b) (h4:b < 256):0 ≤ bits .xor .u8 a b ∧ bits .xor .u8 a b < 256:=by
 rw [u8_xor a b h1 h2 h3 h4]
 have:a.toNat ^^^ b.toNat < 2 ^ 8:=Nat.xor_lt_two_pow (by omega) (by omega)
 omega
def Same (L M:List Int) (k:Nat) (d:Int):Prop:=0 ≤ d ∧ d < 256 ∧ (d = 0 ↔ ∀ j,j < k → L.getD j 0 = M.getD j 0)
theorem Same.next {L M:List Int} {k:Nat} {d:Int} (h:Same L M k d) (hL:InB L) (hM:InB M):Same L M (k + 1) (bits .or .u8 d (bits .xor .u8 (L.getD k 0) (M.getD k 0))):=by
 obtain ⟨h1,h2,h3⟩:=h
 have hl:=hL k
 have hm:=hM k
 have hx:=xor_in _ _ hl.1 hl.2 hm.1 hm.2
 refine ⟨(or_in _ _ h1 h2 hx.1 hx.2).1,(or_in _ _ h1 h2 hx.1 hx.2).2,?_⟩
 rw [or_zero _ _ h1 h2 hx.1 hx.2,xor_zero _ _ hl.1 hl.2 hm.1 hm.2,h3]
 constructor
 · rintro ⟨ha,hb⟩ j hj
   by_cases e:j = k
   · rw [e]; exact hb
   · exact ha j (by omega)
 · intro h
   exact ⟨fun j hj => h j (by omega),h k (by omega)⟩
theorem Same.eq {L M:List Int} {n:Nat} {d:Int} (h:Same L M n d) (hL:L.length = n) (hM:M.length = n):d = 0 ↔ L = M:=by
 rw [h.2.2]
 constructor
 · intro h
   apply List.ext_getElem (by omega)
   intro j h1 h2
   have:=h j (by omega)
   simpa [List.getD_eq_getElem?_getD,h1,h2] using this
 · rintro rfl j _
   rfl
def EqPost (L M:List Int) (n:Nat) (w:World) (e:Ending) (w':World):Prop:=∃ d q,Same L M n d ∧ e = .returned (.bool (d == 0)) ∧ w' = w.drewN q
set_option maxRecDepth 100000 in
set_option maxHeartbeats 1000000 in
theorem equal_loop (L M:List Int) (A A2:Option Addr) (c c2 n:Nat) (w:World) (hn:L.length = n) (hm:M.length = n) (hb:InB L) (hb2:InB M) (hB:Byt w A c L) (hB2:Byt w A2 c2 M) (hx:n ≤ 9223372036854775807) :
 Calls Tryz.prog 108 #[.slice A n c,.slice A2 n c2] w (EqPost L M n w):=by
 have Hn:=Lib.hid hn
 have Hm:=Lib.hid hm
 have Hb:=Lib.hid hb
 have Hb2:=Lib.hid hb2
 have HB:=Lib.hid hB
 have HB2:=Lib.hid hB2
 clear hn hm hb hb2 hB hB2
 go_enter Tryz.func108,Tryz.ntmps108
 go_wp2
 go_loopw [5,14] (fun v i wr => ∃ (k q:Nat) (d:Int),k ≤ n ∧ v = .int .u8 d ∧ i = .int .i64 k ∧ Hid (Same L M k d) ∧ Hid (wr = w.drewN q)) (fun _ i _ => n - (intOf i).toNat)
 case atStart => exact ⟨0,0,0,Nat.zero_le _,rfl,rfl,⟨by omega,by omega,by simp⟩,rfl⟩
 case round =>
  obtain ⟨k,q,d,hk,rfl,rfl,hs,hwr⟩:=hrel
  by_cases hlt:k < n
  · obtain ⟨g,off,rfl,hg,hc⟩:=HB.out.2.2 (by rw [Hn.out]; omega)
    obtain ⟨g2,off2,rfl,hg2,hc2⟩:=HB2.out.2.2 (by rw [Hm.out]; omega)
    have c1:wr.cell? ⟨g,off + k,none⟩ = some (.int .u8 (L.getD k 0)):=by rw [hwr.out]; exact hc k (by rw [Hn.out]; exact hlt)
    have c3:wr.cell? ⟨g2,off2 + k,none⟩ = some (.int .u8 (M.getD k 0)):=by rw [hwr.out]; exact hc2 k (by rw [Hm.out]; exact hlt)
    obtain ⟨a,ha⟩:∃ a,a = L.getD k 0:=⟨_,rfl⟩
    obtain ⟨b,hbb⟩:∃ b,b = M.getD k 0:=⟨_,rfl⟩
    rw [← ha] at c1
    rw [← hbb] at c3
    have Ha:=Lib.hid ha
    have Hbb:=Lib.hid hbb
    have hlt':(k:Int) < n:=by omega
    clear hc hc2 ha hbb
    go_wp2
    go_quiet (fail)
    go_wp2
    go_roundw
    case rel =>
     refine ⟨k + 1,q + nq,_,by omega,rfl,by go_num,?_,?_⟩
     · show Same _ _ _ _
       rw [Ha.out,Hbb.out]; exact hs.out.next Hb.out Hb2.out
     · show wr.drewN nq = _
       rw [hwr.out,World.drewN_drewN]
    case measure => simp [intOf]; omega
  · have h64:k = n:=by omega
    rw [h64] at hs
    clear h64
    by_cases hd:d = 0
    · go_wp2
      go_ret
      exact ⟨d,q,hs.out,by rw [hd]; rfl,hwr.out⟩
    · go_wp2
      go_ret
      exact ⟨d,q,hs.out,by simp,hwr.out⟩
theorem equal_yes (L:List Int) (A A2:Option Addr) (c c2 n:Nat) (w:World) (hn:L.length = n) (hb:InB L) (hB:Byt w A c L) (hB2:Byt w A2 c2 L) (hx:n ≤ 9223372036854775807) :
 Calls Tryz.prog 108 #[.slice A n c,.slice A2 n c2] w fun e w' => e = .returned (.bool true) ∧ ∃ q,w' = w.drewN q:=by
 refine (equal_loop L L A A2 c c2 n w hn hn hb hb hB hB2 hx).mono ?_
 rintro e w' ⟨d,q,hs,rfl,rfl⟩
 have:=(hs.eq hn hn).2 rfl
 exact ⟨by rw [this]; rfl,q,rfl⟩
theorem equal_no (L M:List Int) (A A2:Option Addr) (c c2 n m:Nat) (w:World) (hn:L.length = n) (hm:M.length = m) (hb:InB L) (hb2:InB M) (hB:Byt w A c L) (hB2:Byt w A2 c2 M) (hx:n ≤ 9223372036854775807) (hne:L ≠ M) :
 Calls Tryz.prog 108 #[.slice A n c,.slice A2 m c2] w fun e w' => e = .returned (.bool false) ∧ ∃ q,w' = w.drewN q:=by
 by_cases e:n = m
 · subst e
   refine (equal_loop L M A A2 c c2 n w hn hm hb hb2 hB hB2 hx).mono ?_
   rintro e w' ⟨d,q,hs,rfl,rfl⟩
   have:d ≠ 0:=fun h => hne ((hs.eq hn hm).1 h)
   exact ⟨by simp [this],q,rfl⟩
 · have h1:¬ (n:Int) = m:=by omega
   clear hB hB2 hn hm hb hb2
   go_enter Tryz.func108,Tryz.ntmps108
   go_wp2
   go_ret
   exact ⟨rfl,0,rfl⟩
end Go.Proofs.YteeghgjkjicjoaaGreatDoor
namespace Go.Proofs.YteeghgjkjicjoaaGreatDoor
open Go.RowKit
noncomputable def opLoad (v:Value) (w:World):Result Next:=(do pure (.value (← Instr.loadAt 192 v)):Sem Next).run Tryz.prog w
noncomputable def opStore (v x:Value) (w:World):Result Next:=(do Instr.storeAt 192 v x; pure .skip:Sem Next).run Tryz.prog w
theorem exec_load24 (ρ:Operand → Value) (d:Option Tmp) (x:Operand) (t:TypeId) (p:String) (af:Array Edge) (gd:Option (Nat × Bool)) (w:World) :
 (execOp ρ { dst:=d,op:=Op.load 192 x,type:=t,pos:=p,after:=af,guard:=gd }).run Tryz.prog w = opLoad (ρ x) w:=rfl
theorem exec_store24 (ρ:Operand → Value) (d:Option Tmp) (x y:Operand) (t:TypeId) (p:String) (af:Array Edge) (gd:Option (Nat × Bool)) (w:World) :
 (execOp ρ { dst:=d,op:=Op.store 192 x y,type:=t,pos:=p,after:=af,guard:=gd }).run Tryz.prog w = opStore (ρ x) (ρ y) w:=rfl
theorem opLoad_eq {w:World} {g:Nat} {s:W8} (h:w.heap[g]? = some (.cells (u32s s.list) 192 (0,0))):opLoad (.pointer (some ⟨g,0,none⟩)) w = .ok (.value (.agg (u32s s.list))) w:=by
 unfold opLoad
 simp only [Instr.loadAt,Instr.sureAddr,Sem.run_bind,Sem.run_pure,Result.andThen_ok,run_loadVar_row w g 192 192 _ (0,0) _ h Tryz.underlying192 rfl info24]
theorem opStore_eq {w:World} {g:Nat} {s t:W8} (h:w.heap[g]? = some (.cells (u32s s.list) 192 (0,0))):opStore (.pointer (some ⟨g,0,none⟩)) (.agg (u32s t.list)) w = .ok .skip (w.setRow g (u32s t.list)):=by
 unfold opStore
 simp only [Instr.storeAt,Instr.sureAddr,Sem.run_bind,Sem.run_pure,Result.andThen_ok,run_storeVar_row w g 192 192 _ (u32s t.list) h info24 rfl (u32s_one _)]
attribute [irreducible] opLoad opStore
attribute [local go_sem ↓] exec_load24 exec_store24
def foldAll (s:W8) (L:List Int):W8:=foldB s L (L.length / 64)
def fin (s:W8) (L:List Int) (n:Nat):List Int:=hashL (foldAll (foldAll s L) (L.drop (64 * (L.length / 64)) ++ padL n)).list
def zero32:Array Value:=#[.int .u8 0,.int .u8 0,.int .u8 0,.int .u8 0,.int .u8 0,.int .u8 0,.int .u8 0,.int .u8 0,.int .u8 0,.int .u8 0,.int .u8 0,.int .u8 0,.int .u8 0,.int .u8 0,.int .u8 0,.int .u8 0,.int .u8 0,.int .u8 0,.int .u8 0,.int .u8 0,.int .u8 0,.int .u8 0,.int .u8 0,.int .u8 0,.int .u8 0,.int .u8 0,.int .u8 0,.int .u8 0,.int .u8 0,.int .u8 0,.int .u8 0,.int .u8 0]
structure FInv (t:W8) (N:Nat) (w wr:World):Prop where
 st:wr.heap[N]? = some (.cells (u32s t.list) 192 (0,0))
 res:∃ Z:Array Value,Z.size = 32 ∧ wr.heap[N + 1]? = some (.cells Z 24 (0,0))
 low:Below N w wr
theorem FInv.size {t:W8} {N:Nat} {w wr:World} (h:FInv t N w wr):N + 2 ≤ wr.heap.size:=by
 obtain ⟨Z,_,hz⟩:=h.res
 have:=(Array.getElem?_eq_some_iff.1 hz).1
 omega
theorem FInv.below {t:W8} {N:Nat} {w wr w':World} (h:FInv t N w wr) (hb:Below wr.heap.size wr w'):FInv t N w w':=by
 have hs:=h.size
 obtain ⟨Z,hZ,hz⟩:=h.res
 exact ⟨(hb.block _ (by omega)).trans h.st,⟨Z,hZ,(hb.block _ (by omega)).trans hz⟩,h.low.trans (hb.mono (by omega))⟩
theorem FInv.drew {t:W8} {N:Nat} {w wr:World} (h:FInv t N w wr):FInv t N w wr.drew:=h.below ((Below.refl _ _).drew)
theorem FInv.alloc {t:W8} {N:Nat} {w wr:World} (h:FInv t N w wr) (o:Obj):FInv t N w (wr.alloc o):=h.below ((Below.refl _ _).alloc (Nat.le_refl _) _)
theorem FInv.set {t:W8} {N:Nat} {w wr:World} (h:FInv t N w wr) (t':W8):FInv t' N w (wr.setRow N (u32s t'.list)):=by
 obtain ⟨Z,hZ,hz⟩:=h.res
 exact ⟨setRow_heap wr _ _ _ _ _ h.st,⟨Z,hZ,by rw [setRow_other wr _ _ _ (by omega)]; exact hz⟩,below_setRow h.low (Nat.le_refl _) _⟩
theorem FInv.load {t:W8} {N:Nat} {w wr:World} (h:FInv t N w wr):opLoad (.pointer (some ⟨N,0,none⟩)) wr = .ok (.value (.agg (u32s t.list))) wr:=opLoad_eq h.st
theorem FInv.store {t:W8} {N:Nat} {w wr:World} (h:FInv t N w wr) (t':W8):opStore (.pointer (some ⟨N,0,none⟩)) (.agg (u32s t'.list)) wr = .ok .skip (wr.setRow N (u32s t'.list)):=opStore_eq h.st
theorem FInv.cells {a b c d e f g h:Int} {N:Nat} {w wr:World} (k:FInv ⟨a,b,c,d,e,f,g,h⟩ N w wr) :
 wr.cell? ⟨N,0,none⟩ = some (.int .u32 a) ∧ wr.cell? ⟨N,1,none⟩ = some (.int .u32 b) ∧ wr.cell? ⟨N,2,none⟩ = some (.int .u32 c) ∧ wr.cell? ⟨N,3,none⟩ = some (.int .u32 d) ∧
 wr.cell? ⟨N,4,none⟩ = some (.int .u32 e) ∧ wr.cell? ⟨N,5,none⟩ = some (.int .u32 f) ∧ wr.cell? ⟨N,6,none⟩ = some (.int .u32 g) ∧ wr.cell? ⟨N,7,none⟩ = some (.int .u32 h) ∧ N < wr.heap.size :=
 ⟨cell_row k.st 0,cell_row k.st 1,cell_row k.st 2,cell_row k.st 3,cell_row k.st 4,cell_row k.st 5,cell_row k.st 6,cell_row k.st 7,by have:=k.size; omega⟩
theorem FInv.free {t:W8} {N:Nat} {w wr:World} (k:FInv t N w wr) :
 wr.frozen? ⟨N,0,none⟩ = false ∧ wr.frozen? ⟨N,1,none⟩ = false ∧ wr.frozen? ⟨N,2,none⟩ = false ∧ wr.frozen? ⟨N,3,none⟩ = false ∧ wr.frozen? ⟨N,4,none⟩ = false ∧ wr.frozen? ⟨N,5,none⟩ = false ∧ wr.frozen? ⟨N,6,none⟩ = false ∧ wr.frozen? ⟨N,7,none⟩ = false :=
 ⟨free_row k.st 0,free_row k.st 1,free_row k.st 2,free_row k.st 3,free_row k.st 4,free_row k.st 5,free_row k.st 6,free_row k.st 7⟩
structure RInv (C:Array Value) (N:Nat) (w wr:World):Prop where
 st:wr.heap[N]? = some (.cells C 192 (0,0))
 res:∃ Z:Array Value,Z.size = 32 ∧ wr.heap[N + 1]? = some (.cells Z 24 (0,0))
 low:Below N w wr
theorem RInv.set {C:Array Value} {N:Nat} {w wr:World} (k:RInv C N w wr) (i:Nat) (v:Value):RInv (C.setIfInBounds i v) N w (wr.setCell ⟨N,i,none⟩ v):=by
 obtain ⟨Z,hZ,hz⟩:=k.res
 exact ⟨heap_setCell_same _ _ _ _ _ _ k.st,⟨Z,hZ,by rw [heap_setCell_other _ _ _ _ (by simp)]; exact hz⟩,k.low.setCell (by simp) _⟩
theorem eight_row (s:W8) (a b c d e f g h:Int):((((((((u32s s.list).setIfInBounds 0 (.int .u32 a)).setIfInBounds 1 (.int .u32 b)).setIfInBounds 2 (.int .u32 c)).setIfInBounds 3 (.int .u32 d)).setIfInBounds 4 (.int .u32 e)).setIfInBounds 5 (.int .u32 f)).setIfInBounds 6 (.int .u32 g)).setIfInBounds 7 (.int .u32 h) = u32s (W8.mk a b c d e f g h).list:=by
 simp [u32s,W8.list]
theorem FInv.eight {s:W8} {N:Nat} {w wr:World} (k:FInv s N w wr) (a b c d e f g h:Int) :
 FInv ⟨a,b,c,d,e,f,g,h⟩ N w ((((((((wr.setCell ⟨N,0,none⟩ (.int .u32 a)).setCell ⟨N,1,none⟩ (.int .u32 b)).setCell ⟨N,2,none⟩ (.int .u32 c)).setCell ⟨N,3,none⟩ (.int .u32 d)).setCell ⟨N,4,none⟩ (.int .u32 e)).setCell ⟨N,5,none⟩ (.int .u32 f)).setCell ⟨N,6,none⟩ (.int .u32 g)).setCell ⟨N,7,none⟩ (.int .u32 h)):=by
 have r:RInv (u32s s.list) N w wr:=⟨k.st,k.res,k.low⟩
 have r8:=(((((((r.set 0 (.int .u32 a)).set 1 (.int .u32 b)).set 2 (.int .u32 c)).set 3 (.int .u32 d)).set 4 (.int .u32 e)).set 5 (.int .u32 f)).set 6 (.int .u32 g)).set 7 (.int .u32 h)
 rw [eight_row] at r8
 exact ⟨r8.st,r8.res,r8.low⟩
theorem byt_row {w:World} {g:Nat} {l:List Int} (h:w.heap[g]? = some (.cells (u8s l) 5 (0,0))):Byt w (some ⟨g,0,none⟩) l.length l :=
 ⟨Nat.le_refl _,(fun h => by cases h),fun _ => ⟨g,0,rfl,(Array.getElem?_eq_some_iff.1 h).1,fun j hj => by rw [Nat.zero_add,cell_row h,u8s_get l j hj]⟩⟩
theorem padF_in (n j:Nat):0 ≤ padF n j ∧ padF n j < 256:=by
 by_cases h:j < padLen n
 · by_cases h0:j = 0
   · rw [h0,padF_zero]; omega
   · by_cases h1:j < 1 + zeros n
     · rw [padF_mid n j h0 h1]; omega
     · have:=padF_tail n (padLen n - 1 - j) (by unfold padLen; omega)
       rw [show padLen n - 1 - (padLen n - 1 - j) = j by omega] at this
       rw [this]; omega
 · have:padF n j = padF n j:=rfl
   unfold padF
   split
   · omega
   · split
     · omega
     · omega
theorem padL_in (n:Nat):InB (padL n):=by
 intro j
 by_cases h:j < padLen n
 · rw [← padL_getD n j h]; exact padF_in n j
 · rw [getD_out _ _ (by rw [padL_length]; omega)]; omega
set_option maxRecDepth 100000 in
set_option maxHeartbeats 2000000 in
theorem finish_any (s:W8) (L:List Int) (A:Option Addr) (c m n:Nat) (w:World) (hm:L.length = m) (hb:InB L) (hB:Byt w A c L) (hL:Laid w) (hn:n < 2305843009213693952) :
 Calls Tryz.prog 145 #[.agg (u32s s.list),.slice A m c,.int .u64 (n:Int)] w fun e' w' => e' = .returned (.agg (u8s (fin s L n))) ∧ Below w.heap.size w w':=by
 have Hm:=Lib.hid hm
 have Hb:=Lib.hid hb
 have HB:=Lib.hid hB
 have HL:=Lib.hid hL
 have Hn:=Lib.hid hn
 have hsz:=hL.sz
 have h2:=Lib.hid (two_new w (.cells (u32s s.list) 192))
 clear hm hb hB hL hn
 go_enter Tryz.func145,Tryz.ntmps145
 have i0:∀ Z:Array Value,Z.size = 32 → FInv s w.heap.size w ((w.alloc (.cells (u32s s.list) 192)).alloc (.cells Z 24)):=fun Z hZ => ⟨(h2.out _).1,⟨Z,hZ,(h2.out _).2⟩,((Below.refl _ _).alloc (Nat.le_refl _) _).alloc (by simp) _⟩
 have l0:=fun Z hZ => (i0 Z hZ).load
 have I0:=Lib.hid i0
 clear i0 h2
 have l0':=l0 zero32 rfl
 unfold zero32 at l0'
 clear l0
 go_wp2_with fail
 have i0:=I0.out zero32 rfl
 unfold zero32 at i0
 refine (mixBlocks_any s L A c m w _ Hm.out Hb.out HB.out i0.low (HL.out.below i0.low hsz)).mono ?_
 rintro e w1 ⟨A',c',rfl,byt1,low1⟩
 have i1:=i0.below low1
 have s1:=i1.store (foldB s L (m / 64))
 have j1:=(i1.set (foldB s L (m / 64)))
 obtain ⟨t,ht⟩:∃ t,t = foldB s L (m / 64):=⟨_,rfl⟩
 rw [← ht] at s1 j1
 rw [← ht]
 obtain ⟨v1,hv1⟩:∃ v1,v1 = w1.setRow w.heap.size (u32s t.list):=⟨_,rfl⟩
 rw [← hv1] at s1 j1
 have HT:=Lib.hid ht
 have Byt1:=Lib.hid byt1
 have hs1:=j1.size
 clear ht hv1 byt1 i0 i1 low1 l0'
 go_wp2_with fail
 obtain ⟨ta,tb,tc,td,te,tf,tg,th⟩:=t
 obtain ⟨p0,p1,p2,p3,p4,p5,p6,p7,p8⟩:=j1.cells
 have hlow1:=Lib.hid j1.low
 have Hd:Hid ((L.drop (64 * (m / 64))).length = m % 64):=by show _ = _; rw [List.length_drop,Hm.out]; omega
 have hpl:padLen n ≤ 72:=by have:=zeros_lt n; unfold padLen; omega
 have hpl2:0 < m % 64 + padLen n:=by unfold padLen; omega
 have hmod:m % 64 ≤ 200000:=by omega
 go_region_with (first
  | (go_at_call 159; refine (padding_any n Hn.out _).mono ?_; rintro e w2 ⟨rfl,hp2,low2⟩; have j2:=j1.drew.below low2; obtain ⟨q0,q1,q2,q3,q4,q5,q6,q7,q8⟩:=j2.cells; have Hp2:=Lib.hid (byt_row hp2); clear hp2 low2)
  | (go_at_call 99; refine (concat_any A' (some ⟨v1.heap.size,0,none⟩) c' (padLen n) w2.heap.size (m % 64) (padLen n) (L.drop (64 * (m / 64))) (padL n) _ Hd.out (padL_length n) hmod (by omega) hpl2 (Go.heap_alloc_new w2 _) (Byt1.out.below (j2.alloc _).low (Nat.le_refl _)) (by have:=Hp2.out; rw [padL_length] at this; exact this.alloc _)).mono ?_; rintro e w3 ⟨g3,c3,rfl,byt3,low3⟩; have j3:=(j2.alloc _).below low3; obtain ⟨r0,r1,r2,r3,r4,r5,r6,r7,r8⟩:=j3.cells; have Byt3:=Lib.hid byt3; clear byt3 low3)
  | (go_at_call 158; refine (mixBlocks_any ⟨ta,tb,tc,td,te,tf,tg,th⟩ (L.drop (64 * (m / 64)) ++ padL n) (some ⟨g3,0,none⟩) c3 (m % 64 + padLen n) w3 w3 (by rw [List.length_append,Hd.out,padL_length]) ((Hb.out.drop _).append (padL_in n)) Byt3.out (Below.refl _ _) (HL.out.below j3.low hsz)).mono ?_; rintro e w4 ⟨A4,c4,rfl,byt4,low4⟩; have j4:=j3.below low4; obtain ⟨y0,y1,y2,y3,y4,y5,y6,y7,y8⟩:=j4.cells; obtain ⟨z0,z1,z2,z3,z4,z5,z6,z7⟩:=j4.free; generalize hq:foldB _ _ _ = q; obtain ⟨qa,qb,qc,qd,qe,qf,qg,qh⟩:=q; have HQ:=Lib.hid hq; simp only [u32s,W8.list,List.map_cons,List.map_nil]; clear hq byt4 low4))
 all_goals
  have f5:=j4.eight qa qb qc qd qe qf qg qh
  obtain ⟨w5,hw5⟩:∃ w5,w5 = ((((((((w4.setCell ⟨w.heap.size,0,none⟩ (.int .u32 qa)).setCell ⟨w.heap.size,1,none⟩ (.int .u32 qb)).setCell ⟨w.heap.size,2,none⟩ (.int .u32 qc)).setCell ⟨w.heap.size,3,none⟩ (.int .u32 qd)).setCell ⟨w.heap.size,4,none⟩ (.int .u32 qe)).setCell ⟨w.heap.size,5,none⟩ (.int .u32 qf)).setCell ⟨w.heap.size,6,none⟩ (.int .u32 qg)).setCell ⟨w.heap.size,7,none⟩ (.int .u32 qh)):=⟨_,rfl⟩
  rw [← hw5] at f5 ⊢
  clear hw5 y0 y1 y2 y3 y4 y5 y6 y7 y8 z0 z1 z2 z3 z4 z5 z6 z7 r0 r1 r2 r3 r4 r5 r6 r7 r8 q0 q1 q2 q3 q4 q5 q6 q7 q8 p0 p1 p2 p3 p4 p5 p6 p7 p8 j1 j2 j3 j4
  obtain ⟨Z,hZ,hz⟩:=f5.res
  have Hz:=Lib.hid hz
  have HZ:=Lib.hid hZ
  have F5:=Lib.hid f5
  have H35:Hid ((Tryz.prog.info? 24).map (·.size) = some (u8s (hashL (W8.mk qa qb qc qd qe qf qg qh).list)).size):=by show _ = _; rw [u8s_size,hashL_length]; exact info35
  have H8:Hid ((Tryz.prog.info? 192).map (·.size) = some (u32s (W8.mk qa qb qc qd qe qf qg qh).list).size):=info24
  clear hz hZ f5
  go_wp2_with (first
   | (refine wpList_load_row rfl 192 (.tmp 3) rfl w.heap.size rfl 192 (u32s (W8.mk qa qb qc qd qe qf qg qh).list) (0,0) _ F5.out.st Tryz.underlying192 rfl H8.out ?_)
   | (go_at_call 160; refine (hashOf_any (W8.mk qa qb qc qd qe qf qg qh).list rfl _).mono ?_; rintro e w6 ⟨rfl,low6⟩)
   | (refine wpList_store_row rfl 24 (.tmp 6) (.tmp 25) rfl (w.heap.size + 1) (u8s (hashL (W8.mk qa qb qc qd qe qf qg qh).list)) rfl rfl 24 Z ((low6.block _ (Array.getElem?_eq_some_iff.1 Hz.out).1).trans Hz.out) H35.out (by rw [u8s_size,hashL_length,HZ.out]) (u8s_one _) ?_))
  have hfin:hashL (W8.mk qa qb qc qd qe qf qg qh).list = fin s L n:=by
   unfold fin foldAll
   rw [Hm.out,List.length_append,Hd.out,padL_length,← HT.out,HQ.out]
  refine bodyPost_ret (v:=.agg (u8s (hashL (W8.mk qa qb qc qd qe qf qg qh).list))) (results_cell_row rfl _ _ (w.heap.size + 1) 24 _ (0,0) _ rfl (setRow_heap w6 _ _ _ _ _ ((low6.block _ (Array.getElem?_eq_some_iff.1 Hz.out).1).trans Hz.out)) Tryz.underlying24 rfl H35.out) rfl ?_
  rw [hfin]
  exact ⟨rfl,below_setRow (F5.out.low.trans (low6.mono F5.out.low.size)) (by omega) _⟩
end Go.Proofs.YteeghgjkjicjoaaGreatDoor
namespace Go.Proofs.YteeghgjkjicjoaaGreatDoor
open Go.RowKit
def sumL (L:List Int):List Int:=fin S0 L L.length
set_option maxRecDepth 100000 in
set_option maxHeartbeats 1000000 in
theorem sum_any (L:List Int) (A:Option Addr) (c m:Nat) (w:World) (hm:L.length = m) (hb:InB L) (hB:Byt w A c L) (hL:Laid w) (hn:m < 2305843009213693952) :
 Calls Tryz.prog 133 #[.slice A m c] w fun e' w' => e' = .returned (.agg (u8s (sumL L))) ∧ Below w.heap.size w w':=by
 have Hm:=Lib.hid hm
 have Hb:=Lib.hid hb
 have HB:=Lib.hid hB
 have HL:=Lib.hid hL
 have Hn:=Lib.hid hn
 have hsz:=hL.sz
 have hw:(IntKind.u64.wrap (m:Int)) = m:=by rw [show IntKind.u64.wrap (m:Int) = (m:Int) % 18446744073709551616 by simp [IntKind.wrap,IntKind.bits,IntKind.signed]]; omega
 have Hw:=Lib.hid hw
 have low0:=Lib.hid ((Below.refl w.heap.size w).alloc (Nat.le_refl _) (.cells zero32 24))
 have new0:=Lib.hid (Go.heap_alloc_new w (.cells zero32 24))
 unfold zero32 at low0 new0
 clear hm hb hB hL hn hw
 have Hs:Hid (fin S0 L m = sumL L):=by show _ = _; unfold sumL; rw [Hm.out]
 go_enter Tryz.func133,Tryz.ntmps133
 have H35:Hid ((Tryz.prog.info? 24).map (·.size) = some (u8s (fin S0 L m)).size):=by show _ = _; rw [u8s_size,fin,hashL_length]; exact info35
 go_wp2_with (first
  | (go_at_call 146; refine (start_any _ (HL.out.below low0.out hsz)).mono ?_; rintro e w1 ⟨rfl,low1⟩)
  | (go_at_call 145; rw [Hw.out]; refine (finish_any S0 L A c m m w1 Hm.out Hb.out (HB.out.below (low0.out.trans (low1.mono low0.out.size)) (Nat.le_refl _)) (HL.out.below (low0.out.trans (low1.mono low0.out.size)) hsz) Hn.out).mono ?_; rintro e w2 ⟨rfl,low2⟩; have hz:=(low2.block _ (Nat.lt_of_lt_of_le (Array.getElem?_eq_some_iff.1 new0.out).1 low1.size)).trans ((low1.block _ (Array.getElem?_eq_some_iff.1 new0.out).1).trans new0.out); have Hz:=Lib.hid hz; clear hz)
  | (refine wpList_store_row rfl 24 (.tmp 2) (.tmp 8) rfl w.heap.size (u8s (fin S0 L m)) rfl rfl 24 _ Hz.out H35.out (by rw [u8s_size,fin,hashL_length]; rfl) (u8s_one _) ?_))
 refine bodyPost_ret (v:=.agg (u8s (fin S0 L m))) (results_cell_row rfl _ _ w.heap.size 24 _ (0,0) _ rfl (setRow_heap w2 _ _ _ _ _ Hz.out) Tryz.underlying24 rfl H35.out) rfl ?_
 rw [Hs.out]
 exact ⟨rfl,below_setRow ((low0.out.trans (low1.mono low0.out.size)).trans (low2.mono (Nat.le_trans low0.out.size low1.size))) (Nat.le_refl _) _⟩
def bytesOf (s:ByteArray):List Int:=s.data.toList.map fun b => (b.toNat:Int)
theorem bytesOf_length (s:ByteArray):(bytesOf s).length = s.size:=by rw [bytesOf,List.length_map,Array.length_toList]; rfl
theorem bytesOf_in (s:ByteArray):InB (bytesOf s):=by
 intro j
 by_cases h:j < (bytesOf s).length
 · have h':j < s.data.toList.length:=by simpa [bytesOf] using h
   have e:(bytesOf s).getD j 0 = ((s.data.toList[j]).toNat:Int):=by simp [bytesOf,List.getD_eq_getElem?_getD,List.getElem?_map,List.getElem?_eq_getElem h']
   rw [e]
   have:=(s.data.toList[j]).toNat_lt
   omega
 · rw [getD_out _ _ (Nat.le_of_not_lt h)]; omega
theorem hashL_in (l:List Int):InB (hashL l):=by
 intro j
 by_cases h:j < 32
 · rw [← hashL_getD l j h]
   have hf:=hashF_at l (j / 4)
   have h4:j % 4 = 0 ∨ j % 4 = 1 ∨ j % 4 = 2 ∨ j % 4 = 3:=by omega
   rcases h4 with e | e | e | e
   · rw [show j = 4 * (j / 4) by omega,hf.1]; omega
   · rw [show j = 4 * (j / 4) + 1 by omega,hf.2.1]; omega
   · rw [show j = 4 * (j / 4) + 2 by omega,hf.2.2.1]; omega
   · rw [show j = 4 * (j / 4) + 3 by omega,hf.2.2.2]; omega
 · rw [getD_out _ _ (by rw [hashL_length]; omega)]; omega
theorem fin_in (s:W8) (L:List Int) (n:Nat):InB (fin s L n):=hashL_in _
theorem sumL_in (L:List Int):InB (sumL L):=fin_in _ _ _
theorem sumL_length (L:List Int):(sumL L).length = 32:=hashL_length _
theorem byt_string (w:World) (s:ByteArray):Byt (Lib.bytesWorld w 5 s) (some ⟨w.heap.size,0,none⟩) (grownCap w s.size 0 5) (bytesOf s):=by
 refine ⟨by rw [bytesOf_length]; exact grownCap_ge _ _ _ _,(fun h => by cases h),fun _ => ⟨w.heap.size,0,rfl,by rw [Lib.bytesWorld_size]; omega,fun j hj => ?_⟩⟩
 rw [bytesOf_length] at hj
 rw [Nat.zero_add,Lib.bytesWorld_cell w 5 s j hj]
 have h':j < s.data.toList.length:=by simpa using hj
 simp [bytesOf,List.getD_eq_getElem?_getD,List.getElem?_map,List.getElem?_eq_getElem h']
theorem below_string (w:World) (s:ByteArray):Below w.heap.size w (Lib.bytesWorld w 5 s):=by
 refine ⟨?_,?_,?_,by rw [Lib.bytesWorld_size]; omega,fun k hk => Lib.bytesWorld_at_old w 5 s k hk⟩
 all_goals (simp only [Lib.bytesWorld,World.freeze]; rfl)
def pad64 (k:List Int):List Int:=k ++ List.replicate (64 - k.length) 0
def keyL (K:List Int):List Int:=if K.length ≤ 64 then K else sumL K
def blockL (K:List Int):List Int:=pad64 (keyL K)
def xorL (m:Int) (l:List Int):List Int:=l.map fun x => bits .xor .u8 x m
def hmacL (K T:List Int):List Int:=sumL (xorL 92 (blockL K) ++ sumL (xorL 54 (blockL K) ++ T))
theorem keyL_le (K:List Int):(keyL K).length ≤ 64:=by
 unfold keyL
 split
 · assumption
 · rw [sumL_length]; omega
theorem pad64_length {k:List Int} (h:k.length ≤ 64):(pad64 k).length = 64:=by simp [pad64]; omega
theorem blockL_length (K:List Int):(blockL K).length = 64:=pad64_length (keyL_le K)
theorem xorL_length (m:Int) (l:List Int):(xorL m l).length = l.length:=by simp [xorL]
theorem hmacL_length (K T:List Int):(hmacL K T).length = 32:=sumL_length _
theorem hmacL_in (K T:List Int):InB (hmacL K T):=sumL_in _
theorem InB.zeros (n:Nat):InB (List.replicate n 0):=by
 intro j
 by_cases h:j < n
 · simp [List.getD_eq_getElem?_getD,h]
 · rw [getD_out _ _ (by simp; omega)]; omega
theorem InB.keyL {K:List Int} (h:InB K):InB (keyL K):=by
 unfold Go.Proofs.YteeghgjkjicjoaaGreatDoor.keyL
 split
 · exact h
 · exact sumL_in _
theorem InB.blockL {K:List Int} (h:InB K):InB (blockL K):=h.keyL.append (InB.zeros _)
theorem InB.xorL {l:List Int} (h:InB l) (m:Int) (h0:0 ≤ m) (h1:m < 256):InB (xorL m l):=by
 intro j
 by_cases hj:j < l.length
 · have:=h j
   have e:(Go.Proofs.YteeghgjkjicjoaaGreatDoor.xorL m l).getD j 0 = bits .xor .u8 (l.getD j 0) m:=by simp [Go.Proofs.YteeghgjkjicjoaaGreatDoor.xorL,List.getD_eq_getElem?_getD,hj]
   rw [e]
   exact xor_in _ _ this.1 this.2 h0 h1
 · rw [getD_out _ _ (by rw [xorL_length]; omega)]; omega
theorem zero64_eq:zero64 = u8s (List.replicate 64 0):=rfl
theorem splice_key (k:List Int):(splice (vals (List.replicate 64 0)) 0 (vals k)).toArray = u8s (pad64 k):=by
 simp only [splice,List.take_zero,List.nil_append,Nat.zero_add,vals,List.map_replicate,List.drop_replicate,u8s,pad64,List.map_append,List.length_map]
end Go.Proofs.YteeghgjkjicjoaaGreatDoor
