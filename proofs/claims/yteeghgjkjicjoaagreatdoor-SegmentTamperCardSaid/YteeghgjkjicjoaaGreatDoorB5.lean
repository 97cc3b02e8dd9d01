/- Texts of ours, merged. -/
import Derived.Test.YteeghgjkjicjoaaGreatDoorB4
namespace Go.Proofs.YteeghgjkjicjoaaGreatDoor.Cha
open Go.RowKit
def QW:List Int:=QN.map (fun n:Nat => (n:Int))
structure Laid (w:World):Prop where
 row:∃ t fr,w.heap[0]? = some (.cells (Arr.nums .i64 QW) t fr)
theorem Laid.lt {w:World} (h:Laid w) : 0 < w.heap.size:=by
 obtain ⟨t,fr,h⟩:=h.row
 exact (Array.getElem?_eq_some_iff.1 h).1
theorem Laid.below {w w':World} (h:Laid w) {B:Nat} (hb:Below B w w') (hB : 0 < B):Laid w':=by
 obtain ⟨t,fr,h⟩:=h.row
 exact ⟨t,fr,(hb.block _ hB).trans h⟩
theorem infoT:(Tryz.prog.info? 203).map (·.size) = some 32:=by kernel_rfl
theorem index_q (k:Nat) (hk:k < 8) (w:World):(Instr.index 203 (.agg (Arr.nums .i64 QW)) (.int .i64 (k:Int))).run Tryz.prog w = .ok (.agg #[.int .i64 (qn k 0:Nat),.int .i64 (qn k 1:Nat),.int .i64 (qn k 2:Nat),.int .i64 (qn k 3:Nat)]) w:=by
 obtain rfl | rfl | rfl | rfl | rfl | rfl | rfl | rfl:k = 0 ∨ k = 1 ∨ k = 2 ∨ k = 3 ∨ k = 4 ∨ k = 5 ∨ k = 6 ∨ k = 7:=by omega
 all_goals kernel_rfl
structure RInv (l:List Int) (B:Nat) (w wr:World):Prop where
 row:wr.heap[B]? = some (.cells (u32s l) 187 (0,0))
 res:∃ Z:List Int,Z.length = 16 ∧ wr.heap[B + 1]? = some (.cells (u32s Z) 187 (0,0))
 low:Below B w wr
theorem RInv.later {l:List Int} {B:Nat} {w wr wr':World} (h:RInv l B w wr) (hb:Below wr.heap.size wr wr'):RInv l B w wr':=by
 have h1:=(Array.getElem?_eq_some_iff.1 h.row).1
 obtain ⟨Z,hZ,hz⟩:=h.res
 have h2:=(Array.getElem?_eq_some_iff.1 hz).1
 exact ⟨(hb.block _ h1).trans h.row,⟨Z,hZ,(hb.block _ h2).trans hz⟩,h.low.trans (hb.mono (by omega))⟩
theorem RInv.set {l:List Int} {B:Nat} {w wr:World} (h:RInv l B w wr) (k:Nat) (v:Int):RInv (l.set k v) B w (wr.setCell ⟨B,k,none⟩ (.int .u32 v)):=by
 obtain ⟨Z,hZ,hz⟩:=h.res
 exact ⟨row32_set h.row k v,⟨Z,hZ,by rw [heap_setCell_other _ _ _ _ (by simp)]; exact hz⟩,h.low.setCell (by simp) _⟩
theorem RInv.other {l:List Int} {B g:Nat} {w wr:World} (h:RInv l B w wr) (hg:B + 1 < g) (cs:Array Value):RInv l B w (wr.setRow g cs):=by
 obtain ⟨Z,hZ,hz⟩:=h.res
 exact ⟨by rw [setRow_other _ _ _ _ (by omega)]; exact h.row,⟨Z,hZ,by rw [setRow_other _ _ _ _ (by omega)]; exact hz⟩,below_setRow h.low (by omega) _⟩
theorem lst {l:Array Bool} {i j:Nat} (h:(l.setIfInBounds i true).getD j false = true) (hne:j ≠ i):l.getD j false = true:=(getD_listed h).resolve_left hne
structure R4 (L:List Int) (A B C D:Nat) (t:List Int) (l:Array Bool) (v5:Value) (g G N:Nat) (w wx:World):Prop where
 sz:l.size = 20
 own:wx.heap[G]? = some (.cells #[.int .i64 (A:Nat),.int .i64 (B:Nat),.int .i64 (C:Nat),.int .i64 (D:Nat)] 202 (0,0))
 inv:RInv L N w wx
 hG:N + 1 < G
 box:l.getD 18 false = true → v5 = .pointer (some ⟨g,0,none⟩) ∧ G < g ∧ wx.heap[g]? = some (.cells (if l.getD 19 false = true then u32s t else #[.int .u32 0,.int .u32 0,.int .u32 0,.int .u32 0]) 204 (0,0))
 q:l.getD 19 false = true → l.getD 18 false = true
section
variable {L:List Int} {A B C D:Nat} {t:List Int} {l:Array Bool} {v5:Value} {g G N:Nat} {w wx wx':World}
theorem R4.same (h:R4 L A B C D t l v5 g G N w wx) (i:Nat) (hi:i < 18) (hb:Below wx.heap.size wx wx'):R4 L A B C D t (l.setIfInBounds i true) v5 g G N w wx' where
 sz:=by simp [h.sz]
 own:=(hb.block _ (Array.getElem?_eq_some_iff.1 h.own).1).trans h.own
 inv:=h.inv.later hb
 hG:=h.hG
 box hl:=by
  obtain ⟨a,b,c⟩:=h.box (lst hl (by omega))
  exact ⟨a,b,by rw [getD_set_ne false (by omega)]; exact (hb.block _ (Array.getElem?_eq_some_iff.1 c).1).trans c⟩
 q hl:=getD_set_true (h.q (lst hl (by omega)))
theorem R4.read (h:R4 L A B C D t l v5 g G N w wx) (i:Nat) (hi:i < 18):R4 L A B C D t (l.setIfInBounds i true) v5 g G N w wx:=h.same i hi (Below.refl _ _)
theorem R4.new (h:R4 L A B C D t l v5 g G N w wx) (hu:l.getD 18 false = false):R4 L A B C D t (l.setIfInBounds 18 true) (.pointer (some ⟨wx.heap.size,0,none⟩)) wx.heap.size G N w (wx.alloc (.cells #[.int .u32 0,.int .u32 0,.int .u32 0,.int .u32 0] 204)):=by
 have hb:Below wx.heap.size wx (wx.alloc (.cells #[.int .u32 0,.int .u32 0,.int .u32 0,.int .u32 0] 204)):=(Below.refl _ _).alloc (Nat.le_refl _) _
 have hn:l.getD 19 false = false:=by
  cases e:l.getD 19 false with
  | false => rfl
  | true => rw [h.q e] at hu; cases hu
 refine ⟨by simp [h.sz],(hb.block _ (Array.getElem?_eq_some_iff.1 h.own).1).trans h.own,h.inv.later hb,h.hG,fun _ => ⟨rfl,(Array.getElem?_eq_some_iff.1 h.own).1,?_⟩,fun hl => getD_set_true (h.q (lst hl (by omega)))⟩
 rw [getD_set_ne false (by omega),hn]
 exact Go.heap_alloc_new _ _
theorem R4.store (h:R4 L A B C D t l v5 g G N w wx) (h18:l.getD 18 false = true) (hu:l.getD 19 false = false) :
 v5 = .pointer (some ⟨g,0,none⟩) ∧ wx.heap[g]? = some (.cells #[.int .u32 0,.int .u32 0,.int .u32 0,.int .u32 0] 204 (0,0)) ∧ R4 L A B C D t (l.setIfInBounds 19 true) v5 g G N w (wx.setRow g (u32s t)):=by
 obtain ⟨a,b,c⟩:=h.box h18
 have hG:=h.hG
 rw [hu] at c
 refine ⟨a,c,by simp [h.sz],by rw [setRow_other _ _ _ _ (by omega)]; exact h.own,h.inv.other (by omega) _,h.hG,fun _ => ⟨a,b,?_⟩,fun _ => getD_set_true h18⟩
 have e:(l.setIfInBounds 19 true).getD 19 false = true:=by simp [h.sz]
 rw [e]
 exact setRow_heap _ _ _ _ _ _ c
end
def wrote (L:List Int) (A B C D:Nat) (t:List Int):Nat → List Int
 | 0 => L
 | 1 => L.set A (t.getD 0 0)
 | 2 => (L.set A (t.getD 0 0)).set B (t.getD 1 0)
 | 3 => ((L.set A (t.getD 0 0)).set B (t.getD 1 0)).set C (t.getD 2 0)
 | _ => (((L.set A (t.getD 0 0)).set B (t.getD 1 0)).set C (t.getD 2 0)).set D (t.getD 3 0)
theorem wrote_length (L:List Int) (A B C D:Nat) (t:List Int) (m:Nat):(wrote L A B C D t m).length = L.length:=by
 match m with
 | 0 => rfl
 | 1 => simp [wrote]
 | 2 => simp [wrote]
 | 3 => simp [wrote]
 | n + 4 => simp [wrote]
structure R5 (L:List Int) (A B C D:Nat) (t:List Int) (l:Array Bool) (m g G N:Nat) (w wx:World):Prop where
 sz:l.size = 24
 own:wx.heap[G]? = some (.cells #[.int .i64 (A:Nat),.int .i64 (B:Nat),.int .i64 (C:Nat),.int .i64 (D:Nat)] 202 (0,0))
 box:wx.heap[g]? = some (.cells (u32s t) 204 (0,0))
 inv:RInv (wrote L A B C D t m) N w wx
 hG:N + 1 < G ∧ N + 1 < g
 c1:l.getD 17 false = decide (1 ≤ m)
 c2:l.getD 19 false = decide (2 ≤ m)
 c3:l.getD 21 false = decide (3 ≤ m)
 c4:l.getD 23 false = decide (4 ≤ m)
 hm:m ≤ 4
section
variable {L:List Int} {A B C D:Nat} {t:List Int} {l:Array Bool} {m g G N:Nat} {w wx:World}
theorem R5.read (h:R5 L A B C D t l m g G N w wx) (i:Nat) (hi:i ≠ 17 ∧ i ≠ 19 ∧ i ≠ 21 ∧ i ≠ 23):R5 L A B C D t (l.setIfInBounds i true) m g G N w wx where
 sz:=by simp [h.sz]
 own:=h.own
 box:=h.box
 inv:=h.inv
 hG:=h.hG
 c1:=by rw [getD_set_ne false hi.1]; exact h.c1
 c2:=by rw [getD_set_ne false hi.2.1]; exact h.c2
 c3:=by rw [getD_set_ne false hi.2.2.1]; exact h.c3
 c4:=by rw [getD_set_ne false hi.2.2.2]; exact h.c4
 hm:=h.hm
theorem R5.w1 (h:R5 L A B C D t l m g G N w wx) (hu:l.getD 17 false = false):m = 0 ∧ R5 L A B C D t (l.setIfInBounds 17 true) 1 g G N w (wx.setCell ⟨N,A,none⟩ (.int .u32 (t.getD 0 0))):=by
 have hm:m = 0:=by
  have h2:=h.c1
  rw [hu] at h2
  have h3:=of_decide_eq_false h2.symm
  omega
 subst hm
 have hG:=h.hG
 refine ⟨rfl,by simp [h.sz],by rw [heap_setCell_other _ _ _ _ (by simp; omega)]; exact h.own,by rw [heap_setCell_other _ _ _ _ (by simp; omega)]; exact h.box,h.inv.set _ _,h.hG,?_,?_,?_,?_,by omega⟩
 · simp [h.sz]
 · rw [getD_set_ne false (by omega),h.c2]; rfl
 · rw [getD_set_ne false (by omega),h.c3]; rfl
 · rw [getD_set_ne false (by omega),h.c4]; rfl
theorem R5.w2 (h:R5 L A B C D t l m g G N w wx) (hp:l.getD 17 false = true) (hu:l.getD 19 false = false):m = 1 ∧ R5 L A B C D t (l.setIfInBounds 19 true) 2 g G N w (wx.setCell ⟨N,B,none⟩ (.int .u32 (t.getD 1 0))):=by
 have hm:m = 1:=by
  have h1:=h.c1
  rw [hp] at h1
  have h4:=of_decide_eq_true h1.symm
  have h2:=h.c2
  rw [hu] at h2
  have h3:=of_decide_eq_false h2.symm
  omega
 subst hm
 have hG:=h.hG
 refine ⟨rfl,by simp [h.sz],by rw [heap_setCell_other _ _ _ _ (by simp; omega)]; exact h.own,by rw [heap_setCell_other _ _ _ _ (by simp; omega)]; exact h.box,h.inv.set _ _,h.hG,?_,?_,?_,?_,by omega⟩
 · rw [getD_set_ne false (by omega),h.c1]; rfl
 · simp [h.sz]
 · rw [getD_set_ne false (by omega),h.c3]; rfl
 · rw [getD_set_ne false (by omega),h.c4]; rfl
theorem R5.w3 (h:R5 L A B C D t l m g G N w wx) (hp:l.getD 19 false = true) (hu:l.getD 21 false = false):m = 2 ∧ R5 L A B C D t (l.setIfInBounds 21 true) 3 g G N w (wx.setCell ⟨N,C,none⟩ (.int .u32 (t.getD 2 0))):=by
 have hm:m = 2:=by
  have h1:=h.c2
  rw [hp] at h1
  have h4:=of_decide_eq_true h1.symm
  have h2:=h.c3
  rw [hu] at h2
  have h3:=of_decide_eq_false h2.symm
  omega
 subst hm
 have hG:=h.hG
 refine ⟨rfl,by simp [h.sz],by rw [heap_setCell_other _ _ _ _ (by simp; omega)]; exact h.own,by rw [heap_setCell_other _ _ _ _ (by simp; omega)]; exact h.box,h.inv.set _ _,h.hG,?_,?_,?_,?_,by omega⟩
 · rw [getD_set_ne false (by omega),h.c1]; rfl
 · rw [getD_set_ne false (by omega),h.c2]; rfl
 · simp [h.sz]
 · rw [getD_set_ne false (by omega),h.c4]; rfl
theorem R5.w4 (h:R5 L A B C D t l m g G N w wx) (hp:l.getD 21 false = true) (hu:l.getD 23 false = false):m = 3 ∧ R5 L A B C D t (l.setIfInBounds 23 true) 4 g G N w (wx.setCell ⟨N,D,none⟩ (.int .u32 (t.getD 3 0))):=by
 have hm:m = 3:=by
  have h1:=h.c3
  rw [hp] at h1
  have h4:=of_decide_eq_true h1.symm
  have h2:=h.c4
  rw [hu] at h2
  have h3:=of_decide_eq_false h2.symm
  omega
 subst hm
 have hG:=h.hG
 refine ⟨rfl,by simp [h.sz],by rw [heap_setCell_other _ _ _ _ (by simp; omega)]; exact h.own,by rw [heap_setCell_other _ _ _ _ (by simp; omega)]; exact h.box,h.inv.set _ _,h.hG,?_,?_,?_,?_,by omega⟩
 · rw [getD_set_ne false (by omega),h.c1]; rfl
 · rw [getD_set_ne false (by omega),h.c2]; rfl
 · rw [getD_set_ne false (by omega),h.c3]; rfl
 · simp [h.sz]
end
theorem d4_apart:apartB [10,11,12,13,14,15,16,17,18,19,20,21,22,23,24,25,26,27,5,1000] = true:=by decide
theorem d5_apart:apartB [28,29,30,31,32,33,34,35,36,37,38,39,40,41,42,43,44,1001,45,1002,46,1003,47,1004] = true:=by decide
set_option maxRecDepth 100000 in
set_option maxHeartbeats 4000000 in
theorem doubleRound_any (s:List Int) (hs:s.length = 16) (w:World) (hL:Laid w) :
 Calls Tryz.prog 144 #[.agg (u32s s)] w fun e' w' => e' = .returned (.agg (u32s (dr s 8))) ∧ Below w.heap.size w w':=by
 have Hs:=Lib.hid hs
 have hlt0:=hL.lt
 obtain ⟨tq,fq,hq⟩:=hL.row
 have hq1:((w.alloc (.cells (u32s s) 187)).alloc (.cells #[.int .u32 0,.int .u32 0,.int .u32 0,.int .u32 0,.int .u32 0,.int .u32 0,.int .u32 0,.int .u32 0,.int .u32 0,.int .u32 0,.int .u32 0,.int .u32 0,.int .u32 0,.int .u32 0,.int .u32 0,.int .u32 0] 187)).heap[0]? = some (.cells (Arr.nums .i64 QW) tq fq) :=
  ((((Below.refl w.heap.size w).alloc (Nat.le_refl _) _).alloc (by simp) _).block _ hlt0).trans hq
 have Hq:=Lib.hid hq1
 have hix:=Lib.hid index_q
 clear hs hq hq1 hL
 go_enter Tryz.func144,Tryz.ntmps144
 go_wp2_with (refine wpList_load_row rfl 203 (.global 0) rfl 0 rfl tq (Arr.nums .i64 QW) fq _ Hq.out Tryz.underlying203 rfl infoT ?_)
 go_loopw [7] (fun i wr => ∃ k:Nat,k ≤ 8 ∧ i = .int .i64 k ∧ RInv (dr s k) w.heap.size w wr) (fun i _ => 8 - (intOf i).toNat)
 case atStart =>
  have h2:=two_new w
  exact ⟨0,Nat.zero_le _,rfl,(h2 _ _).1,⟨[0,0,0,0,0,0,0,0,0,0,0,0,0,0,0,0],rfl,(h2 _ _).2⟩,((Below.refl _ _).alloc (Nat.le_refl _) _).alloc (by simp) _⟩
 case round =>
  obtain ⟨k,hk,rfl,hinv⟩:=hrel
  by_cases hlt:k < 8
  · have hix':=hix.out k hlt
    have hlt':(k:Int) < 8:=by omega
    obtain ⟨A,hA⟩:∃ A,A = qn k 0:=⟨_,rfl⟩
    obtain ⟨B,hB⟩:∃ B,B = qn k 1:=⟨_,rfl⟩
    obtain ⟨C,hC⟩:∃ C,C = qn k 2:=⟨_,rfl⟩
    obtain ⟨D,hD⟩:∃ D,D = qn k 3:=⟨_,rfl⟩
    have a16:A < 16:=by rw [hA]; exact qn_lt _ _
    have b16:B < 16:=by rw [hB]; exact qn_lt _ _
    have c16:C < 16:=by rw [hC]; exact qn_lt _ _
    have d16:D < 16:=by rw [hD]; exact qn_lt _ _
    have a16':(A:Int) < 16:=by omega
    have b16':(B:Int) < 16:=by omega
    have c16':(C:Int) < 16:=by omega
    have d16':(D:Int) < 16:=by omega
    rw [← hA,← hB,← hC,← hD] at hix'
    obtain ⟨L,hLd⟩:∃ L,L = dr s k:=⟨_,rfl⟩
    rw [← hLd] at hinv
    have Hl:Hid (L.length = 16):=by show _ = _; rw [hLd,dr_length,Hs.out]
    obtain ⟨t,ht⟩:∃ t,t = quarterL [L.getD A 0,L.getD B 0,L.getD C 0,L.getD D 0]:=⟨_,rfl⟩
    have Ht:Hid (t.length = 4):=by show _ = _; rw [ht]; rfl
    have HA:=Lib.hid hA
    have HB:=Lib.hid hB
    have HC:=Lib.hid hC
    have HD:=Lib.hid hD
    have HL:=Lib.hid hLd
    have HT:=Lib.hid ht
    have Hinv:=Lib.hid hinv
    clear hA hB hC hD hLd ht hinv hix
    go_upto_region 4 with (fail)
    go_cut [5] (fun s5 wx => ∃ g:Nat,s5 = .pointer (some ⟨g,0,none⟩) ∧ Hid (R5 L A B C D t (Array.replicate 24 false) 0 g wr.heap.size w.heap.size w wx))
    case first =>
     refine wp_region_any (by kernel_rfl) ?_
     change wpAny _ _ _ _ _ _ _ (World.drew _)
     refine wpAny_inv (fun l a wx => ∃ (g:Nat) (z:Nat → Value),Hid (a = ⟨#[.agg (u32s s),.pointer (some ⟨w.heap.size,0,none⟩),.pointer (some ⟨w.heap.size + 1,0,none⟩),undef,.pointer (some ⟨wr.heap.size,0,none⟩),z 5,.agg (Arr.nums .i64 QW),.int .i64 (k:Int),.bool true,.agg #[.int .i64 (A:Nat),.int .i64 (B:Nat),.int .i64 (C:Nat),.int .i64 (D:Nat)],z 10,z 11,z 12,z 13,z 14,z 15,z 16,z 17,z 18,z 19,z 20,z 21,z 22,z 23,z 24,z 25,z 26,z 27,u28,u29,u30,u31,u32,u33,u34,u35,u36,u37,u38,u39,u40,u41,u42,u43,u44,u45,u46,u47,u48,undef],[]⟩) ∧ Holding [10,11,12,13,14,15,16,17,18,19,20,21,22,23,24,25,26,27,5,1000] [some (.pointer (some ⟨wr.heap.size,0,none⟩)),some (.int .i64 (A:Nat)),some (.pointer (some ⟨w.heap.size,A,none⟩)),some (.int .u32 (L.getD A 0)),some (.pointer (some ⟨wr.heap.size,1,none⟩)),some (.int .i64 (B:Nat)),some (.pointer (some ⟨w.heap.size,B,none⟩)),some (.int .u32 (L.getD B 0)),some (.pointer (some ⟨wr.heap.size,2,none⟩)),some (.int .i64 (C:Nat)),some (.pointer (some ⟨w.heap.size,C,none⟩)),some (.int .u32 (L.getD C 0)),some (.pointer (some ⟨wr.heap.size,3,none⟩)),some (.int .i64 (D:Nat)),some (.pointer (some ⟨w.heap.size,D,none⟩)),some (.int .u32 (L.getD D 0)),some (.agg #[.int .u32 (L.getD A 0),.int .u32 (L.getD B 0),.int .u32 (L.getD C 0),.int .u32 (L.getD D 0)]),some (.agg (u32s t)),none,none] l z ∧ R4 L A B C D t l (z 5) g wr.heap.size w.heap.size w wx) ?_ (by kernel_rfl) ?_ ?_ _ _ _ _ (unlisted_none _) ?_
     · rintro l a wx ⟨g,z,_,_,h⟩
       exact h.sz
     · rintro l a wx ⟨g,z,ha,hz,h⟩ hall
       obtain rfl:=ha.out
       clear ha
       obtain ⟨e5,hg,hr⟩:=h.box (hall 18 (by decide))
       rw [hall 19 (by decide)] at hr
       have hG:=h.hG
       have hR:R5 L A B C D t (Array.replicate 24 false) 0 g wr.heap.size w.heap.size w wx:=⟨rfl,h.own,hr,h.inv,⟨hG,by omega⟩,rfl,rfl,rfl,rfl,by omega⟩
       have HR:=Lib.hid hR
       clear hr hR hall hz h hG
       go_wp2_with fail
       go_meet
       exact ⟨g,e5,HR.out⟩
     · rintro l a wx i ⟨g,z,ha,hz,h⟩ hi hu hw
       obtain rfl:=ha.out
       clear ha
       have hi20:i < 20:=hi
       obtain rfl | rfl | rfl | rfl | rfl | rfl | rfl | rfl | rfl | rfl | rfl | rfl | rfl | rfl | rfl | rfl | rfl | rfl | rfl | rfl:i = 0 ∨ i = 1 ∨ i = 2 ∨ i = 3 ∨ i = 4 ∨ i = 5 ∨ i = 6 ∨ i = 7 ∨ i = 8 ∨ i = 9 ∨ i = 10 ∨ i = 11 ∨ i = 12 ∨ i = 13 ∨ i = 14 ∨ i = 15 ∨ i = 16 ∨ i = 17 ∨ i = 18 ∨ i = 19:=by omega
       · refine wpOp_plain rfl rfl ?_
         go_simp
         exact ⟨g,upd z 10 (.pointer (some ⟨wr.heap.size,0,none⟩)),(by unfold Hid; simp [upd]),hz.next d4_apart h.sz 0 (by decide) _ (fun _ h => Option.some.inj h),h.read 0 (by omega)⟩
       · have e0:z 10 = .pointer (some ⟨wr.heap.size,0,none⟩):=hz 0 _ (hw 0 (by kernel_rfl)) rfl
         obtain ⟨c0,c1,c2,c3⟩:=cells4 h.own
         refine wpOp_plain rfl rfl ?_
         go_simp
         exact ⟨g,upd z 11 (.int .i64 (A:Nat)),(by unfold Hid; simp [upd,e0]),hz.next d4_apart h.sz 1 (by decide) _ (fun _ h => Option.some.inj h),h.read 1 (by omega)⟩
       · have e1:z 11 = .int .i64 (A:Nat):=hz 1 _ (hw 1 (by kernel_rfl)) rfl
         refine wpOp_plain rfl rfl ?_
         go_simp
         exact ⟨g,upd z 12 (.pointer (some ⟨w.heap.size,A,none⟩)),(by unfold Hid; simp [upd,e1]),hz.next d4_apart h.sz 2 (by decide) _ (fun _ h => Option.some.inj h),h.read 2 (by omega)⟩
       · have e2:z 12 = .pointer (some ⟨w.heap.size,A,none⟩):=hz 2 _ (hw 2 (by kernel_rfl)) rfl
         have cc:=row32_cell h.inv.row A (by rw [Hl.out]; exact a16)
         refine wpOp_plain rfl rfl ?_
         go_simp
         exact ⟨g,upd z 13 (.int .u32 (L.getD A 0)),(by unfold Hid; simp [upd,e2]),hz.next d4_apart h.sz 3 (by decide) _ (fun _ h => Option.some.inj h),h.read 3 (by omega)⟩
       · refine wpOp_plain rfl rfl ?_
         go_simp
         exact ⟨g,upd z 14 (.pointer (some ⟨wr.heap.size,1,none⟩)),(by unfold Hid; simp [upd]),hz.next d4_apart h.sz 4 (by decide) _ (fun _ h => Option.some.inj h),h.read 4 (by omega)⟩
       · have e4:z 14 = .pointer (some ⟨wr.heap.size,1,none⟩):=hz 4 _ (hw 4 (by kernel_rfl)) rfl
         obtain ⟨c0,c1,c2,c3⟩:=cells4 h.own
         refine wpOp_plain rfl rfl ?_
         go_simp
         exact ⟨g,upd z 15 (.int .i64 (B:Nat)),(by unfold Hid; simp [upd,e4]),hz.next d4_apart h.sz 5 (by decide) _ (fun _ h => Option.some.inj h),h.read 5 (by omega)⟩
       · have e5:z 15 = .int .i64 (B:Nat):=hz 5 _ (hw 5 (by kernel_rfl)) rfl
         refine wpOp_plain rfl rfl ?_
         go_simp
         exact ⟨g,upd z 16 (.pointer (some ⟨w.heap.size,B,none⟩)),(by unfold Hid; simp [upd,e5]),hz.next d4_apart h.sz 6 (by decide) _ (fun _ h => Option.some.inj h),h.read 6 (by omega)⟩
       · have e6:z 16 = .pointer (some ⟨w.heap.size,B,none⟩):=hz 6 _ (hw 6 (by kernel_rfl)) rfl
         have cc:=row32_cell h.inv.row B (by rw [Hl.out]; exact b16)
         refine wpOp_plain rfl rfl ?_
         go_simp
         exact ⟨g,upd z 17 (.int .u32 (L.getD B 0)),(by unfold Hid; simp [upd,e6]),hz.next d4_apart h.sz 7 (by decide) _ (fun _ h => Option.some.inj h),h.read 7 (by omega)⟩
       · refine wpOp_plain rfl rfl ?_
         go_simp
         exact ⟨g,upd z 18 (.pointer (some ⟨wr.heap.size,2,none⟩)),(by unfold Hid; simp [upd]),hz.next d4_apart h.sz 8 (by decide) _ (fun _ h => Option.some.inj h),h.read 8 (by omega)⟩
       · have e8:z 18 = .pointer (some ⟨wr.heap.size,2,none⟩):=hz 8 _ (hw 8 (by kernel_rfl)) rfl
         obtain ⟨c0,c1,c2,c3⟩:=cells4 h.own
         refine wpOp_plain rfl rfl ?_
         go_simp
         exact ⟨g,upd z 19 (.int .i64 (C:Nat)),(by unfold Hid; simp [upd,e8]),hz.next d4_apart h.sz 9 (by decide) _ (fun _ h => Option.some.inj h),h.read 9 (by omega)⟩
       · have e9:z 19 = .int .i64 (C:Nat):=hz 9 _ (hw 9 (by kernel_rfl)) rfl
         refine wpOp_plain rfl rfl ?_
         go_simp
         exact ⟨g,upd z 20 (.pointer (some ⟨w.heap.size,C,none⟩)),(by unfold Hid; simp [upd,e9]),hz.next d4_apart h.sz 10 (by decide) _ (fun _ h => Option.some.inj h),h.read 10 (by omega)⟩
       · have e10:z 20 = .pointer (some ⟨w.heap.size,C,none⟩):=hz 10 _ (hw 10 (by kernel_rfl)) rfl
         have cc:=row32_cell h.inv.row C (by rw [Hl.out]; exact c16)
         refine wpOp_plain rfl rfl ?_
         go_simp
         exact ⟨g,upd z 21 (.int .u32 (L.getD C 0)),(by unfold Hid; simp [upd,e10]),hz.next d4_apart h.sz 11 (by decide) _ (fun _ h => Option.some.inj h),h.read 11 (by omega)⟩
       · refine wpOp_plain rfl rfl ?_
         go_simp
         exact ⟨g,upd z 22 (.pointer (some ⟨wr.heap.size,3,none⟩)),(by unfold Hid; simp [upd]),hz.next d4_apart h.sz 12 (by decide) _ (fun _ h => Option.some.inj h),h.read 12 (by omega)⟩
       · have e12:z 22 = .pointer (some ⟨wr.heap.size,3,none⟩):=hz 12 _ (hw 12 (by kernel_rfl)) rfl
         obtain ⟨c0,c1,c2,c3⟩:=cells4 h.own
         refine wpOp_plain rfl rfl ?_
         go_simp
         exact ⟨g,upd z 23 (.int .i64 (D:Nat)),(by unfold Hid; simp [upd,e12]),hz.next d4_apart h.sz 13 (by decide) _ (fun _ h => Option.some.inj h),h.read 13 (by omega)⟩
       · have e13:z 23 = .int .i64 (D:Nat):=hz 13 _ (hw 13 (by kernel_rfl)) rfl
         refine wpOp_plain rfl rfl ?_
         go_simp
         exact ⟨g,upd z 24 (.pointer (some ⟨w.heap.size,D,none⟩)),(by unfold Hid; simp [upd,e13]),hz.next d4_apart h.sz 14 (by decide) _ (fun _ h => Option.some.inj h),h.read 14 (by omega)⟩
       · have e14:z 24 = .pointer (some ⟨w.heap.size,D,none⟩):=hz 14 _ (hw 14 (by kernel_rfl)) rfl
         have cc:=row32_cell h.inv.row D (by rw [Hl.out]; exact d16)
         refine wpOp_plain rfl rfl ?_
         go_simp
         exact ⟨g,upd z 25 (.int .u32 (L.getD D 0)),(by unfold Hid; simp [upd,e14]),hz.next d4_apart h.sz 15 (by decide) _ (fun _ h => Option.some.inj h),h.read 15 (by omega)⟩
       · have e3:z 13 = .int .u32 (L.getD A 0):=hz 3 _ (hw 3 (by kernel_rfl)) rfl
         have e7:z 17 = .int .u32 (L.getD B 0):=hz 7 _ (hw 7 (by kernel_rfl)) rfl
         have e11:z 21 = .int .u32 (L.getD C 0):=hz 11 _ (hw 11 (by kernel_rfl)) rfl
         have e15:z 25 = .int .u32 (L.getD D 0):=hz 15 _ (hw 15 (by kernel_rfl)) rfl
         refine wpOp_plain rfl rfl ?_
         go_simp
         exact ⟨g,upd z 26 (.agg #[.int .u32 (L.getD A 0),.int .u32 (L.getD B 0),.int .u32 (L.getD C 0),.int .u32 (L.getD D 0)]),(by unfold Hid; simp [upd,e3,e7,e11,e15]),hz.next d4_apart h.sz 16 (by decide) _ (fun _ h => Option.some.inj h),h.read 16 (by omega)⟩
       · have e16:z 26 = .agg #[.int .u32 (L.getD A 0),.int .u32 (L.getD B 0),.int .u32 (L.getD C 0),.int .u32 (L.getD D 0)]:=hz 16 _ (hw 16 (by kernel_rfl)) rfl
         refine wpOp_plain rfl rfl ?_
         go_simp
         go_at_call 157
         refine (quarter_any [L.getD A 0,L.getD B 0,L.getD C 0,L.getD D 0] rfl _).mono ?_
         rintro e w' ⟨rfl,low⟩
         rw [← HT.out]
         exact ⟨g,upd z 27 (.agg (u32s t)),(by unfold Hid; simp [upd,e16]),hz.next d4_apart h.sz 17 (by decide) _ (fun _ h => Option.some.inj h),h.same 17 (by omega) low⟩
       · refine wpOp_plain rfl rfl ?_
         go_simp
         exact ⟨_,upd z 5 (.pointer (some ⟨wx.heap.size,0,none⟩)),(by unfold Hid; simp [upd]),hz.next d4_apart h.sz 18 (by decide) _ (fun _ h => by cases h),h.new hu⟩
       · have e17:z 27 = .agg (u32s t):=hz 17 _ (hw 17 (by kernel_rfl)) rfl
         obtain ⟨e5,hr,hR⟩:=h.store (hw 18 (by kernel_rfl)) hu
         refine wpOp_plain rfl rfl (wp_store_row 204 (.tmp 5) (.tmp 27) rfl g (u32s t) e5 e17 204 _ hr (by rw [u32s_size,Ht.out]; exact infoQ) (by rw [u32s_size,Ht.out]; rfl) (u32s_one _) ?_)
         exact ⟨g,z,rfl,hz.pass 19 rfl,hR⟩
     · refine ⟨0,fun x => (#[.agg (u32s s),.pointer (some ⟨w.heap.size,0,none⟩),.pointer (some ⟨w.heap.size + 1,0,none⟩),undef,.pointer (some ⟨wr.heap.size,0,none⟩),u5,.agg (Arr.nums .i64 QW),.int .i64 (k:Int),.bool true,.agg #[.int .i64 (A:Nat),.int .i64 (B:Nat),.int .i64 (C:Nat),.int .i64 (D:Nat)],u10,u11,u12,u13,u14,u15,u16,u17,u18,u19,u20,u21,u22,u23,u24,u25,u26,u27,u28,u29,u30,u31,u32,u33,u34,u35,u36,u37,u38,u39,u40,u41,u42,u43,u44,u45,u46,u47,u48,undef]:Array Value).getD x undef,rfl,Holding.start,⟨rfl,?_,?_,?_,fun h => absurd h (by decide),fun h => absurd h (by decide)⟩⟩
       · exact Go.heap_alloc_new wr _
       · exact Hinv.out.later ((Below.refl _ _).alloc (Nat.le_refl _) _).drew
       · obtain ⟨Z,hZ,hz⟩:=Hinv.out.res
         exact (Array.getElem?_eq_some_iff.1 hz).1
    case rest =>
     obtain ⟨g,rfl,hR⟩:=hcut
     go_upto_region 5 with (fail)
     have HN:Hid (wrote L A B C D t 4 = dr s (k + 1)):=by show _ = _; rw [HT.out,HL.out,HA.out,HB.out,HC.out,HD.out]; rfl
     refine wp_region_any (by kernel_rfl) ?_
     change wpAny _ _ _ _ _ _ _ (World.drew _)
     refine wpAny_inv (fun l a wx => ∃ (m:Nat) (z:Nat → Value),Hid (a = ⟨#[.agg (u32s s),.pointer (some ⟨w.heap.size,0,none⟩),.pointer (some ⟨w.heap.size + 1,0,none⟩),undef,.pointer (some ⟨wr.heap.size,0,none⟩),.pointer (some ⟨g,0,none⟩),.agg (Arr.nums .i64 QW),.int .i64 (k:Int),u8,u9,u10,u11,u12,u13,u14,u15,u16,u17,u18,u19,u20,u21,u22,u23,u24,u25,u26,u27,z 28,z 29,z 30,z 31,z 32,z 33,z 34,z 35,z 36,z 37,z 38,z 39,z 40,z 41,z 42,z 43,z 44,z 45,z 46,z 47,u48,undef],[]⟩) ∧ Holding [28,29,30,31,32,33,34,35,36,37,38,39,40,41,42,43,44,1001,45,1002,46,1003,47,1004] [some (.pointer (some ⟨wr.heap.size,0,none⟩)),some (.int .i64 (A:Nat)),some (.pointer (some ⟨wr.heap.size,1,none⟩)),some (.int .i64 (B:Nat)),some (.pointer (some ⟨wr.heap.size,2,none⟩)),some (.int .i64 (C:Nat)),some (.pointer (some ⟨wr.heap.size,3,none⟩)),some (.int .i64 (D:Nat)),some (.pointer (some ⟨g,0,none⟩)),some (.int .u32 (t.getD 0 0)),some (.pointer (some ⟨g,1,none⟩)),some (.int .u32 (t.getD 1 0)),some (.pointer (some ⟨g,2,none⟩)),some (.int .u32 (t.getD 2 0)),some (.pointer (some ⟨g,3,none⟩)),some (.int .u32 (t.getD 3 0)),some (.pointer (some ⟨w.heap.size,A,none⟩)),none,some (.pointer (some ⟨w.heap.size,B,none⟩)),none,some (.pointer (some ⟨w.heap.size,C,none⟩)),none,some (.pointer (some ⟨w.heap.size,D,none⟩)),none] l z ∧ R5 L A B C D t l m g wr.heap.size w.heap.size w wx) ?_ (by kernel_rfl) ?_ ?_ _ _ _ _ (unlisted_none _) ?_
     · rintro l a wx ⟨m,z,_,_,h⟩
       exact h.sz
     · rintro l a wx ⟨m,z,ha,hz,h⟩ hall
       obtain rfl:=ha.out
       clear ha
       have h4:=h.c4
       rw [hall 23 (by decide)] at h4
       have hm:=h.hm
       have h5:=of_decide_eq_true h4.symm
       obtain rfl:m = 4:=by omega
       have HR:=Lib.hid h.inv
       clear h4 h5 hm h hz hall
       go_wp2
       go_roundw
       case rel => exact ⟨k + 1,by omega,by go_num,by rw [← HN.out]; exact HR.out⟩
       case measure => simp [intOf]; omega
     · rintro l a wx i ⟨m,z,ha,hz,h⟩ hi hu hw
       obtain rfl:=ha.out
       clear ha
       have hi24:i < 24:=hi
       obtain rfl | rfl | rfl | rfl | rfl | rfl | rfl | rfl | rfl | rfl | rfl | rfl | rfl | rfl | rfl | rfl | rfl | rfl | rfl | rfl | rfl | rfl | rfl | rfl:i = 0 ∨ i = 1 ∨ i = 2 ∨ i = 3 ∨ i = 4 ∨ i = 5 ∨ i = 6 ∨ i = 7 ∨ i = 8 ∨ i = 9 ∨ i = 10 ∨ i = 11 ∨ i = 12 ∨ i = 13 ∨ i = 14 ∨ i = 15 ∨ i = 16 ∨ i = 17 ∨ i = 18 ∨ i = 19 ∨ i = 20 ∨ i = 21 ∨ i = 22 ∨ i = 23:=by omega
       · refine wpOp_plain rfl rfl ?_
         go_simp
         exact ⟨m,upd z 28 (.pointer (some ⟨wr.heap.size,0,none⟩)),(by unfold Hid; simp [upd]),hz.next d5_apart h.sz 0 (by decide) _ (fun _ h => Option.some.inj h),h.read 0 (by omega)⟩
       · have e0:z 28 = .pointer (some ⟨wr.heap.size,0,none⟩):=hz 0 _ (hw 0 (by kernel_rfl)) rfl
         obtain ⟨c0,c1,c2,c3⟩:=cells4 h.own
         refine wpOp_plain rfl rfl ?_
         go_simp
         exact ⟨m,upd z 29 (.int .i64 (A:Nat)),(by unfold Hid; simp [upd,e0]),hz.next d5_apart h.sz 1 (by decide) _ (fun _ h => Option.some.inj h),h.read 1 (by omega)⟩
       · refine wpOp_plain rfl rfl ?_
         go_simp
         exact ⟨m,upd z 30 (.pointer (some ⟨wr.heap.size,1,none⟩)),(by unfold Hid; simp [upd]),hz.next d5_apart h.sz 2 (by decide) _ (fun _ h => Option.some.inj h),h.read 2 (by omega)⟩
       · have e2:z 30 = .pointer (some ⟨wr.heap.size,1,none⟩):=hz 2 _ (hw 2 (by kernel_rfl)) rfl
         obtain ⟨c0,c1,c2,c3⟩:=cells4 h.own
         refine wpOp_plain rfl rfl ?_
         go_simp
         exact ⟨m,upd z 31 (.int .i64 (B:Nat)),(by unfold Hid; simp [upd,e2]),hz.next d5_apart h.sz 3 (by decide) _ (fun _ h => Option.some.inj h),h.read 3 (by omega)⟩
       · refine wpOp_plain rfl rfl ?_
         go_simp
         exact ⟨m,upd z 32 (.pointer (some ⟨wr.heap.size,2,none⟩)),(by unfold Hid; simp [upd]),hz.next d5_apart h.sz 4 (by decide) _ (fun _ h => Option.some.inj h),h.read 4 (by omega)⟩
       · have e4:z 32 = .pointer (some ⟨wr.heap.size,2,none⟩):=hz 4 _ (hw 4 (by kernel_rfl)) rfl
         obtain ⟨c0,c1,c2,c3⟩:=cells4 h.own
         refine wpOp_plain rfl rfl ?_
         go_simp
         exact ⟨m,upd z 33 (.int .i64 (C:Nat)),(by unfold Hid; simp [upd,e4]),hz.next d5_apart h.sz 5 (by decide) _ (fun _ h => Option.some.inj h),h.read 5 (by omega)⟩
       · refine wpOp_plain rfl rfl ?_
         go_simp
         exact ⟨m,upd z 34 (.pointer (some ⟨wr.heap.size,3,none⟩)),(by unfold Hid; simp [upd]),hz.next d5_apart h.sz 6 (by decide) _ (fun _ h => Option.some.inj h),h.read 6 (by omega)⟩
       · have e6:z 34 = .pointer (some ⟨wr.heap.size,3,none⟩):=hz 6 _ (hw 6 (by kernel_rfl)) rfl
         obtain ⟨c0,c1,c2,c3⟩:=cells4 h.own
         refine wpOp_plain rfl rfl ?_
         go_simp
         exact ⟨m,upd z 35 (.int .i64 (D:Nat)),(by unfold Hid; simp [upd,e6]),hz.next d5_apart h.sz 7 (by decide) _ (fun _ h => Option.some.inj h),h.read 7 (by omega)⟩
       · refine wpOp_plain rfl rfl ?_
         go_simp
         exact ⟨m,upd z 36 (.pointer (some ⟨g,0,none⟩)),(by unfold Hid; simp [upd]),hz.next d5_apart h.sz 8 (by decide) _ (fun _ h => Option.some.inj h),h.read 8 (by omega)⟩
       · have e8:z 36 = .pointer (some ⟨g,0,none⟩):=hz 8 _ (hw 8 (by kernel_rfl)) rfl
         have cc:=row32_cell h.box 0 (by rw [Ht.out]; decide)
         refine wpOp_plain rfl rfl ?_
         go_simp
         exact ⟨m,upd z 37 (.int .u32 (t.getD 0 0)),(by unfold Hid; simp [upd,e8]),hz.next d5_apart h.sz 9 (by decide) _ (fun _ h => Option.some.inj h),h.read 9 (by omega)⟩
       · refine wpOp_plain rfl rfl ?_
         go_simp
         exact ⟨m,upd z 38 (.pointer (some ⟨g,1,none⟩)),(by unfold Hid; simp [upd]),hz.next d5_apart h.sz 10 (by decide) _ (fun _ h => Option.some.inj h),h.read 10 (by omega)⟩
       · have e10:z 38 = .pointer (some ⟨g,1,none⟩):=hz 10 _ (hw 10 (by kernel_rfl)) rfl
         have cc:=row32_cell h.box 1 (by rw [Ht.out]; decide)
         refine wpOp_plain rfl rfl ?_
         go_simp
         exact ⟨m,upd z 39 (.int .u32 (t.getD 1 0)),(by unfold Hid; simp [upd,e10]),hz.next d5_apart h.sz 11 (by decide) _ (fun _ h => Option.some.inj h),h.read 11 (by omega)⟩
       · refine wpOp_plain rfl rfl ?_
         go_simp
         exact ⟨m,upd z 40 (.pointer (some ⟨g,2,none⟩)),(by unfold Hid; simp [upd]),hz.next d5_apart h.sz 12 (by decide) _ (fun _ h => Option.some.inj h),h.read 12 (by omega)⟩
       · have e12:z 40 = .pointer (some ⟨g,2,none⟩):=hz 12 _ (hw 12 (by kernel_rfl)) rfl
         have cc:=row32_cell h.box 2 (by rw [Ht.out]; decide)
         refine wpOp_plain rfl rfl ?_
         go_simp
         exact ⟨m,upd z 41 (.int .u32 (t.getD 2 0)),(by unfold Hid; simp [upd,e12]),hz.next d5_apart h.sz 13 (by decide) _ (fun _ h => Option.some.inj h),h.read 13 (by omega)⟩
       · refine wpOp_plain rfl rfl ?_
         go_simp
         exact ⟨m,upd z 42 (.pointer (some ⟨g,3,none⟩)),(by unfold Hid; simp [upd]),hz.next d5_apart h.sz 14 (by decide) _ (fun _ h => Option.some.inj h),h.read 14 (by omega)⟩
       · have e14:z 42 = .pointer (some ⟨g,3,none⟩):=hz 14 _ (hw 14 (by kernel_rfl)) rfl
         have cc:=row32_cell h.box 3 (by rw [Ht.out]; decide)
         refine wpOp_plain rfl rfl ?_
         go_simp
         exact ⟨m,upd z 43 (.int .u32 (t.getD 3 0)),(by unfold Hid; simp [upd,e14]),hz.next d5_apart h.sz 15 (by decide) _ (fun _ h => Option.some.inj h),h.read 15 (by omega)⟩
       · have e1:z 29 = .int .i64 (A:Nat):=hz 1 _ (hw 1 (by kernel_rfl)) rfl
         refine wpOp_plain rfl rfl ?_
         go_simp
         exact ⟨m,upd z 44 (.pointer (some ⟨w.heap.size,A,none⟩)),(by unfold Hid; simp [upd,e1]),hz.next d5_apart h.sz 16 (by decide) _ (fun _ h => Option.some.inj h),h.read 16 (by omega)⟩
       · have e16:z 44 = .pointer (some ⟨w.heap.size,A,none⟩):=hz 16 _ (hw 16 (by kernel_rfl)) rfl
         have e9:z 37 = .int .u32 (t.getD 0 0):=hz 9 _ (hw 9 (by kernel_rfl)) rfl
         obtain ⟨rfl,hR⟩:=h.w1 hu
         have cc:=row32_cell h.inv.row A (by rw [wrote_length,Hl.out]; exact a16)
         have fz:=free_row h.inv.row A
         refine wpOp_plain rfl rfl ?_
         go_simp
         exact ⟨_,z,(by unfold Hid; simp [e16,e9]),hz.pass 17 rfl,hR⟩
       · have e3:z 31 = .int .i64 (B:Nat):=hz 3 _ (hw 3 (by kernel_rfl)) rfl
         refine wpOp_plain rfl rfl ?_
         go_simp
         exact ⟨m,upd z 45 (.pointer (some ⟨w.heap.size,B,none⟩)),(by unfold Hid; simp [upd,e3]),hz.next d5_apart h.sz 18 (by decide) _ (fun _ h => Option.some.inj h),h.read 18 (by omega)⟩
       · have e18:z 45 = .pointer (some ⟨w.heap.size,B,none⟩):=hz 18 _ (hw 18 (by kernel_rfl)) rfl
         have e11:z 39 = .int .u32 (t.getD 1 0):=hz 11 _ (hw 11 (by kernel_rfl)) rfl
         obtain ⟨rfl,hR⟩:=h.w2 (hw 17 (by kernel_rfl)) hu
         have cc:=row32_cell h.inv.row B (by rw [wrote_length,Hl.out]; exact b16)
         have fz:=free_row h.inv.row B
         refine wpOp_plain rfl rfl ?_
         go_simp
         exact ⟨_,z,(by unfold Hid; simp [e18,e11]),hz.pass 19 rfl,hR⟩
       · have e5:z 33 = .int .i64 (C:Nat):=hz 5 _ (hw 5 (by kernel_rfl)) rfl
         refine wpOp_plain rfl rfl ?_
         go_simp
         exact ⟨m,upd z 46 (.pointer (some ⟨w.heap.size,C,none⟩)),(by unfold Hid; simp [upd,e5]),hz.next d5_apart h.sz 20 (by decide) _ (fun _ h => Option.some.inj h),h.read 20 (by omega)⟩
       · have e20:z 46 = .pointer (some ⟨w.heap.size,C,none⟩):=hz 20 _ (hw 20 (by kernel_rfl)) rfl
         have e13:z 41 = .int .u32 (t.getD 2 0):=hz 13 _ (hw 13 (by kernel_rfl)) rfl
         obtain ⟨rfl,hR⟩:=h.w3 (hw 19 (by kernel_rfl)) hu
         have cc:=row32_cell h.inv.row C (by rw [wrote_length,Hl.out]; exact c16)
         have fz:=free_row h.inv.row C
         refine wpOp_plain rfl rfl ?_
         go_simp
         exact ⟨_,z,(by unfold Hid; simp [e20,e13]),hz.pass 21 rfl,hR⟩
       · have e7:z 35 = .int .i64 (D:Nat):=hz 7 _ (hw 7 (by kernel_rfl)) rfl
         refine wpOp_plain rfl rfl ?_
         go_simp
         exact ⟨m,upd z 47 (.pointer (some ⟨w.heap.size,D,none⟩)),(by unfold Hid; simp [upd,e7]),hz.next d5_apart h.sz 22 (by decide) _ (fun _ h => Option.some.inj h),h.read 22 (by omega)⟩
       · have e22:z 47 = .pointer (some ⟨w.heap.size,D,none⟩):=hz 22 _ (hw 22 (by kernel_rfl)) rfl
         have e15:z 43 = .int .u32 (t.getD 3 0):=hz 15 _ (hw 15 (by kernel_rfl)) rfl
         obtain ⟨rfl,hR⟩:=h.w4 (hw 21 (by kernel_rfl)) hu
         have cc:=row32_cell h.inv.row D (by rw [wrote_length,Hl.out]; exact d16)
         have fz:=free_row h.inv.row D
         refine wpOp_plain rfl rfl ?_
         go_simp
         exact ⟨_,z,(by unfold Hid; simp [e22,e15]),hz.pass 23 rfl,hR⟩
     · exact ⟨0,fun x => (#[.agg (u32s s),.pointer (some ⟨w.heap.size,0,none⟩),.pointer (some ⟨w.heap.size + 1,0,none⟩),undef,.pointer (some ⟨wr.heap.size,0,none⟩),.pointer (some ⟨g,0,none⟩),.agg (Arr.nums .i64 QW),.int .i64 (k:Int),u8,u9,u10,u11,u12,u13,u14,u15,u16,u17,u18,u19,u20,u21,u22,u23,u24,u25,u26,u27,u28,u29,u30,u31,u32,u33,u34,u35,u36,u37,u38,u39,u40,u41,u42,u43,u44,u45,u46,u47,u48,undef]:Array Value).getD x undef,rfl,Holding.start,⟨hR.out.sz,hR.out.own,hR.out.box,hR.out.inv.later (Below.refl _ _).drew,hR.out.hG,hR.out.c1,hR.out.c2,hR.out.c3,hR.out.c4,hR.out.hm⟩⟩
  · have h8:k = 8:=by omega
    rw [h8] at hinv
    have H8:=Lib.hid h8
    clear h8 hk
    obtain ⟨Z,hZ,hz⟩:=hinv.res
    have hr:=hinv.row
    have low:=hinv.low
    have hlen:(dr s 8).length = 16:=by rw [dr_length,Hs.out]
    have hrow:=setRow_heap wr _ _ (u32s (dr s 8)) _ _ hz
    have hlow:Below w.heap.size w (wr.setRow (w.heap.size + 1) (u32s (dr s 8))):=below_setRow low (by omega) _
    have hsz:(Tryz.prog.info? 187).map (·.size) = some (u32s (dr s 8)).size:=by rw [u32s_size,hlen]; exact infoS
    have hzz:(u32s Z).size = (u32s (dr s 8)).size:=by rw [u32s_size,u32s_size,hlen,hZ]
    have Hsz:=Lib.hid hsz
    have Hzz:=Lib.hid hzz
    have Hr:=Lib.hid hr
    have Hz:=Lib.hid hz
    have Hrow:=Lib.hid hrow
    clear hsz hzz hr hz hrow hZ hinv hlen hix
    go_wp2_with (first | (with_reducible refine wpList_load_row rfl 187 (.tmp 1) rfl w.heap.size rfl 187 (u32s (dr s 8)) (0,0) _ Hr.out Tryz.underlying187 rfl Hsz.out ?_) | (with_reducible refine wpList_store_row rfl 187 (.tmp 2) (.tmp 49) rfl (w.heap.size + 1) (u32s (dr s 8)) rfl rfl 187 (u32s Z) Hz.out Hsz.out Hzz.out (u32s_one _) ?_))
    exact bodyPost_ret (v:=.agg (u32s (dr s 8))) (results_cell_row rfl _ _ (w.heap.size + 1) 187 _ (0,0) _ rfl Hrow.out Tryz.underlying187 rfl Hsz.out) rfl ⟨rfl,hlow⟩
end Go.Proofs.YteeghgjkjicjoaaGreatDoor.Cha
