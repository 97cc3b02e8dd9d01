/- Texts of ours, merged. -/
import Derived.Test.YteeghgjkjicjoaaGreatDoorB6
import Derived.Maps.AppendAt
import Derived.Shelf.Abstract
import Derived.Laws.BytesArg
namespace Go.Proofs.YteeghgjkjicjoaaGreatDoor.Cha
open Go.RowKit
attribute [local go_sem] Oper.semAt_some
theorem pieces_stops (m Bb Bc:Nat) (hm:2 ≤ m) (g off n cap:Nat) (hn:n ≤ cap) (hsm:n ≤ 1000000) (c:Int) (c0:0 ≤ c) (cb:c + (nbl n:Nat) ≤ 4294967296) (w:World)
 (hb:Boxed w Bb 38 (.slice (some ⟨g,off,none⟩) n cap)) (hc:Boxed w Bc 47 (.int .u32 c)) :
 SeqStopsK Fence.wide m Tryz.prog 142 #[.pointer (some ⟨Bb,0,none⟩),.pointer (some ⟨Bc,0,none⟩)] (fun x:Fin (nbl n) => #[.int .u32 (c + (x.val:Nat)),.slice (some ⟨g,off + x.val * 64,none⟩) (min 64 (n - x.val * 64)) (cap - x.val * 64)]) (KpB Bb Bc) (fun ys => ys = List.finRange (nbl n)) (fun _ => True) (nbl n) w:=fun l J Jx W hW hJ _ hY h0 =>
 pieces1_in m l Bb Bc hm g off n cap hn hsm c c0 cb J Jx (fun pre W' h => hJ pre W' W'.drew none h ⟨rfl,rfl,rfl,Nat.le_refl _,fun _ _ _ => rfl⟩ (fun r e => by cases e)) hY W ((hW.block _ hb.lt).trans hb) ((hW.block _ hc.lt).trans hc) h0
noncomputable def loadK (v:Value):Sem Value:=Instr.loadAt 24 v
theorem loadAtK (v:Value):Instr.loadAt 24 v = loadK v:=rfl
noncomputable def loadN (v:Value):Sem Value:=Instr.loadAt 160 v
theorem loadAtN (v:Value):Instr.loadAt 160 v = loadN v:=rfl
noncomputable def storeB (a v:Value):Sem Unit:=Instr.storeAt 167 a v
theorem storeAtB (a v:Value):Instr.storeAt 167 a v = storeB a v:=rfl
theorem loadK_eq {w:World} {g:Nat} {l:List Int} (hl:l.length = 32) (h:w.heap[g]? = some (.cells (u8s l) 24 (0,0))):(loadK (.pointer (some ⟨g,0,none⟩))).run Tryz.prog w = .ok (.agg (u8s l)) w:=by
 have hi:(Tryz.prog.info? 24).map (·.size) = some (u8s l).size:=by rw [u8s_size,hl]; kernel_rfl
 unfold loadK
 simp only [Instr.loadAt,Instr.sureAddr,Sem.run_bind,Sem.run_pure,Result.andThen_ok,run_loadVar_row w g 24 24 _ (0,0) _ h Tryz.underlying24 rfl hi]
theorem loadN_eq {w:World} {g:Nat} {l:List Int} (hl:l.length = 12) (h:w.heap[g]? = some (.cells (u8s l) 160 (0,0))):(loadN (.pointer (some ⟨g,0,none⟩))).run Tryz.prog w = .ok (.agg (u8s l)) w:=by
 have hi:(Tryz.prog.info? 160).map (·.size) = some (u8s l).size:=by rw [u8s_size,hl]; kernel_rfl
 unfold loadN
 simp only [Instr.loadAt,Instr.sureAddr,Sem.run_bind,Sem.run_pure,Result.andThen_ok,run_loadVar_row w g 160 160 _ (0,0) _ h Tryz.underlying160 rfl hi]
theorem storeB_eq {w:World} {l:List Int} (hl:l.length = 64):(storeB (.pointer (some ⟨w.heap.size,0,none⟩)) (.agg (u8s l))).run Tryz.prog (w.alloc (.cells #[.int .u8 0,.int .u8 0,.int .u8 0,.int .u8 0,.int .u8 0,.int .u8 0,.int .u8 0,.int .u8 0,.int .u8 0,.int .u8 0,.int .u8 0,.int .u8 0,.int .u8 0,.int .u8 0,.int .u8 0,.int .u8 0,.int .u8 0,.int .u8 0,.int .u8 0,.int .u8 0,.int .u8 0,.int .u8 0,.int .u8 0,.int .u8 0,.int .u8 0,.int .u8 0,.int .u8 0,.int .u8 0,.int .u8 0,.int .u8 0,.int .u8 0,.int .u8 0,.int .u8 0,.int .u8 0,.int .u8 0,.int .u8 0,.int .u8 0,.int .u8 0,.int .u8 0,.int .u8 0,.int .u8 0,.int .u8 0,.int .u8 0,.int .u8 0,.int .u8 0,.int .u8 0,.int .u8 0,.int .u8 0,.int .u8 0,.int .u8 0,.int .u8 0,.int .u8 0,.int .u8 0,.int .u8 0,.int .u8 0,.int .u8 0,.int .u8 0,.int .u8 0,.int .u8 0,.int .u8 0,.int .u8 0,.int .u8 0,.int .u8 0,.int .u8 0] 167)) = .ok () (w.alloc (.cells (u8s l) 167)):=by
 change (storeB (.pointer (some ⟨w.heap.size,0,none⟩)) (.agg (u8s l))).run Tryz.prog (w.alloc (.cells (u8s zeros64) 167)) = _
 unfold storeB
 simp only [Instr.storeAt,Instr.sureAddr,Sem.run_bind,Sem.run_pure,Result.andThen_ok,run_storeVar_row (w.alloc (.cells (u8s zeros64) 167)) w.heap.size 167 167 (u8s zeros64) (u8s l) (Go.heap_alloc_new _ _) (by rw [u8s_size,hl]; exact info64) (by rw [u8s_size,u8s_size,hl]; rfl) (u8s_one _)]
 rw [World.setRow_alloc_new]
noncomputable def appendC (ts:Array TypeId) (ty:TypeId) (args:Array Value):Sem Value:=Builtin.append_ ts ty args
theorem appendC_eq (ts:Array TypeId) (ty:TypeId) (args:Array Value):Builtin.append_ ts ty args = appendC ts ty args:=rfl
theorem info8:(Tryz.prog.info? 5).map (fun i => (i.zero,i.size,i.bytes)) = some (some (.int .u8 0),1,1):=by kernel_rfl
theorem append_one {w:World} (ty:TypeId) {base k:Nat} {v:Value} {xs:List Int} (hown:w.ownsRow base 5 1 v k (vals xs)) {G:Nat} {y:Int} (hcell:w.cell? ⟨G,0,none⟩ = some (.int .u8 y)) (b1:k ≤ 1000000) (b3:base ≤ w.heap.size) :
 ∃ v' w',(appendC #[38, 38] ty #[v,.slice (some ⟨G,0,none⟩) 1 1]).run Tryz.prog w = .ok v' w' ∧ w'.ownsRow base 5 1 v' (k + 1) (vals (xs ++ [y])) ∧ w.grownBy w' v.ownBlock:=by
 obtain ⟨i0,hi,hz0,hz1,hz2⟩:=info_parts info8
 unfold appendC
 obtain ⟨v',w',hr,hown',hgrow,_⟩:=run_append_own (P:=Tryz.prog) w base 38 ty 5 i0 (.int .u8 0) 1 1 Tryz.underlying38 hi hz0 hz1 hz2 rfl (by decide) v k (vals xs) hown ⟨G,0,none⟩ 1 1 [.int .u8 y] rfl
  (fun j u hj => by
   match j,hj with
   | 0,hj => simp at hj; subst hj; simpa [Addr.add_mid] using hcell)
  (fun u hu => by simp at hu; subst hu; rfl) (by unfold maxLen; omega) (by omega) b3
 exact ⟨v',w',hr,by simpa [vals] using hown',hgrow⟩
attribute [irreducible] loadK loadN storeB appendC
attribute [local go_sem ↓ high] loadAtK loadAtN storeAtB appendC_eq
theorem row_not_own {W:World} {k:Nat} {cs:Array Value} {t e:TypeId} {fr:Nat × Nat} (h:W.heap[k]? = some (.cells cs t fr)) (hte:t ≠ e) {base size m:Nat} {v:Value} {xs:List Value} (hr:W.ownsRow base e size v m xs):some k ≠ v.ownBlock:=by
 rcases hr.2 with ⟨rfl,_⟩ | ⟨g,cap,cur,rfl,_,hgb,_⟩
 · simp [Value.ownBlock]
 · intro e'
   obtain rfl:k = g:=by simpa [Value.ownBlock] using e'
   have:=h.symm.trans hgb
   simp at this
   exact hte this.2.1
theorem row_appended {W w1:World} {k B:Nat} {cs:Array Value} {t e:TypeId} {fr:Nat × Nat} (h:W.heap[k]? = some (.cells cs t fr)) (hte:t ≠ e) (hkB:k ≠ B) {base size m:Nat} {v v':Value} {xs:List Value} {tmp:Obj} (hr:W.ownsRow base e size v m xs) (hgrow:(W.alloc tmp).grownBy w1 v.ownBlock) :
 (w1.setCell ⟨B,0,none⟩ v').heap[k]? = some (.cells cs t fr):=by
 have hlt:=(Array.getElem?_eq_some_iff.1 h).1
 rw [heap_setCell_other _ _ _ _ (fun e' => hkB e'),hgrow.block k (by simp; omega) (row_not_own h hte hr)]
 exact (Go.heap_alloc_old W tmp hlt).trans h
theorem row_kept {W W':World} {row:Option Nat} {k:Nat} {cs:Array Value} {t:TypeId} {fr:Nat × Nat} (h:W.heap[k]? = some (.cells cs t fr)) (hg:W.grownBy W' row) (hrow:∀ r,row = some r → ∃ o:Obj,W.heap[r]? = some o ∧ o.isCells = false):W'.heap[k]? = some (.cells cs t fr) :=
 (hg.block k (Array.getElem?_eq_some_iff.1 h).1 (fun e => by obtain ⟨o,ho,hc⟩:=hrow k e.symm; rw [h] at ho; cases ho; cases hc)).trans h
structure SI (K Nn xs:List Int) (vb:Value) (c:Int) (N OB:Nat) (w W:World):Prop where
 box:∃ v,Boxed W OB 38 v ∧ W.ownsRow (N + 1 + 1) 5 1 v xs.length (vals xs)
 key:W.heap[N]? = some (.cells (u8s K) 24 (0,0))
 non:W.heap[N + 1]? = some (.cells (u8s Nn) 160 (0,0))
 bb:Boxed W (OB + 1 + 1) 38 vb
 bc:Boxed W (OB + 1) 47 (.int .u32 c)
 ob:N + 1 + 1 ≤ OB
 low:Below N w W
theorem SI.own {α:Type} (K Nn:List Int) (f:α → List Int) (vb:Value) (c:Int) (N OB B:Nat) (w:World) (hN:N ≤ w.heap.size) (hB:N ≤ B):OwnFrom B (fun s W => SI K Nn (f s) vb c N OB w W):=by
 intro s X Y row hs hg hr
 have hr':∀ r,row = some r → ∃ o:Obj,X.heap[r]? = some o ∧ o.isCells = false:=fun r e => (hr r e).2
 obtain ⟨v,h1,h2,_⟩:=holdsRow_own (N + 1 + 1) OB 38 5 1 (fun s => (f s).length) (fun s => vals (f s)) (fun _ _ => True) s X Y row (by obtain ⟨v,a,b⟩:=hs.box; exact ⟨v,a,b,trivial⟩) hg hr'
 exact ⟨⟨v,h1,h2⟩,row_kept hs.key hg hr',row_kept hs.non hg hr',row_kept hs.bb hg hr',row_kept hs.bc hg hr',hs.ob,(ownFrom_below (β:=Unit) (w₀:=w) hN hB) () X Y row hs.low hg hr⟩
theorem SI.later {K Nn xs:List Int} {vb:Value} {c:Int} {N OB:Nat} {w W W':World} (h:SI K Nn xs vb c N OB w W) (hN:N ≤ w.heap.size) (hb:Below W.heap.size W W'):SI K Nn xs vb c N OB w W' :=
 SI.own (α:=Unit) K Nn (fun _ => xs) vb c N OB (N + W.heap.size) w hN (by omega) () W W' none h ⟨hb.os,hb.tape,hb.output,hb.size,fun k hk _ => hb.block k hk⟩ (fun r e => by cases e)
theorem oth_below {W W':World} (hb:Below W.heap.size W W'):KeepsOthers W W':=⟨hb.size,fun k _ hk _ => (hb.block k (Array.getElem?_eq_some_iff.1 hk).1).trans hk⟩
structure QI (K Nn xs:List Int) (vb:Value) (c:Int) (N OB:Nat) (w:World) (Bl:List Int) (G:Nat) (W0 W:World):Prop where
 si:SI K Nn xs vb c N OB w W
 blk:W.heap[G]? = some (.cells (u8s Bl) 167 (0,0))
 gob:OB + 1 + 1 < G
 oth:KeepsOthers W0 W
theorem QI.next {K Nn xs:List Int} {vb:Value} {c:Int} {N OB:Nat} {w:World} {Bl:List Int} {G:Nat} {W0 W w1:World} {y:Int} {v v':Value} {tmp:Obj} (h:QI K Nn xs vb c N OB w Bl G W0 W)
 (hv:Boxed W OB 38 v) (hrow:W.ownsRow (N + 1 + 1) 5 1 v xs.length (vals xs)) (hown':w1.ownsRow (N + 1 + 1) 5 1 v' (xs.length + 1) (vals (xs ++ [y]))) (hgrow:(W.alloc tmp).grownBy w1 v.ownBlock) :
 Boxed w1 OB 38 v ∧ QI K Nn (xs ++ [y]) vb c N OB w Bl G W0 (w1.setCell ⟨OB,0,none⟩ v'):=by
 have hs:=h.si
 have hg:=h.gob
 have hlt:=(Array.getElem?_eq_some_iff.1 h.blk).1
 have hob:=hs.ob
 obtain ⟨p1,p2,p3,p4,p5⟩:=hv.appended (by decide) hrow (by omega) hob hown' hgrow
 refine ⟨p1,⟨⟨v',p2,by simpa using p3⟩,?_,?_,?_,?_,hob,hs.low.trans (p5.mono (by omega))⟩,?_,hg,h.oth.trans p4⟩
 · exact row_appended hs.key (by decide) (by omega) hrow hgrow
 · exact row_appended hs.non (by decide) (by omega) hrow hgrow
 · exact row_appended hs.bb (by decide) (by omega) hrow hgrow
 · exact row_appended hs.bc (by decide) (by omega) hrow hgrow
 · exact row_appended h.blk (by decide) (by omega) hrow hgrow
theorem own_slice {w:World} {base t:Nat} {v:Value} {xs:List Int} {n:Nat} (h:w.ownsRow base t 1 v xs.length (vals xs)) (hn:xs.length = n) (h0:0 < n):∃ g c,v = .slice (some ⟨g,0,none⟩) n c ∧ Byt w (some ⟨g,0,none⟩) c xs:=by
 obtain ⟨_,h⟩:=h
 rcases h with ⟨_,h⟩ | ⟨g',cap,cur,hv,_,hh,hcap,_,hs,ht⟩
 · omega
 · refine ⟨g',cap,by rw [hv,hn],hcap,(fun h => by cases h),fun _ => ⟨g',0,rfl,(Array.getElem?_eq_some_iff.1 hh).1,fun j hj => ?_⟩⟩
   rw [Nat.zero_add,cell_row hh]
   have h2:cur[j]? = cur.toList[j]?:=by simp
   have h3:(cur.toList.take (xs.length * 1))[j]? = cur.toList[j]?:=by rw [List.getElem?_take,if_pos (by omega)]
   rw [h2,← h3,ht]
   simp [vals,hj]
theorem own_slice2 {w:World} {base t:Nat} {v:Value} {xs:List Int} {n:Nat} (h:w.ownsRow base t 1 v xs.length (vals xs)) (hn:xs.length = n) (h0:0 < n):∃ g c,v = .slice (some ⟨g,0,none⟩) n c ∧ Byt w (some ⟨g,0,none⟩) c xs ∧ base ≤ g ∧ ∀ j,w.frozen? ⟨g,j,none⟩ = false:=by
 obtain ⟨g,c,rfl,hb⟩:=own_slice h hn h0
 refine ⟨g,c,rfl,hb,(h.lt g rfl).1,fun j => ?_⟩
 rcases h.2 with ⟨hv,_⟩ | ⟨g',cap,cur,hv,_,hh,_⟩
 · cases hv
 · cases hv
   simp [World.frozen?,hh]
theorem outs_all' {K Nn L:List Int} {c:Int} {n:Nat} (hl:L.length = n):outsL K c Nn L (List.finRange (nbl n)) = streamL K c Nn L:=by
 subst hl; exact outs_all K c Nn L
structure XI (W0:World) (yy:Int) (P7:Value → World → Prop) (P8:World → Prop) (L:Array Bool) (v48 v49:Value) (wx:World):Prop where
 sz:L.size = 9
 s0:L.getD 6 false = false → wx = W0
 s1:L.getD 6 false = true → L.getD 7 false = false → wx = W0.alloc (.cells #[.int .u8 yy] 5) ∧ v48 = .slice (some ⟨W0.heap.size,0,none⟩) 1 1
 s2:L.getD 7 false = true → L.getD 8 false = false → P7 v49 wx
 s3:L.getD 8 false = true → P8 wx
 q7:L.getD 7 false = true → L.getD 6 false = true
 q8:L.getD 8 false = true → L.getD 7 false = true
 q70:L.getD 7 false = true → L.getD 0 false = true
 q64:L.getD 6 false = true → L.getD 4 false = true
 q54:L.getD 5 false = true → L.getD 4 false = true
theorem no_of {a b:Bool} (h:a = true → b = true) (hb:b = false):a = false:=by
 cases a with
 | false => rfl
 | true => rw [h rfl] at hb; cases hb
section
variable {W0:World} {yy:Int} {P7:Value → World → Prop} {P8:World → Prop} {L:Array Bool} {v48 v49:Value} {wx:World}
theorem XI.read (h:XI W0 yy P7 P8 L v48 v49 wx) (i:Nat) (hi:i < 6) (h5:i = 5 → L.getD 4 false = true):XI W0 yy P7 P8 (L.setIfInBounds i true) v48 v49 wx where
 sz:=by simp [h.sz]
 s0:=by rw [getD_set_ne false (by omega)]; exact h.s0
 s1:=by rw [getD_set_ne false (by omega),getD_set_ne false (by omega)]; exact h.s1
 s2:=by rw [getD_set_ne false (by omega),getD_set_ne false (by omega)]; exact h.s2
 s3:=by rw [getD_set_ne false (by omega)]; exact h.s3
 q7 hl:=getD_set_true (h.q7 (lst hl (by omega)))
 q8 hl:=getD_set_true (h.q8 (lst hl (by omega)))
 q70 hl:=getD_set_true (h.q70 (lst hl (by omega)))
 q64 hl:=getD_set_true (h.q64 (lst hl (by omega)))
 q54 hl:=by
  by_cases e:i = 5
  · exact getD_set_true (h5 e)
  · exact getD_set_true (h.q54 (lst hl (Ne.symm e)))
theorem XI.at4 (h:XI W0 yy P7 P8 L v48 v49 wx) (hu:L.getD 4 false = false):wx = W0:=h.s0 (no_of h.q64 hu)
theorem XI.at0 (h:XI W0 yy P7 P8 L v48 v49 wx) (hu:L.getD 0 false = false):wx = W0 ∨ ∃ o,wx = W0.alloc o:=by
 cases e:L.getD 6 false with
 | false => exact .inl (h.s0 e)
 | true => exact .inr ⟨_,(h.s1 e (no_of h.q70 hu)).1⟩
theorem XI.six (h:XI W0 yy P7 P8 L v48 v49 wx) (hu:L.getD 6 false = false) (h5:L.getD 5 false = true):wx = W0 ∧ XI W0 yy P7 P8 (L.setIfInBounds 6 true) (.slice (some ⟨W0.heap.size,0,none⟩) 1 1) v49 (W0.alloc (.cells #[.int .u8 yy] 5)):=by
 have n7:=no_of h.q7 hu
 have n8:=no_of h.q8 n7
 refine ⟨h.s0 hu,by simp [h.sz],fun hl => by simp [h.sz] at hl,fun _ _ => ⟨rfl,rfl⟩,fun hl => ?_,fun hl => ?_,fun _ => by simp [h.sz],fun hl => ?_,fun hl => ?_,fun _ => getD_set_true (h.q54 h5),fun hl => getD_set_true (h.q54 (lst hl (by omega)))⟩
 · have:=lst hl (by omega); rw [n7] at this; cases this
 · have:=lst hl (by omega); rw [n8] at this; cases this
 · have:=lst hl (by omega); rw [n8] at this; cases this
 · have:=lst hl (by omega); rw [n7] at this; cases this
theorem XI.seven (h:XI W0 yy P7 P8 L v48 v49 wx) (hu:L.getD 7 false = false) (h6:L.getD 6 false = true) (h0:L.getD 0 false = true):wx = W0.alloc (.cells #[.int .u8 yy] 5) ∧ v48 = .slice (some ⟨W0.heap.size,0,none⟩) 1 1 ∧
 ∀ v' w1,P7 v' w1 → XI W0 yy P7 P8 (L.setIfInBounds 7 true) v48 v' w1:=by
 obtain ⟨e1,e2⟩:=h.s1 h6 hu
 have n8:=no_of h.q8 hu
 refine ⟨e1,e2,fun v' w1 hp => ⟨by simp [h.sz],fun hl => ?_,fun _ hl => by simp [h.sz] at hl,fun _ _ => hp,fun hl => ?_,fun _ => getD_set_true h6,fun hl => ?_,fun _ => getD_set_true h0,fun hl => getD_set_true (h.q64 (lst hl (by omega))),fun hl => getD_set_true (h.q54 (lst hl (by omega)))⟩⟩
 · rw [getD_set_true h6] at hl; cases hl
 · have:=lst hl (by omega); rw [n8] at this; cases this
 · have:=lst hl (by omega); rw [n8] at this; cases this
theorem XI.eight (h:XI W0 yy P7 P8 L v48 v49 wx) (hu:L.getD 8 false = false) (h7:L.getD 7 false = true):P7 v49 wx ∧ ∀ w',P8 w' → XI W0 yy P7 P8 (L.setIfInBounds 8 true) v48 v49 w':=by
 have h6:=h.q7 h7
 refine ⟨h.s2 h7 hu,fun w' hp => ⟨by simp [h.sz],fun hl => ?_,fun _ hl => ?_,fun _ hl => by simp [h.sz] at hl,fun _ => hp,fun _ => getD_set_true h6,fun _ => getD_set_true h7,fun _ => getD_set_true (h.q70 h7),fun hl => getD_set_true (h.q64 (lst hl (by omega))),fun hl => getD_set_true (h.q54 (lst hl (by omega)))⟩⟩
 · rw [getD_set_true h6] at hl; cases hl
 · rw [getD_set_true h7] at hl; cases hl
end
theorem d9_apart:apartB [42,43,44,45,46,47,48,49,1000] = true:=by decide
set_option maxRecDepth 100000 in
set_option maxHeartbeats 4000000 in
theorem stream_new (K Nn L:List Int) (c:Int) (A:Option Addr) (n cap:Nat) (hK:K.length = 32) (hN:Nn.length = 12) (bK:InB K) (bN:InB Nn) (hl:L.length = n) (hpos:0 < n) (hsm:n ≤ 200000) (c0:0 ≤ c) (cb:c + (nbl n:Nat) ≤ 4294967296) (w:World) (hB:Byt w A cap L) (hL:Laid w) :
 Calls Tryz.prog 114 #[.agg (u8s K),.int .u32 c,.agg (u8s Nn),.slice A n cap] w fun e' w' => ∃ g c',e' = .returned (.tuple #[.slice (some ⟨g,0,none⟩) n c',.int .i64 0]) ∧ Byt w' (some ⟨g,0,none⟩) c' (streamL K c Nn L) ∧ Below w.heap.size w w' ∧ w.heap.size ≤ g ∧ ∀ j,w'.frozen? ⟨g,j,none⟩ = false:=by
 obtain ⟨g,off,rfl,hg,hcell⟩:=hB.2.2 (by omega)
 have hncap:n ≤ cap:=by have:=hB.1; omega
 obtain ⟨i0,hi,hz0,hz1,hz2⟩:=info_parts (show (Tryz.prog.info? 5).map (fun i => (i.zero,i.size,i.bytes)) = some (some (.int .u8 0),1,1) by kernel_rfl)
 have HBL:=Lib.hid (blocksOf_any n (by omega))
 have hcb':c + (nbl n:Nat) ≤ 4294967296:=cb
 have Hcell:=Lib.hid hcell
 have Hl:=Lib.hid hl
 clear hB hcell
 refine (callsIn_wide (n:=8)).1 ?_
 refine callsIn_of_wp_marks Tryz.func114 rfl trivial ?_ rfl
 simp only [Tryz.ntmps114,List.size_toArray,List.length_cons,List.length_nil,Nat.reduceAdd,Nat.reduceSub,Array.replicate_succ,Array.replicate_zero,List.push_toArray,List.append_toArray,List.nil_append,List.cons_append]
 gi_wp2_with (first
  | (refine ⟨trivial,?_⟩; gi_at_call 128; refine (callsIn_wide.2 (HBL.out _)).mono ?_; rintro e w' ⟨rfl,rfl⟩)
  | (refine wpListIn_make_own _ rfl _ _ 38 rfl (w.heap.size + 1 + 1) 5 i0 (.int .u8 0) 1 Tryz.underlying38 hi hz0 hz1 .i64 .i64 _ n rfl rfl rfl (by rw [hz2]; omega) (by unfold maxLen; omega) (by simp) ?_; intro w2 hown2 hgrow2; have Hown2:=Lib.hid hown2; have Hgrow2:=Lib.hid hgrow2; clear hown2 hgrow2)
  | (refine ⟨trivial,?_⟩; gi_at_call 129; refine (callsIn_wide.2 (pieces_any _ n cap c _)).mono ?_; rintro e w' ⟨rfl,rfl⟩))
 have hW0:SI K Nn [] (.slice (some ⟨g,off,none⟩) n cap) c w.heap.size w2.heap.size w (((w2.alloc (.cells #[.slice (some ⟨w.heap.size + 1 + 1,0,none⟩) 0 n] 38)).alloc (.cells #[.int .u32 c] 47)).alloc (.cells #[.slice (some ⟨g,off,none⟩) n cap] 38)):=by
  have h2:=two_new w (.cells (u8s K) 24) (.cells (u8s Nn) 160)
  have h3:=three_new w2 (.cells #[.slice (some ⟨w.heap.size + 1 + 1,0,none⟩) 0 n] 38) (.cells #[.int .u32 c] 47) (.cells #[.slice (some ⟨g,off,none⟩) n cap] 38)
  have k3:=below3 w2 (.cells #[.slice (some ⟨w.heap.size + 1 + 1,0,none⟩) 0 n] 38) (.cells #[.int .u32 c] 47) (.cells #[.slice (some ⟨g,off,none⟩) n cap] 38)
  have hs:=Hgrow2.out.size
  simp only [World.size_alloc] at hs
  have e1:w2.heap[w.heap.size]? = _:=(Hgrow2.out.block _ (by simp; omega) (by simp)).trans h2.1
  have e2:w2.heap[w.heap.size + 1]? = _:=(Hgrow2.out.block _ (by simp) (by simp)).trans h2.2
  have b2:Below w.heap.size w w2:=(((Below.refl _ w).alloc (Nat.le_refl _) (.cells (u8s K) 24)).alloc (by simp) (.cells (u8s Nn) 160)).grown Hgrow2.out (by simp; omega) (fun k hk => by cases hk)
  have hown:=((Hown2.out.alloc (.cells #[.slice (some ⟨w.heap.size + 1 + 1,0,none⟩) 0 n] 38)).alloc (.cells #[.int .u32 c] 47)).alloc (.cells #[.slice (some ⟨g,off,none⟩) n cap] 38)
  simp only [World.size_alloc] at hown
  exact ⟨⟨_,h3.1,hown⟩,(k3.block _ (by omega)).trans e1,(k3.block _ (by omega)).trans e2,h3.2.2,h3.2.1,by omega,b2.trans (k3.mono (by omega))⟩
 have HW0:=Lib.hid hW0
 have hbb:=hW0.bb
 have hbc:=hW0.bc
 have hs2:w.heap.size + 1 + 1 ≤ w2.heap.size:=hW0.ob
 clear hW0
 refine wpIn_rangeFunc_ownF rfl (by omega) (gf := 142) (lb:=#[.pointer (some ⟨w2.heap.size + 1 + 1,0,none⟩),.pointer (some ⟨w2.heap.size + 1,0,none⟩)]) rfl trivial (Go.Proofs.enters_of Tryz.func142 (by kernel_rfl) rfl)
  (pieces_stops 7 (w2.heap.size + 1 + 1) (w2.heap.size + 1) (by omega) g off n cap hncap (by omega) c c0 cb _ hbb hbc) (fun h k => KpB.trans h k)
  (fun W l' o o' hl' ho hc hw => ⟨World.putObj_heap_other (by simp at hl'; omega),World.putObj_heap_other (by simp at hl'; omega)⟩) (Below.refl _ _) (fun _ => rfl)
  (fun pre W => SI K Nn (outsL K c Nn L pre) (.slice (some ⟨g,off,none⟩) n cap) c w.heap.size w2.heap.size w W)
  (fun _ _ _ => False)
  (SI.own K Nn (fun pre => outsL K c Nn L pre) _ c w.heap.size w2.heap.size _ w (Nat.le_refl _) (by simp; omega))
  (fun _ _ _ _ _ hs _ _ => hs)
  HW0.out
  (fun x => { tmps:=#[.agg (u8s K),.int .u32 c,.agg (u8s Nn),.slice (some ⟨g,off,none⟩) n cap,.pointer (some ⟨w.heap.size,0,none⟩),undef,.pointer (some ⟨w.heap.size + 1,0,none⟩),undef,.slice none 0 0,.int .i64 0,.pointer (some ⟨w2.heap.size,0,none⟩),.int .u32 (c + (x.val:Nat)),.slice (some ⟨g,off + x.val * 64,none⟩) (min 64 (n - x.val * 64)) (cap - x.val * 64),undef,undef,undef,.int .u32 c,.int .u64 c,.slice (some ⟨g,off,none⟩) n cap,.int .i64 (n:Nat),.int .u64 (nbl n:Nat),.int .u64 (c + (nbl n:Nat)),.bool (decide (4294967296 < c + (nbl n:Nat))),.slice (some ⟨g,off,none⟩) n cap,.int .i64 (n:Nat),.slice (some ⟨w.heap.size + 1 + 1,0,none⟩) 0 n,.int .u32 c,.slice (some ⟨g,off,none⟩) n cap,.func (.func 142) #[] #[.pointer (some ⟨w2.heap.size + 1 + 1,0,none⟩),.pointer (some ⟨w2.heap.size + 1,0,none⟩)],.int .u32 (c + (x.val:Nat)),.slice (some ⟨g,off + x.val * 64,none⟩) (min 64 (n - x.val * 64)) (cap - x.val * 64),undef,undef,undef,undef,undef,undef,undef,undef,undef,undef,undef,undef,undef,undef,undef,undef,undef,undef,undef,undef,undef],defers:=[] }) ?assign ?body ?done ?stop
 case assign =>
  intro l x W K hK
  gi_wp2
  exact hK
 case body =>
  rintro l pre x W hI hlen
  have hS:SI K Nn (outsL K c Nn L pre) (.slice (some ⟨g,off,none⟩) n cap) c w.heap.size w2.heap.size w W:=hI
  have hk1:=loadK_eq hK hS.key
  have hn1:=loadN_eq hN hS.non
  have hx:=x.isLt
  have hx64:x.val * 64 < n:=by unfold nbl at hx; omega
  have HS:=Lib.hid hS
  have hlk:=hL.below hS.low hL.lt
  dsimp only
  generalize hmn:min 64 (n - x.val * 64) = mn
  generalize hcr:cap - x.val * 64 = cr
  generalize hxv:x.val = xv
  rw [hxv] at hx hx64
  have Hmn:=Lib.hid hmn
  have Hcr:=Lib.hid hcr
  have Hxv:=Lib.hid hxv
  clear hmn hcr hxv hI hS HW0
  gi_wp2_with (refine ⟨trivial,?_⟩; gi_at_call 130; refine (CallsIn.inRound l (callsIn_wide.2 (block_any K Nn (c + (xv:Nat)) hK hN bK bN _ hlk))).mono ?_; rintro e W3 ⟨rfl,low3⟩; have hst:=storeB_eq (w:=W3) (blockL_length K (c + (xv:Nat)) Nn); have Low3:=Lib.hid low3; clear low3)
  clear hk1 hn1 hst hlk
  obtain ⟨Bl,hBl⟩:∃ Bl,Bl = blockL K (c + (xv:Nat)) Nn:=⟨_,rfl⟩
  rw [← hBl]
  have HBl:=Lib.hid hBl
  have HBll:Hid (Bl.length = 64):=by show _ = _; rw [hBl,blockL_length]
  have HBli:Hid (InB Bl):=by show InB _; rw [hBl]; exact blockL_in _ _ _
  have hQ0:QI K Nn (outsL K c Nn L pre ++ pieceL K c Nn L xv 0) (.slice (some ⟨g,off,none⟩) n cap) c w.heap.size w2.heap.size w Bl W3.heap.size W (W3.alloc (.cells (u8s Bl) 167)):=by
   have hb:Below W.heap.size W (W3.alloc (.cells (u8s Bl) 167)):=Low3.out.alloc Low3.out.size _
   have h1:=HS.out.later (Nat.le_refl _) hb
   have h2:=HS.out.bb.lt
   have h3:=Low3.out.size
   exact ⟨by simpa [pieceL] using h1,Go.heap_alloc_new _ _,by omega,oth_below hb⟩
  have HQ0:=Lib.hid hQ0
  have hm64:mn ≤ 64:=by rw [← Hmn.out]; exact Nat.min_le_left _ _
  have hmn2:xv * 64 + mn ≤ n:=by have:=Nat.min_le_right 64 (n - x.val * 64); rw [Hmn.out,Hxv.out] at this; omega
  clear hBl hQ0
  gi_loopw [37] (fun i wr => ∃ m:Nat,m ≤ mn ∧ i = .int .i64 (m:Nat) ∧ Hid (QI K Nn (outsL K c Nn L pre ++ pieceL K c Nn L xv m) (.slice (some ⟨g,off,none⟩) n cap) c w.heap.size w2.heap.size w Bl W3.heap.size W wr)) (fun i _ => mn - (intOf i).toNat)
  case atStart => exact ⟨0,Nat.zero_le _,rfl,HQ0.out⟩
  case round =>
   obtain ⟨m,hm,rfl,hq⟩:=hrel
   clear HQ0
   by_cases hlt:m < mn
   · obtain ⟨y,hy⟩:∃ y,y = L.getD (xv * 64 + m) 0:=⟨_,rfl⟩
     have cy:wr.cell? ⟨g,off + xv * 64 + m,none⟩ = some (.int .u8 y):=by
      rw [hy,Nat.add_assoc]
      exact (hq.out.si.low.cell (p:=⟨g,off + (xv * 64 + m),none⟩) hg).trans (Hcell.out _ (by rw [Hl.out]; omega))
     have hlt':(m:Int) < (mn:Nat):=by omega
     have Hy:=Lib.hid hy
     clear hy
     gi_wp2
     obtain ⟨v,hv,hrow⟩:=hq.out.si.box
     have hvc:=hv.cell
     obtain ⟨bm,hbm⟩:∃ bm,bm = Bl.getD m 0:=⟨_,rfl⟩
     have cb:wr.cell? ⟨W3.heap.size,m,none⟩ = some (.int .u8 bm):=by rw [hbm]; exact row8_cell hq.out.blk m (by rw [HBll.out]; omega)
     have hm64':(m:Int) < 64:=by omega
     have hxo:strF K c Nn L (xv * 64 + m) = bits .xor .u8 y bm:=by rw [strF_at _ _ _ _ _ _ (by omega),← Hy.out,← HBl.out,← hbm]
     obtain ⟨xs,hxs⟩:∃ xs,xs = outsL K c Nn L pre ++ pieceL K c Nn L xv m:=⟨_,rfl⟩
     have hnx:outsL K c Nn L pre ++ pieceL K c Nn L xv (m + 1) = xs ++ [bits .xor .u8 y bm]:=by rw [hxs,pieceL_succ,hxo,List.append_assoc]
     rw [← hxs] at hq hrow
     have hxl:xs.length ≤ 1000000:=by
      rw [hxs,List.length_append,pieceL_length]
      have:=outsL_le K c Nn L pre
      have h2:nbl n ≤ 3126:=by unfold nbl; omega
      omega
     have Hrow:=Lib.hid hrow
     have Hnx:=Lib.hid hnx
     have Hxl:=Lib.hid hxl
     have Hv:=Lib.hid hv
     clear hbm hxo hxs hrow hnx hxl hv
     refine wpIn_region_any (by kernel_rfl) ?_
     change wpAnyIn _ _ _ _ _ _ _ _ _ (World.drew _)
     refine wpAnyIn_inv (fun Q a wx => ∃ (z:Nat → Value),Hid (a = ⟨#[.agg (u8s K),.int .u32 c,.agg (u8s Nn),.slice (some ⟨g,off,none⟩) n cap,.pointer (some ⟨w.heap.size,0,none⟩),undef,.pointer (some ⟨w.heap.size + 1,0,none⟩),undef,.slice none 0 0,.int .i64 0,.pointer (some ⟨w2.heap.size,0,none⟩),.int .u32 (c + (xv:Nat)),.slice (some ⟨g,off + xv * 64,none⟩) mn cr,.pointer (some ⟨W3.heap.size,0,none⟩),.int .i64 (m:Nat),.int .u8 y,.int .u32 c,.int .u64 c,.slice (some ⟨g,off,none⟩) n cap,.int .i64 (n:Nat),.int .u64 (nbl n:Nat),.int .u64 (c + (nbl n:Nat)),.bool (decide (4294967296 < c + (nbl n:Nat))),.slice (some ⟨g,off,none⟩) n cap,.int .i64 (n:Nat),.slice (some ⟨w.heap.size + 1 + 1,0,none⟩) 0 n,.int .u32 c,.slice (some ⟨g,off,none⟩) n cap,.func (.func 142) #[] #[.pointer (some ⟨w2.heap.size + 1 + 1,0,none⟩),.pointer (some ⟨w2.heap.size + 1,0,none⟩)],.int .u32 (c + (xv:Nat)),.slice (some ⟨g,off + xv * 64,none⟩) mn cr,.agg (u8s K),.int .u32 (c + (xv:Nat)),.agg (u8s Nn),.agg (u8s Bl),.slice (some ⟨g,off + xv * 64,none⟩) mn cr,.int .i64 (mn:Nat),.int .i64 (m:Nat),.bool true,.int .i64 (m:Nat),.pointer (some ⟨g,off + xv * 64 + m,none⟩),.int .u8 y,z 42,z 43,z 44,z 45,z 46,z 47,z 48,z 49,u50,undef],[]⟩) ∧ Holding [42,43,44,45,46,47,48,49,1000] [some (v),some (.int .u8 y),some (.int .i64 (m:Nat)),some (.pointer (some ⟨W3.heap.size,m,none⟩)),some (.int .u8 bm),some (.int .u8 (bits .xor .u8 y bm)),none,none,none] Q z ∧ XI wr.drew (bits .xor .u8 y bm) (fun v' w1 => w1.ownsRow (w.heap.size + 1 + 1) 5 1 v' (xs.length + 1) (vals (xs ++ [bits .xor .u8 y bm])) ∧ (wr.drew.alloc (.cells #[.int .u8 (bits .xor .u8 y bm)] 5)).grownBy w1 v.ownBlock) (fun w' => QI K Nn (outsL K c Nn L pre ++ pieceL K c Nn L xv (m + 1)) (.slice (some ⟨g,off,none⟩) n cap) c w.heap.size w2.heap.size w Bl W3.heap.size W w') Q (z 48) (z 49) wx) ?_ (by kernel_rfl) ?_ ?_ _ _ _ _ (unlisted_none _) ?_
     · rintro Q a wx ⟨z,_,_,h⟩
       exact h.sz
     · rintro Q a wx ⟨z,ha,hz,h⟩ hall
       obtain rfl:=ha.out
       clear ha
       have hq8:=Lib.hid (h.s3 (hall 8 (by decide)))
       clear h hall hz cy cb hvc
       gi_wp2
       go_roundw
       case rel => exact ⟨m + 1,by omega,by go_num,hq8.out⟩
       case measure => simp [intOf]; omega
     · rintro Q a wx i ⟨z,ha,hz,h⟩ hi hu hw
       obtain rfl:=ha.out
       clear ha
       have hi9:i < 9:=hi
       obtain rfl | rfl | rfl | rfl | rfl | rfl | rfl | rfl | rfl:i = 0 ∨ i = 1 ∨ i = 2 ∨ i = 3 ∨ i = 4 ∨ i = 5 ∨ i = 6 ∨ i = 7 ∨ i = 8:=by omega
       · have hvx:Boxed wx w2.heap.size 38 v:=by
          rcases h.at0 hu with e | ⟨o,e⟩
          · rw [e]; exact Hv.out
          · rw [e]; exact Boxed.alloc (W:=wr.drew) Hv.out o
         have hvxc:=hvx.cell
         refine wpOpIn_plain rfl rfl ?_
         go_simp
         exact ⟨upd z 42 (v),(by unfold Hid; simp [upd]),hz.next d9_apart h.sz 0 (by decide) _ (fun _ h => Option.some.inj h),h.read 0 (by omega) (fun e => by cases e)⟩
       · refine wpOpIn_plain rfl rfl ?_
         go_simp
         exact ⟨upd z 43 (.int .u8 y),(by unfold Hid; simp [upd]),hz.next d9_apart h.sz 1 (by decide) _ (fun _ h => Option.some.inj h),h.read 1 (by omega) (fun e => by cases e)⟩
       · refine wpOpIn_plain rfl rfl ?_
         go_simp
         exact ⟨upd z 44 (.int .i64 (m:Nat)),(by unfold Hid; simp [upd]),hz.next d9_apart h.sz 2 (by decide) _ (fun _ h => Option.some.inj h),h.read 2 (by omega) (fun e => by cases e)⟩
       · have e2:z 44 = .int .i64 (m:Nat):=hz 2 _ (hw 2 (by kernel_rfl)) rfl
         refine wpOpIn_plain rfl rfl ?_
         go_simp
         exact ⟨upd z 45 (.pointer (some ⟨W3.heap.size,m,none⟩)),(by unfold Hid; simp [upd,e2]),hz.next d9_apart h.sz 3 (by decide) _ (fun _ h => Option.some.inj h),h.read 3 (by omega) (fun e => by cases e)⟩
       · have e3:z 45 = .pointer (some ⟨W3.heap.size,m,none⟩):=hz 3 _ (hw 3 (by kernel_rfl)) rfl
         obtain rfl:=h.at4 hu
         refine wpOpIn_plain rfl rfl ?_
         go_simp
         exact ⟨upd z 46 (.int .u8 bm),(by unfold Hid; simp [upd,e3]),hz.next d9_apart h.sz 4 (by decide) _ (fun _ h => Option.some.inj h),h.read 4 (by omega) (fun e => by cases e)⟩
       · have e1:z 43 = .int .u8 y:=hz 1 _ (hw 1 (by kernel_rfl)) rfl
         have e4:z 46 = .int .u8 bm:=hz 4 _ (hw 4 (by kernel_rfl)) rfl
         refine wpOpIn_plain rfl rfl ?_
         go_simp
         exact ⟨upd z 47 (.int .u8 (bits .xor .u8 y bm)),(by unfold Hid; simp [upd,e1,e4]),hz.next d9_apart h.sz 5 (by decide) _ (fun _ h => Option.some.inj h),h.read 5 (by omega) (fun _ => hw 4 (by kernel_rfl))⟩
       · have e5:z 47 = .int .u8 (bits .xor .u8 y bm):=hz 5 _ (hw 5 (by kernel_rfl)) rfl
         obtain ⟨rfl,hn⟩:=h.six hu (hw 5 (by kernel_rfl))
         refine wpOpIn_plain rfl rfl ?_
         go_simp
         exact ⟨upd z 48 (.slice (some ⟨wr.heap.size,0,none⟩) 1 1),(by unfold Hid; simp [upd,e5]),hz.next d9_apart h.sz 6 (by decide) _ (fun _ h => by cases h),hn⟩
       · have e0:z 42 = v:=hz 0 _ (hw 0 (by kernel_rfl)) rfl
         obtain ⟨rfl,e6,hn⟩:=h.seven hu (hw 6 (by kernel_rfl)) (hw 0 (by kernel_rfl))
         obtain ⟨v',w1,hrun,hown1,hgrow1⟩:=append_one 38 (World.ownsRow.alloc (w:=wr.drew) Hrow.out (.cells #[.int .u8 (bits .xor .u8 y bm)] 5)) (G:=wr.heap.size) (y:=bits .xor .u8 y bm) (cell_row (Go.heap_alloc_new wr.drew _) 0) Hxl.out (by have:=hq.out.si.ob; have:=hq.out.si.bb.lt; simp; omega)
         have hrun':(appendC #[38, 38] 38 #[v,.slice (some ⟨wr.heap.size,0,none⟩) 1 1]).run Tryz.prog (wr.alloc (.cells #[.int .u8 (bits .xor .u8 y bm)] 5)).drew = .ok v' w1:=hrun
         clear hrun
         refine wpOpIn_plain rfl rfl ?_
         go_simp
         exact ⟨upd z 49 v',(by unfold Hid; simp [upd,e0,e6]),hz.next d9_apart h.sz 7 (by decide) _ (fun _ h => by cases h),hn v' w1 ⟨hown1,hgrow1⟩⟩
       · obtain ⟨⟨hown1,hgrow1⟩,hn⟩:=h.eight hu (hw 7 (by kernel_rfl))
         have hd:QI K Nn xs (.slice (some ⟨g,off,none⟩) n cap) c w.heap.size w2.heap.size w Bl W3.heap.size W wr.drew:=⟨hq.out.si.later (Nat.le_refl _) (Below.refl _ _).drew,hq.out.blk,hq.out.gob,hq.out.oth.trans (KeepsOthers.drew _)⟩
         obtain ⟨hb1,hq1⟩:=hd.next (W:=wr.drew) Hv.out Hrow.out hown1 hgrow1
         have c1:=hb1.cell
         have f1:=hb1.frozen
         obtain ⟨g9,c9,e9⟩:=ownsRow_succ hown1
         rw [e9] at hq1
         refine wpOpIn_plain rfl rfl ?_
         go_simp
         exact ⟨z,(by unfold Hid; simp [e9]),hz.pass 8 rfl,hn _ (by rw [Hnx.out]; exact hq1)⟩
     · exact ⟨fun x => (#[.agg (u8s K),.int .u32 c,.agg (u8s Nn),.slice (some ⟨g,off,none⟩) n cap,.pointer (some ⟨w.heap.size,0,none⟩),undef,.pointer (some ⟨w.heap.size + 1,0,none⟩),undef,.slice none 0 0,.int .i64 0,.pointer (some ⟨w2.heap.size,0,none⟩),.int .u32 (c + (xv:Nat)),.slice (some ⟨g,off + xv * 64,none⟩) mn cr,.pointer (some ⟨W3.heap.size,0,none⟩),.int .i64 (m:Nat),.int .u8 y,.int .u32 c,.int .u64 c,.slice (some ⟨g,off,none⟩) n cap,.int .i64 (n:Nat),.int .u64 (nbl n:Nat),.int .u64 (c + (nbl n:Nat)),.bool (decide (4294967296 < c + (nbl n:Nat))),.slice (some ⟨g,off,none⟩) n cap,.int .i64 (n:Nat),.slice (some ⟨w.heap.size + 1 + 1,0,none⟩) 0 n,.int .u32 c,.slice (some ⟨g,off,none⟩) n cap,.func (.func 142) #[] #[.pointer (some ⟨w2.heap.size + 1 + 1,0,none⟩),.pointer (some ⟨w2.heap.size + 1,0,none⟩)],.int .u32 (c + (xv:Nat)),.slice (some ⟨g,off + xv * 64,none⟩) mn cr,.agg (u8s K),.int .u32 (c + (xv:Nat)),.agg (u8s Nn),.agg (u8s Bl),.slice (some ⟨g,off + xv * 64,none⟩) mn cr,.int .i64 (mn:Nat),.int .i64 (m:Nat),.bool true,.int .i64 (m:Nat),.pointer (some ⟨g,off + xv * 64 + m,none⟩),.int .u8 y,u42,u43,u44,u45,u46,u47,u48,u49,u50,undef]:Array Value).getD x undef,rfl,Holding.start,⟨rfl,fun _ => rfl,fun h => absurd h (by decide),fun h => absurd h (by decide),fun h => absurd h (by decide),fun h => absurd h (by decide),fun h => absurd h (by decide),fun h => absurd h (by decide),fun h => absurd h (by decide),fun h => absurd h (by decide)⟩⟩
   · have hmm:m = mn:=by omega
     have Hmm:=Lib.hid hmm
     have hlt2:¬ ((m:Nat):Int) < ((mn:Nat):Int):=by omega
     clear hmm hm
     gi_wp2
     refine ⟨hq.out.oth,⟨hq.out.si.bb.trans HS.out.bb.symm,hq.out.si.bc.trans HS.out.bc.symm⟩,?_⟩
     have ho:outsL K c Nn L (pre ++ [x]) = outsL K c Nn L pre ++ pieceL K c Nn L xv m:=by rw [outsL_snoc,Hl.out,Hmn.out,Hxv.out,Hmm.out]
     show SI K Nn (outsL K c Nn L (pre ++ [x])) _ _ _ _ _ _
     rw [ho]
     exact hq.out.si
 case done =>
  rintro D ys W hD rfl hI hK
  obtain ⟨v,hv,hrow⟩:=hI.box
  have hlow:=hI.low
  rw [outs_all' hl] at hrow
  have hrow2:=ownsRow_putObj hrow (.deferred none) hK rfl
  obtain ⟨g',c',rfl,hbyt,hnew,hfree⟩:=own_slice2 hrow2 (by rw [streamL_length,hl]) hpos
  have Hnew:=Lib.hid hnew
  have Hfree:=Lib.hid hfree
  have hc:=hv.cell
  have Hbyt:=Lib.hid hbyt
  have Hlow:Hid (Below w.heap.size w (W.putObj D (.deferred none))):=hlow.trans (belowK_b (w:=w) (Nat.le_refl _) W D _ _ (by simp at hD; omega) hK rfl rfl)
  have HK:=Lib.hid hK
  clear hrow hrow2 hbyt hnew hfree hlow hI hv hK HW0
  gi_wp2
  refine ⟨by simp,.inl ⟨_,_,rfl,run_takeDeferred HK.out,?_⟩⟩
  exact ⟨_,results_tmp2 rfl _ _ _,g',c',rfl,Hbyt.out,Hlow.out,by have:=Hnew.out; omega,Hfree.out⟩
 case stop =>
  rintro D c pre W _ _ h _
  exact h.elim
end Go.Proofs.YteeghgjkjicjoaaGreatDoor.Cha
namespace Go.Proofs.YteeghgjkjicjoaaGreatDoor.Cha
open Go.RowKit
attribute [local go_sem] Oper.semAt_some
theorem own_slice0 {w:World} {base t:Nat} {v:Value} (h:w.ownsRow base t 1 v 0 []):∃ A c,v = .slice A 0 c ∧ Byt w A c []:=by
 obtain ⟨_,h⟩:=h
 rcases h with ⟨h,_⟩ | ⟨g',cap,cur,hv,_⟩
 · exact ⟨none,0,h,Nat.le_refl _,fun _ => rfl,fun h => absurd h (Nat.lt_irrefl 0)⟩
 · exact ⟨_,cap,hv,Nat.zero_le _,(fun h => by cases h),fun h => absurd h (Nat.lt_irrefl 0)⟩
theorem blocks_zero (w:World):Calls Tryz.prog 128 #[.int .i64 0] w fun e w' => e = .returned (.int .u64 0) ∧ w = w':=blocksOf_any 0 (by omega) w
set_option maxHeartbeats 1000000 in
theorem pieces_zero (m Bb Bc:Nat) (hm:2 ≤ m) (A:Option Addr) (cap:Nat) (w:World) (hb:Boxed w Bb 38 (.slice A 0 cap)) :
 SeqStopsK Fence.wide m Tryz.prog 142 #[.pointer (some ⟨Bb,0,none⟩),.pointer (some ⟨Bc,0,none⟩)] (fun _:Fin 0 => #[.int .u32 0,.int .u32 0]) (KpB Bb Bc) (fun ys => ys = []) (fun _ => True) 0 w:=by
 intro l J Jx W hW _ _ _ h0
 have hbx:Boxed W Bb 38 (.slice A 0 cap):=(hW.block _ hb.lt).trans hb
 have hc:=hbx.cell
 have H0:=Lib.hid h0
 clear hbx hb hW h0
 show CallsIn Fence.wide m Tryz.prog 142 #[.func (.yield l) #[] #[],.pointer (some ⟨Bb,0,none⟩),.pointer (some ⟨Bc,0,none⟩)] W _
 refine callsIn_of_wp Tryz.func142 rfl trivial ?_ rfl
 simp only [Tryz.ntmps142,List.size_toArray,List.length_cons,List.length_nil,Nat.reduceAdd,Nat.reduceSub,Array.replicate_succ,Array.replicate_zero,List.push_toArray,List.append_toArray,List.nil_append,List.cons_append]
 gi_wp2_with (refine ⟨trivial,(fun _ => by omega),?_⟩; gi_at_call 128; refine (callsIn_wide.2 (blocks_zero _)).mono ?_; rintro e w' ⟨rfl,rfl⟩)
 gi_loopw [9] (fun i wr => i = .int .u64 0 ∧ Hid (wr = W)) (fun _ _ => 0)
 case atStart => exact ⟨rfl,rfl⟩
 case round =>
  obtain ⟨rfl,hw⟩:=hrel
  gi_wp2
  go_end0
  exact ⟨⟨_,rfl⟩,.inl ⟨[],rfl,by rw [hw.out]; exact H0.out⟩⟩
set_option maxRecDepth 100000 in
set_option maxHeartbeats 4000000 in
theorem stream_zero (K Nn:List Int) (c:Int) (A:Option Addr) (cap:Nat) (c0:0 ≤ c) (c1:c < 4294967296) (w:World) :
 Calls Tryz.prog 114 #[.agg (u8s K),.int .u32 c,.agg (u8s Nn),.slice A 0 cap] w fun e' w' => ∃ A' c',e' = .returned (.tuple #[.slice A' 0 c',.int .i64 0]) ∧ Byt w' A' c' [] ∧ Below w.heap.size w w':=by
 obtain ⟨i0,hi,hz0,hz1,hz2⟩:=info_parts info8
 refine (callsIn_wide (n:=8)).1 ?_
 refine callsIn_of_wp_marks Tryz.func114 rfl trivial ?_ rfl
 simp only [Tryz.ntmps114,List.size_toArray,List.length_cons,List.length_nil,Nat.reduceAdd,Nat.reduceSub,Array.replicate_succ,Array.replicate_zero,List.push_toArray,List.append_toArray,List.nil_append,List.cons_append]
 gi_wp2_with (first
  | (refine ⟨trivial,?_⟩; gi_at_call 128; refine (callsIn_wide.2 (blocks_zero _)).mono ?_; rintro e w' ⟨rfl,rfl⟩)
  | (refine wpListIn_make_own _ rfl _ _ 38 rfl (w.heap.size + 1 + 1) 5 i0 (.int .u8 0) 1 Tryz.underlying38 hi hz0 hz1 .i64 .i64 _ 0 rfl rfl rfl (by omega) (by unfold maxLen; omega) (by simp) ?_; intro w2 hown2 hgrow2; have Hown2:=Lib.hid hown2; have Hgrow2:=Lib.hid hgrow2; clear hown2 hgrow2)
  | (refine ⟨trivial,?_⟩; gi_at_call 129; refine (callsIn_wide.2 (pieces_any _ 0 cap c _)).mono ?_; rintro e w' ⟨rfl,rfl⟩))
 have hW0:SI K Nn [] (.slice A 0 cap) c w.heap.size w2.heap.size w (((w2.alloc (.cells #[.slice (some ⟨w.heap.size + 1 + 1,0,none⟩) 0 0] 38)).alloc (.cells #[.int .u32 c] 47)).alloc (.cells #[.slice A 0 cap] 38)):=by
  have h2:=two_new w (.cells (u8s K) 24) (.cells (u8s Nn) 160)
  have h3:=three_new w2 (.cells #[.slice (some ⟨w.heap.size + 1 + 1,0,none⟩) 0 0] 38) (.cells #[.int .u32 c] 47) (.cells #[.slice A 0 cap] 38)
  have k3:=below3 w2 (.cells #[.slice (some ⟨w.heap.size + 1 + 1,0,none⟩) 0 0] 38) (.cells #[.int .u32 c] 47) (.cells #[.slice A 0 cap] 38)
  have hs:=Hgrow2.out.size
  simp only [World.size_alloc] at hs
  have e1:w2.heap[w.heap.size]? = _:=(Hgrow2.out.block _ (by simp; omega) (by simp)).trans h2.1
  have e2:w2.heap[w.heap.size + 1]? = _:=(Hgrow2.out.block _ (by simp) (by simp)).trans h2.2
  have b2:Below w.heap.size w w2:=(((Below.refl _ w).alloc (Nat.le_refl _) (.cells (u8s K) 24)).alloc (by simp) (.cells (u8s Nn) 160)).grown Hgrow2.out (by simp; omega) (fun k hk => by cases hk)
  have hown:=((Hown2.out.alloc (.cells #[.slice (some ⟨w.heap.size + 1 + 1,0,none⟩) 0 0] 38)).alloc (.cells #[.int .u32 c] 47)).alloc (.cells #[.slice A 0 cap] 38)
  simp only [World.size_alloc] at hown
  exact ⟨⟨_,h3.1,hown⟩,(k3.block _ (by omega)).trans e1,(k3.block _ (by omega)).trans e2,h3.2.2,h3.2.1,by omega,b2.trans (k3.mono (by omega))⟩
 have HW0:=Lib.hid hW0
 have hbb:=hW0.bb
 have hs2:w.heap.size + 1 + 1 ≤ w2.heap.size:=hW0.ob
 clear hW0
 refine wpIn_rangeFunc_ownF rfl (by omega) (gf := 142) (lb:=#[.pointer (some ⟨w2.heap.size + 1 + 1,0,none⟩),.pointer (some ⟨w2.heap.size + 1,0,none⟩)]) rfl trivial (Go.Proofs.enters_of Tryz.func142 (by kernel_rfl) rfl)
  (pieces_zero 7 (w2.heap.size + 1 + 1) (w2.heap.size + 1) (by omega) A cap _ hbb) (fun h k => KpB.trans h k)
  (fun W l' o o' hl' ho hc hw => ⟨World.putObj_heap_other (by simp at hl'; omega),World.putObj_heap_other (by simp at hl'; omega)⟩) (Below.refl _ _) (fun _ => rfl)
  (fun pre W => SI K Nn [] (.slice A 0 cap) c w.heap.size w2.heap.size w W)
  (fun _ _ _ => False)
  (SI.own K Nn (fun _ => []) _ c w.heap.size w2.heap.size _ w (Nat.le_refl _) (by simp; omega))
  (fun _ _ _ _ _ hs _ _ => hs)
  HW0.out
  (fun x => { tmps:=#[],defers:=[] }) ?assign ?body ?done ?stop
 case assign =>
  intro l x W K hK
  exact x.elim0
 case body =>
  intro l pre x
  exact x.elim0
 case done =>
  rintro D ys W hD rfl hI hK
  have hI':SI K Nn [] (.slice A 0 cap) c w.heap.size w2.heap.size w W:=hI
  obtain ⟨v,hv,hrow⟩:=hI'.box
  have hrow2:=ownsRow_putObj hrow (.deferred none) hK rfl
  obtain ⟨A',c',rfl,hbyt⟩:=own_slice0 hrow2
  have hc:=hv.cell
  have Hbyt:=Lib.hid hbyt
  have Hlow:Hid (Below w.heap.size w (W.putObj D (.deferred none))):=hI'.low.trans (belowK_b (w:=w) (Nat.le_refl _) W D _ _ (by simp at hD; omega) hK rfl rfl)
  have HK:=Lib.hid hK
  clear hrow hrow2 hbyt hI hI' hv hK HW0
  gi_wp2
  refine ⟨by simp,.inl ⟨_,_,rfl,run_takeDeferred HK.out,?_⟩⟩
  exact ⟨_,results_tmp2 rfl _ _ _,A',c',rfl,Hbyt.out,Hlow.out⟩
 case stop =>
  rintro D c pre W _ _ h _
  exact h.elim
theorem stream_any (K Nn L:List Int) (c:Int) (A:Option Addr) (n cap:Nat) (hK:K.length = 32) (hN:Nn.length = 12) (bK:InB K) (bN:InB Nn) (hl:L.length = n) (hsm:n ≤ 200000) (c0:0 ≤ c) (c1:c < 4294967296) (cb:c + (nbl n:Nat) ≤ 4294967296) (w:World) (hB:Byt w A cap L) (hL:Laid w) :
 Calls Tryz.prog 114 #[.agg (u8s K),.int .u32 c,.agg (u8s Nn),.slice A n cap] w fun e' w' => ∃ A' c',e' = .returned (.tuple #[.slice A' n c',.int .i64 0]) ∧ Byt w' A' c' (streamL K c Nn L) ∧ Below w.heap.size w w':=by
 by_cases h0:n = 0
 · subst h0
   obtain rfl:L = []:=List.eq_nil_of_length_eq_zero hl
   exact stream_zero K Nn c A cap c0 c1 w
 · refine (stream_new K Nn L c A n cap hK hN bK bN hl (by omega) hsm c0 cb w hB hL).mono ?_
   rintro e w' ⟨g,c',h1,h2,h3,_⟩
   exact ⟨_,c',h1,h2,h3⟩
end Go.Proofs.YteeghgjkjicjoaaGreatDoor.Cha
namespace Go.Proofs.YteeghgjkjicjoaaGreatDoor.Cha
open Go.RowKit
theorem xor8_back {a k:Int} (h1:0 ≤ a) (h2:a < 256) (h3:0 ≤ k) (h4:k < 256):bits .xor .u8 (bits .xor .u8 a k) k = a:=by
 have hx:(0:Int) ≤ bits .xor .u8 a k ∧ bits .xor .u8 a k < 256:=by
  rw [u8_xor a k h1 h2 h3 h4]
  have:a.toNat ^^^ k.toNat < 2 ^ 8:=Nat.xor_lt_two_pow (by omega) (by omega)
  omega
 rw [u8_xor _ k hx.1 hx.2 h3 h4,u8_xor a k h1 h2 h3 h4,Int.toNat_natCast,Nat.xor_assoc,Nat.xor_self,Nat.xor_zero]
 omega
theorem strF_in (K:List Int) (c:Int) (Nn L:List Int) (hL:InB L) (j:Nat):0 ≤ strF K c Nn L j ∧ strF K c Nn L j < 256:=by
 have ha:=hL j
 have hk:=blockL_in K (c + (j / 64:Nat)) Nn (j % 64)
 unfold strF
 rw [u8_xor _ _ ha.1 ha.2 hk.1 hk.2]
 have:(L.getD j 0).toNat ^^^ ((blockL K (c + (j / 64:Nat)) Nn).getD (j % 64) 0).toNat < 2 ^ 8:=Nat.xor_lt_two_pow (by omega) (by omega)
 omega
theorem streamL_in (K:List Int) (c:Int) (Nn L:List Int) (hL:InB L):InB (streamL K c Nn L):=by
 intro j
 by_cases h:j < L.length
 · rw [streamL_getD _ _ _ _ _ h]; exact strF_in K c Nn L hL j
 · rw [getD_out _ _ (by rw [streamL_length]; omega)]; omega
theorem stream_twice (K:List Int) (c:Int) (Nn L:List Int) (hL:InB L):streamL K c Nn (streamL K c Nn L) = L:=by
 apply List.ext_getElem (by rw [streamL_length,streamL_length])
 intro j h1 h2
 have e1:(streamL K c Nn (streamL K c Nn L))[j] = (streamL K c Nn (streamL K c Nn L)).getD j 0:=by simp [List.getD_eq_getElem?_getD,h1]
 have e2:L[j] = L.getD j 0:=by simp [List.getD_eq_getElem?_getD,h2]
 rw [e1,e2,streamL_getD _ _ _ _ _ (by rw [streamL_length]; exact h2)]
 unfold strF
 rw [streamL_getD _ _ _ _ _ h2]
 exact xor8_back (hL j).1 (hL j).2 (blockL_in _ _ _ _).1 (blockL_in _ _ _ _).2
theorem conv_any {w:World} {A:Option Addr} {c n:Nat} {L:List Int} (hB:Byt w A c L) (hn:L.length = n):(convert 38 9 (.slice A n c)).run Tryz.prog w = .ok (.string (strOfNums L)) w:=by
 by_cases h0:0 < n
 · obtain ⟨g,off,rfl,_,hc⟩:=hB.2.2 (by omega)
   exact run_convert_bytes_arg w 38 5 Tryz.underlying38 Tryz.underlying5 g off n c L hn (fun i hi => hc i (by omega)) 9 Tryz.underlying9
 · obtain rfl:n = 0:=by omega
   obtain rfl:L = []:=List.eq_nil_of_length_eq_zero hn
   cases A with
   | none => exact run_convert_bytes_nil w 38 5 Tryz.underlying38 Tryz.underlying5 0 c 9 Tryz.underlying9
   | some a =>
     rw [run_convert_bytes_string w 38 9 5 _ 0 c Tryz.underlying38 Tryz.underlying5 Tryz.underlying9]
     simp [Conv.bytesToString,loadCells,loadCellsFrom,strOfNums]
     rfl
end Go.Proofs.YteeghgjkjicjoaaGreatDoor.Cha
