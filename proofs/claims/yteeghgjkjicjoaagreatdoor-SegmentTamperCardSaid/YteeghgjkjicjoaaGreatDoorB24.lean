/- Texts of ours, merged. -/
import Derived.Test.YteeghgjkjicjoaaGreatDoorB23
namespace Go.Proofs.YteeghgjkjicjoaaGreatDoor.Sgm
open Go.RowKit Dsk Slt
structure RC (p:Nat) (W:World) (ll:Array Bool) (wx:World):Prop where
 low:ll.getD p false = false → Below W.heap.size W wx
theorem RC.start {p n:Nat} {W:World}:RC p W (Array.replicate n false) W.drew:=⟨fun _ => (Below.refl _ _).drew⟩
theorem RC.same {p i:Nat} {W wx:World} {ll:Array Bool} (h:RC p W ll wx) (hi:i ≠ p):RC p W (ll.setIfInBounds i true) wx:=⟨by rw [getD_set_ne false hi]; exact h.low⟩
theorem RC.done {p:Nat} {W w':World} {ll:Array Bool} (hs:p < ll.size):RC p W (ll.setIfInBounds p true) w':=⟨fun a => by simp [hs] at a⟩
section
variable {w:World} {K:DK} {J:LK} {G:GK} {S:LS} {V:GV} {D:DS} {bs bt be:Nat} {A:Option Addr} {n c:Nat} {t:List Int}
def ApP (w:World) (K:DK) (J:LK) (D:DS) (S:LS) (_v:Value) (w':World):Prop:=∃ J',AppQ w w' K J J' D S
theorem appq_low {wx w':World} {J':LK} {D':DS} {S':LS} (hb:Below w.heap.size w wx) (q:AppQ wx w' K J J' D' S'):AppQ w w' K J J' D' S' :=
 ⟨q.dsk,q.lg,q.g,(Chg.of_below hb).trans q.chg,fun x hx => (q.bl x hx).imp id (fun h => Nat.le_trans hb.size h),fun x hx => (q.tx x hx).imp id (fun h => Nat.le_trans hb.size h)⟩
set_option maxRecDepth 100000 in
set_option maxHeartbeats 4000000 in
theorem app3_any {SS:List Int} {q:Nat} {A5:Option Addr} {c5:Nat} (h:Sg w K J G S V) (hd:Dsk w K D) (hs:w.heap[bs]? = some (.cells #[.pointer (some ⟨G.g,0,none⟩)] 42 (0,0))) (he:w.heap[be]? = some (.cells #[.slice A5 q c5] 38 (0,0))) (hq:SS.length = q) (hB:Byt w A5 c5 SS) (hA:∀ a,A5 = some a → a.block ∉ K.bl) (hi:InB SS) (hbs:bs ∉ K.bl ∧ bs ∉ J.bl ∧ bs ≠ G.g)
 (hend:S.from_ + S.secs ≤ D.secs) (hw:D.writes ≤ 576460752303423488) :
 Calls Tryz.prog 58 #[.pointer (some ⟨bs,0,none⟩),.pointer (some ⟨be,0,none⟩)] w fun e w' => e = .returned (.int .i64 (appD D S SS).2.2) ∧ ∃ J' w1,AppQ w w1 K J J' (appD D S SS).1 (appD D S SS).2.1 ∧ w' = w1.setCell ⟨G.g,38,none⟩ (.bool ((appD D S SS).2.2 != 0)):=by
 obtain ⟨_,_,c2,_⟩:=h.cells
 obtain ⟨x,hx⟩:∃ x,x = (appD D S SS).2.2:=⟨_,rfl⟩
 obtain ⟨D',hD'⟩:∃ D',D' = (appD D S SS).1:=⟨_,rfl⟩
 obtain ⟨S',hS'⟩:∃ S',S' = (appD D S SS).2.1:=⟨_,rfl⟩
 have Hop:Hid (∀ W,Below w.heap.size w W → Calls Tryz.prog 59 #[.pointer (some ⟨J.g,0,none⟩),.slice A5 q c5] W fun e w' => e = .returned (.int .i64 x) ∧ ∃ J',AppQ w w' K J J' D' S'):=fun W hW => by
  rw [hx,hD',hS']
  refine (append_any (hd.later hW) (h.lg.later hW) A5 q c5 SS hq (hB.below hW (Nat.le_refl _)) (fun _ a ha => hA a ha) hi hend hw).mono ?_
  rintro e w' ⟨J',rfl,hQ⟩
  exact ⟨rfl,J',appq_low hW hQ⟩
 rw [← hx,← hD',← hS']
 have H:=Lib.hid h
 have Hc2:=Lib.hid c2
 have Hs:=Lib.hid hs
 have He:=Lib.hid he
 have Hbs:=Lib.hid hbs
 clear h hd hs he hq hB hA hi hbs hend hw c2 hx hD' hS'
 go_enter Tryz.func58,Tryz.ntmps58
 go_upto_region 1 with (fail)
 have apx:apartB [4,5,6,7,8,9,3] = true:=by decide
 refine wp_region_any (by kernel_rfl) ?_
 change wpAny _ _ _ _ _ _ _ (World.drew _)
 refine wpAny_inv2 (fun ll aa wx => Hid (ll.size = 7 ∧ RC 5 w ll wx) ∧ ∃ (z:Nat → Value),Hid (aa = ⟨#[.pointer (some ⟨bs,0,none⟩),.pointer (some ⟨be,0,none⟩),.int .i64 0,z 3,z 4,z 5,z 6,z 7,z 8,z 9,undef,undef,undef,undef,undef,undef],[]⟩) ∧ Holding [4,5,6,7,8,9,3] [some (.pointer (some ⟨G.g,0,none⟩)),some (.pointer (some ⟨G.g,0,none⟩)),some (.pointer (some ⟨G.g,2,none⟩)),some (.pointer (some ⟨J.g,0,none⟩)),some (.slice A5 q c5),some (.int .i64 x),some (.int .i64 x)] ll z ∧ Whn ll 5 (ApP w K J D' S') (z 9) wx) ?_ (by kernel_rfl) ?_ ?_ _ rfl _ _ ?_
 · rintro ll aa wx ⟨hI,_⟩
   exact hI.out.1
 · rintro ll aa wx ⟨hI,z,ha,hz,hp5⟩ hall
   have hx:=Lib.hid hI.out.2
   have e0:z 4 = .pointer (some ⟨G.g,0,none⟩):=hz 0 _ (hall 0 (by decide)) rfl
   have e1:z 5 = .pointer (some ⟨G.g,0,none⟩):=hz 1 _ (hall 1 (by decide)) rfl
   have e2:z 6 = .pointer (some ⟨G.g,2,none⟩):=hz 2 _ (hall 2 (by decide)) rfl
   have e3:z 7 = .pointer (some ⟨J.g,0,none⟩):=hz 3 _ (hall 3 (by decide)) rfl
   have e4:z 8 = .slice A5 q c5:=hz 4 _ (hall 4 (by decide)) rfl
   have e5:z 9 = .int .i64 x:=hz 5 _ (hall 5 (by decide)) rfl
   have e6:z 3 = .int .i64 x:=hz 6 _ (hall 6 (by decide)) rfl
   have p5:=hp5.get (hall 5 (by decide))
   clear hall hz hI hp5
   obtain rfl:=ha.out
   clear ha
   clear apx
   obtain ⟨J',hQ⟩:=p5
   have HQ:=Lib.hid hQ
   simp only [e6]
   clear e0 e1 e2 e3 e4 e5 e6 hx hQ
   go_upto_region 2 with (fail)
   have hsb:wx.heap[bs]? = some (.cells #[.pointer (some ⟨G.g,0,none⟩)] 42 (0,0)):=HQ.out.chg.at Hs.out (fun hm => by
    rcases List.mem_append.1 hm with hm | hm
    · exact Hbs.out.1 hm
    · exact Hbs.out.2.1 hm)
   have c0:=cell_row hsb 0
   have sg1:=H.out.app HQ.out
   obtain ⟨_,_,_,_,_,_,c38⟩:=sg1.cells
   have f38:=free_row sg1.row 38
   clear sg1 hsb
   by_cases hx0:x = 0
   · subst hx0
     go_wp2
     go_ret
     exact ⟨rfl,J',wx,HQ.out,rfl⟩
   · have hxb:(x != 0) = true:=by simpa using hx0
     have HX0:=Lib.hid hx0
     clear hx0
     go_wp2
     go_ret
     exact ⟨rfl,J',wx,HQ.out,by rw [hxb]⟩
 · rintro ll aa wx i ⟨hI,z,ha,hz,hp5⟩ hcl hi hu hw
   obtain rfl:=ha.out
   have hsz:=Lib.hid hI.out.1
   have hx:=Lib.hid hI.out.2
   clear ha hI
   have hin:i < 7:=hi
   obtain rfl | rfl | rfl | rfl | rfl | rfl | rfl:i = 0 ∨ i = 1 ∨ i = 2 ∨ i = 3 ∨ i = 4 ∨ i = 5 ∨ i = 6:=by omega
   · have lw:=hx.out.low (not_listed (fun hl => hcl 1 0 (hcl 2 1 (hcl 3 2 (hcl 5 3 hl (by kernel_rfl)) (by kernel_rfl)) (by kernel_rfl)) (by kernel_rfl)) hu)
     have cl:wx.cell? ⟨bs,0,none⟩ = some (.pointer (some ⟨G.g,0,none⟩)):=cell_row ((lw.block _ (Array.getElem?_eq_some_iff.1 Hs.out).1).trans Hs.out) 0
     refine wpOp_plain rfl rfl ?_
     go_simp
     exact ⟨⟨by simp [hsz.out],hx.out.same (by decide)⟩,upd z 4 (.pointer (some ⟨G.g,0,none⟩)),(by unfold Hid; simp [upd]),hz.next apx hsz.out 0 (by decide) _ (fun _ h => Option.some.inj h),hp5.keep (by decide)⟩
   · have e0:z 4 = .pointer (some ⟨G.g,0,none⟩):=hz 0 _ (hw 0 (by kernel_rfl)) rfl
     refine wpOp_plain rfl rfl ?_
     go_simp
     exact ⟨⟨by simp [hsz.out],hx.out.same (by decide)⟩,upd z 5 (.pointer (some ⟨G.g,0,none⟩)),(by unfold Hid; simp [upd,e0]),hz.next apx hsz.out 1 (by decide) _ (fun _ h => Option.some.inj h),hp5.keep (by decide)⟩
   · have e1:z 5 = .pointer (some ⟨G.g,0,none⟩):=hz 1 _ (hw 1 (by kernel_rfl)) rfl
     refine wpOp_plain rfl rfl ?_
     go_simp
     exact ⟨⟨by simp [hsz.out],hx.out.same (by decide)⟩,upd z 6 (.pointer (some ⟨G.g,2,none⟩)),(by unfold Hid; simp [upd,e1]),hz.next apx hsz.out 2 (by decide) _ (fun _ h => Option.some.inj h),hp5.keep (by decide)⟩
   · have e2:z 6 = .pointer (some ⟨G.g,2,none⟩):=hz 2 _ (hw 2 (by kernel_rfl)) rfl
     have lw:=hx.out.low (not_listed (fun hl => hcl 5 3 hl (by kernel_rfl)) hu)
     have cl:wx.cell? ⟨G.g,2,none⟩ = some (.pointer (some ⟨J.g,0,none⟩)):=(lw.cell (p:=⟨G.g,2,none⟩) (World.block_lt_of_cell? _ _ Hc2.out)).trans Hc2.out
     refine wpOp_plain rfl rfl ?_
     go_simp
     exact ⟨⟨by simp [hsz.out],hx.out.same (by decide)⟩,upd z 7 (.pointer (some ⟨J.g,0,none⟩)),(by unfold Hid; simp [upd,e2]),hz.next apx hsz.out 3 (by decide) _ (fun _ h => Option.some.inj h),hp5.keep (by decide)⟩
   · have lw:=hx.out.low (not_listed (fun hl => hcl 5 4 hl (by kernel_rfl)) hu)
     have cl:wx.cell? ⟨be,0,none⟩ = some (.slice A5 q c5):=cell_row ((lw.block _ (Array.getElem?_eq_some_iff.1 He.out).1).trans He.out) 0
     refine wpOp_plain rfl rfl ?_
     go_simp
     exact ⟨⟨by simp [hsz.out],hx.out.same (by decide)⟩,upd z 8 (.slice A5 q c5),(by unfold Hid; simp [upd]),hz.next apx hsz.out 4 (by decide) _ (fun _ h => Option.some.inj h),hp5.keep (by decide)⟩
   · have e3:z 7 = .pointer (some ⟨J.g,0,none⟩):=hz 3 _ (hw 3 (by kernel_rfl)) rfl
     have e4:z 8 = .slice A5 q c5:=hz 4 _ (hw 4 (by kernel_rfl)) rfl
     refine wpOp_plain rfl rfl ?_
     go_simp
     go_at_call 59
     refine (Hop.out wx (hx.out.low hu)).mono ?_
     rintro e w' ⟨rfl,hq⟩
     exact ⟨⟨by simp [hsz.out],RC.done (by rw [hsz.out]; decide)⟩,upd z 9 (.int .i64 x),(by unfold Hid; simp [upd,e3,e4]),hz.next apx hsz.out 5 (by decide) _ (fun _ h => Option.some.inj h),Whn.done (hq)⟩
   · have e5:z 9 = .int .i64 x:=hz 5 _ (hw 5 (by kernel_rfl)) rfl
     refine wpOp_plain rfl rfl ?_
     go_simp
     exact ⟨⟨by simp [hsz.out],hx.out.same (by decide)⟩,upd z 3 (.int .i64 x),(by unfold Hid; simp [upd,e5]),hz.next apx hsz.out 6 (by decide) _ (fun _ h => Option.some.inj h),hp5.keep (by decide)⟩
 · exact ⟨⟨rfl,RC.start⟩,fun xx => (#[.pointer (some ⟨bs,0,none⟩),.pointer (some ⟨be,0,none⟩),.int .i64 0,undef,undef,undef,undef,undef,undef,undef,undef,undef,undef,undef,undef,undef]:Array Value).getD xx undef,rfl,Holding.start,Whn.none (by decide)⟩
structure RG (g:Nat) (C:Array Value) (u:Value) (W:World) (ll:Array Bool) (wx:World):Prop where
 chg:Chg (g :: u.ownBlock.toList) W wx
 low:ll.getD 8 false = false → ll.getD 11 false = false → Below W.heap.size W wx
 row:ll.getD 11 false = false → wx.heap[g]? = some (.cells C 88 (0,0))
section
variable {g:Nat} {C:Array Value} {u:Value} {W wx w':World} {ll:Array Bool}
theorem RG.start {n:Nat} (h:W.heap[g]? = some (.cells C 88 (0,0))):RG g C u W (Array.replicate n false) W.drew :=
 ⟨Chg.of_below (Below.refl _ _).drew,fun _ _ => (Below.refl _ _).drew,fun _ => h⟩
theorem RG.same {i:Nat} (h:RG g C u W ll wx) (h8:i ≠ 8) (h11:i ≠ 11):RG g C u W (ll.setIfInBounds i true) wx :=
 ⟨h.chg,by rw [getD_set_ne false h8,getD_set_ne false h11]; exact h.low,by rw [getD_set_ne false h11]; exact h.row⟩
theorem RG.call {i:Nat} (h:RG g C u W ll wx) (hg:g < W.heap.size) (h8:i ≠ 8) (h11:i ≠ 11) (hb:Below wx.heap.size wx w'):RG g C u W (ll.setIfInBounds i true) w':=by
 refine ⟨h.chg.trans (Chg.of_below hb),?_,?_⟩
 · rw [getD_set_ne false h8,getD_set_ne false h11]
   exact fun a b => (h.low a b).trans (hb.mono h.chg.size)
 · rw [getD_set_ne false h11]
   exact fun a => (hb.block _ (Nat.lt_of_lt_of_le hg h.chg.size)).trans (h.row a)
theorem RG.app (h:RG g C u W ll wx) (hg:g < W.heap.size) (hu:u.ownBlock ≠ some g) (hs:8 < ll.size) (hg':wx.grownBy w' u.ownBlock):RG g C u W (ll.setIfInBounds 8 true) w':=by
 refine ⟨h.chg.trans ((chg_grown hg').mono (fun k hk => .inl (by simp at hk; simp [hk]))),fun a => by simp [hs] at a,?_⟩
 rw [getD_set_ne false (by decide)]
 exact fun a => (hg'.block _ (Nat.lt_of_lt_of_le hg h.chg.size) (fun e => hu e.symm)).trans (h.row a)
theorem RG.store {z:Value} (h:RG g C u W ll wx) (hs:11 < ll.size) (h8:ll.getD 8 false = true):RG g C u W (ll.setIfInBounds 11 true) (wx.setCell ⟨g,37,none⟩ z):=by
 refine ⟨h.chg.setCell (by simp) z,?_,fun a => by simp [hs] at a⟩
 intro a
 rw [getD_set_ne false (by decide),h8] at a
 cases a
end
structure AG (g:Nat) (C:Array Value) (n:Nat) (ts:List Value) (u:Value) (B:Nat) (y z v:Value) (w:World):Prop where
 row:w.heap[g]? = some (.cells (C.setIfInBounds 37 z) 88 (0,0))
 ox:OX n ts u B y z w
theorem AG.later {g:Nat} {C:Array Value} {n:Nat} {ts:List Value} {u:Value} {B:Nat} {y z v:Value} {w w':World} (h:AG g C n ts u B y z v w) (hb:Below w.heap.size w w'):AG g C n ts u B y z v w' :=
 ⟨(hb.block _ (Array.getElem?_eq_some_iff.1 h.row).1).trans h.row,h.ox.later hb⟩
theorem AG.new {g n B:Nat} {C:Array Value} {ts:List Value} {u y z v x:Value} {wx:World} (h8:OX n ts u B y z wx) (hz:z.ownBlock ≠ some g) (hr:wx.heap[g]? = some (.cells C 88 (0,0))) (hv:z = v):AG g C n ts u B y z x (wx.setCell ⟨g,37,none⟩ v):=by
 subst hv
 exact ⟨heap_setCell_same _ _ _ _ _ _ hr,h8.set hz⟩
structure KeptG (K:DK) (J:LK) (G:GK) (S:LS) (V:GV) (t:List Int) (w:World) (G':GK) (w':World):Prop where
 g:G'.g = G.g
 sg:Sg w' K J G' S { V with T:=V.T ++ [t] }
 chg:Chg G.bl w w'
 bl:∀ q ∈ G'.bl,q ∈ G.bl ∨ w.heap.size ≤ q
 tx:∀ q ∈ G'.tx,q ∈ G.tx ∨ w.heap.size ≤ q
theorem keptG_of {w':World} {y z:Value} (h:Sg w K J G S V) (hK:∀ q ∈ K.bl,q < w.heap.size) (ht:InB t) (hl:t.length ≤ 131068)
 (hr:w'.heap[G.g]? = some (.cells (rowG (some ⟨G.g,0,none⟩) K (some ⟨J.g,0,none⟩) V.key (.slice G.A V.C.length G.c) V.ep z V.lost) 88 (0,0))) (ho:OX V.T.length G.ts G.v w.heap.size y z w') (hy:YX t w.heap.size y w') (hc:Chg G.bl w w'):KeptG K J G S V t w ⟨G.g,z,G.ts ++ [y],G.A,G.c⟩ w':=by
 have hbl:∀ q ∈ (⟨G.g,z,G.ts ++ [y],G.A,G.c⟩:GK).bl,q ∈ G.bl ∨ w.heap.size ≤ q:=by
  intro q hq
  simp only [GK.bl,List.mem_cons,Option.mem_toList] at hq ⊢
  rcases hq with rfl | hq
  · exact .inl (.inl rfl)
  · rcases ho.blk with e | ⟨q',e,hq',_⟩
    · rw [e] at hq; exact .inl (.inr hq)
    · rw [e] at hq; cases hq; exact .inr hq'
 have htx:∀ q ∈ (⟨G.g,z,G.ts ++ [y],G.A,G.c⟩:GK).tx,q ∈ G.tx ∨ (y.ownBlock = some q):=by
  intro q hq
  simp only [GK.tx,List.flatMap_append,List.mem_append,List.flatMap_cons,List.flatMap_nil,List.append_nil,Option.mem_toList] at hq ⊢
  rcases hq with hq | hq | hq
  · exact .inl (.inl hq)
  · exact .inl (.inr hq)
  · exact .inr hq
 have hbw:=gbl_lt h
 have hjw:=jbl_lt h.lg
 have hz:z.ownBlock ≠ some G.g:=ho.ne (fun e => h.gv _ e rfl) h.glt
 have hX:∀ q,q ∉ G.bl → q ∉ G.bl:=fun _ h => h
 have hm:G.g ∈ G.bl:=by simp [GK.bl]
 refine ⟨rfl,⟨hr,h.lg.chg hc (fun q hq hm => (h.kap q hm).2.1 hq) (fun q hq hm => (h.kap q hm).2.2 hq),⟨by rw [List.length_append]; exact ho.own,?_⟩,fun q hq e => hz (by rw [← e]; exact hq),h.ctx.chg hc (fun a ha hm => (h.tap a.block (by simp [GK.tx,ha])).2.2 hm),h.klen,h.kin,h.cin,h.clen,h.ep32,?_,?_,?_,?_⟩,hc,hbl,fun q hq => (htx q hq).imp id (fun e => (hy.own q e).1)⟩
 · intro i hi
   simp only [List.length_append,List.length_cons,List.length_nil] at hi
   by_cases e:i < V.T.length
   · have h1:(V.T ++ [t]).getD i [] = V.T.getD i []:=by simp [List.getD_eq_getElem?_getD,List.getElem?_append_left e]
     have h2:(G.ts ++ [y]).getD i undef = G.ts.getD i undef:=by simp [List.getD_eq_getElem?_getD,List.getElem?_append_left (show i < G.ts.length by rw [h.tx.len]; exact e)]
     simp only [h1,h2]
     obtain ⟨A,c,e1,hB⟩:=h.tx.txt i e
     exact ⟨A,c,e1,hB.chg hc (fun a ha hm => (h.tap a.block (by unfold GK.tx; rw [List.mem_append]; exact .inr (ts_mem (by rw [e1,ha]) (by rw [h.tx.len]; exact e)))).2.2 hm)⟩
   · obtain rfl:i = V.T.length:=by omega
     have h1:(V.T ++ [t]).getD V.T.length [] = t:=by simp [List.getD_eq_getElem?_getD]
     have h2:(G.ts ++ [y]).getD V.T.length undef = y:=by rw [← h.tx.len]; simp [List.getD_eq_getElem?_getD]
     simp only [h1,h2]
     exact hy.sl
 · intro q hq
   rcases htx q hq with a | a
   · exact Nat.lt_of_lt_of_le (h.tlt q a) hc.size
   · exact (hy.own q a).2
 · intro q hq
   rcases htx q hq with a | a
   · refine ⟨(h.tap q a).1,(h.tap q a).2.1,fun hm => ?_⟩
     rcases hbl q hm with b | b
     · exact (h.tap q a).2.2 b
     · have:=h.tlt q a; omega
   · have hge:=(hy.own q a).1
     refine ⟨fun hm => by have:=hK q hm; omega,fun hm => by have:=hjw q hm; omega,fun hm => ?_⟩
     simp only [GK.bl,List.mem_cons,Option.mem_toList] at hm
     rcases hm with rfl | hm
     · have:=h.glt; omega
     · rcases ho.blk with e | ⟨q',e,_,hn⟩
       · rw [e] at hm; have:=(h.tx.own.lt q hm).2; omega
       · rw [e] at hm; cases hm; exact hn q a rfl
 · intro q hq
   rcases hbl q hq with b | b
   · exact h.kap q b
   · exact ⟨fun hm => by have:=hK q hm; omega,fun hm => by have:=hjw q hm; omega,fun hm => by have:=h.lg.tlt q hm; omega⟩
 · intro x hx
   rcases List.mem_append.1 hx with a | a
   · exact h.inb x a
   · simp at a; subst a; exact ⟨ht,hl⟩
set_option maxRecDepth 100000 in
set_option maxHeartbeats 4000000 in
theorem app4_any (h:Sg w K J G S V) (hK:∀ q ∈ K.bl,q < w.heap.size) (hs:w.heap[bs]? = some (.cells #[.pointer (some ⟨G.g,0,none⟩)] 42 (0,0))) (hbt:w.heap[bt]? = some (.cells #[.slice A n c] 38 (0,0))) (hbn:bs ∉ G.bl ∧ bt ∉ G.bl) (hB:Byt w A c t) (ht:InB t) (htn:t.length = n) (hl:n ≤ 131068) (hnn:V.T.length ≤ 100000) :
 Calls Tryz.prog 60 #[.pointer (some ⟨bs,0,none⟩),.pointer (some ⟨bt,0,none⟩)] w fun e w' => e = .returned (.int .i64 0) ∧ ∃ G',KeptG K J G S V t w G' w':=by
 have hrow:=h.row
 have hg:=h.glt
 have hown:=h.tx.own
 have hug:G.v.ownBlock ≠ some G.g:=fun e => h.gv _ e rfl
 have hub:∀ q,G.v.ownBlock = some q → q < w.heap.size:=fun q hq => (hown.lt q hq).2
 have H:=Lib.hid h
 have HK:=Lib.hid hK
 have Ht:Hid (InB t ∧ t.length ≤ 131068):=⟨ht,by rw [htn]; exact hl⟩
 have Hset:Hid (∀ z,(rowG (some ⟨G.g,0,none⟩) K (some ⟨J.g,0,none⟩) V.key (.slice G.A V.C.length G.c) V.ep G.v V.lost).setIfInBounds 37 z = rowG (some ⟨G.g,0,none⟩) K (some ⟨J.g,0,none⟩) V.key (.slice G.A V.C.length G.c) V.ep z V.lost):=fun z => rowG_set37 h.klen z
 have h37:=(rowG_at (self:=some ⟨G.g,0,none⟩) (K:=K) (lg:=some ⟨J.g,0,none⟩) (cx:=.slice G.A V.C.length G.c) (ep:=V.ep) (tv:=G.v) (lost:=V.lost) h.klen).2.2.2.2.2.1
 obtain ⟨C,hC⟩:∃ C,C = rowG (some ⟨G.g,0,none⟩) K (some ⟨J.g,0,none⟩) V.key (.slice G.A V.C.length G.c) V.ep G.v V.lost:=⟨_,rfl⟩
 rw [← hC] at hrow h37 Hset
 have HN:Hid (t.length = n):=htn
 have Hrow:=Lib.hid hrow
 have Hg:=Lib.hid hg
 have Hown:=Lib.hid hown
 have Hug:=Lib.hid hug
 have Hn:=Lib.hid hnn
 have C5:=Lib.hid h37
 have HB:=Lib.hid hB
 have Hs:=Lib.hid hs
 have Hbt:=Lib.hid hbt
 have Hbn:Hid (bs ∉ G.g :: G.v.ownBlock.toList ∧ bt ∉ G.g :: G.v.ownBlock.toList):=hbn
 have hlI:(n:Int) ≤ 131068:=by omega
 have hKsub:∀ q ∈ (G.g :: G.v.ownBlock.toList),q < w.heap.size:=by
  intro q hq
  simp at hq
  rcases hq with rfl | hq
  · exact hg
  · exact hub q hq
 have Hsub:=Lib.hid hKsub
 clear h hK hl ht hC htn hrow hg hown hug hub hnn h37 hB hs hbt hbn hKsub
 go_enter Tryz.func60,Tryz.ntmps60
 go_upto_region 1 with (fail)
 have apx:apartB [3,4,5,6,7,8,9,10,11,12,13,1011] = true:=by decide
 refine wp_region_any (by kernel_rfl) ?_
 change wpAny _ _ _ _ _ _ _ (World.drew _)
 refine wpAny_inv2 (fun ll aa wx => Hid (ll.size = 12 ∧ RG G.g C G.v w ll wx) ∧ ∃ (z:Nat → Value),Hid (aa = ⟨#[.pointer (some ⟨bs,0,none⟩),.pointer (some ⟨bt,0,none⟩),.int .i64 0,z 3,z 4,z 5,z 6,z 7,z 8,z 9,z 10,z 11,z 12,z 13],[]⟩) ∧ Holding [3,4,5,6,7,8,9,10,11,12,13,1011] [some (.pointer (some ⟨G.g,0,none⟩)),some (.pointer (some ⟨G.g,0,none⟩)),some (.pointer (some ⟨G.g,0,none⟩)),some (.pointer (some ⟨G.g,37,none⟩)),some (G.v),some (.slice A n c),none,none,none,some (.pointer (some ⟨G.g,0,none⟩)),some (.pointer (some ⟨G.g,37,none⟩)),none] ll z ∧ Whn ll 6 (YX t w.heap.size) (z 9) wx ∧ Whu ll 7 8 (NX (z 9)) (z 10) wx ∧ Whu ll 8 11 (OX V.T.length G.ts G.v w.heap.size (z 9)) (z 11) wx ∧ Whn ll 11 (AG G.g C V.T.length G.ts G.v w.heap.size (z 9) (z 11)) (z 1011) wx) ?_ (by kernel_rfl) ?_ ?_ _ rfl _ _ ?_
 · rintro ll aa wx ⟨hI,_⟩
   exact hI.out.1
 · rintro ll aa wx ⟨hI,z,ha,hz,hp6,hp7,hp8,hp11⟩ hall
   have hx:=Lib.hid hI.out.2
   have p6:=hp6.get (hall 6 (by decide))
   have p11:=hp11.get (hall 11 (by decide))
   clear hall hz hI hp6 hp7 hp8 hp11
   obtain rfl:=ha.out
   clear ha
   clear apx
   have P6:=Lib.hid p6
   have P11:=Lib.hid p11
   have HX:=Lib.hid hx.out.chg
   clear hx p6 p11
   go_wp2
   go_ret
   refine ⟨rfl,⟨G.g,z 11,G.ts ++ [z 9],G.A,G.c⟩,keptG_of H.out HK.out Ht.out.1 Ht.out.2 ?_ P11.out.ox P6.out HX.out⟩
   rw [P11.out.row,Hset.out]
 · rintro ll aa wx i ⟨hI,z,ha,hz,hp6,hp7,hp8,hp11⟩ hcl hi hu hw
   obtain rfl:=ha.out
   have hsz:=Lib.hid hI.out.1
   have hx:=Lib.hid hI.out.2
   clear ha hI
   have hin:i < 12:=hi
   obtain rfl | rfl | rfl | rfl | rfl | rfl | rfl | rfl | rfl | rfl | rfl | rfl:i = 0 ∨ i = 1 ∨ i = 2 ∨ i = 3 ∨ i = 4 ∨ i = 5 ∨ i = 6 ∨ i = 7 ∨ i = 8 ∨ i = 9 ∨ i = 10 ∨ i = 11:=by omega
   · have cl:wx.cell? ⟨bs,0,none⟩ = some (.pointer (some ⟨G.g,0,none⟩)):=cell_row (hx.out.chg.at Hs.out Hbn.out.1) 0
     refine wpOp_plain rfl rfl ?_
     go_simp
     exact ⟨⟨by simp [hsz.out],hx.out.same (by decide) (by decide)⟩,upd z 3 (.pointer (some ⟨G.g,0,none⟩)),(by unfold Hid; simp [upd]),hz.next apx hsz.out 0 (by decide) _ (fun _ h => Option.some.inj h),hp6.keep (by decide),hp7.keep (by decide),hp8.keep (by decide),hp11.keep (by decide)⟩
   · have cl:wx.cell? ⟨bs,0,none⟩ = some (.pointer (some ⟨G.g,0,none⟩)):=cell_row (hx.out.chg.at Hs.out Hbn.out.1) 0
     refine wpOp_plain rfl rfl ?_
     go_simp
     exact ⟨⟨by simp [hsz.out],hx.out.same (by decide) (by decide)⟩,upd z 4 (.pointer (some ⟨G.g,0,none⟩)),(by unfold Hid; simp [upd]),hz.next apx hsz.out 1 (by decide) _ (fun _ h => Option.some.inj h),hp6.keep (by decide),hp7.keep (by decide),hp8.keep (by decide),hp11.keep (by decide)⟩
   · have e1:z 4 = .pointer (some ⟨G.g,0,none⟩):=hz 1 _ (hw 1 (by kernel_rfl)) rfl
     refine wpOp_plain rfl rfl ?_
     go_simp
     exact ⟨⟨by simp [hsz.out],hx.out.same (by decide) (by decide)⟩,upd z 5 (.pointer (some ⟨G.g,0,none⟩)),(by unfold Hid; simp [upd,e1]),hz.next apx hsz.out 2 (by decide) _ (fun _ h => Option.some.inj h),hp6.keep (by decide),hp7.keep (by decide),hp8.keep (by decide),hp11.keep (by decide)⟩
   · have e2:z 5 = .pointer (some ⟨G.g,0,none⟩):=hz 2 _ (hw 2 (by kernel_rfl)) rfl
     refine wpOp_plain rfl rfl ?_
     go_simp
     exact ⟨⟨by simp [hsz.out],hx.out.same (by decide) (by decide)⟩,upd z 6 (.pointer (some ⟨G.g,37,none⟩)),(by unfold Hid; simp [upd,e2]),hz.next apx hsz.out 3 (by decide) _ (fun _ h => Option.some.inj h),hp6.keep (by decide),hp7.keep (by decide),hp8.keep (by decide),hp11.keep (by decide)⟩
   · have e3:z 6 = .pointer (some ⟨G.g,37,none⟩):=hz 3 _ (hw 3 (by kernel_rfl)) rfl
     have hn11:ll.getD 11 false = false:=not_listed (fun hl => hcl 8 4 (hcl 11 8 hl (by kernel_rfl)) (by kernel_rfl)) hu
     have c8:wx.cell? ⟨G.g,37,none⟩ = some G.v:=(cell_row (hx.out.row hn11) 37).trans C5.out
     refine wpOp_plain rfl rfl ?_
     go_simp
     exact ⟨⟨by simp [hsz.out],hx.out.same (by decide) (by decide)⟩,upd z 7 (G.v),(by unfold Hid; simp [upd,e3]),hz.next apx hsz.out 4 (by decide) _ (fun _ h => Option.some.inj h),hp6.keep (by decide),hp7.keep (by decide),hp8.keep (by decide),hp11.keep (by decide)⟩
   · have cl:wx.cell? ⟨bt,0,none⟩ = some (.slice A n c):=cell_row (hx.out.chg.at Hbt.out Hbn.out.2) 0
     refine wpOp_plain rfl rfl ?_
     go_simp
     exact ⟨⟨by simp [hsz.out],hx.out.same (by decide) (by decide)⟩,upd z 8 (.slice A n c),(by unfold Hid; simp [upd]),hz.next apx hsz.out 5 (by decide) _ (fun _ h => Option.some.inj h),hp6.keep (by decide),hp7.keep (by decide),hp8.keep (by decide),hp11.keep (by decide)⟩
   · have e5:z 8 = .slice A n c:=hz 5 _ (hw 5 (by kernel_rfl)) rfl
     refine wpOp_plain rfl rfl ?_
     go_simp
     go_at_call 35
     refine (clone_sl (L:=t) ⟨A,c,by rw [HN.out],HB.out.below (hx.out.low (not_listed (fun hl => hcl 7 6 (hcl 8 7 hl (by kernel_rfl)) (by kernel_rfl)) hu) (not_listed (fun hl => hcl 7 6 (hcl 8 7 (hcl 11 8 hl (by kernel_rfl)) (by kernel_rfl)) (by kernel_rfl)) hu)) (Nat.le_refl _)⟩ (by have:=Ht.out.2; omega)).mono ?_
     rintro e w' ⟨vr,rfl,ho,low⟩
     exact ⟨⟨by simp [hsz.out],hx.out.call Hg.out (by decide) (by decide) low⟩,upd z 9 (vr),(by unfold Hid; simp [upd,e5]),hz.next apx hsz.out 6 (by decide) _ (fun _ h => by cases h),Whn.done (YX.new (own_lower ho hx.out.chg.size) (own_sl ho rfl)),Whu.never (by decide) (fun hl => hcl 7 6 hl (by kernel_rfl)) hu,Whu.never (by decide) (fun hl => hcl 8 6 hl (by kernel_rfl)) hu,Whn.never (by decide) (fun hl => hcl 11 6 hl (by kernel_rfl)) hu⟩
   · have p6:=hp6.get (hw 6 (by kernel_rfl))
     obtain ⟨A6,c6,hv6,_⟩:=p6.sl
     have lown:Below wx.heap.size wx (wx.alloc (.cells #[.slice A6 t.length c6] 38)):=(Below.refl _ _).alloc (Nat.le_refl _) _
     refine wpOp_plain rfl rfl ?_
     simp only [hv6]
     go_simp
     exact ⟨⟨by simp [hsz.out],hx.out.call Hg.out (by decide) (by decide) lown⟩,upd z 10 (.slice (some ⟨wx.heap.size,0,none⟩) 1 1),(by unfold Hid; simp [upd,hv6]),hz.next apx hsz.out 7 (by decide) _ (fun _ h => by cases h),(hp6.keep (by decide)).map (fun h => h.later lown),Whu.done (NX.new hv6 (Go.heap_alloc_new wx _)),(hp8.keep (by decide)).map (fun h => h.later lown),(hp11.keep (by decide)).map (fun h => h.later lown)⟩
   · have e4:z 7 = G.v:=hz 4 _ (hw 4 (by kernel_rfl)) rfl
     have p6:=hp6.get (hw 6 (by kernel_rfl))
     have p7:=hp7.get (hw 7 (by kernel_rfl)) hu
     obtain ⟨N,hv7,hN⟩:=p7
     have hn11:ll.getD 11 false = false:=not_listed (fun hl => hcl 11 8 hl (by kernel_rfl)) hu
     have ho8:=own_stays Hown.out (hx.out.low hu hn11)
     refine wpOp_plain rfl rfl (wp_app_sl (.tmp 7) (.tmp 10) rfl 0 G.v V.T.length G.ts (z 9) p6.one e4 ho8 N hv7 hN Hn.out (Nat.zero_le _) ?_)
     intro vr w9 hown9 hgrow9 hblk9
     go_simp
     exact ⟨⟨by simp [hsz.out],hx.out.app Hg.out Hug.out (by rw [hsz.out]; decide) hgrow9⟩,upd z 11 (vr),(by unfold Hid; simp [upd,e4,hv7]),hz.next apx hsz.out 8 (by decide) _ (fun _ h => by cases h),(hp6.keep (by decide)).map (fun h => h.chg (chg_grown hgrow9) (fun q hq => Hsub.out q (by simp at hq; simp [hq]))),Whu.past (by rw [hsz.out]; decide),Whu.done (OX.new hown9 hblk9 p6 hx.out.chg.size),Whn.never (by decide) (fun hl => hcl 11 8 hl (by kernel_rfl)) hu⟩
   · have e0:z 3 = .pointer (some ⟨G.g,0,none⟩):=hz 0 _ (hw 0 (by kernel_rfl)) rfl
     refine wpOp_plain rfl rfl ?_
     go_simp
     exact ⟨⟨by simp [hsz.out],hx.out.same (by decide) (by decide)⟩,upd z 12 (.pointer (some ⟨G.g,0,none⟩)),(by unfold Hid; simp [upd,e0]),hz.next apx hsz.out 9 (by decide) _ (fun _ h => Option.some.inj h),hp6.keep (by decide),hp7.keep (by decide),hp8.keep (by decide),hp11.keep (by decide)⟩
   · have e9:z 12 = .pointer (some ⟨G.g,0,none⟩):=hz 9 _ (hw 9 (by kernel_rfl)) rfl
     refine wpOp_plain rfl rfl ?_
     go_simp
     exact ⟨⟨by simp [hsz.out],hx.out.same (by decide) (by decide)⟩,upd z 13 (.pointer (some ⟨G.g,37,none⟩)),(by unfold Hid; simp [upd,e9]),hz.next apx hsz.out 10 (by decide) _ (fun _ h => Option.some.inj h),hp6.keep (by decide),hp7.keep (by decide),hp8.keep (by decide),hp11.keep (by decide)⟩
   · have e10:z 13 = .pointer (some ⟨G.g,37,none⟩):=hz 10 _ (hw 10 (by kernel_rfl)) rfl
     have p8:=hp8.get (hw 8 (by kernel_rfl)) hu
     have crow:=hx.out.row hu
     have c8:wx.cell? ⟨G.g,37,none⟩ = some G.v:=(cell_row crow 37).trans C5.out
     have f8:wx.frozen? ⟨G.g,37,none⟩ = false:=free_row crow 37
     have hz8:(z 11).ownBlock ≠ some G.g:=p8.ne Hug.out Hg.out
     obtain ⟨A8,c8e,hv8⟩:=own_nilK p8.own
     refine wpOp_plain rfl rfl ?_
     simp only [hv8]
     go_simp
     exact ⟨⟨by simp [hsz.out],hx.out.store (by rw [hsz.out]; decide) (hw 8 (by kernel_rfl))⟩,upd z 1011 (undef),(by unfold Hid; simp [upd,e10,hv8]),hz.next apx hsz.out 11 (by decide) _ (fun _ h => by cases h),(hp6.keep (by decide)).map (fun h => h.chg ((Chg.refl [G.g] _).setCell (by simp) _) (fun q hq => Hsub.out q (by simp at hq; simp [hq]))),Whu.gone (hw 8 (by kernel_rfl)),Whu.past (by rw [hsz.out]; decide),Whn.done (AG.new p8 hz8 crow hv8)⟩
 · exact ⟨⟨rfl,RG.start Hrow.out⟩,fun xx => (#[.pointer (some ⟨bs,0,none⟩),.pointer (some ⟨bt,0,none⟩),.int .i64 0,undef,undef,undef,undef,undef,undef,undef,undef,undef,undef,undef]:Array Value).getD xx undef,rfl,Holding.start,Whn.none (by decide),Whu.none (by decide),Whu.none (by decide),Whn.none (by decide)⟩
end
end Go.Proofs.YteeghgjkjicjoaaGreatDoor.Sgm
namespace Go.Proofs.YteeghgjkjicjoaaGreatDoor.Sgm
open Go.RowKit Dsk Slt
def recL (V:GV) (t:List Int):List Int:=Seal.sealL V.key V.C V.T.length V.ep t
def appG (D:DS) (S:LS) (V:GV) (t:List Int):DS × LS × GV × Int :=
 if refX D S V t.length ≠ 0 then (D,S,V,refX D S V t.length)
 else if (appD D S (recL V t)).2.2 = 0 then ((appD D S (recL V t)).1,(appD D S (recL V t)).2.1,{ V with T:=V.T ++ [t] },0)
 else ((appD D S (recL V t)).1,(appD D S (recL V t)).2.1,{ V with lost:=true },(appD D S (recL V t)).2.2)
theorem appG_ref {D:DS} {S:LS} {V:GV} {t:List Int} (h:refX D S V t.length ≠ 0):appG D S V t = (D,S,V,refX D S V t.length):=if_pos h
theorem appG_ok {D:DS} {S:LS} {V:GV} {t:List Int} (h:refX D S V t.length = 0) (h2:(appD D S (recL V t)).2.2 = 0):appG D S V t = ((appD D S (recL V t)).1,(appD D S (recL V t)).2.1,{ V with T:=V.T ++ [t] },0):=by
 unfold appG; rw [if_neg (not_not_intro h),if_pos h2]
theorem appG_no {D:DS} {S:LS} {V:GV} {t:List Int} (h:refX D S V t.length = 0) (h2:(appD D S (recL V t)).2.2 ≠ 0):appG D S V t = ((appD D S (recL V t)).1,(appD D S (recL V t)).2.1,{ V with lost:=true },(appD D S (recL V t)).2.2):=by
 unfold appG; rw [if_neg (not_not_intro h),if_neg h2]
theorem ref_zero {D:DS} {S:LS} {V:GV} {m:Nat} (h:refX D S V m = 0):V.ep ≠ 0 ∧ m ≤ 131068 ∧ V.lost = false ∧ D.off = false ∧ (m:Int) ≤ roomG S:=by
 unfold refX at h
 split at h
 · cases h
 split at h
 · cases h
 split at h
 · cases h
 split at h
 · cases h
 rename_i h1 h2 h3 h4
 refine ⟨h1,by omega,?_,?_,by omega⟩
 · cases hl:V.lost
   · rfl
   · exact absurd (.inl hl) h3
 · cases hl:D.off
   · rfl
   · exact absurd (.inr hl) h3
structure AR (w:World) (K:DK) (J:LK) (G:GK) (X:List Nat) (D':DS) (S':LS) (V':GV) (J':LK) (G':GK) (W:World):Prop where
 sg:Sg W K J' G' S' V'
 dsk:Dsk W K D'
 jg:J'.g = J.g
 gg:G'.g = G.g
 chg:Chg X w W
 jbl:∀ q ∈ J'.bl,q ∈ J.bl ∨ w.heap.size ≤ q
 jtx:∀ q ∈ J'.tx,q ∈ J.tx ∨ w.heap.size ≤ q
 gbl:∀ q ∈ G'.bl,q ∈ G.bl ∨ w.heap.size ≤ q
 gtx:∀ q ∈ G'.tx,q ∈ G.tx ∨ w.heap.size ≤ q
def apF:Nat → Nat:=fun i => [53, 55, 58, 60].getD i 0
def apC (bs bt be:Nat):Nat → Array Value:=fun i => [#[ptrV bs,ptrV bt],#[ptrV bs,ptrV bt,ptrV be],#[ptrV bs,ptrV be],#[ptrV bs,ptrV bt]].getD i #[]
def apV (bs bt be:Nat):Array Value:=#[.func (.func 53) #[] #[ptrV bs,ptrV bt],.func (.func 55) #[] #[ptrV bs,ptrV bt,ptrV be],.func (.func 58) #[] #[ptrV bs,ptrV be],.func (.func 60) #[] #[ptrV bs,ptrV bt]]
theorem ap_enter:∀ i,i < 4 → ∀ x w,(callFunc (apF i) x).run Tryz.prog w = .ok (.enter (apF i) x) w:=by
 intro i hi x w
 obtain rfl | rfl | rfl | rfl:i = 0 ∨ i = 1 ∨ i = 2 ∨ i = 3:=by omega
 · exact enter_of Tryz.func53 (by kernel_rfl) rfl x w
 · exact enter_of Tryz.func55 (by kernel_rfl) rfl x w
 · exact enter_of Tryz.func58 (by kernel_rfl) rfl x w
 · exact enter_of Tryz.func60 (by kernel_rfl) rfl x w
section
variable {w4:World} {K:DK} {J:LK} {G:GK} {S:LS} {V:GV} {D:DS} {bs bt be gF:Nat} {A:Option Addr} {n c:Nat} {t:List Int}
structure A0 (K:DK) (G:GK) (bs bt be gF:Nat) (A:Option Addr) (n c:Nat) (t:List Int) (W:World):Prop where
 s:W.heap[bs]? = some (.cells #[.pointer (some ⟨G.g,0,none⟩)] 42 (0,0))
 tt:W.heap[bt]? = some (.cells #[.slice A n c] 38 (0,0))
 f:W.heap[gF]? = some (.cells (apV bs bt be) 78 (0,0))
 b:Byt W A c t
structure AH (w4:World) (K:DK) (J:LK) (G:GK) (S:LS) (V:GV) (D:DS) (bs bt be gF:Nat) (A:Option Addr) (n:Nat) (t:List Int):Prop where
 sg:Sg w4 K J G S V
 dsk:Dsk w4 K D
 ti:InB t
 tl:t.length = n
 hn:n ≤ 9223372036854775807
 hN:V.T.length ≤ 16384
 laid:Seal.SLaid w4
 tab:be ∉ Tab
 hend:S.from_ + S.secs ≤ D.secs
 hw:D.writes ≤ 576460752303423488
 lt:bs < w4.heap.size ∧ bt < w4.heap.size ∧ be < w4.heap.size ∧ gF < w4.heap.size
 ne:bs ≠ be ∧ bt ≠ be ∧ gF ≠ be
 nb:∀ q,q = bs ∨ q = bt ∨ q = be ∨ q = gF → q ∉ K.bl ∧ q ∉ J.bl ∧ q ∉ G.bl ∧ q ∉ G.tx ∧ q ∉ J.tx
 tb:0 < t.length → ∀ a,A = some a → a.block ∉ K.bl ∧ a.block ∉ J.bl ∧ a.block ∉ G.bl ∧ a.block ≠ be
theorem A0.chg {X:List Nat} {W W':World} (H:AH w4 K J G S V D bs bt be gF A n t) (h:A0 K G bs bt be gF A n c t W) (hc:Chg X W W') (hX:∀ q ∈ X,q = be ∨ q ∈ K.bl ∨ q ∈ J.bl ∨ q ∈ G.bl):A0 K G bs bt be gF A n c t W':=by
 have hnot:∀ q,(q = bs ∨ q = bt ∨ q = gF) → q ∉ X:=fun q hq hm => by
  have hb:=H.nb q (by rcases hq with h | h | h <;> simp [h])
  rcases hX q hm with e | e | e | e
  · have:=H.ne; rcases hq with h | h | h <;> omega
  · exact hb.1 e
  · exact hb.2.1 e
  · exact hb.2.2.1 e
 refine ⟨hc.at h.s (hnot _ (.inl rfl)),hc.at h.tt (hnot _ (.inr (.inl rfl))),hc.at h.f (hnot _ (.inr (.inr rfl))),byt_chg h.b hc (fun h0 a ha hm => ?_)⟩
 have:=H.tb h0 a ha
 rcases hX _ hm with e | e | e | e
 · exact this.2.2.2 e
 · exact this.1 e
 · exact this.2.1 e
 · exact this.2.2.1 e
def AI (w4:World) (K:DK) (J:LK) (G:GK) (S:LS) (V:GV) (D:DS) (bs bt be gF:Nat) (A:Option Addr) (n c:Nat) (t:List Int):Nat → World → Prop
 | 0,W => A0 K G bs bt be gF A n c t W ∧ W.heap[be]? = some (.cells #[.slice none 0 0] 38 (0,0)) ∧ Below w4.heap.size w4 W
 | 1,W => refX D S V n = 0 ∧ A0 K G bs bt be gF A n c t W ∧ W.heap[be]? = some (.cells #[.slice none 0 0] 38 (0,0)) ∧ Below w4.heap.size w4 W
 | 2,W => refX D S V n = 0 ∧ A0 K G bs bt be gF A n c t W ∧ SeR be w4.heap.size (recL V t) undef W ∧ Chg [be] w4 W
 | 3,W => refX D S V n = 0 ∧ (appD D S (recL V t)).2.2 = 0 ∧ A0 K G bs bt be gF A n c t W ∧ ∃ J',AR w4 K J G (be :: (K.bl ++ J.bl ++ G.bl)) (appD D S (recL V t)).1 (appD D S (recL V t)).2.1 V J' G W
 | _,W => (appG D S V t).2.2.2 = 0 ∧ ∃ J' G',AR w4 K J G (be :: (K.bl ++ J.bl ++ G.bl)) (appG D S V t).1 (appG D S V t).2.1 (appG D S V t).2.2.1 J' G' W
def AQ (w4:World) (K:DK) (J:LK) (G:GK) (S:LS) (V:GV) (D:DS) (be:Nat) (t:List Int) (x:Int) (W:World):Prop:=x = (appG D S V t).2.2.2 ∧ ∃ J' G',AR w4 K J G (be :: (K.bl ++ J.bl ++ G.bl)) (appG D S V t).1 (appG D S V t).2.1 (appG D S V t).2.2.1 J' G' W
variable (H:AH w4 K J G S V D bs bt be gF A n t)
include H
theorem astep0 {W:World} (h:AI w4 K J G S V D bs bt be gF A n c t 0 W):Calls Tryz.prog (apF 0) (apC bs bt be 0) W (StepQ (AI w4 K J G S V D bs bt be gF A n c t 1) (AQ w4 K J G S V D be t)):=by
 obtain ⟨h0,he,hb⟩:=h
 refine (app1_any (H.sg.later hb) (H.dsk.later hb) h0.s h0.tt H.hn).mono ?_
 rintro e W' ⟨rfl,hb2⟩
 have hb3:Below w4.heap.size w4 W':=hb.trans (hb2.mono hb.size)
 refine ⟨_,rfl,?_⟩
 by_cases hx:refX D S V n = 0
 · exact .inl ⟨hx,hx,h0.chg H (Chg.of_below (S:=[]) hb2) (by simp),(hb2.block _ (Array.getElem?_eq_some_iff.1 he).1).trans he,hb3⟩
 · have e:=appG_ref (D:=D) (S:=S) (V:=V) (t:=t) (by rw [H.tl]; exact hx)
   rw [H.tl] at e
   refine .inr ⟨hx,by rw [e],J,G,?_⟩
   rw [e]
   exact ⟨H.sg.later hb3,H.dsk.later hb3,rfl,rfl,Chg.of_below hb3,fun _ h => .inl h,fun _ h => .inl h,fun _ h => .inl h,fun _ h => .inl h⟩
theorem astep1 {W:World} (h:AI w4 K J G S V D bs bt be gF A n c t 1 W):Calls Tryz.prog (apF 1) (apC bs bt be 1) W (StepQ (AI w4 K J G S V D bs bt be gF A n c t 2) (AQ w4 K J G S V D be t)):=by
 obtain ⟨hx,h0,he,hb⟩:=h
 obtain ⟨r1,r2,r3,r4,r5⟩:=ref_zero hx
 have hbe:=H.nb be (.inr (.inr (.inl rfl)))
 refine (app2_any (ev:=.slice none 0 0) (H.sg.later hb) h0.s h0.tt he ⟨H.ne.1,H.ne.2.1,fun e => hbe.2.2.1 (by rw [← e]; simp [GK.bl]),fun a ha e => hbe.2.2.2.1 (by rw [← e]; simp [GK.tx,ha]),fun h1 a ha => (H.tb h1 a ha).2.2.2⟩ h0.b H.ti H.tl r2 H.hN (H.laid.later hb) H.tab).mono ?_
 rintro e W' ⟨rfl,hc,v,hv1,hv2⟩
 refine ⟨0,rfl,.inl ⟨rfl,hx,h0.chg H hc (by simp),⟨v,hv1,?_⟩,(Chg.of_below hb).trans hc⟩⟩
 exact Seal.OwnB.base hv2 hb.size
theorem astep2 {W:World} (h:AI w4 K J G S V D bs bt be gF A n c t 2 W):Calls Tryz.prog (apF 2) (apC bs bt be 2) W (StepQ (AI w4 K J G S V D bs bt be gF A n c t 3) (AQ w4 K J G S V D be t)):=by
 obtain ⟨hx,h0,⟨v,hv1,hv2⟩,hc⟩:=h
 obtain ⟨r1,r2,r3,r4,r5⟩:=ref_zero hx
 have hbe:=H.nb be (.inr (.inr (.inl rfl)))
 have hbs:=H.nb bs (.inl rfl)
 have hsg:Sg W K J G S V:=H.sg.chg hc (fun q hq => by simp; rintro rfl; exact hbe.2.1 hq) (fun q hq => by simp; rintro rfl; exact hbe.2.2.2.2 hq) (fun q hq => by simp; rintro rfl; exact hbe.2.2.1 hq) (fun q hq => by simp; rintro rfl; exact hbe.2.2.2.1 hq)
 have hdk:Dsk W K D:=H.dsk.chg hc (by simp; intro e; exact hbe.1 (by rw [← e]; simp [DK.bl])) (by simp; intro e; exact hbe.1 (by rw [← e]; simp [DK.bl]))
 obtain ⟨A5,c5,rfl⟩:=own_nilK hv2
 have hsl:=Seal.OwnB.sl hv2
 obtain ⟨A5',c5',e5,hb5⟩:=hsl
 cases e5
 have hK:∀ q ∈ K.bl,q < w4.heap.size:=fun q hq => by
  simp [DK.bl] at hq
  rcases hq with rfl | rfl
  · exact H.dsk.glt
  · exact H.dsk.hlt
 refine (app3_any hsg hdk h0.s hv1 rfl hb5 (fun a ha hm => by subst ha; have:=(World.ownsRow.lt hv2 a.block rfl).1; have:=hK _ hm; omega) (Seal.sealL_in H.ti) ⟨hbs.1,hbs.2.1,fun e => hbs.2.2.1 (by rw [e]; simp [GK.bl])⟩ H.hend H.hw).mono ?_
 rintro e W' ⟨rfl,J',w1,hQ,rfl⟩
 refine ⟨_,rfl,?_⟩
 have hsg1:=(hsg.app hQ).lose ((appD D S (recL V t)).2.2 != 0)
 have hGK:G.g ∉ K.bl:=(H.sg.kap _ (by simp [GK.bl])).1
 have hc1:Chg [G.g] w1 (w1.setCell ⟨G.g,38,none⟩ (.bool ((appD D S (recL V t)).2.2 != 0))):=(Chg.refl [G.g] w1).setCell (by simp) _
 have hdk1:Dsk (w1.setCell ⟨G.g,38,none⟩ (.bool ((appD D S (recL V t)).2.2 != 0))) K (appD D S (recL V t)).1:=hQ.dsk.chg hc1 (by simp; intro e; exact hGK (by rw [← e]; simp [DK.bl])) (by simp; intro e; exact hGK (by rw [← e]; simp [DK.bl]))
 have hch:Chg (be :: (K.bl ++ J.bl ++ G.bl)) w4 (w1.setCell ⟨G.g,38,none⟩ (.bool ((appD D S (recL V t)).2.2 != 0))) :=
  ((hc.mono (fun k hk => .inl (by simp at hk; simp [hk]))).trans (hQ.chg.mono (fun k hk => .inl (by rcases List.mem_append.1 hk with hk | hk <;> simp [hk])))).trans (hc1.mono (fun k hk => .inl (by simp at hk; simp [hk,GK.bl])))
 have hcW:Chg (K.bl ++ J.bl ++ [G.g]) W (w1.setCell ⟨G.g,38,none⟩ (.bool ((appD D S (recL V t)).2.2 != 0))) :=
  (hQ.chg.mono (fun k hk => .inl (by rcases List.mem_append.1 hk with hk | hk <;> simp [hk]))).trans (hc1.mono (fun k hk => .inl (by simp at hk; simp [hk])))
 have hnew:∀ V',Sg (w1.setCell ⟨G.g,38,none⟩ (.bool ((appD D S (recL V t)).2.2 != 0))) K J' G (appD D S (recL V t)).2.1 V' → AR w4 K J G (be :: (K.bl ++ J.bl ++ G.bl)) (appD D S (recL V t)).1 (appD D S (recL V t)).2.1 V' J' G (w1.setCell ⟨G.g,38,none⟩ (.bool ((appD D S (recL V t)).2.2 != 0))):=fun V' hV =>
  ⟨hV,hdk1,hQ.g,rfl,hch,fun q hq => (hQ.bl q hq).imp id (fun h => Nat.le_trans hc.size h),fun q hq => (hQ.tx q hq).imp id (fun h => Nat.le_trans hc.size h),fun _ h => .inl h,fun _ h => .inl h⟩
 by_cases hz:(appD D S (recL V t)).2.2 = 0
 · refine .inl ⟨hz,hx,hz,h0.chg H hcW (fun q hq => ?_),J',hnew V ?_⟩
   · rcases List.mem_append.1 hq with hq | hq
     · rcases List.mem_append.1 hq with hq | hq
       · exact .inr (.inl hq)
       · exact .inr (.inr (.inl hq))
     · simp at hq; subst hq; exact .inr (.inr (.inr (by simp [GK.bl])))
   · have e1:((appD D S (recL V t)).2.2 != 0) = false:=by rw [hz]; rfl
     rw [e1] at hsg1 ⊢
     have e2:{ V with lost:=false } = V:=by cases V; simp_all
     rwa [e2] at hsg1
 · have e:=appG_no (D:=D) (S:=S) (V:=V) (t:=t) (by rw [H.tl]; exact hx) hz
   refine .inr ⟨hz,by rw [e],J',G,?_⟩
   rw [e]
   refine hnew _ ?_
   have e1:((appD D S (recL V t)).2.2 != 0) = true:=by simpa using hz
   rw [e1] at hsg1 ⊢
   exact hsg1
theorem astep3 {W:World} (h:AI w4 K J G S V D bs bt be gF A n c t 3 W):Calls Tryz.prog (apF 3) (apC bs bt be 3) W (StepQ (AI w4 K J G S V D bs bt be gF A n c t 4) (AQ w4 K J G S V D be t)):=by
 obtain ⟨hx,hz,h0,J',hr⟩:=h
 obtain ⟨r1,r2,r3,r4,r5⟩:=ref_zero hx
 have hbs:=H.nb bs (.inl rfl)
 have hbt:=H.nb bt (.inr (.inl rfl))
 have hK:∀ q ∈ K.bl,q < W.heap.size:=fun q hq => by
  simp [DK.bl] at hq
  rcases hq with rfl | rfl
  · exact hr.dsk.glt
  · exact hr.dsk.hlt
 refine (app4_any hr.sg hK h0.s h0.tt ⟨hbs.2.2.1,hbt.2.2.1⟩ h0.b H.ti H.tl r2 (Nat.le_trans H.hN (by decide))).mono ?_
 rintro e W' ⟨rfl,G',hk⟩
 have e:=appG_ok (D:=D) (S:=S) (V:=V) (t:=t) (by rw [H.tl]; exact hx) hz
 refine ⟨0,rfl,.inl ⟨rfl,by rw [e],J',G',?_⟩⟩
 rw [e]
 refine ⟨hk.sg,hr.dsk.chg hk.chg (fun hm => (hr.sg.kap _ hm).1 (by simp [DK.bl])) (fun hm => (hr.sg.kap _ hm).1 (by simp [DK.bl])),hr.jg,hk.g,hr.chg.trans (hk.chg.mono (fun k hk => .inl (by simp [hk]))),hr.jbl,hr.jtx,fun q hq => (hk.bl q hq).imp id (fun h => Nat.le_trans hr.chg.size h),fun q hq => (hk.tx q hq).imp id (fun h => Nat.le_trans hr.chg.size h)⟩
theorem asteps_any {W:World} (h:AI w4 K J G S V D bs bt be gF A n c t 0 W):Calls Tryz.prog 38 #[.slice (some ⟨gF,0,none⟩) 4 4] W (StepQ (AI w4 K J G S V D bs bt be gF A n c t 4) (AQ w4 K J G S V D be t)):=by
 refine first_any (m:=4) (by decide) apF ap_enter (apC bs bt be) (AI w4 K J G S V D bs bt be gF A n c t) (AQ w4 K J G S V D be t) ?_ ?_ W h
 · intro i W hi hI
   have hfs:W.heap[gF]? = some (.cells (apV bs bt be) 78 (0,0)):=by
    obtain rfl | rfl | rfl | rfl:i = 0 ∨ i = 1 ∨ i = 2 ∨ i = 3:=by omega
    · exact hI.1.f
    · exact hI.2.1.f
    · exact hI.2.1.f
    · exact hI.2.2.1.f
   rw [cell_row hfs]
   obtain rfl | rfl | rfl | rfl:i = 0 ∨ i = 1 ∨ i = 2 ∨ i = 3:=by omega
   all_goals rfl
 · intro i W hi hI
   obtain rfl | rfl | rfl | rfl:i = 0 ∨ i = 1 ∨ i = 2 ∨ i = 3:=by omega
   · exact astep0 H hI
   · exact astep1 H hI
   · exact astep2 H hI
   · exact astep3 H hI
end
set_option maxRecDepth 100000 in
set_option maxHeartbeats 2000000 in
theorem gappend_any {w:World} {K:DK} {J:LK} {G:GK} {S:LS} {V:GV} {D:DS} (h:Sg w K J G S V) (hd:Dsk w K D) (A:Option Addr) (n c:Nat) (t:List Int) (htl:t.length = n) (hB:Byt w A c t) (hA:0 < t.length → ∀ a,A = some a → a.block ∉ K.bl ∧ a.block ∉ J.bl ∧ a.block ∉ G.bl) (ht:InB t) (hn:n ≤ 9223372036854775807) (hN:V.T.length ≤ 16384) (hLd:Seal.SLaid w) (hend:S.from_ + S.secs ≤ D.secs) (hw:D.writes ≤ 576460752303423488) :
 Calls Tryz.prog 24 #[G.ptr,.slice A n c] w fun e w' => e = .returned (.int .i64 (appG D S V t).2.2.2) ∧ ∃ J' G',AR w K J G (K.bl ++ J.bl ++ G.bl) (appG D S V t).1 (appG D S V t).2.1 (appG D S V t).2.2.1 J' G' w':=by
 obtain ⟨w3,hw3⟩:∃ w3,w3 = ((w.alloc (.cells #[.pointer (some ⟨G.g,0,none⟩)] 42)).alloc (.cells #[.slice A n c] 38)).alloc (.cells #[.slice none 0 0] 38):=⟨_,rfl⟩
 obtain ⟨w4,hw4⟩:∃ w4,w4 = w3.alloc (.cells (apV w.heap.size (w.heap.size + 1) (w.heap.size + 1 + 1)) 78):=⟨_,rfl⟩
 have hb3:Below w.heap.size w w3:=by rw [hw3]; exact below3 w _ _ _
 have hs3:w3.heap.size = w.heap.size + 3:=by rw [hw3,World.size_alloc,World.size_alloc,World.size_alloc]
 obtain ⟨t1,t2,t3⟩:=three_new w (.cells #[.pointer (some ⟨G.g,0,none⟩)] 42) (.cells #[.slice A n c] 38) (.cells #[.slice none 0 0] 38)
 rw [← hw3] at t1 t2 t3
 have hb34:Below w3.heap.size w3 w4:=by rw [hw4]; exact (Below.refl _ _).alloc (Nat.le_refl _) _
 have hs4:w4.heap.size = w.heap.size + 4:=by rw [hw4,World.size_alloc,hs3]
 have hb4:Below w.heap.size w w4:=hb3.trans (hb34.mono hb3.size)
 have hf4:w4.heap[w3.heap.size]? = some (.cells (apV w.heap.size (w.heap.size + 1) (w.heap.size + 1 + 1)) 78 (0,0)):=by rw [hw4]; exact Go.heap_alloc_new w3 _
 have hK:∀ q ∈ K.bl,q < w.heap.size:=fun q hq => by
  simp [DK.bl] at hq
  rcases hq with rfl | rfl
  · exact hd.glt
  · exact hd.hlt
 have hJ:=jbl_lt h.lg
 have hG:=gbl_lt h
 have hAH:AH w4 K J G S V D w.heap.size (w.heap.size + 1) (w.heap.size + 1 + 1) w3.heap.size A n t:=by
  refine ⟨h.later hb4,hd.later hb4,ht,htl,hn,hN,hLd.later hb4,fun hm => by have:=tab_lt hLd _ hm; omega,hend,hw,⟨by omega,by omega,by omega,by omega⟩,⟨by omega,by omega,by omega⟩,fun q hq => ⟨fun hm => by have:=hK q hm; omega,fun hm => by have:=hJ q hm; omega,fun hm => by have:=hG q hm; omega,fun hm => by have:=h.tlt q hm; omega,fun hm => by have:=h.lg.tlt q hm; omega⟩,fun h0 a ha => ⟨(hA h0 a ha).1,(hA h0 a ha).2.1,(hA h0 a ha).2.2,?_⟩⟩
  obtain ⟨g,off,e,hg,_⟩:=hB.2.2 h0
  rw [ha] at e
  cases e
  show g ≠ _
  omega
 have hAI:AI w4 K J G S V D w.heap.size (w.heap.size + 1) (w.heap.size + 1 + 1) w3.heap.size A n c t 0 w4 :=
  ⟨⟨(hb34.block _ (by omega)).trans t1,(hb34.block _ (by omega)).trans t2,hf4,hB.below hb4 (Nat.le_refl _)⟩,(hb34.block _ (by omega)).trans t3,Below.refl _ _⟩
 have HAH:=Lib.hid hAH
 have HAI:=Lib.hid hAI
 have Hb4:=Lib.hid hb4
 have Hs4:=Lib.hid hs4
 unfold apV ptrV at hw4
 rw [hw3] at hw4
 have Hw4:=Lib.hid hw4
 have hsz3:Hid (w3.heap.size = w.heap.size + 1 + 1 + 1):=hs3
 unfold GK.ptr
 clear h hd htl hB hA ht hn hN hLd hend hw hw3 hw4 hb3 hs3 t1 t2 t3 hb34 hs4 hb4 hf4 hK hJ hG hAH hAI
 go_enter Tryz.func24,Tryz.ntmps24
 go_wp2_with (go_at_call 38; rw [← Hw4.out,← hsz3.out]; refine (asteps_any HAH.out HAI.out).mono ?_; rintro ee w5 ⟨x,rfl,hx⟩; have Hx:=Lib.hid hx; clear hx)
 go_ret
 have hq:AQ w4 K J G S V D (w.heap.size + 1 + 1) t x w5:=by
  rcases Hx.out with h | h
  · exact ⟨by rw [h.1]; exact h.2.1.symm,h.2.2⟩
  · exact h.2
 obtain ⟨hx1,J',G',hr⟩:=hq
 refine ⟨by rw [← hx1]; rfl,J',G',?_⟩
 have h4:=Hb4.out
 have hsz:=h4.size
 refine ⟨hr.sg,hr.dsk,hr.jg,hr.gg,((Chg.of_below h4).trans hr.chg).mono (fun k hk => ?_),fun q hq => (hr.jbl q hq).imp id (fun h => Nat.le_trans hsz h),fun q hq => (hr.jtx q hq).imp id (fun h => Nat.le_trans hsz h),fun q hq => (hr.gbl q hq).imp id (fun h => Nat.le_trans hsz h),fun q hq => (hr.gtx q hq).imp id (fun h => Nat.le_trans hsz h)⟩
 rcases List.mem_cons.1 hk with rfl | hk
 · exact .inr (by omega)
 · exact .inl hk
end Go.Proofs.YteeghgjkjicjoaaGreatDoor.Sgm
