/- Texts of ours, merged. -/
import Derived.Test.YteeghgjkjicjoaaGreatDoorB19
import Derived.LoopN
namespace Go.Proofs.YteeghgjkjicjoaaGreatDoor.Cod
open Go.RowKit Str
theorem own_base {w:World} {B B' n:Nat} {e:TypeId} {v:Value} {xs:List Value} (h:w.ownsRow B e 1 v n xs) (hb:B' ≤ B):w.ownsRow B' e 1 v n xs :=
 ⟨h.1,h.2.imp id (by rintro ⟨g,cap,cur,h1,h2,h3⟩; exact ⟨g,cap,cur,h1,Nat.le_trans hb h2,h3⟩)⟩
theorem concat_new (ps:List Part) (m:Nat) (w0:World) (hm:ps.length = m) (hm5:m ≤ 1000) (hp:0 < (catP ps).length) (hle:(catP ps).length ≤ 50000) (hb:∀ p ∈ ps,Byt w0 p.A p.c p.M) (cs:Array Value) (hcs:cs = (ps.map Part.val).toArray) (g:Nat) (hg:g = w0.heap.size) :
 Calls Tryz.prog 99 #[.slice (some ⟨g,0,none⟩) m m] (w0.alloc (.cells cs 38)) fun e' w' => ∃ v,e' = .returned v ∧ w'.ownsRow w0.heap.size 5 1 v (catP ps).length (vals (catP ps)) ∧ Below w0.heap.size w0 w':=by
 subst hcs hg
 refine (concat_any ps w0.heap.size m _ hm hm5 hp hle (fun j h => ?_) (fun j h => (hb _ (List.getElem_mem h)).alloc _)).mono ?_
 · rw [cell_row (Go.heap_alloc_new w0 _)]
   simp [h]
 · rintro e' w' ⟨c,rfl,own,low⟩
   have hs:(w0.alloc (.cells (ps.map Part.val).toArray 38)).heap.size = w0.heap.size + 1:=by rw [World.size_alloc]
   exact ⟨_,rfl,own_base own (by omega),((Below.refl _ _).alloc (Nat.le_refl _) _).trans (low.mono (by omega))⟩
set_option maxRecDepth 100000 in
set_option maxHeartbeats 1000000 in
theorem text_any (A:Option Addr) (x c:Nat) (s:ByteArray) (L:List Int) (hs:s.size ≤ 5000) (hx:L.length = x) (hle:x ≤ 40000) (w:World) (hB:Byt w A c L) :
 Calls Tryz.prog 73 #[.slice A x c,.string s] w fun e w' => ∃ v,e = .returned v ∧ w'.ownsRow w.heap.size 5 1 v (L ++ (encN s.size ++ bOf s)).length (vals (L ++ (encN s.size ++ bOf s))) ∧ Below w.heap.size w w':=by
 have Hx:=Lib.hid hx
 have HB:=Lib.hid hB
 have hsI:(s.size:Int) ≤ 5000:=by omega
 have kc:=fun (w:World) => run_bytes w s
 clear hx hB
 go_enter Tryz.func73,Tryz.ntmps73
 go_wp2_with (first
  | (go_at_call 99; refine (concat_new [⟨A,c,L⟩,⟨A1,c1,encN s.size⟩,⟨some ⟨w1.heap.size,0,none⟩,grownCap w1 s.size 0 5,bOf s⟩] 3 (Lib.bytesWorld w1 5 s) rfl (by omega) (by have:=encN_pos s.size; simp [catP]; omega) (by have:=encN_le s.size; have:=Hx.out; have:=bOf_length s; simp [catP]; omega) (by intro p hp; rcases List.mem_cons.1 hp with rfl | hp; exact (HB.out.below Low1.out (Nat.le_refl _)).below (below_string w1 s) (Nat.le_refl _); rcases List.mem_cons.1 hp with rfl | hp; exact Hb1.out.below (below_string w1 s) (Nat.le_refl _); rcases List.mem_cons.1 hp with rfl | hp; exact byt_string w1 s; cases hp) _ (by simp [Part.val,Hx.out,bOf_length]) _ (by rw [Lib.bytesWorld_size])).mono ?_; rintro e w2 ⟨v2,rfl,own2,low2⟩; have Own2:=Lib.hid own2; have Low2:=Lib.hid low2; clear own2 low2)
  | (go_at_call 100; refine (digits_any s.size (by omega) w).mono ?_; rintro e w1 ⟨v1,rfl,own1,low1⟩; obtain ⟨A1,c1,rfl,_,hb1⟩:=own_byt own1; have Hb1:=Lib.hid hb1; have Low1:=Lib.hid low1; have hs1:=low1.size; clear own1 low1 hb1))
 go_ret
 have hs2:w.heap.size ≤ (Lib.bytesWorld w1 5 s).heap.size:=Nat.le_trans hs1 (below_string w1 s).size
 refine ⟨_,rfl,?_,(Low1.out.trans ((below_string w1 s).mono hs1)).trans (Low2.out.mono hs2)⟩
 have:=own_base Own2.out hs2
 simpa [catP] using this
theorem info8x8:(Tryz.prog.info? 142).map (·.size) = some 8:=by kernel_rfl
set_option maxRecDepth 100000 in
set_option maxHeartbeats 1000000 in
theorem comps_any (c:Nat) (w:World) :
 Calls Tryz.prog 98 #[.int .u64 (c:Nat)] w fun e w' => e = .returned (.agg (u8s (compL c))) ∧ Below w.heap.size w w':=by
 go_enter Tryz.func98,Tryz.ntmps98
 go_wp2
 refine wp_loop_rounds 9 ?_
 rw [rounds_succ]
 go_wp2
 rw [rounds_succ]
 go_wp2
 rw [rounds_succ]
 go_wp2
 rw [rounds_succ]
 go_wp2
 rw [rounds_succ]
 go_wp2
 rw [rounds_succ]
 go_wp2
 rw [rounds_succ]
 go_wp2
 rw [rounds_succ]
 go_wp2
 rw [rounds_succ]
 go_wp2
 have e:u8s (compL c) = #[.int .u8 ((c:Int) / 72057594037927936 % 256),.int .u8 ((c:Int) / 281474976710656 % 256),.int .u8 ((c:Int) / 1099511627776 % 256),.int .u8 ((c:Int) / 4294967296 % 256),.int .u8 ((c:Int) / 16777216 % 256),.int .u8 ((c:Int) / 65536 % 256),.int .u8 ((c:Int) / 256 % 256),.int .u8 ((c:Int) % 256)]:=by simp [u8s,compL]
 rw [e]
 exact bodyPost_ret (v:=.agg #[.int .u8 ((c:Int) / 72057594037927936 % 256),.int .u8 ((c:Int) / 281474976710656 % 256),.int .u8 ((c:Int) / 1099511627776 % 256),.int .u8 ((c:Int) / 4294967296 % 256),.int .u8 ((c:Int) / 16777216 % 256),.int .u8 ((c:Int) / 65536 % 256),.int .u8 ((c:Int) / 256 % 256),.int .u8 ((c:Int) % 256)]) (results_cell_row rfl _ _ w.heap.size 142 _ (0,0) _ rfl (heap_alloc2_old w _ _) Tryz.underlying142 rfl info8x8) rfl ⟨rfl,((Below.refl _ _).alloc (Nat.le_refl _) _).alloc (by simp) _⟩
def NewB (B:Nat) (M:List Int) (v:Value) (w:World):Prop:=w.ownsRow B 5 1 v M.length (vals M)
theorem own_keep {w w':World} {base n:Nat} {e:TypeId} {v:Value} {xs:List Value} (h:w.ownsRow base e 1 v n xs) (hb:Below w.heap.size w w'):w'.ownsRow base e 1 v n xs:=by
 refine ⟨h.1,?_⟩
 rcases h.2 with h | ⟨g,cap,cur,hv,h1,h2,h3⟩
 · exact .inl h
 · exact .inr ⟨g,cap,cur,hv,h1,(hb.block g (Array.getElem?_eq_some_iff.1 h2).1).trans h2,h3⟩
theorem NewB.later {B:Nat} {M:List Int} {v:Value} {w w':World} (h:NewB B M v w) (hb:Below w.heap.size w w'):NewB B M v w':=own_keep h hb
theorem NewB.base {B B':Nat} {M:List Int} {v:Value} {w:World} (h:NewB B M v w) (hb:B' ≤ B):NewB B' M v w:=own_base h hb
theorem NewB.sl {B:Nat} {M:List Int} {v:Value} {w:World} (h:NewB B M v w):SlB M v w:=by
 obtain ⟨A,c,e,_,b⟩:=own_byt h
 exact ⟨A,c,e,b⟩
def RowsM (Ms:List (List Int)) (v:Value) (w:World):Prop:=∃ (g:Nat) (ps:List Part),v = .slice (some ⟨g,0,none⟩) Ms.length Ms.length ∧ ps.map (·.M) = Ms ∧ w.heap[g]? = some (.cells (ps.map Part.val).toArray 38 (0,0)) ∧ ∀ p ∈ ps,Byt w p.A p.c p.M
theorem RowsM.later {Ms:List (List Int)} {v:Value} {w w':World} (h:RowsM Ms v w) (hb:Below w.heap.size w w'):RowsM Ms v w':=by
 obtain ⟨g,ps,e,hm,hr,hp⟩:=h
 exact ⟨g,ps,e,hm,(hb.block g (Array.getElem?_eq_some_iff.1 hr).1).trans hr,fun p h => (hp p h).below hb (Nat.le_refl _)⟩
theorem RowsM.two {a b:List Int} {va vb:Value} {w:World} (ha:SlB a va w) (hb:SlB b vb w):RowsM [a,b] (.slice (some ⟨w.heap.size,0,none⟩) 2 2) (w.alloc (.cells #[va,vb] 38)):=by
 obtain ⟨A1,c1,rfl,b1⟩:=ha
 obtain ⟨A2,c2,rfl,b2⟩:=hb
 refine ⟨_,[⟨A1,c1,a⟩,⟨A2,c2,b⟩],rfl,rfl,Go.heap_alloc_new w _,fun p hp => ?_⟩
 rcases List.mem_cons.1 hp with rfl | hp
 · exact b1.alloc _
 rcases List.mem_cons.1 hp with rfl | hp
 · exact b2.alloc _
 cases hp
theorem RowsM.three {a b c:List Int} {va vb vc:Value} {w:World} (ha:SlB a va w) (hb:SlB b vb w) (hc:SlB c vc w):RowsM [a,b,c] (.slice (some ⟨w.heap.size,0,none⟩) 3 3) (w.alloc (.cells #[va,vb,vc] 38)):=by
 obtain ⟨A1,c1,rfl,b1⟩:=ha
 obtain ⟨A2,c2,rfl,b2⟩:=hb
 obtain ⟨A3,c3,rfl,b3⟩:=hc
 refine ⟨_,[⟨A1,c1,a⟩,⟨A2,c2,b⟩,⟨A3,c3,c⟩],rfl,rfl,Go.heap_alloc_new w _,fun p hp => ?_⟩
 rcases List.mem_cons.1 hp with rfl | hp
 · exact b1.alloc _
 rcases List.mem_cons.1 hp with rfl | hp
 · exact b2.alloc _
 rcases List.mem_cons.1 hp with rfl | hp
 · exact b3.alloc _
 cases hp
theorem concat_rows (Ms:List (List Int)) (v:Value) (w:World) (h:RowsM Ms v w) (hm5:Ms.length ≤ 1000) (hp:0 < Ms.flatten.length) (hle:Ms.flatten.length ≤ 50000) :
 Calls Tryz.prog 99 #[v] w fun e' w' => ∃ v',e' = .returned v' ∧ NewB w.heap.size Ms.flatten v' w' ∧ Below w.heap.size w w':=by
 obtain ⟨g,ps,rfl,hm,hr,hb⟩:=h
 have hc:catP ps = Ms.flatten:=by rw [← hm]; simp [catP,List.flatMap_def]
 have hl:ps.length = Ms.length:=by rw [← hm,List.length_map]
 rw [← hc] at hp hle ⊢
 refine (concat_any ps g Ms.length w hl hm5 hp hle (fun j h => ?_) (fun j h => hb _ (List.getElem_mem h))).mono ?_
 · rw [cell_row hr]
   simp [h]
 · rintro e' w' ⟨c,rfl,own,low⟩
   exact ⟨_,rfl,own,low⟩
theorem digits_new (n:Nat) (hn:n < 18446744073709551616) (w:World) :
 Calls Tryz.prog 100 #[.int .u64 (n:Nat)] w fun e w' => ∃ v,e = .returned v ∧ NewB w.heap.size (encN n) v w' ∧ Below w.heap.size w w':=digits_any n hn w
def uN (n:Int):Nat:=(n % 18446744073709551616).toNat
theorem uN_lt (n:Int):uN n < 18446744073709551616:=by
 unfold uN; have:=Int.emod_nonneg n (show (18446744073709551616:Int) ≠ 0 by decide); have:=Int.emod_lt_of_pos n (show (0:Int) < 18446744073709551616 by decide); omega
theorem uN_cast (n:Int):((uN n:Nat):Int) = n % 18446744073709551616:=by
 unfold uN; have:=Int.emod_nonneg n (show (18446744073709551616:Int) ≠ 0 by decide); omega
theorem w64 (n:Int):IntKind.u64.wrap n = n % 18446744073709551616:=by
 simp [IntKind.wrap,IntKind.bits,IntKind.signed]
theorem wrap_uN (n:Int):IntKind.u64.wrap n = (uN n:Nat):=by rw [uN_cast,w64]
set_option maxRecDepth 100000 in
set_option maxHeartbeats 1000000 in
theorem label_any (A:Option Addr) (x c:Nat) (lv:Int) (cp:Nat) (L:List Int) (hx:L.length = x) (hle:x ≤ 40000) (w:World) (hB:Byt w A c L) :
 Calls Tryz.prog 72 #[.slice A x c,.agg #[.int .i64 lv,.int .u64 (cp:Nat)]] w fun e w' => ∃ v,e = .returned v ∧ NewB w.heap.size (L ++ (encN (uN lv) ++ compL cp)) v w' ∧ Below w.heap.size w w':=by
 have HB0:Hid (SlB L (.slice A x c) w):=⟨A,c,by rw [hx],hB⟩
 have Hlen:Hid (0 < [L,encN (uN lv),compL cp].flatten.length ∧ [L,encN (uN lv),compL cp].flatten.length ≤ 50000):=by
  have:=encN_le (uN lv)
  have:=compL_length cp
  constructor <;> simp <;> omega
 have hwr:Hid (IntKind.u64.wrap lv = (uN lv:Nat)):=wrap_uN lv
 clear hx hB
 go_enter Tryz.func72,Tryz.ntmps72
 obtain ⟨w0,hw0⟩:∃ w0,w0 = w.alloc (.cells #[.int .i64 lv,.int .u64 (cp:Nat)] 27):=⟨_,rfl⟩
 have hs0:w0.heap.size = w.heap.size + 1:=by rw [hw0,World.size_alloc]
 have hb0:w0.heap[w.heap.size]? = some (.cells #[.int .i64 lv,.int .u64 (cp:Nat)] 27 (0,0)):=by rw [hw0]; exact Go.heap_alloc_new w _
 have low0:Below w.heap.size w w0:=by rw [hw0]; exact (Below.refl _ _).alloc (Nat.le_refl _) _
 have Hi:Hid ((Tryz.prog.info? 142).map (·.size) = some (u8s (compL cp)).size):=info8x8
 have Hb0:=Lib.hid hb0
 have Low0:=Lib.hid low0
 have Hs0:=Lib.hid hs0
 clear hb0 low0 hs0
 go_upto_region 2 with (first
  | (go_at_call 98; rw [← hw0]; refine (comps_any cp w0).mono ?_; rintro e w1 ⟨rfl,low1⟩; have Low1:=Lib.hid low1; clear low1)
  | (refine wpList_store_row rfl 142 (.tmp 5) (.tmp 8) rfl w1.heap.size (u8s (compL cp)) rfl rfl 142 _ (Go.heap_alloc_new w1 _) Hi.out (by simp [u8s_size,compL_length]) (u8s_one _) ?_; rw [World.setRow_alloc_new]))
 have hb1:w1.heap[w.heap.size]? = some (.cells #[.int .i64 lv,.int .u64 (cp:Nat)] 27 (0,0)):=(Low1.out.block _ (by rw [Hs0.out]; omega)).trans Hb0.out
 have hs1:w.heap.size + 1 ≤ w1.heap.size:=by have:=Low1.out.size; rw [Hs0.out] at this; exact this
 have hl1:Below w.heap.size w w1:=Low0.out.trans (Low1.out.mono (by rw [Hs0.out]; omega))
 obtain ⟨w2,hw2⟩:∃ w2,w2 = w1.alloc (.cells (u8s (compL cp)) 142):=⟨_,rfl⟩
 have hb2:w2.heap[w.heap.size]? = some (.cells #[.int .i64 lv,.int .u64 (cp:Nat)] 27 (0,0)):=by rw [hw2]; exact (Go.heap_alloc_old w1 _ (by omega)).trans hb1
 have hc2:w2.heap[w1.heap.size]? = some (.cells (u8s (compL cp)) 142 (0,0)):=by rw [hw2]; exact Go.heap_alloc_new w1 _
 have hl2:Below w.heap.size w w2:=by rw [hw2]; exact hl1.alloc (by omega) _
 have hs2:w.heap.size ≤ w2.heap.size:=by rw [hw2,World.size_alloc]; omega
 have CC:Hid (w2.cell? ⟨w.heap.size,0,none⟩ = some (.int .i64 lv)):=by show _ = _; rw [cell_row hb2]; rfl
 have HL:Hid (SlB L (.slice A x c) w2):=HB0.out.at hl2 (Nat.le_refl _)
 have Hl2:=Lib.hid hl2
 have hbase:=Lib.hid hs2
 have HC:Hid (SlB (compL cp) (.slice (some ⟨w1.heap.size,0,none⟩) 8 8) w2):=⟨_,_,rfl,byt_rowT hc2 rfl⟩
 rw [← hw2]
 clear hw2 hb2 hc2 hl2 hb1 hl1 Low1 Low0 Hb0 Hs0 hs1 Hi hs2 HB0
 obtain ⟨gc,hgc⟩:∃ gc,gc = w1.heap.size:=⟨_,rfl⟩
 rw [← hgc] at HC ⊢
 clear hgc
 have apx:apartB [9,10,11,12,13,14,15,16,4] = true:=by decide
 refine wp_region_any (by kernel_rfl) ?_
 change wpAny _ _ _ _ _ _ _ (World.drew _)
 refine wpAny_inv (fun ll aa wx => Hid (ll.size = 9 ∧ Below w2.heap.size w2 wx) ∧ ∃ (z:Nat → Value),Hid (aa = ⟨#[.slice A x c,.agg #[.int .i64 lv,.int .u64 (cp:Nat)],undef,.pointer (some ⟨w.heap.size,0,none⟩),z 4,.pointer (some ⟨gc,0,none⟩),.pointer (some ⟨w.heap.size,1,none⟩),.int .u64 (cp:Nat),.agg (u8s (compL cp)),z 9,z 10,z 11,z 12,z 13,z 14,z 15,z 16],[]⟩) ∧ Holding [9,10,11,12,13,14,15,16,4] [some (.slice A x c),some (.pointer (some ⟨w.heap.size,0,none⟩)),some (.int .i64 lv),some (.int .u64 (uN lv:Nat)),none,some (.slice (some ⟨gc,0,none⟩) 8 8),none,none,none] ll z ∧ Whn ll 4 (SlB (encN (uN lv))) (z 13) wx ∧ Whn ll 6 (RowsM [L,encN (uN lv),compL cp]) (z 15) wx ∧ Whn ll 7 (NewB w.heap.size (L ++ (encN (uN lv) ++ compL cp))) (z 16) wx ∧ Whn ll 8 (NewB w.heap.size (L ++ (encN (uN lv) ++ compL cp))) (z 4) wx) ?_ (by kernel_rfl) ?_ ?_ _ _ _ _ (unlisted_none _) ?_
 · rintro ll aa wx ⟨h,_⟩
   exact h.out.1
 · rintro ll aa wx ⟨h,z,ha,hz,hp4,hp6,hp7,hp8⟩ hall
   have hx:=Lib.hid h.out.2
   have p4:=hp4.get (hall 4 (by decide))
   have p6:=hp6.get (hall 6 (by decide))
   have p7:=hp7.get (hall 7 (by decide))
   have p8:=hp8.get (hall 8 (by decide))
   clear hall hz h hp4 hp6 hp7 hp8
   obtain rfl:=ha.out
   clear ha
   clear apx
   clear p4 p6 p7
   have P8:=Lib.hid p8
   clear p8
   go_wp2
   go_ret
   exact ⟨_,rfl,P8.out,Hl2.out.trans (hx.out.mono hbase.out)⟩
 · rintro ll aa wx i ⟨h,z,ha,hz,hp4,hp6,hp7,hp8⟩ hi hu hw
   obtain rfl:=ha.out
   have hsz:=Lib.hid h.out.1
   have hx:=Lib.hid h.out.2
   clear ha h
   have hin:i < 9:=hi
   obtain rfl | rfl | rfl | rfl | rfl | rfl | rfl | rfl | rfl:i = 0 ∨ i = 1 ∨ i = 2 ∨ i = 3 ∨ i = 4 ∨ i = 5 ∨ i = 6 ∨ i = 7 ∨ i = 8:=by omega
   · refine wpOp_plain rfl rfl ?_
     go_simp
     exact ⟨⟨by simp [hsz.out],hx.out⟩,upd z 9 (.slice A x c),(by unfold Hid; simp [upd]),hz.next apx hsz.out 0 (by decide) _ (fun _ h => Option.some.inj h),hp4.keep (by decide),hp6.keep (by decide),hp7.keep (by decide),hp8.keep (by decide)⟩
   · refine wpOp_plain rfl rfl ?_
     go_simp
     exact ⟨⟨by simp [hsz.out],hx.out⟩,upd z 10 (.pointer (some ⟨w.heap.size,0,none⟩)),(by unfold Hid; simp [upd]),hz.next apx hsz.out 1 (by decide) _ (fun _ h => Option.some.inj h),hp4.keep (by decide),hp6.keep (by decide),hp7.keep (by decide),hp8.keep (by decide)⟩
   · have e1:z 10 = .pointer (some ⟨w.heap.size,0,none⟩):=hz 1 _ (hw 1 (by kernel_rfl)) rfl
     have cl:wx.cell? ⟨w.heap.size,0,none⟩ = some (.int .i64 lv):=(hx.out.cell (p:=⟨w.heap.size,0,none⟩) (World.block_lt_of_cell? _ _ CC.out)).trans CC.out
     refine wpOp_plain rfl rfl ?_
     go_simp
     exact ⟨⟨by simp [hsz.out],hx.out⟩,upd z 11 (.int .i64 lv),(by unfold Hid; simp [upd,e1]),hz.next apx hsz.out 2 (by decide) _ (fun _ h => Option.some.inj h),hp4.keep (by decide),hp6.keep (by decide),hp7.keep (by decide),hp8.keep (by decide)⟩
   · have e2:z 11 = .int .i64 lv:=hz 2 _ (hw 2 (by kernel_rfl)) rfl
     refine wpOp_plain rfl rfl ?_
     go_simp
     exact ⟨⟨by simp [hsz.out],hx.out⟩,upd z 12 (.int .u64 (uN lv:Nat)),(by unfold Hid; simp [upd,e2,hwr.out]),hz.next apx hsz.out 3 (by decide) _ (fun _ h => Option.some.inj h),hp4.keep (by decide),hp6.keep (by decide),hp7.keep (by decide),hp8.keep (by decide)⟩
   · have e3:z 12 = .int .u64 (uN lv:Nat):=hz 3 _ (hw 3 (by kernel_rfl)) rfl
     refine wpOp_plain rfl rfl ?_
     go_simp
     go_at_call 100
     refine (digits_new (uN lv) (uN_lt lv) _).mono ?_
     rintro e w' ⟨vr,rfl,own,low⟩
     exact ⟨⟨by simp [hsz.out],hx.out.trans (low.mono hx.out.size)⟩,upd z 13 (vr),(by unfold Hid; simp [upd,e3]),hz.next apx hsz.out 4 (by decide) _ (fun _ h => by cases h),Whn.done (own.sl),(hp6.keep (by decide)).map (fun h => h.later low),(hp7.keep (by decide)).map (fun h => h.later low),(hp8.keep (by decide)).map (fun h => h.later low)⟩
   · refine wpOp_plain rfl rfl ?_
     go_simp
     exact ⟨⟨by simp [hsz.out],hx.out⟩,upd z 14 (.slice (some ⟨gc,0,none⟩) 8 8),(by unfold Hid; simp [upd]),hz.next apx hsz.out 5 (by decide) _ (fun _ h => Option.some.inj h),hp4.keep (by decide),hp6.keep (by decide),hp7.keep (by decide),hp8.keep (by decide)⟩
   · have e0:z 9 = .slice A x c:=hz 0 _ (hw 0 (by kernel_rfl)) rfl
     have e5:z 14 = .slice (some ⟨gc,0,none⟩) 8 8:=hz 5 _ (hw 5 (by kernel_rfl)) rfl
     have p4:=hp4.get (hw 4 (by kernel_rfl))
     obtain ⟨A3,c3,e13,b3⟩:=p4
     refine wpOp_plain rfl rfl ?_
     go_simp
     have lown:Below wx.heap.size wx (wx.alloc (.cells #[.slice A x c,.slice A3 (encN (uN lv)).length c3,.slice (some ⟨gc,0,none⟩) 8 8] 38)):=(Below.refl _ _).alloc (Nat.le_refl _) _
     exact ⟨⟨by simp [hsz.out],hx.out.trans (lown.mono hx.out.size)⟩,upd z 15 (.slice (some ⟨wx.heap.size,0,none⟩) 3 3),(by unfold Hid; simp [upd,e0,e5,e13]),hz.next apx hsz.out 6 (by decide) _ (fun _ h => by cases h),(hp4.keep (by decide)).map (fun h => h.later lown),Whn.done (RowsM.three (HL.out.at hx.out (Nat.le_refl _)) ⟨A3,c3,rfl,b3⟩ (HC.out.at hx.out (Nat.le_refl _))),(hp7.keep (by decide)).map (fun h => h.later lown),(hp8.keep (by decide)).map (fun h => h.later lown)⟩
   · have p6:=hp6.get (hw 6 (by kernel_rfl))
     refine wpOp_plain rfl rfl ?_
     go_simp
     go_at_call 99
     refine (concat_rows _ _ _ p6 (by simp) Hlen.out.1 Hlen.out.2).mono ?_
     rintro e w' ⟨vr,rfl,own,low⟩
     exact ⟨⟨by simp [hsz.out],hx.out.trans (low.mono hx.out.size)⟩,upd z 16 (vr),(by unfold Hid; simp [upd]),hz.next apx hsz.out 7 (by decide) _ (fun _ h => by cases h),(hp4.keep (by decide)).map (fun h => h.later low),(hp6.keep (by decide)).map (fun h => h.later low),Whn.done (by have h:=own.base (B':=w.heap.size) (Nat.le_trans hbase.out hx.out.size); have h2:NewB w.heap.size (L ++ (encN (uN lv) ++ compL cp)) vr w':=(by simpa using h); exact h2),(hp8.keep (by decide)).map (fun h => h.later low)⟩
   · have p7:=hp7.get (hw 7 (by kernel_rfl))
     refine wpOp_plain rfl rfl ?_
     go_simp
     exact ⟨⟨by simp [hsz.out],hx.out⟩,upd z 4 (z 16),(by unfold Hid; simp [upd]),hz.next apx hsz.out 8 (by decide) _ (fun _ h => by cases h),hp4.keep (by decide),hp6.keep (by decide),hp7.keep (by decide),Whn.done (p7)⟩
 · exact ⟨⟨rfl,(Below.refl _ _).drew⟩,fun x => (#[.slice A x c,.agg #[.int .i64 lv,.int .u64 (cp:Nat)],undef,.pointer (some ⟨w.heap.size,0,none⟩),.slice none 0 0,.pointer (some ⟨gc,0,none⟩),.pointer (some ⟨w.heap.size,1,none⟩),.int .u64 (cp:Nat),.agg (u8s (compL cp)),undef,undef,undef,undef,undef,undef,undef,undef]:Array Value).getD x undef,rfl,Holding.start,Whn.none (by decide),Whn.none (by decide),Whn.none (by decide),Whn.none (by decide)⟩
end Go.Proofs.YteeghgjkjicjoaaGreatDoor.Cod
namespace Go.Proofs.YteeghgjkjicjoaaGreatDoor.Sgm
open Go.RowKit Str Cod
def ctxL (s:ByteArray) (lv:Int) (cp:Nat):List Int:=[] ++ (encN s.size ++ bOf s) ++ (encN (uN lv) ++ compL cp)
theorem nil_byt (w:World):Byt w none 0 []:=⟨Nat.le_refl _,fun _ => rfl,fun h => absurd h (Nat.lt_irrefl 0)⟩
theorem ctx_short {s:ByteArray} (h:s.size ≤ 100):([] ++ (encN s.size ++ bOf s)).length ≤ 200:=by
 have:=encN_le s.size
 have:=bOf_length s
 rw [List.nil_append,List.length_append]; omega
theorem ctxL_len {s:ByteArray} (h:s.size ≤ 100) (lv:Int) (cp:Nat):(ctxL s lv cp).length ≤ 1000:=by
 have:=ctx_short h
 have:=encN_le (uN lv)
 have:=compL_length cp
 simp only [List.length_append,ctxL] at *
 omega
theorem ctxL_in (s:ByteArray) (lv:Int) (cp:Nat) (h:s.size ≤ 100):InB (ctxL s lv cp):=by
 unfold ctxL
 exact (InB.append (by intro j; simp) ((encN_in (by omega)).append (bOf_in s))).append ((encN_in (uN_lt lv)).append (compL_in cp))
theorem info_lab:(Tryz.prog.info? 27).map (·.size) = some 2:=by kernel_rfl
set_option maxRecDepth 100000 in
set_option maxHeartbeats 1000000 in
theorem contextOf_any (s:ByteArray) (lv:Int) (cp:Nat) (hs:s.size ≤ 100) (w:World):Calls Tryz.prog 37 #[.string s,.agg #[.int .i64 lv,.int .u64 (cp:Nat)]] w fun e w' => ∃ v,e = .returned v ∧ NewB w.heap.size (ctxL s lv cp) v w' ∧ Below w.heap.size w w':=by
 have Hs:Hid (s.size ≤ 100):=hs
 have hl:Below w.heap.size w (w.alloc (.cells #[.int .i64 lv,.int .u64 (cp:Nat)] 27)):=(Below.refl _ _).alloc (Nat.le_refl _) _
 have Hl:=Lib.hid hl
 have HL0:=Lib.hid (Go.heap_alloc_new w (.cells #[.int .i64 lv,.int .u64 (cp:Nat)] 27))
 have HsL:=Lib.hid info_lab
 obtain ⟨T1,hT1⟩:∃ T1,[] ++ (encN s.size ++ bOf s) = T1:=⟨_,rfl⟩
 obtain ⟨T2,hT2⟩:∃ T2,T1 ++ (encN (uN lv) ++ compL cp) = T2:=⟨_,rfl⟩
 have hTl:=ctx_short hs
 rw [hT1] at hTl
 unfold ctxL
 rw [hT1,hT2]
 have HT1:=Lib.hid hT1
 have HT2:=Lib.hid hT2
 have HTl:=Lib.hid hTl
 clear hs hl hT1 hT2 hTl
 go_enter Tryz.func37,Tryz.ntmps37
 go_upto_region 1 with (fail)
 generalize w.alloc _ = w1 at Hl HL0 ⊢
 have apx:apartB [5,6,7,8,4] = true:=by decide
 refine wp_region_any (by kernel_rfl) ?_
 change wpAny _ _ _ _ _ _ _ (World.drew _)
 refine wpAny_inv (fun ll aa wx => Hid (ll.size = 5 ∧ Below w1.heap.size w1 wx) ∧ ∃ (z:Nat → Value),Hid (aa = ⟨#[.string s,.agg #[.int .i64 lv,.int .u64 (cp:Nat)],undef,.pointer (some ⟨w.heap.size,0,none⟩),z 4,z 5,z 6,z 7,z 8],[]⟩) ∧ Holding [5,6,7,8,4] [some (.string s),none,some (.agg #[.int .i64 lv,.int .u64 (cp:Nat)]),none,none] ll z ∧ Whn ll 1 (SlB T1) (z 6) wx ∧ Whn ll 3 (NewB w1.heap.size T2) (z 8) wx ∧ Whn ll 4 (NewB w1.heap.size T2) (z 4) wx) ?_ (by kernel_rfl) ?_ ?_ _ _ _ _ (unlisted_none _) ?_
 · rintro ll aa wx ⟨hI,_⟩
   exact hI.out.1
 · rintro ll aa wx ⟨hI,z,ha,hz,hp1,hp3,hp4⟩ hall
   have hx:=Lib.hid hI.out.2
   have p1:=hp1.get (hall 1 (by decide))
   have p3:=hp3.get (hall 3 (by decide))
   have p4:=hp4.get (hall 4 (by decide))
   clear hall hz hI hp1 hp3 hp4
   obtain rfl:=ha.out
   clear ha
   clear apx
   have HX:=Lib.hid hx.out
   have P4:=Lib.hid p4
   clear hx p1 p3 p4
   go_wp2
   go_ret
   exact ⟨_,rfl,P4.out.base Hl.out.size,Hl.out.trans (HX.out.mono Hl.out.size)⟩
 · rintro ll aa wx i ⟨hI,z,ha,hz,hp1,hp3,hp4⟩ hi hu hw
   obtain rfl:=ha.out
   have hsz:=Lib.hid hI.out.1
   have hx:=Lib.hid hI.out.2
   clear ha hI
   have hin:i < 5:=hi
   obtain rfl | rfl | rfl | rfl | rfl:i = 0 ∨ i = 1 ∨ i = 2 ∨ i = 3 ∨ i = 4:=by omega
   · refine wpOp_plain rfl rfl ?_
     go_simp
     exact ⟨⟨by simp [hsz.out],hx.out⟩,upd z 5 (.string s),(by unfold Hid; simp [upd]),hz.next apx hsz.out 0 (by decide) _ (fun _ h => Option.some.inj h),hp1.keep (by decide),hp3.keep (by decide),hp4.keep (by decide)⟩
   · have e0:z 5 = .string s:=hz 0 _ (hw 0 (by kernel_rfl)) rfl
     refine wpOp_plain rfl rfl ?_
     go_simp
     go_at_call 73
     refine (text_any none 0 0 s [] (Nat.le_trans Hs.out (by decide)) rfl (by decide) wx (nil_byt wx)).mono ?_
     rintro e w8 ⟨vr,rfl,ho,low⟩; rw [HT1.out] at ho
     exact ⟨⟨by simp [hsz.out],hx.out.trans (low.mono hx.out.size)⟩,upd z 6 (vr),(by unfold Hid; simp [upd,e0]),hz.next apx hsz.out 1 (by decide) _ (fun _ h => by cases h),Whn.done ((NewB.sl (M:=T1) ho)),(hp3.keep (by decide)).map (fun h => h.later low),(hp4.keep (by decide)).map (fun h => h.later low)⟩
   · have cl:=(hx.out.block _ (Array.getElem?_eq_some_iff.1 HL0.out).1).trans HL0.out
     refine wpOp_plain rfl rfl (wp_load_row 27 (.tmp 3) rfl (w.heap.size) rfl 27 #[.int .i64 lv,.int .u64 (cp:Nat)] (0,0) _ cl Tryz.underlying27 rfl HsL.out ?_)
     go_simp
     exact ⟨⟨by simp [hsz.out],hx.out⟩,upd z 7 (.agg #[.int .i64 lv,.int .u64 (cp:Nat)]),(by unfold Hid; simp [upd]),hz.next apx hsz.out 2 (by decide) _ (fun _ h => Option.some.inj h),hp1.keep (by decide),hp3.keep (by decide),hp4.keep (by decide)⟩
   · have e2:z 7 = .agg #[.int .i64 lv,.int .u64 (cp:Nat)]:=hz 2 _ (hw 2 (by kernel_rfl)) rfl
     have p1:=hp1.get (hw 1 (by kernel_rfl))
     obtain ⟨A9,c9,e9,b9⟩:=p1
     refine wpOp_plain rfl rfl ?_
     simp only [e9]
     go_simp
     go_at_call 72
     refine (label_any A9 _ c9 lv cp T1 rfl (by have:=HTl.out; omega) wx b9).mono ?_
     rintro e w8 ⟨vr,rfl,ho,low⟩; rw [HT2.out] at ho
     exact ⟨⟨by simp [hsz.out],hx.out.trans (low.mono hx.out.size)⟩,upd z 8 (vr),(by unfold Hid; simp [upd,e2,e9]),hz.next apx hsz.out 3 (by decide) _ (fun _ h => by cases h),(hp1.keep (by decide)).map (fun h => h.later low),Whn.done (NewB.base ho hx.out.size),(hp4.keep (by decide)).map (fun h => h.later low)⟩
   · have p3:=hp3.get (hw 3 (by kernel_rfl))
     refine wpOp_plain rfl rfl ?_
     go_simp
     exact ⟨⟨by simp [hsz.out],hx.out⟩,upd z 4 (z 8),(by unfold Hid; simp [upd]),hz.next apx hsz.out 4 (by decide) _ (fun _ h => by cases h),hp1.keep (by decide),hp3.keep (by decide),Whn.done (p3)⟩
 · exact ⟨⟨rfl,(Below.refl _ _).drew⟩,fun xx => (#[.string s,.agg #[.int .i64 lv,.int .u64 (cp:Nat)],undef,.pointer (some ⟨w.heap.size,0,none⟩),.slice none 0 0,undef,undef,undef,undef]:Array Value).getD xx undef,rfl,Holding.start,Whn.none (by decide),Whn.none (by decide),Whn.none (by decide)⟩
end Go.Proofs.YteeghgjkjicjoaaGreatDoor.Sgm
namespace Go.Proofs.YteeghgjkjicjoaaGreatDoor.Sgm
open Go.RowKit Dsk Slt Epo
structure RSt (T0:TypeId) (g:Nat) (R:Array Value) (q:Nat) (X:List Nat) (W:World) (ll:Array Bool) (wx:World):Prop where
 chg:Chg (g :: X) W wx
 row:ll.getD q false = false → wx.heap[g]? = some (.cells R T0 (0,0))
section
variable {T0:TypeId} {g q:Nat} {R:Array Value} {X:List Nat} {W wx w':World} {ll:Array Bool}
theorem RSt.start {n:Nat} (h:W.heap[g]? = some (.cells R T0 (0,0))):RSt T0 g R q X W (Array.replicate n false) W.drew:=⟨Chg.of_below (Below.refl _ _).drew,fun _ => h⟩
theorem RSt.same {i:Nat} (h:RSt T0 g R q X W ll wx) (hi:i ≠ q):RSt T0 g R q X W (ll.setIfInBounds i true) wx:=⟨h.chg,by rw [getD_set_ne false hi]; exact h.row⟩
theorem RSt.call {i:Nat} (h:RSt T0 g R q X W ll wx) (hg:g < W.heap.size) (hi:i ≠ q) (hb:Below wx.heap.size wx w'):RSt T0 g R q X W (ll.setIfInBounds i true) w' :=
 ⟨h.chg.trans (Chg.of_below hb),by rw [getD_set_ne false hi]; exact fun a => (hb.block _ (Nat.lt_of_lt_of_le hg h.chg.size)).trans (h.row a)⟩
theorem RSt.callX {i:Nat} (h:RSt T0 g R q X W ll wx) (hi:i ≠ q) (hgX:g ∉ X) (hb:Chg X wx w'):RSt T0 g R q X W (ll.setIfInBounds i true) w' :=
 ⟨h.chg.trans (hb.mono (fun k hk => .inl (by simp [hk]))),by rw [getD_set_ne false hi]; exact fun a => hb.at (h.row a) hgX⟩
theorem RSt.store {o:Nat} {z:Value} (h:RSt T0 g R q X W ll wx) (hs:q < ll.size):RSt T0 g R q X W (ll.setIfInBounds q true) (wx.setCell ⟨g,o,none⟩ z):=⟨h.chg.setCell (by simp) z,fun a => by simp [hs] at a⟩
end
def RowAt (T0:TypeId) (g:Nat) (R:Array Value) (_v:Value) (w:World):Prop:=w.heap[g]? = some (.cells R T0 (0,0))
def nxtD (D:DS) (v:Nat):DS:=if v = 1024 then D else (nextD D 0 v).1
def nxtE (D:DS) (v:Nat):Int:=if v = 1024 then 0 else (nextD D 0 v).2
def nxtP (D:DS) (v:Nat):Nat:=if v = 1024 then 0 else if (nextD D 0 v).2 = 0 then v + 1 else 0
theorem nextE_cases (D:DS) (f v:Nat) (ho:D.off = false) (hfit:(f + v / 128) * 128 + 128 ≤ D.data.length):(nextD D f v).2 = 0 ∨ (nextD D f v).2 = 12:=by
 have h:=next_q D f v ho hfit
 cases hd:D.due
 · exact .inl (h.yes hd).1
 · exact .inr (h.no hd).1
set_option maxRecDepth 100000 in
set_option maxHeartbeats 1000000 in
theorem nextEpoch_any {w:World} {K:DK} {gC v:Nat} {D:DS} (h:Dsk w K D) (hc:Ct w K gC ⟨0,1024,v⟩) (hg:gC ∉ K.bl) (hv:v ≤ 1024) (hfit:1024 ≤ D.data.length) (ho:D.off = false) (hw:D.writes ≤ 1152921504606846976) :
 Calls Tryz.prog 47 #[.pointer (some ⟨gC,0,none⟩)] w fun e w' => e = .returned (.tuple #[.int .u32 (nxtP D v:Nat),.int .i64 (nxtE D v)]) ∧ Dsk w' K (nxtD D v) ∧ Chg (gC :: K.bl) w w':=by
 by_cases hf:v = 1024
 · have Hn:=Lib.hid (next_full hc (by simpa using hf))
   have e1:nxtP D v = 0:=by unfold nxtP; rw [if_pos hf]
   have e2:nxtE D v = 0:=by unfold nxtE; rw [if_pos hf]
   have e3:nxtD D v = D:=by unfold nxtD; rw [if_pos hf]
   rw [e1,e2,e3]
   have HD:=Lib.hid h
   clear h hc hg hv hfit ho hw hf e1 e2 e3
   go_enter Tryz.func47,Tryz.ntmps47
   go_wp2_with (go_at_call 81; refine Hn.out.mono ?_; rintro e w2 ⟨rfl,hb2⟩; have Hb2:=Lib.hid hb2; clear hb2)
   go_ret2
   exact ⟨rfl,HD.out.later Hb2.out,Chg.of_below Hb2.out⟩
 · have hlt:v < 1024:=by omega
   have hn:=next_on h hc hg (C:=⟨0,1024,v⟩) hlt (by simpa using hfit) ho hw
   have hcs:=nextE_cases D 0 v ho (by omega)
   obtain ⟨x,hx⟩:∃ x,x = (nextD D 0 v).2:=⟨_,rfl⟩
   have e2:nxtE D v = x:=by unfold nxtE; rw [if_neg hf,hx]
   have e3:nxtD D v = (nextD D 0 v).1:=by unfold nxtD; rw [if_neg hf]
   have e1:nxtP D v = if x = 0 then v + 1 else 0:=by unfold nxtP; rw [if_neg hf,hx]
   rw [e1,e2,e3]
   rw [← hx] at hcs
   have Hn:Hid (Calls Tryz.prog 81 #[.pointer (some ⟨gC,0,none⟩)] w fun e w' => e = .returned (.int .i64 x) ∧ Dsk w' K (nextD D 0 v).1 ∧ Ct w' K gC (CV.step ⟨0,1024,v⟩ x) ∧ Chg (gC :: K.bl) w w'):=by rw [hx]; exact hn
   clear h hc hg hv hfit ho hw hf e1 e2 e3 hn hx
   rcases hcs with rfl | rfl
   · obtain ⟨u,hu⟩:∃ u,u = v + 1:=⟨_,rfl⟩
     have huI:(u:Int) ≤ 1024:=by omega
     rw [if_pos rfl,← hu]
     have HVv:Hid (∀ W,Ct W K gC (CV.step ⟨0,1024,v⟩ 0) → Calls Tryz.prog 45 #[.pointer (some ⟨gC,0,none⟩)] W fun e w' => e = .returned (.int .i64 (u:Nat)) ∧ W = w'):=fun W hW => by rw [hu]; exact value_any hW
     clear hlt hu
     go_enter Tryz.func47,Tryz.ntmps47
     go_wp2_with (first
      | (go_at_call 81; refine Hn.out.mono ?_; rintro e w2 ⟨rfl,hd2,hc2,hch2⟩; have Hd2:=Lib.hid hd2; have Hch2:=Lib.hid hch2; have Hv:=Lib.hid (HVv.out _ hc2); clear hd2 hc2 hch2)
      | (go_at_call 45; refine Hv.out.mono ?_; rintro e w3 ⟨rfl,rfl⟩))
     go_ret2
     exact ⟨rfl,Hd2.out,Hch2.out⟩
   · rw [if_neg (by decide)]
     clear hlt
     go_enter Tryz.func47,Tryz.ntmps47
     go_wp2_with (go_at_call 81; refine Hn.out.mono ?_; rintro e w2 ⟨rfl,hd2,hc2,hch2⟩; have Hd2:=Lib.hid hd2; have Hch2:=Lib.hid hch2; clear hd2 hc2 hch2)
     go_ret2
     exact ⟨rfl,Hd2.out,Hch2.out⟩
structure OB (w0 w:World) (K:DK) (bd bs bc gS:Nat) (lg cp:Option Addr) (key:List Int) (A:Option Addr) (c:Nat) (C:List Int) (ep:Nat) (tv:Value) (D:DS):Prop where
 d:w.heap[bd]? = some (.cells #[K.ptr] 32 (0,0))
 s:w.heap[bs]? = some (.cells #[.pointer (some ⟨gS,0,none⟩)] 42 (0,0))
 cc:w.heap[bc]? = some (.cells #[.pointer cp] 89 (0,0))
 r:w.heap[gS]? = some (.cells (rowG none K lg key (.slice A C.length c) ep tv false) 88 (0,0))
 dsk:Dsk w K D
 low:Chg K.bl w0 w
 ctx:Byt w A c C
 base:w0.heap.size ≤ bd ∧ w0.heap.size ≤ bs ∧ w0.heap.size ≤ bc ∧ w0.heap.size ≤ gS
 ne:bd ≠ bc ∧ bd ≠ gS ∧ bs ≠ bc ∧ bs ≠ gS ∧ bc ≠ gS
 ctxn:∀ a,A = some a → w0.heap.size ≤ a.block ∧ a.block ≠ bd ∧ a.block ≠ bs ∧ a.block ≠ bc ∧ a.block ≠ gS
 ctxl:∀ a,A = some a → a.block < w.heap.size
 kin:∀ q ∈ K.bl,q < w0.heap.size
section
variable {w0 w w':World} {K:DK} {bd bs bc gS:Nat} {lg cp:Option Addr} {key:List Int} {A:Option Addr} {c:Nat} {C:List Int} {ep:Nat} {tv:Value} {D D':DS}
theorem OB.lt (h:OB w0 w K bd bs bc gS lg cp key A c C ep tv D):bd < w.heap.size ∧ bs < w.heap.size ∧ bc < w.heap.size ∧ gS < w.heap.size :=
 ⟨(Array.getElem?_eq_some_iff.1 h.d).1,(Array.getElem?_eq_some_iff.1 h.s).1,(Array.getElem?_eq_some_iff.1 h.cc).1,(Array.getElem?_eq_some_iff.1 h.r).1⟩
theorem OB.chg {X:List Nat} (h:OB w0 w K bd bs bc gS lg cp key A c C ep tv D) (hc:Chg X w w') (hd:Dsk w' K D') (hX:∀ q ∈ X,q ∈ K.bl ∨ (w.heap.size ≤ q ∨ (w0.heap.size ≤ q ∧ q ≠ bd ∧ q ≠ bs ∧ q ≠ bc ∧ q ≠ gS ∧ ∀ a,A = some a → a.block ≠ q))):OB w0 w' K bd bs bc gS lg cp key A c C ep tv D':=by
 obtain ⟨l1,l2,l3,l4⟩:=h.lt
 obtain ⟨b1,b2,b3,b4⟩:=h.base
 have key:∀ q,w0.heap.size ≤ q → q < w.heap.size → (q = bd ∨ q = bs ∨ q = bc ∨ q = gS ∨ ∃ a,A = some a ∧ a.block = q) → q ∉ X:=by
  intro q hq hlt ho hm
  rcases hX q hm with hk | hk | ⟨_,n1,n2,n3,n4,n5⟩
  · have:=h.kin q hk; omega
  · omega
  · rcases ho with e | e | e | e | ⟨a,ea,e⟩
    · exact n1 e
    · exact n2 e
    · exact n3 e
    · exact n4 e
    · exact n5 a ea e
 refine ⟨hc.at h.d (key _ b1 l1 (.inl rfl)),hc.at h.s (key _ b2 l2 (.inr (.inl rfl))),hc.at h.cc (key _ b3 l3 (.inr (.inr (.inl rfl)))),hc.at h.r (key _ b4 l4 (.inr (.inr (.inr (.inl rfl))))),hd,?_,?_,h.base,h.ne,h.ctxn,fun a ha => Nat.lt_of_lt_of_le (h.ctxl a ha) hc.size,h.kin⟩
 · refine ((h.low.mono (T:=K.bl ++ X) (fun k hk => .inl (by simp [hk]))).trans (hc.mono (T:=K.bl ++ X) (fun k hk => .inl (by simp [hk])))).mono (fun k hk => ?_)
   rcases List.mem_append.1 hk with hk | hk
   · exact .inl hk
   · rcases hX k hk with h1 | h1 | h1
     · exact .inl h1
     · exact .inr (Nat.le_trans h.low.size h1)
     · exact .inr h1.1
 · exact h.ctx.chg hc (fun a ha => key _ (h.ctxn a ha).1 (h.ctxl a ha) (.inr (.inr (.inr (.inr ⟨a,ha,rfl⟩)))))
theorem OB.later (h:OB w0 w K bd bs bc gS lg cp key A c C ep tv D) (hb:Below w.heap.size w w'):OB w0 w' K bd bs bc gS lg cp key A c C ep tv D :=
 h.chg (X:=[]) (Chg.of_below hb) (h.dsk.later hb) (by simp)
theorem OB.kn (h:OB w0 w K bd bs bc gS lg cp key A c C ep tv D):bd ∉ K.bl ∧ bs ∉ K.bl ∧ bc ∉ K.bl ∧ gS ∉ K.bl:=by
 obtain ⟨b1,b2,b3,b4⟩:=h.base
 exact ⟨fun h1 => by have:=h.kin _ h1; omega,fun h1 => by have:=h.kin _ h1; omega,fun h1 => by have:=h.kin _ h1; omega,fun h1 => by have:=h.kin _ h1; omega⟩
theorem OB.dskc {X:List Nat} (h:OB w0 w K bd bs bc gS lg cp key A c C ep tv D) (hc:Chg X w w') (hX:∀ q ∈ X,w0.heap.size ≤ q):Dsk w' K D :=
 h.dsk.chg hc (fun hm => by have:=h.kin K.g (by simp [DK.bl]); have:=hX _ hm; omega) (fun hm => by have:=h.kin K.h (by simp [DK.bl]); have:=hX _ hm; omega)
theorem OB.lowc {X:List Nat} (h:OB w0 w K bd bs bc gS lg cp key A c C ep tv D) (hc:Chg X w w') (hX:∀ q ∈ X,w0.heap.size ≤ q):Chg K.bl w0 w':=by
 refine ((h.low.mono (T:=K.bl ++ X) (fun k hk => .inl (by simp [hk]))).trans (hc.mono (T:=K.bl ++ X) (fun k hk => .inl (by simp [hk])))).mono (fun k hk => ?_)
 rcases List.mem_append.1 hk with hk | hk
 · exact .inl hk
 · exact .inr (hX k hk)
theorem OB.setC (h:OB w0 w K bd bs bc gS lg cp key A c C ep tv D) (x:Option Addr):OB w0 (w.setCell ⟨bc,0,none⟩ (.pointer x)) K bd bs bc gS lg x key A c C ep tv D:=by
 have hc:Chg [bc] w (w.setCell ⟨bc,0,none⟩ (.pointer x)):=(Chg.refl [bc] w).setCell (by simp) _
 obtain ⟨n1,n2,n3,n4,n5⟩:=h.ne
 have hX:∀ q ∈ [bc],w0.heap.size ≤ q:=by simp; exact h.base.2.2.1
 exact ⟨hc.at h.d (by simp; exact n1),hc.at h.s (by simp; exact n3),heap_setCell_same _ _ _ _ _ _ h.cc,hc.at h.r (by simp; exact fun e => n5 e.symm),h.dskc hc hX,h.lowc hc hX,h.ctx.chg hc (fun a ha => by simp; exact (h.ctxn a ha).2.2.2.1),h.base,h.ne,h.ctxn,fun a ha => Nat.lt_of_lt_of_le (h.ctxl a ha) hc.size,h.kin⟩
theorem OB.setR {lg':Option Addr} {ep':Nat} {tv':Value} {X:List Nat} (h:OB w0 w K bd bs bc gS lg cp key A c C ep tv D) (hc:Chg (gS :: X) w w') (hd:Dsk w' K D') (hX:∀ q ∈ X,q ∈ K.bl ∨ (w.heap.size ≤ q ∨ (w0.heap.size ≤ q ∧ q ≠ bd ∧ q ≠ bs ∧ q ≠ bc ∧ q ≠ gS ∧ ∀ a,A = some a → a.block ≠ q)))
 (hr:w'.heap[gS]? = some (.cells (rowG none K lg' key (.slice A C.length c) ep' tv' false) 88 (0,0))):OB w0 w' K bd bs bc gS lg' cp key A c C ep' tv' D':=by
 obtain ⟨l1,l2,l3,l4⟩:=h.lt
 obtain ⟨b1,b2,b3,b4⟩:=h.base
 obtain ⟨n1,n2,n3,n4,n5⟩:=h.ne
 have hk:∀ q,w0.heap.size ≤ q → q < w.heap.size → q ≠ gS → (q = bd ∨ q = bs ∨ q = bc ∨ ∃ a,A = some a ∧ a.block = q) → q ∉ gS :: X:=by
  intro q hq hlt hne ho hm
  rcases List.mem_cons.1 hm with hm | hm
  · exact hne hm
  rcases hX q hm with hk | hk | ⟨_,m1,m2,m3,m4,m5⟩
  · have:=h.kin q hk; omega
  · omega
  · rcases ho with e | e | e | ⟨a,ea,e⟩
    · exact m1 e
    · exact m2 e
    · exact m3 e
    · exact m5 a ea e
 refine ⟨hc.at h.d (hk _ b1 l1 n2 (.inl rfl)),hc.at h.s (hk _ b2 l2 n4 (.inr (.inl rfl))),hc.at h.cc (hk _ b3 l3 n5 (.inr (.inr (.inl rfl)))),hr,hd,?_,?_,h.base,h.ne,h.ctxn,fun a ha => Nat.lt_of_lt_of_le (h.ctxl a ha) hc.size,h.kin⟩
 · refine ((h.low.mono (T:=K.bl ++ (gS :: X)) (fun k hk => .inl (by simp [hk]))).trans (hc.mono (T:=K.bl ++ (gS :: X)) (fun k hk => .inl (List.mem_append.2 (.inr hk))))).mono (fun k hk => ?_)
   rcases List.mem_append.1 hk with hk | hk
   · exact .inl hk
   · rcases List.mem_cons.1 hk with rfl | hk
     · exact .inr b4
     · rcases hX k hk with h1 | h1 | h1
       · exact .inl h1
       · exact .inr (Nat.le_trans h.low.size h1)
       · exact .inr h1.1
 · exact h.ctx.chg hc (fun a ha => hk _ (h.ctxn a ha).1 (h.ctxl a ha) (h.ctxn a ha).2.2.2.2 (.inr (.inr (.inr ⟨a,ha,rfl⟩))))
end
end Go.Proofs.YteeghgjkjicjoaaGreatDoor.Sgm
