/- Texts of ours, merged. -/
import Derived.Test.YteeghgjkjicjoaaGreatDoorB9
namespace Go.Proofs.YteeghgjkjicjoaaGreatDoor.Seal
open Go.RowKit
def JoinB (T:List Int) (v:Value) (w:World):Prop:=∃ g ps,v = .slice (some ⟨g,0,none⟩) ps.length ps.length ∧ PartsAt w (some ⟨g,0,none⟩) ps ∧ catL ps = T ∧ ps.length ≤ 100
theorem PartsAt.more {w w':World} {Ap:Option Addr} {ps:List Part} (h:PartsAt w Ap ps) (hb:Below w.heap.size w w'):PartsAt w' Ap ps :=
 ⟨fun j hj => by
  obtain ⟨g,off,e,hg,hc⟩:=h.row j hj
  exact ⟨g,off,e,Nat.lt_of_lt_of_le hg hb.size,(hb.cell (p:=⟨g,off + j,none⟩) hg).trans hc⟩,fun j hj => ⟨(h.byt j hj).1.below hb (Nat.le_refl _),(h.byt j hj).2⟩⟩
theorem JoinB.later {T:List Int} {v:Value} {w w':World} (h:JoinB T v w) (hb:Below w.heap.size w w'):JoinB T v w':=by
 obtain ⟨g,ps,e,hP,hT,hn⟩:=h
 exact ⟨g,ps,e,PartsAt.more hP hb,hT,hn⟩
theorem partsAt_row {w:World} {g t:Nat} {C:Array Value} (ps:List Part) (h:w.heap[g]? = some (.cells C t (0,0))) (hC:C.toList = ps.map Part.val) (hB:∀ p ∈ ps,Byt w p.A p.c p.M ∧ InB p.M):PartsAt w (some ⟨g,0,none⟩) ps :=
 ⟨fun j hj => ⟨g,0,rfl,(Array.getElem?_eq_some_iff.1 h).1,by
  rw [Nat.zero_add,cell_row h]
  have:C[j]? = C.toList[j]?:=by simp
  rw [this,hC,List.getElem?_map,List.getElem?_eq_getElem hj]; rfl⟩,fun j hj => hB _ (List.getElem_mem hj)⟩
theorem join5 {w:World} {A1 A2 A3 A4 A5:Option Addr} {c1 c2 c3 c4 c5 n m pos ep:Nat} {C L:List Int} (hC:C.length = n) (hL:L.length = m) (b1:Byt w A1 c1 (numL n 4)) (b2:Byt w A2 c2 C) (hCi:InB C) (b3:Byt w A3 c3 (numL pos 8)) (b4:Byt w A4 c4 (numL ep 4)) (b5:Byt w A5 c5 L) (hLi:InB L) :
 JoinB (taggedL C pos ep L) (.slice (some ⟨w.heap.size,0,none⟩) 5 5) (w.alloc (.cells #[.slice A1 (numL n 4).length c1,.slice A2 n c2,.slice A3 (numL pos 8).length c3,.slice A4 (numL ep 4).length c4,.slice A5 m c5] 38)):=by
 subst hC hL
 have lown:=Below.alloc (Below.refl w.heap.size w) (Nat.le_refl _) (.cells #[.slice A1 (numL C.length 4).length c1,.slice A2 C.length c2,.slice A3 (numL pos 8).length c3,.slice A4 (numL ep 4).length c4,.slice A5 L.length c5] 38)
 refine ⟨w.heap.size,[⟨A1,c1,numL C.length 4⟩,⟨A2,c2,C⟩,⟨A3,c3,numL pos 8⟩,⟨A4,c4,numL ep 4⟩,⟨A5,c5,L⟩],rfl,partsAt_row _ (Go.heap_alloc_new w _) rfl ?_,by simp [catL,taggedL],by simp⟩
 intro p hp
 simp only [List.mem_cons,List.not_mem_nil,or_false] at hp
 rcases hp with rfl | rfl | rfl | rfl | rfl
 · exact ⟨b1.below lown (Nat.le_refl _),numL_in _ _⟩
 · exact ⟨b2.below lown (Nat.le_refl _),hCi⟩
 · exact ⟨b3.below lown (Nat.le_refl _),numL_in _ _⟩
 · exact ⟨b4.below lown (Nat.le_refl _),numL_in _ _⟩
 · exact ⟨b5.below lown (Nat.le_refl _),hLi⟩
theorem number_sl (n k:Nat) (hk:k ≤ 8) (hn:n < 18446744073709551616) (w:World):Calls Tryz.prog 90 #[.int .u64 (n:Int),.int .i64 (k:Int)] w fun e w' => ∃ v,e = .returned v ∧ SlB (numL n k) v w' ∧ Below w.heap.size w w':=by
 refine (number_any n k hk hn w).mono ?_
 rintro e w' ⟨rfl,hr,hb⟩
 exact ⟨_,rfl,num_sl hr,hb⟩
theorem own_slb {w:World} {B:Nat} {v:Value} {L:List Int} (h:w.ownsRow B 5 1 v L.length (vals L)):SlB L v w:=by
 obtain ⟨A,c,e,_,hb⟩:=own_byt h
 exact ⟨A,c,e,hb⟩
theorem joined_sl {w:World} {g:Nat} {ps:List Part} {T:List Int} (hP:PartsAt w (some ⟨g,0,none⟩) ps) (hT:catL ps = T) (hn:ps.length ≤ 100) (hl:T.length ≤ 400000):Calls Tryz.prog 89 #[.slice (some ⟨g,0,none⟩) ps.length ps.length] w fun e w' => ∃ v,e = .returned v ∧ SlB T v w' ∧ Below w.heap.size w w':=by
 subst hT
 refine (joined_any _ _ _ ps rfl hn w hP hl).mono ?_
 rintro e w' ⟨v,rfl,ho,hb⟩
 exact ⟨v,rfl,own_slb ho,hb⟩
theorem tag_at {K T TT:List Int} {A A2:Option Addr} {c2:Nat} {w:World} (hTT:TT = hmacL K T) (hK:K.length = 32) (bK:InB K) (bT:InB T) (hB:Byt w A 32 K) (hB2:Byt w A2 c2 T) (hL:Laid w) (hl:T.length ≤ 150000) :
 Calls Tryz.prog 116 #[.slice A 32 32,.slice A2 T.length c2] w fun e w' => e = .returned (.agg (u8s TT)) ∧ Below w.heap.size w w':=by
 subst hTT
 exact hmac_any K T A A2 32 32 c2 T.length w hK rfl bK bT hB hB2 hL (by decide) hl
structure TagD (w:World) (TT:List Int) (wx:World):Prop where
 row:wx.heap[w.heap.size + 1 + 1]? = some (.cells (u8s TT) 24 (0,0))
 low:Below w.heap.size w wx
theorem taggedL_in {C L:List Int} {pos ep:Nat} (h1:InB C) (h2:InB L):InB (taggedL C pos ep L):=((((numL_in _ _).append h1).append (numL_in _ _)).append (numL_in _ _)).append h2
theorem taggedL_length (C L:List Int) (pos ep:Nat):(taggedL C pos ep L).length = 16 + C.length + L.length:=by simp [taggedL,numL_length]; omega
set_option maxRecDepth 100000 in
set_option maxHeartbeats 8000000 in
theorem tagOf_any (k C L:List Int) (pos ep:Nat) (A A2:Option Addr) (n c m c2:Nat) (w:World) (hk:k.length = 32) (hb:InB k) (hC:C.length = n) (hCb:InB C) (hn:n ≤ 1000) (hL:L.length = m) (hLb:InB L) (hm:m ≤ 131072) (hp:pos < 18446744073709551616 ∧ ep < 4294967296) (hB1:Byt w A c C) (hB2:Byt w A2 c2 L) (hLd:SLaid w) :
 Calls Tryz.prog 88 #[.agg (u8s k),.agg #[.slice A n c,.int .u64 (pos:Nat),.int .u32 (ep:Nat)],.slice A2 m c2] w fun e w' => e = .returned (.agg (u8s (tagL k C pos ep L))) ∧ Below w.heap.size w w':=by
 obtain ⟨KK,hKK⟩:∃ KK,KK = keyL k tagName C:=⟨_,rfl⟩
 obtain ⟨TT,hTT⟩:∃ TT,TT = tagL k C pos ep L:=⟨_,rfl⟩
 rw [← hTT]
 have HTT:Hid (TT = hmacL KK (taggedL C pos ep L)):=by rw [hKK]; exact hTT
 have hT32:TT.length = 32:=by rw [hTT]; exact hmacL_length _ _
 have HKe:=Lib.hid hKK
 have HKN:Hid (KK.length = 32 ∧ InB KK):=⟨by rw [hKK]; exact keyL_length _ _ _,by rw [hKK]; exact keyL_in _ _ _⟩
 have Hk:Hid (k.length = 32 ∧ InB k):=⟨hk,hb⟩
 have HCC:Hid (C.length = n ∧ InB C):=⟨hC,hCb⟩
 have HL2:=Lib.hid hL
 have HLi:=Lib.hid hLb
 have HpE:=Lib.hid hp
 have HB1:=Lib.hid hB1
 have HB20:=Lib.hid hB2
 have HLD:=Lib.hid hLd
 have HTl:Hid ((taggedL C pos ep L).length ≤ 400000):=by show _ ≤ _; rw [taggedL_length]; omega
 have HTg:Hid (InB (taggedL C pos ep L) ∧ (taggedL C pos ep L).length ≤ 150000):=⟨taggedL_in hCb hLb,by rw [taggedL_length]; omega⟩
 have HsT:Hid ((Tryz.prog.info? 24).map (·.size) = some (u8s TT).size):=by show _ = _; rw [u8s_size,hT32]; exact infoH
 have HsK0:Hid ((Tryz.prog.info? 24).map (·.size) = some (u8s k).size):=by show _ = _; rw [u8s_size,hk]; exact infoH
 have HzT:Hid ((u8s (zeros 32)).size = (u8s TT).size):=by show _ = _; rw [u8s_size,u8s_size,hT32]; rfl
 have hnI:(n:Int) ≤ 1000:=by omega
 have heI:(ep:Int) < 4294967296:=by omega
 have hwe:IntKind.u64.wrap (ep:Int) = ep:=by simp [IntKind.wrap,IntKind.bits,IntKind.signed]; omega
 have hwn:IntKind.u64.wrap (n:Int) = n:=by simp [IntKind.wrap,IntKind.bits,IntKind.signed]; omega
 clear hKK hTT hT32 hk hb hC hCb hL hLb hB1 hB2 hLd hp
 go_enter Tryz.func88,Tryz.ntmps88
 go_upto_region 2 with (first
  | (go_at_call 113; refine (key_call k C tagName _ rfl A n c (w.heap.size + 1 + 1 + 1) _ Hk.out.1 Hk.out.2 HCC.out.1 HCC.out.2 hn (by decide) (HLD.out.sha.below (below4 w _ _ _ _) HLD.out.sha.sz) (HB1.out.below (below4 w _ _ _ _) (Nat.le_refl _)) (cell_row (four_new w _ _ _ _).2.2.2 0)).mono ?_; rintro e w2 ⟨rfl,hb2⟩; rw [← HKe.out]; have Hb2:=Lib.hid hb2; clear hb2)
  | (refine wpList_store_new rfl (.tmp 7) (.tmp 12) rfl KK HKN.out.1 _ (by rfl) (by rfl) (by rfl) ?_; intro w3 hr3 hb3; have HKK:=Lib.hid hr3; have Hb3:=Lib.hid hb3; clear hr3 hb3)
  | (refine wpList_load_row rfl 24 (.tmp 3) rfl w.heap.size rfl 24 (u8s k) (0,0) _ (three_new w _ _ _).1 Tryz.underlying24 rfl HsK0.out ?_))
 have h3:=Hb2.out.size
 rw [World.size_alloc,World.size_alloc,World.size_alloc,World.size_alloc] at h3
 have hlow2:Below w.heap.size w w2:=(below4 w _ _ _ _).trans (Hb2.out.mono (by rw [World.size_alloc,World.size_alloc,World.size_alloc,World.size_alloc]; omega))
 have HLow:=Lib.hid (hlow2.trans (Hb3.out.mono hlow2.size))
 have HPL:Hid (w3.heap[w.heap.size + 1]? = some (.cells #[.slice A n c,.int .u64 (pos:Nat),.int .u32 (ep:Nat)] 106 (0,0))):=(Hb3.out.block _ (by omega)).trans ((Hb2.out.block _ (by rw [World.size_alloc,World.size_alloc,World.size_alloc,World.size_alloc]; omega)).trans (four_new w _ _ _ _).2.1)
 have HZ:Hid (w3.heap[w.heap.size + 1 + 1]? = some (.cells (u8s (zeros 32)) 24 (0,0))):=(Hb3.out.block _ (by omega)).trans ((Hb2.out.block _ (by rw [World.size_alloc,World.size_alloc,World.size_alloc,World.size_alloc]; omega)).trans (four_new w _ _ _ _).2.2.1)
 clear Hb2 Hb3 h3 hlow2
 have apx:apartB [13,14,15,16,17,18,19,20,21,22,23,24,25,26,27,28,29,30,31,1019] = true:=by decide
 refine wp_region_any (by kernel_rfl) ?_
 change wpAny _ _ _ _ _ _ _ (World.drew _)
 refine wpAny_inv2 (fun ll aa wx => Hid (ll.size = 20 ∧ LastR 19 w3 (TagD w TT) ll wx) ∧ ∃ (z:Nat → Value),Hid (aa = ⟨#[.agg (u8s k),.agg #[.slice A n c,.int .u64 (pos:Nat),.int .u32 (ep:Nat)],.slice A2 m c2,.pointer (some ⟨w.heap.size,0,none⟩),.pointer (some ⟨w.heap.size + 1,0,none⟩),undef,.pointer (some ⟨w.heap.size + 1 + 1,0,none⟩),.pointer (some ⟨w2.heap.size,0,none⟩),.agg (u8s k),.pointer (some ⟨w.heap.size + 1,0,none⟩),.slice A n c,.slice (some ⟨w.heap.size + 1 + 1 + 1,0,none⟩) 1 1,.agg (u8s KK),z 13,z 14,z 15,z 16,z 17,z 18,z 19,z 20,z 21,z 22,z 23,z 24,z 25,z 26,z 27,z 28,z 29,z 30,z 31],[]⟩) ∧ Holding [13,14,15,16,17,18,19,20,21,22,23,24,25,26,27,28,29,30,31,1019] [some (.slice (some ⟨w2.heap.size,0,none⟩) 32 32),some (.pointer (some ⟨w.heap.size + 1,0,none⟩)),some (.slice A n c),some (.int .i64 (n:Nat)),some (.int .u64 (n:Nat)),none,some (.pointer (some ⟨w.heap.size + 1,0,none⟩)),some (.slice A n c),some (.pointer (some ⟨w.heap.size + 1,1,none⟩)),some (.int .u64 (pos:Nat)),none,some (.pointer (some ⟨w.heap.size + 1,2,none⟩)),some (.int .u32 (ep:Nat)),some (.int .u64 (ep:Nat)),none,some (.slice A2 m c2),none,none,some (.agg (u8s TT)),none] ll z ∧ Whu ll 5 19 (SlB (numL n 4)) (z 18) wx ∧ Whu ll 10 19 (SlB (numL pos 8)) (z 23) wx ∧ Whu ll 14 19 (SlB (numL ep 4)) (z 27) wx ∧ Whu ll 16 19 (JoinB (taggedL C pos ep L)) (z 29) wx ∧ Whu ll 17 19 (SlB (taggedL C pos ep L)) (z 30) wx) ?_ (by kernel_rfl) ?_ ?_ _ rfl _ _ ?_
 · rintro ll aa wx ⟨hI,_⟩
   exact hI.out.1
 · rintro ll aa wx ⟨hI,z,ha,hz,hp5,hp10,hp14,hp16,hp17⟩ hall
   have hx:=Lib.hid hI.out.2
   have hall19:=hall 19 (by decide)
   clear hall hz hI hp5 hp10 hp14 hp16 hp17
   obtain rfl:=ha.out
   clear ha
   clear apx
   have HX:=Lib.hid (hx.out.aft hall19)
   clear hx
   go_wp2
   exact bodyPost_ret (v:=.agg (u8s TT)) (results_cell_row rfl _ _ (w.heap.size + 1 + 1) 24 _ (0,0) _ rfl HX.out.row Tryz.underlying24 rfl HsT.out) rfl ⟨rfl,HX.out.low⟩
 · rintro ll aa wx i ⟨hI,z,ha,hz,hp5,hp10,hp14,hp16,hp17⟩ hcl hi hu hw
   obtain rfl:=ha.out
   have hsz:=Lib.hid hI.out.1
   have hx:=Lib.hid hI.out.2
   clear ha hI
   have hin:i < 20:=hi
   obtain rfl | rfl | rfl | rfl | rfl | rfl | rfl | rfl | rfl | rfl | rfl | rfl | rfl | rfl | rfl | rfl | rfl | rfl | rfl | rfl:i = 0 ∨ i = 1 ∨ i = 2 ∨ i = 3 ∨ i = 4 ∨ i = 5 ∨ i = 6 ∨ i = 7 ∨ i = 8 ∨ i = 9 ∨ i = 10 ∨ i = 11 ∨ i = 12 ∨ i = 13 ∨ i = 14 ∨ i = 15 ∨ i = 16 ∨ i = 17 ∨ i = 18 ∨ i = 19:=by omega
   · refine wpOp_plain rfl rfl ?_
     go_simp
     exact ⟨⟨by simp [hsz.out],hx.out.same (by decide)⟩,upd z 13 (.slice (some ⟨w2.heap.size,0,none⟩) 32 32),(by unfold Hid; simp [upd]),hz.next apx hsz.out 0 (by decide) _ (fun _ h => Option.some.inj h),hp5.keep (by decide),hp10.keep (by decide),hp14.keep (by decide),hp16.keep (by decide),hp17.keep (by decide)⟩
   · refine wpOp_plain rfl rfl ?_
     go_simp
     exact ⟨⟨by simp [hsz.out],hx.out.same (by decide)⟩,upd z 14 (.pointer (some ⟨w.heap.size + 1,0,none⟩)),(by unfold Hid; simp [upd]),hz.next apx hsz.out 1 (by decide) _ (fun _ h => Option.some.inj h),hp5.keep (by decide),hp10.keep (by decide),hp14.keep (by decide),hp16.keep (by decide),hp17.keep (by decide)⟩
   · have e1:z 14 = .pointer (some ⟨w.heap.size + 1,0,none⟩):=hz 1 _ (hw 1 (by kernel_rfl)) rfl
     have hnl:=notlisted hu (fun hl => hcl 3 2 (hcl 4 3 (hcl 5 4 (hcl 16 5 (hcl 17 16 (hcl 18 17 (hcl 19 18 (hl) (by kernel_rfl)) (by kernel_rfl)) (by kernel_rfl)) (by kernel_rfl)) (by kernel_rfl)) (by kernel_rfl)) (by kernel_rfl))
     have cl:=cell_row (((hx.out.bef hnl).block _ (Array.getElem?_eq_some_iff.1 HPL.out).1).trans HPL.out) 0
     simp only [List.getElem?_toArray,List.getElem?_cons_zero] at cl
     refine wpOp_plain rfl rfl ?_
     go_simp
     exact ⟨⟨by simp [hsz.out],hx.out.same (by decide)⟩,upd z 15 (.slice A n c),(by unfold Hid; simp [upd,e1]),hz.next apx hsz.out 2 (by decide) _ (fun _ h => Option.some.inj h),hp5.keep (by decide),hp10.keep (by decide),hp14.keep (by decide),hp16.keep (by decide),hp17.keep (by decide)⟩
   · have e2:z 15 = .slice A n c:=hz 2 _ (hw 2 (by kernel_rfl)) rfl
     refine wpOp_plain rfl rfl ?_
     go_simp
     exact ⟨⟨by simp [hsz.out],hx.out.same (by decide)⟩,upd z 16 (.int .i64 (n:Nat)),(by unfold Hid; simp [upd,e2]),hz.next apx hsz.out 3 (by decide) _ (fun _ h => Option.some.inj h),hp5.keep (by decide),hp10.keep (by decide),hp14.keep (by decide),hp16.keep (by decide),hp17.keep (by decide)⟩
   · have e3:z 16 = .int .i64 (n:Nat):=hz 3 _ (hw 3 (by kernel_rfl)) rfl
     refine wpOp_plain rfl rfl ?_
     go_simp
     exact ⟨⟨by simp [hsz.out],hx.out.same (by decide)⟩,upd z 17 (.int .u64 (n:Nat)),(by unfold Hid; simp [upd,e3]),hz.next apx hsz.out 4 (by decide) _ (fun _ h => Option.some.inj h),hp5.keep (by decide),hp10.keep (by decide),hp14.keep (by decide),hp16.keep (by decide),hp17.keep (by decide)⟩
   · have e4:z 17 = .int .u64 (n:Nat):=hz 4 _ (hw 4 (by kernel_rfl)) rfl
     have hnl:=notlisted hu (fun hl => hcl 16 5 (hcl 17 16 (hcl 18 17 (hcl 19 18 (hl) (by kernel_rfl)) (by kernel_rfl)) (by kernel_rfl)) (by kernel_rfl))
     refine wpOp_plain rfl rfl ?_
     go_simp
     go_at_call 90
     refine (number_sl n 4 (by decide) (by omega) wx).mono ?_
     rintro e w8 ⟨vr,rfl,hsb,low⟩
     exact ⟨⟨by simp [hsz.out],hx.out.call (by decide) hnl low⟩,upd z 18 (vr),(by unfold Hid; simp [upd,e4]),hz.next apx hsz.out 5 (by decide) _ (fun _ h => by cases h),Whu.done (hsb),(hp10.keep (by decide)).map (fun h => h.later low),(hp14.keep (by decide)).map (fun h => h.later low),(hp16.keep (by decide)).map (fun h => h.later low),(hp17.keep (by decide)).map (fun h => h.later low)⟩
   · refine wpOp_plain rfl rfl ?_
     go_simp
     exact ⟨⟨by simp [hsz.out],hx.out.same (by decide)⟩,upd z 19 (.pointer (some ⟨w.heap.size + 1,0,none⟩)),(by unfold Hid; simp [upd]),hz.next apx hsz.out 6 (by decide) _ (fun _ h => Option.some.inj h),hp5.keep (by decide),hp10.keep (by decide),hp14.keep (by decide),hp16.keep (by decide),hp17.keep (by decide)⟩
   · have e6:z 19 = .pointer (some ⟨w.heap.size + 1,0,none⟩):=hz 6 _ (hw 6 (by kernel_rfl)) rfl
     have hnl:=notlisted hu (fun hl => hcl 16 7 (hcl 17 16 (hcl 18 17 (hcl 19 18 (hl) (by kernel_rfl)) (by kernel_rfl)) (by kernel_rfl)) (by kernel_rfl))
     have cl:=cell_row (((hx.out.bef hnl).block _ (Array.getElem?_eq_some_iff.1 HPL.out).1).trans HPL.out) 0
     simp only [List.getElem?_toArray,List.getElem?_cons_zero] at cl
     refine wpOp_plain rfl rfl ?_
     go_simp
     exact ⟨⟨by simp [hsz.out],hx.out.same (by decide)⟩,upd z 20 (.slice A n c),(by unfold Hid; simp [upd,e6]),hz.next apx hsz.out 7 (by decide) _ (fun _ h => Option.some.inj h),hp5.keep (by decide),hp10.keep (by decide),hp14.keep (by decide),hp16.keep (by decide),hp17.keep (by decide)⟩
   · refine wpOp_plain rfl rfl ?_
     go_simp
     exact ⟨⟨by simp [hsz.out],hx.out.same (by decide)⟩,upd z 21 (.pointer (some ⟨w.heap.size + 1,1,none⟩)),(by unfold Hid; simp [upd]),hz.next apx hsz.out 8 (by decide) _ (fun _ h => Option.some.inj h),hp5.keep (by decide),hp10.keep (by decide),hp14.keep (by decide),hp16.keep (by decide),hp17.keep (by decide)⟩
   · have e8:z 21 = .pointer (some ⟨w.heap.size + 1,1,none⟩):=hz 8 _ (hw 8 (by kernel_rfl)) rfl
     have hnl:=notlisted hu (fun hl => hcl 10 9 (hcl 16 10 (hcl 17 16 (hcl 18 17 (hcl 19 18 (hl) (by kernel_rfl)) (by kernel_rfl)) (by kernel_rfl)) (by kernel_rfl)) (by kernel_rfl))
     have cl:=cell_row (((hx.out.bef hnl).block _ (Array.getElem?_eq_some_iff.1 HPL.out).1).trans HPL.out) 1
     simp only [List.getElem?_toArray,List.getElem?_cons_zero,List.getElem?_cons_succ] at cl
     refine wpOp_plain rfl rfl ?_
     go_simp
     exact ⟨⟨by simp [hsz.out],hx.out.same (by decide)⟩,upd z 22 (.int .u64 (pos:Nat)),(by unfold Hid; simp [upd,e8]),hz.next apx hsz.out 9 (by decide) _ (fun _ h => Option.some.inj h),hp5.keep (by decide),hp10.keep (by decide),hp14.keep (by decide),hp16.keep (by decide),hp17.keep (by decide)⟩
   · have e9:z 22 = .int .u64 (pos:Nat):=hz 9 _ (hw 9 (by kernel_rfl)) rfl
     have hnl:=notlisted hu (fun hl => hcl 16 10 (hcl 17 16 (hcl 18 17 (hcl 19 18 (hl) (by kernel_rfl)) (by kernel_rfl)) (by kernel_rfl)) (by kernel_rfl))
     refine wpOp_plain rfl rfl ?_
     go_simp
     go_at_call 90
     refine (number_sl pos 8 (by decide) HpE.out.1 wx).mono ?_
     rintro e w8 ⟨vr,rfl,hsb,low⟩
     exact ⟨⟨by simp [hsz.out],hx.out.call (by decide) hnl low⟩,upd z 23 (vr),(by unfold Hid; simp [upd,e9]),hz.next apx hsz.out 10 (by decide) _ (fun _ h => by cases h),(hp5.keep (by decide)).map (fun h => h.later low),Whu.done (hsb),(hp14.keep (by decide)).map (fun h => h.later low),(hp16.keep (by decide)).map (fun h => h.later low),(hp17.keep (by decide)).map (fun h => h.later low)⟩
   · refine wpOp_plain rfl rfl ?_
     go_simp
     exact ⟨⟨by simp [hsz.out],hx.out.same (by decide)⟩,upd z 24 (.pointer (some ⟨w.heap.size + 1,2,none⟩)),(by unfold Hid; simp [upd]),hz.next apx hsz.out 11 (by decide) _ (fun _ h => Option.some.inj h),hp5.keep (by decide),hp10.keep (by decide),hp14.keep (by decide),hp16.keep (by decide),hp17.keep (by decide)⟩
   · have e11:z 24 = .pointer (some ⟨w.heap.size + 1,2,none⟩):=hz 11 _ (hw 11 (by kernel_rfl)) rfl
     have hnl:=notlisted hu (fun hl => hcl 13 12 (hcl 14 13 (hcl 16 14 (hcl 17 16 (hcl 18 17 (hcl 19 18 (hl) (by kernel_rfl)) (by kernel_rfl)) (by kernel_rfl)) (by kernel_rfl)) (by kernel_rfl)) (by kernel_rfl))
     have cl:=cell_row (((hx.out.bef hnl).block _ (Array.getElem?_eq_some_iff.1 HPL.out).1).trans HPL.out) 2
     simp only [List.getElem?_toArray,List.getElem?_cons_zero,List.getElem?_cons_succ] at cl
     refine wpOp_plain rfl rfl ?_
     go_simp
     exact ⟨⟨by simp [hsz.out],hx.out.same (by decide)⟩,upd z 25 (.int .u32 (ep:Nat)),(by unfold Hid; simp [upd,e11]),hz.next apx hsz.out 12 (by decide) _ (fun _ h => Option.some.inj h),hp5.keep (by decide),hp10.keep (by decide),hp14.keep (by decide),hp16.keep (by decide),hp17.keep (by decide)⟩
   · have e12:z 25 = .int .u32 (ep:Nat):=hz 12 _ (hw 12 (by kernel_rfl)) rfl
     refine wpOp_plain rfl rfl ?_
     go_simp
     exact ⟨⟨by simp [hsz.out],hx.out.same (by decide)⟩,upd z 26 (.int .u64 (ep:Nat)),(by unfold Hid; simp [upd,e12]),hz.next apx hsz.out 13 (by decide) _ (fun _ h => Option.some.inj h),hp5.keep (by decide),hp10.keep (by decide),hp14.keep (by decide),hp16.keep (by decide),hp17.keep (by decide)⟩
   · have e13:z 26 = .int .u64 (ep:Nat):=hz 13 _ (hw 13 (by kernel_rfl)) rfl
     have hnl:=notlisted hu (fun hl => hcl 16 14 (hcl 17 16 (hcl 18 17 (hcl 19 18 (hl) (by kernel_rfl)) (by kernel_rfl)) (by kernel_rfl)) (by kernel_rfl))
     refine wpOp_plain rfl rfl ?_
     go_simp
     go_at_call 90
     refine (number_sl ep 4 (by decide) (by have:=HpE.out; omega) wx).mono ?_
     rintro e w8 ⟨vr,rfl,hsb,low⟩
     exact ⟨⟨by simp [hsz.out],hx.out.call (by decide) hnl low⟩,upd z 27 (vr),(by unfold Hid; simp [upd,e13]),hz.next apx hsz.out 14 (by decide) _ (fun _ h => by cases h),(hp5.keep (by decide)).map (fun h => h.later low),(hp10.keep (by decide)).map (fun h => h.later low),Whu.done (hsb),(hp16.keep (by decide)).map (fun h => h.later low),(hp17.keep (by decide)).map (fun h => h.later low)⟩
   · refine wpOp_plain rfl rfl ?_
     go_simp
     exact ⟨⟨by simp [hsz.out],hx.out.same (by decide)⟩,upd z 28 (.slice A2 m c2),(by unfold Hid; simp [upd]),hz.next apx hsz.out 15 (by decide) _ (fun _ h => Option.some.inj h),hp5.keep (by decide),hp10.keep (by decide),hp14.keep (by decide),hp16.keep (by decide),hp17.keep (by decide)⟩
   · have e7:z 20 = .slice A n c:=hz 7 _ (hw 7 (by kernel_rfl)) rfl
     have e15:z 28 = .slice A2 m c2:=hz 15 _ (hw 15 (by kernel_rfl)) rfl
     have hnl:=notlisted hu (fun hl => hcl 17 16 (hcl 18 17 (hcl 19 18 (hl) (by kernel_rfl)) (by kernel_rfl)) (by kernel_rfl))
     have p5:=hp5.get (hw 5 (by kernel_rfl)) hnl
     have p10:=hp10.get (hw 10 (by kernel_rfl)) hnl
     have p14:=hp14.get (hw 14 (by kernel_rfl)) hnl
     have hlw:=hx.out.bef hnl
     have hlw2:=HLow.out.trans (hlw.mono HLow.out.size)
     obtain ⟨A5,c5,e5,b5⟩:=p5
     obtain ⟨A10,c10,e10,b10⟩:=p10
     obtain ⟨A14,c14,e14,b14⟩:=p14
     have hjb:=join5 (w:=wx) (C:=C) (L:=L) (n:=n) (m:=m) HCC.out.1 HL2.out b5 (HB1.out.below hlw2 (Nat.le_refl _)) HCC.out.2 b10 b14 (HB20.out.below hlw2 (Nat.le_refl _)) HLi.out
     refine wpOp_plain rfl rfl ?_
     go_simp
     have lown:=Below.alloc (Below.refl wx.heap.size wx) (Nat.le_refl _) (.cells #[.slice A5 (numL n 4).length c5,.slice A n c,.slice A10 (numL pos 8).length c10,.slice A14 (numL ep 4).length c14,.slice A2 m c2] 38)
     exact ⟨⟨by simp [hsz.out],hx.out.call (by decide) hnl lown⟩,upd z 29 (.slice (some ⟨wx.heap.size,0,none⟩) 5 5),(by unfold Hid; simp [upd,e7,e15,e5,e10,e14]),hz.next apx hsz.out 16 (by decide) _ (fun _ h => by cases h),(hp5.keep (by decide)).map (fun h => h.later lown),(hp10.keep (by decide)).map (fun h => h.later lown),(hp14.keep (by decide)).map (fun h => h.later lown),Whu.done (hjb),(hp17.keep (by decide)).map (fun h => h.later lown)⟩
   · have hnl:=notlisted hu (fun hl => hcl 18 17 (hcl 19 18 (hl) (by kernel_rfl)) (by kernel_rfl))
     have p16:=hp16.get (hw 16 (by kernel_rfl)) hnl
     obtain ⟨g9,ps9,e9,hP9,hT9,hn9⟩:=p16
     refine wpOp_plain rfl rfl ?_
     simp only [e9]
     go_simp
     go_at_call 89
     refine (joined_sl hP9 hT9 hn9 HTl.out).mono ?_
     rintro e w8 ⟨vr,rfl,hsb,low⟩
     exact ⟨⟨by simp [hsz.out],hx.out.call (by decide) hnl low⟩,upd z 30 (vr),(by unfold Hid; simp [upd,e9]),hz.next apx hsz.out 17 (by decide) _ (fun _ h => by cases h),(hp5.keep (by decide)).map (fun h => h.later low),(hp10.keep (by decide)).map (fun h => h.later low),(hp14.keep (by decide)).map (fun h => h.later low),(hp16.keep (by decide)).map (fun h => h.later low),Whu.done (hsb)⟩
   · have e0:z 13 = .slice (some ⟨w2.heap.size,0,none⟩) 32 32:=hz 0 _ (hw 0 (by kernel_rfl)) rfl
     have hnl:=notlisted hu (fun hl => hcl 19 18 (hl) (by kernel_rfl))
     have p17:=hp17.get (hw 17 (by kernel_rfl)) hnl
     obtain ⟨A9,c9,e9,b9⟩:=p17
     have hlw:=hx.out.bef hnl
     refine wpOp_plain rfl rfl ?_
     simp only [e9]
     go_simp
     go_at_call 116
     refine (tag_at HTT.out HKN.out.1 HKN.out.2 HTg.out.1 (byt_rowF ((hlw.block _ (Array.getElem?_eq_some_iff.1 HKK.out).1).trans HKK.out) HKN.out.1) b9 (HLD.out.sha.below (HLow.out.trans (hlw.mono HLow.out.size)) HLD.out.sha.sz) HTg.out.2).mono ?_
     rintro e w8 ⟨rfl,low⟩
     exact ⟨⟨by simp [hsz.out],hx.out.call (by decide) hnl low⟩,upd z 31 (.agg (u8s TT)),(by unfold Hid; simp [upd,e0,e9]),hz.next apx hsz.out 18 (by decide) _ (fun _ h => Option.some.inj h),(hp5.keep (by decide)).map (fun h => h.later low),(hp10.keep (by decide)).map (fun h => h.later low),(hp14.keep (by decide)).map (fun h => h.later low),(hp16.keep (by decide)).map (fun h => h.later low),(hp17.keep (by decide)).map (fun h => h.later low)⟩
   · have e18:z 31 = .agg (u8s TT):=hz 18 _ (hw 18 (by kernel_rfl)) rfl
     have hlw:=hx.out.bef hu
     refine wpOp_plain rfl rfl (wp_store_row 24 (.tmp 6) (.tmp 31) rfl (w.heap.size + 1 + 1) (u8s TT) rfl e18 24 _ ((hlw.block _ (Array.getElem?_eq_some_iff.1 HZ.out).1).trans HZ.out) HsT.out HzT.out (u8s_one TT) ?_)
     have hdone:TagD w TT (wx.setRow (w.heap.size + 1 + 1) (u8s TT)):=⟨setRow_heap _ _ _ _ _ _ ((hlw.block _ (Array.getElem?_eq_some_iff.1 HZ.out).1).trans HZ.out),below_setRow (HLow.out.trans (hlw.mono HLow.out.size)) (by omega) _⟩
     go_simp
     exact ⟨⟨by simp [hsz.out],hx.out.done (by rw [hsz.out]; decide) hdone⟩,upd z 1019 (undef),(by unfold Hid; simp [upd,e18]),hz.next apx hsz.out 19 (by decide) _ (fun _ h => by cases h),Whu.past (by rw [hsz.out]; decide),Whu.past (by rw [hsz.out]; decide),Whu.past (by rw [hsz.out]; decide),Whu.past (by rw [hsz.out]; decide),Whu.past (by rw [hsz.out]; decide)⟩
 · exact ⟨⟨rfl,LastR.start⟩,fun xx => (#[.agg (u8s k),.agg #[.slice A n c,.int .u64 (pos:Nat),.int .u32 (ep:Nat)],.slice A2 m c2,.pointer (some ⟨w.heap.size,0,none⟩),.pointer (some ⟨w.heap.size + 1,0,none⟩),undef,.pointer (some ⟨w.heap.size + 1 + 1,0,none⟩),.pointer (some ⟨w2.heap.size,0,none⟩),.agg (u8s k),.pointer (some ⟨w.heap.size + 1,0,none⟩),.slice A n c,.slice (some ⟨w.heap.size + 1 + 1 + 1,0,none⟩) 1 1,.agg (u8s KK),undef,undef,undef,undef,undef,undef,undef,undef,undef,undef,undef,undef,undef,undef,undef,undef,undef,undef,undef]:Array Value).getD xx undef,(by rfl),Holding.start,Whu.none (by decide),Whu.none (by decide),Whu.none (by decide),Whu.none (by decide),Whu.none (by decide)⟩
def OwnB (B:Nat) (L:List Int) (v:Value) (w:World):Prop:=w.ownsRow B 5 1 v L.length (vals L)
theorem OwnB.later {B:Nat} {L:List Int} {v:Value} {w w':World} (h:OwnB B L v w) (hb:Below w.heap.size w w'):OwnB B L v w':=by
 obtain ⟨h1,h⟩:=h
 refine ⟨h1,?_⟩
 rcases h with h | ⟨g,cap,cur,h1,h2,h3,h4,h5,h6,h7⟩
 · exact .inl h
 · exact .inr ⟨g,cap,cur,h1,h2,(hb.block _ (Array.getElem?_eq_some_iff.1 h3).1).trans h3,h4,h5,h6,h7⟩
theorem OwnB.base {B B':Nat} {L:List Int} {v:Value} {w:World} (h:OwnB B L v w) (hB:B' ≤ B):OwnB B' L v w:=by
 obtain ⟨h1,h⟩:=h
 refine ⟨h1,?_⟩
 rcases h with h | ⟨g,cap,cur,h1,h2,h3⟩
 · exact .inl h
 · exact .inr ⟨g,cap,cur,h1,Nat.le_trans hB h2,h3⟩
theorem OwnB.sl {B:Nat} {L:List Int} {v:Value} {w:World} (h:OwnB B L v w):SlB L v w:=own_slb h
theorem padded_sl {A:Option Addr} {n c B:Nat} {L:List Int} {w:World} (hB:B = bkt n) (hn:L.length = n) (hm:n ≤ 131068) (hb:Byt w A c L):Calls Tryz.prog 87 #[.slice A n c,.int .i64 (B:Int)] w fun e w' => ∃ v,e = .returned v ∧ SlB (padL L) v w' ∧ Below w.heap.size w w':=by
 refine (padded_any A n c B L hn hm hB w hb).mono ?_
 rintro e w' ⟨rfl,hr,low⟩
 have hl:(padL L).length = B:=by rw [padL_length (by rw [hn]; exact hm),hn,hB]
 exact ⟨_,rfl,⟨_,B,by rw [hl],byt_rowF hr hl⟩,low⟩
theorem joined_own {w:World} {g:Nat} {ps:List Part} {T:List Int} (hP:PartsAt w (some ⟨g,0,none⟩) ps) (hT:catL ps = T) (hn:ps.length ≤ 100) (hl:T.length ≤ 400000):Calls Tryz.prog 89 #[.slice (some ⟨g,0,none⟩) ps.length ps.length] w fun e w' => ∃ v,e = .returned v ∧ OwnB w.heap.size T v w' ∧ Below w.heap.size w w':=by
 subst hT
 exact joined_any _ _ _ ps rfl hn w hP hl
theorem join3 {w:World} {A1 A2 A3:Option Addr} {c1 c2 ep:Nat} {BB TT:List Int} (b1:Byt w A1 c1 (numL ep 4)) (b2:Byt w A2 c2 BB) (hB:InB BB) (b3:Byt w A3 32 TT) (hT:InB TT) (ht:TT.length = 32) :
 JoinB (numL ep 4 ++ BB ++ TT) (.slice (some ⟨w.heap.size,0,none⟩) 3 3) (w.alloc (.cells #[.slice A1 (numL ep 4).length c1,.slice A2 BB.length c2,.slice A3 32 32] 38)):=by
 rw [← ht] at b3 ⊢
 have lown:=Below.alloc (Below.refl w.heap.size w) (Nat.le_refl _) (.cells #[.slice A1 (numL ep 4).length c1,.slice A2 BB.length c2,.slice A3 TT.length TT.length] 38)
 refine ⟨w.heap.size,[⟨A1,c1,numL ep 4⟩,⟨A2,c2,BB⟩,⟨A3,TT.length,TT⟩],rfl,partsAt_row _ (Go.heap_alloc_new w _) rfl ?_,by simp [catL],by simp⟩
 intro p hp
 simp only [List.mem_cons,List.not_mem_nil,or_false] at hp
 rcases hp with rfl | rfl | rfl
 · exact ⟨b1.below lown (Nat.le_refl _),numL_in _ _⟩
 · exact ⟨b2.below lown (Nat.le_refl _),hB⟩
 · exact ⟨b3.below lown (Nat.le_refl _),hT⟩
theorem bodyL_length (k C:List Int) (pos ep:Nat) (L:List Int):(bodyL k C pos ep L).length = L.length:=Cha.streamL_length _ _ _ _
theorem bodyL_in {k C:List Int} {pos ep:Nat} {L:List Int} (h:InB L):InB (bodyL k C pos ep L):=Cha.streamL_in _ _ _ _ h
theorem tagL_length (k C:List Int) (pos ep:Nat) (B:List Int):(tagL k C pos ep B).length = 32:=hmacL_length _ _
theorem tagL_in (k C:List Int) (pos ep:Nat) (B:List Int):InB (tagL k C pos ep B):=hmacL_in _ _
theorem sealL_length (k C:List Int) (pos ep:Nat) {L:List Int} (h:L.length ≤ 131068):(sealL k C pos ep L).length = 36 + bkt L.length:=by
 unfold sealL
 rw [List.length_append,List.length_append,numL_length,bodyL_length,tagL_length,padL_length h]; omega
theorem sealL_in {k C:List Int} {pos ep:Nat} {L:List Int} (h:InB L):InB (sealL k C pos ep L):=((numL_in _ _).append (bodyL_in (padL_in h))).append (tagL_in _ _ _ _ _)
set_option maxRecDepth 100000 in
set_option maxHeartbeats 8000000 in
theorem seal_ok (k C L:List Int) (pos ep:Nat) (A A2:Option Addr) (n c m c2:Nat) (w:World) (hk:k.length = 32) (hb:InB k) (hC:C.length = n) (hCb:InB C) (hn:n ≤ 1000) (hL:L.length = m) (hLb:InB L) (hm:m ≤ 131068) (hp:pos < 18446744073709551616 ∧ ep < 4294967296) (hB1:Byt w A c C) (hB2:Byt w A2 c2 L) (hLd:SLaid w) :
 Calls Tryz.prog 56 #[.agg (u8s k),.agg #[.slice A n c,.int .u64 (pos:Nat),.int .u32 (ep:Nat)],.slice A2 m c2] w fun e w' => ∃ v,e = .returned (.tuple #[v,.int .i64 0]) ∧ OwnB w.heap.size (sealL k C pos ep L) v w' ∧ Below w.heap.size w w':=by
 obtain ⟨SS,hSS⟩:∃ SS,SS = sealL k C pos ep L:=⟨_,rfl⟩
 obtain ⟨BB,hBB⟩:∃ BB,BB = bodyL k C pos ep (padL L):=⟨_,rfl⟩
 obtain ⟨TT,hTT⟩:∃ TT,TT = tagL k C pos ep BB:=⟨_,rfl⟩
 obtain ⟨B,hB⟩:∃ B,B = bkt m:=⟨_,rfl⟩
 have hSS2:numL ep 4 ++ BB ++ TT = SS:=by rw [hSS,hTT,hBB]; rfl
 have hle:=bkt_le hm
 rw [← hB] at hle
 have hBl:BB.length = B:=by rw [hBB,bodyL_length,padL_length (by rw [hL]; exact hm),hL,hB]
 rw [← hSS]
 have HSS2:=Lib.hid hSS2
 have HBk:=Lib.hid hB
 have HBB:=Lib.hid hBB.symm
 have HTc:Hid (tagL k C pos ep BB = TT):=hTT.symm
 have HTT:Hid (TT.length = 32 ∧ InB TT):=⟨by rw [hTT]; exact tagL_length _ _ _ _ _,by rw [hTT]; exact tagL_in _ _ _ _ _⟩
 have HBi:Hid (BB.length ≤ 131072 ∧ InB BB):=⟨by omega,by rw [hBB]; exact bodyL_in (padL_in hLb)⟩
 have HPd:Hid ((padL L).length ≤ 131072 ∧ InB (padL L)):=⟨by rw [padL_length (by rw [hL]; exact hm),hL,← hB]; exact hle.1,padL_in hLb⟩
 have HSl:Hid (SS.length ≤ 400000 ∧ True):=⟨by rw [hSS,sealL_length _ _ _ _ (by rw [hL]; exact hm),hL,← hB]; omega,trivial⟩
 have Hk:Hid (k.length = 32 ∧ InB k):=⟨hk,hb⟩
 have HCC:Hid (C.length = n ∧ InB C):=⟨hC,hCb⟩
 have HL2:Hid (L.length = m ∧ m ≤ 131068 ∧ InB L):=⟨hL,hm,hLb⟩
 have HpE:=Lib.hid hp
 have HB10:=Lib.hid hB1
 have HB20:=Lib.hid hB2
 have HLD0:=Lib.hid hLd
 have HsK0:Hid ((Tryz.prog.info? 24).map (·.size) = some (u8s k).size):=by show _ = _; rw [u8s_size,hk]; exact infoH
 have HsT:Hid ((Tryz.prog.info? 24).map (·.size) = some (u8s TT).size):=by show _ = _; rw [u8s_size,HTT.out.1]; exact infoH
 have hbk:Hid (∀ w,Calls Tryz.prog 85 #[.int .i64 (m:Nat)] w fun e w' => e = .returned (.int .i64 (B:Nat)) ∧ w = w'):=fun w => by
  have h:=bucket_any (m:Nat) w
  rwa [show bktI (m:Nat) = (B:Nat) by unfold bktI; rw [if_neg (by omega),Int.toNat_natCast,hB]] at h
 have hB0:¬ (B:Int) = 0:=by omega
 have hB0n:¬ B = 0:=by omega
 clear hSS hBB hTT hB hSS2 hle hBl hk hb hC hCb hL hLb hB1 hB2 hLd hp
 go_enter Tryz.func56,Tryz.ntmps56
 go_upto_region 4 with (go_at_call 85; refine (hbk.out _).mono ?_; rintro e w' ⟨rfl,rfl⟩)
 have hlow4:=below_two w (.cells (u8s k) 24) (.cells #[.slice A n c,.int .u64 (pos:Nat),.int .u32 (ep:Nat)] 106)
 have hK4:=(two_new w (.cells (u8s k) 24) (.cells #[.slice A n c,.int .u64 (pos:Nat),.int .u32 (ep:Nat)] 106)).1
 have hPL:=(two_new w (.cells (u8s k) 24) (.cells #[.slice A n c,.int .u64 (pos:Nat),.int .u32 (ep:Nat)] 106)).2
 generalize World.alloc _ _ = w4 at hlow4 hK4 hPL ⊢
 have HLow4:=Lib.hid hlow4
 have HK4:=Lib.hid hK4
 have HPL:=Lib.hid hPL
 have HB1:=Lib.hid (HB10.out.below hlow4 (Nat.le_refl _))
 have HB2:=Lib.hid (HB20.out.below hlow4 (Nat.le_refl _))
 have HLD:=Lib.hid (HLD0.out.later hlow4)
 clear hlow4 hK4 hPL HB10 HB20 HLD0
 go_cut [9] from 16 to 21 (fun s9 wx => SlB BB s9 wx ∧ Below w4.heap.size w4 wx)
 case first =>
  have apx:apartB [16,17,18,19,20,21,9] = true:=by decide
  refine wp_region_any (by kernel_rfl) ?_
  change wpAny _ _ _ _ _ _ _ (World.drew _)
  refine wpAny_inv (fun ll aa wx => Hid (ll.size = 7 ∧ Below w4.heap.size w4 wx) ∧ ∃ (z:Nat → Value),Hid (aa = ⟨#[.agg (u8s k),.agg #[.slice A n c,.int .u64 (pos:Nat),.int .u32 (ep:Nat)],.slice A2 m c2,.pointer (some ⟨w.heap.size,0,none⟩),.pointer (some ⟨w.heap.size + 1,0,none⟩),undef,.slice none 0 0,.int .i64 0,.int .i64 (B:Nat),z 9,undef,.slice A2 m c2,.int .i64 (m:Nat),.int .i64 (B:Nat),.int .i64 (B:Nat),.bool ((B:Int) == 0),z 16,z 17,z 18,z 19,z 20,z 21,undef,undef,undef,undef,undef,undef,undef,undef,undef,undef,undef,undef],[]⟩) ∧ Holding [16,17,18,19,20,21,9] [some (.agg (u8s k)),some (.agg #[.slice A n c,.int .u64 (pos:Nat),.int .u32 (ep:Nat)]),some (.slice A2 m c2),some (.int .i64 (B:Nat)),none,none,none] ll z ∧ Whn ll 4 (SlB (padL L)) (z 20) wx ∧ Whn ll 5 (SlB BB) (z 21) wx ∧ Whn ll 6 (SlB BB) (z 9) wx) ?_ (by kernel_rfl) ?_ ?_ _ _ _ _ (unlisted_none _) ?_
  · rintro ll aa wx ⟨hI,_⟩
    exact hI.out.1
  · rintro ll aa wx ⟨hI,z,ha,hz,hp4,hp5,hp6⟩ hall
    have hx:=Lib.hid hI.out.2
    have p4:=hp4.get (hall 4 (by decide))
    have p5:=hp5.get (hall 5 (by decide))
    have p6:=hp6.get (hall 6 (by decide))
    clear hall hz hI hp4 hp5 hp6
    obtain rfl:=ha.out
    clear ha
    clear apx
    have HX:=Lib.hid hx.out
    have HS:=Lib.hid p6
    clear hx p4 p5 p6
    go_wp2
    go_meet
    exact ⟨HS.out,HX.out⟩
  · rintro ll aa wx i ⟨hI,z,ha,hz,hp4,hp5,hp6⟩ hi hu hw
    obtain rfl:=ha.out
    have hsz:=Lib.hid hI.out.1
    have hx:=Lib.hid hI.out.2
    clear ha hI
    have hin:i < 7:=hi
    obtain rfl | rfl | rfl | rfl | rfl | rfl | rfl:i = 0 ∨ i = 1 ∨ i = 2 ∨ i = 3 ∨ i = 4 ∨ i = 5 ∨ i = 6:=by omega
    · have cl:=(hx.out.block _ (Array.getElem?_eq_some_iff.1 HK4.out).1).trans HK4.out
      refine wpOp_plain rfl rfl (wp_load_row 24 (.tmp 3) rfl (w.heap.size) rfl 24 (u8s k) (0,0) _ cl Tryz.underlying24 rfl HsK0.out ?_)
      go_simp
      exact ⟨⟨by simp [hsz.out],hx.out⟩,upd z 16 (.agg (u8s k)),(by unfold Hid; simp [upd]),hz.next apx hsz.out 0 (by decide) _ (fun _ h => Option.some.inj h),hp4.keep (by decide),hp5.keep (by decide),hp6.keep (by decide)⟩
    · have cl:=(hx.out.block _ (Array.getElem?_eq_some_iff.1 HPL.out).1).trans HPL.out
      refine wpOp_plain rfl rfl (wp_load_row 106 (.tmp 4) rfl (w.heap.size + 1) rfl 106 #[.slice A n c,.int .u64 (pos:Nat),.int .u32 (ep:Nat)] (0,0) _ cl Tryz.underlying106 rfl infoP ?_)
      go_simp
      exact ⟨⟨by simp [hsz.out],hx.out⟩,upd z 17 (.agg #[.slice A n c,.int .u64 (pos:Nat),.int .u32 (ep:Nat)]),(by unfold Hid; simp [upd]),hz.next apx hsz.out 1 (by decide) _ (fun _ h => Option.some.inj h),hp4.keep (by decide),hp5.keep (by decide),hp6.keep (by decide)⟩
    · refine wpOp_plain rfl rfl ?_
      go_simp
      exact ⟨⟨by simp [hsz.out],hx.out⟩,upd z 18 (.slice A2 m c2),(by unfold Hid; simp [upd]),hz.next apx hsz.out 2 (by decide) _ (fun _ h => Option.some.inj h),hp4.keep (by decide),hp5.keep (by decide),hp6.keep (by decide)⟩
    · refine wpOp_plain rfl rfl ?_
      go_simp
      exact ⟨⟨by simp [hsz.out],hx.out⟩,upd z 19 (.int .i64 (B:Nat)),(by unfold Hid; simp [upd]),hz.next apx hsz.out 3 (by decide) _ (fun _ h => Option.some.inj h),hp4.keep (by decide),hp5.keep (by decide),hp6.keep (by decide)⟩
    · have e2:z 18 = .slice A2 m c2:=hz 2 _ (hw 2 (by kernel_rfl)) rfl
      have e3:z 19 = .int .i64 (B:Nat):=hz 3 _ (hw 3 (by kernel_rfl)) rfl
      refine wpOp_plain rfl rfl ?_
      go_simp
      go_at_call 87
      refine (padded_sl HBk.out HL2.out.1 HL2.out.2.1 (HB2.out.below hx.out (Nat.le_refl _))).mono ?_
      rintro e w8 ⟨vr,rfl,hsb,low⟩
      exact ⟨⟨by simp [hsz.out],hx.out.trans (low.mono hx.out.size)⟩,upd z 20 (vr),(by unfold Hid; simp [upd,e2,e3]),hz.next apx hsz.out 4 (by decide) _ (fun _ h => by cases h),Whn.done (hsb),(hp5.keep (by decide)).map (fun h => h.later low),(hp6.keep (by decide)).map (fun h => h.later low)⟩
    · have e0:z 16 = .agg (u8s k):=hz 0 _ (hw 0 (by kernel_rfl)) rfl
      have e1:z 17 = .agg #[.slice A n c,.int .u64 (pos:Nat),.int .u32 (ep:Nat)]:=hz 1 _ (hw 1 (by kernel_rfl)) rfl
      have p4:=hp4.get (hw 4 (by kernel_rfl))
      obtain ⟨A9,c9,e9,b9⟩:=p4
      refine wpOp_plain rfl rfl ?_
      simp only [e9]
      go_simp
      go_at_call 86
      refine (ciphered_any k C (padL L) pos ep A A9 n c _ c9 wx Hk.out.1 Hk.out.2 HCC.out.1 HCC.out.2 hn rfl HPd.out.1 HpE.out (HB1.out.below hx.out (Nat.le_refl _)) b9 (HLD.out.later hx.out)).mono ?_
      rintro e w8 ⟨vr,rfl,hsb,low⟩
      exact ⟨⟨by simp [hsz.out],hx.out.trans (low.mono hx.out.size)⟩,upd z 21 (vr),(by unfold Hid; simp [upd,e0,e1,e9]),hz.next apx hsz.out 5 (by decide) _ (fun _ h => by cases h),(hp4.keep (by decide)).map (fun h => h.later low),Whn.done (HBB.out ▸ hsb),(hp6.keep (by decide)).map (fun h => h.later low)⟩
    · have p5:=hp5.get (hw 5 (by kernel_rfl))
      obtain ⟨A9,c9,e9,b9⟩:=p5
      refine wpOp_plain rfl rfl ?_
      go_simp
      exact ⟨⟨by simp [hsz.out],hx.out⟩,upd z 9 (.slice A9 BB.length c9),(by unfold Hid; simp [upd,e9]),hz.next apx hsz.out 6 (by decide) _ (fun _ h => by cases h),hp4.keep (by decide),hp5.keep (by decide),Whn.done (⟨A9,c9,rfl,b9⟩)⟩
  · exact ⟨⟨rfl,(Below.refl _ _).drew⟩,fun xx => (#[.agg (u8s k),.agg #[.slice A n c,.int .u64 (pos:Nat),.int .u32 (ep:Nat)],.slice A2 m c2,.pointer (some ⟨w.heap.size,0,none⟩),.pointer (some ⟨w.heap.size + 1,0,none⟩),undef,.slice none 0 0,.int .i64 0,.int .i64 (B:Nat),undef,undef,.slice A2 m c2,.int .i64 (m:Nat),.int .i64 (B:Nat),.int .i64 (B:Nat),.bool ((B:Int) == 0),undef,undef,undef,undef,undef,undef,undef,undef,undef,undef,undef,undef,undef,undef,undef,undef,undef,undef]:Array Value).getD xx undef,(by rfl),Holding.start,Whn.none (by decide),Whn.none (by decide),Whn.none (by decide)⟩
 case rest =>
  obtain ⟨⟨A9,c9,rfl,b9⟩,hlow⟩:=hcut
  have B9:=Lib.hid b9
  have HLc:=Lib.hid hlow
  clear hlow b9
  go_upto_region 6 with (first
   | (go_at_call 88; refine (tagOf_any k C BB pos ep A A9 n c BB.length c9 wc Hk.out.1 Hk.out.2 HCC.out.1 HCC.out.2 hn rfl HBi.out.2 HBi.out.1 HpE.out (HB1.out.below HLc.out (Nat.le_refl _)) B9.out (HLD.out.later HLc.out)).mono ?_; rintro e w5 ⟨rfl,hb5⟩; rw [HTc.out]; have Hb5:=Lib.hid hb5; clear hb5)
   | (refine wpList_store_new rfl (.tmp 10) (.tmp 25) rfl TT HTT.out.1 _ (by rfl) (by rfl) (by rfl) ?_; intro w6 hr6 hb6; have HT6:=Lib.hid hr6; have Hb6:=Lib.hid hb6; clear hr6 hb6)
   | (refine wpList_load_row rfl 24 (.tmp 3) rfl w.heap.size rfl 24 (u8s k) (0,0) _ ((HLc.out.block _ (Array.getElem?_eq_some_iff.1 HK4.out).1).trans HK4.out) Tryz.underlying24 rfl HsK0.out ?_)
   | (refine wpList_load_row rfl 106 (.tmp 4) rfl (w.heap.size + 1) rfl 106 #[.slice A n c,.int .u64 (pos:Nat),.int .u32 (ep:Nat)] (0,0) _ ((HLc.out.block _ (Array.getElem?_eq_some_iff.1 HPL.out).1).trans HPL.out) Tryz.underlying106 rfl infoP ?_))
  have hl56:Below w4.heap.size w4 w6:=HLc.out.trans ((Hb5.out.mono HLc.out.size).trans (Hb6.out.mono (Nat.le_trans HLc.out.size Hb5.out.size)))
  have HLow6:=Lib.hid (HLow4.out.trans (hl56.mono HLow4.out.size))
  have HPL6:Hid (w6.heap[w.heap.size + 1]? = some (.cells #[.slice A n c,.int .u64 (pos:Nat),.int .u32 (ep:Nat)] 106 (0,0))):=(hl56.block _ (Array.getElem?_eq_some_iff.1 HPL.out).1).trans HPL.out
  have Hb9:=Lib.hid (B9.out.below (Hb5.out.trans (Hb6.out.mono Hb5.out.size)) (Nat.le_refl _))
  have heI:(ep:Int) < 4294967296:=by have:=HpE.out.2; omega
  have hwe:IntKind.u64.wrap (ep:Int) = ep:=by simp [IntKind.wrap,IntKind.bits,IntKind.signed]; omega
  clear hl56 Hb5 Hb6 HLc HPL HK4 B9
  have apx:apartB [26,27,28,29,30,31,32,33,6,7] = true:=by decide
  refine wp_region_any (by kernel_rfl) ?_
  change wpAny _ _ _ _ _ _ _ (World.drew _)
  refine wpAny_inv (fun ll aa wx => Hid (ll.size = 10 ∧ Below w6.heap.size w6 wx) ∧ ∃ (z:Nat → Value),Hid (aa = ⟨#[.agg (u8s k),.agg #[.slice A n c,.int .u64 (pos:Nat),.int .u32 (ep:Nat)],.slice A2 m c2,.pointer (some ⟨w.heap.size,0,none⟩),.pointer (some ⟨w.heap.size + 1,0,none⟩),undef,z 6,z 7,.int .i64 (B:Nat),.slice A9 BB.length c9,.pointer (some ⟨w5.heap.size,0,none⟩),.slice A2 m c2,.int .i64 (m:Nat),.int .i64 (B:Nat),.int .i64 (B:Nat),.bool false,u16,u17,u18,u19,u20,u21,.agg (u8s k),.agg #[.slice A n c,.int .u64 (pos:Nat),.int .u32 (ep:Nat)],.slice A9 BB.length c9,.agg (u8s TT),z 26,z 27,z 28,z 29,z 30,z 31,z 32,z 33],[]⟩) ∧ Holding [26,27,28,29,30,31,32,33,6,7] [some (.pointer (some ⟨w.heap.size + 1,2,none⟩)),some (.int .u32 (ep:Nat)),some (.int .u64 (ep:Nat)),none,some (.slice A9 BB.length c9),some (.slice (some ⟨w5.heap.size,0,none⟩) 32 32),none,none,none,some (.int .i64 0)] ll z ∧ Whn ll 3 (SlB (numL ep 4)) (z 29) wx ∧ Whn ll 6 (JoinB SS) (z 32) wx ∧ Whn ll 7 (OwnB w.heap.size SS) (z 33) wx ∧ Whn ll 8 (OwnB w.heap.size SS) (z 6) wx) ?_ (by kernel_rfl) ?_ ?_ _ _ _ _ (unlisted_none _) ?_
  · rintro ll aa wx ⟨hI,_⟩
    exact hI.out.1
  · rintro ll aa wx ⟨hI,z,ha,hz,hp3,hp6,hp7,hp8⟩ hall
    have hx:=Lib.hid hI.out.2
    have e9:z 7 = .int .i64 0:=hz 9 _ (hall 9 (by decide)) rfl
    have p3:=hp3.get (hall 3 (by decide))
    have p6:=hp6.get (hall 6 (by decide))
    have p7:=hp7.get (hall 7 (by decide))
    have p8:=hp8.get (hall 8 (by decide))
    clear hall hz hI hp3 hp6 hp7 hp8
    obtain rfl:=ha.out
    clear ha
    clear apx
    have HX:=Lib.hid hx.out
    have HS:=Lib.hid p8
    have E9:=Lib.hid e9
    clear e9 hx p3 p6 p7 p8
    go_wp2
    go_ret2
    refine ⟨z 6,?_,HS.out,HLow6.out.trans (HX.out.mono HLow6.out.size)⟩
    show Ending.returned (.tuple #[z 6,z 7]) = _
    rw [E9.out]
  · rintro ll aa wx i ⟨hI,z,ha,hz,hp3,hp6,hp7,hp8⟩ hi hu hw
    obtain rfl:=ha.out
    have hsz:=Lib.hid hI.out.1
    have hx:=Lib.hid hI.out.2
    clear ha hI
    have hin:i < 10:=hi
    obtain rfl | rfl | rfl | rfl | rfl | rfl | rfl | rfl | rfl | rfl:i = 0 ∨ i = 1 ∨ i = 2 ∨ i = 3 ∨ i = 4 ∨ i = 5 ∨ i = 6 ∨ i = 7 ∨ i = 8 ∨ i = 9:=by omega
    · refine wpOp_plain rfl rfl ?_
      go_simp
      exact ⟨⟨by simp [hsz.out],hx.out⟩,upd z 26 (.pointer (some ⟨w.heap.size + 1,2,none⟩)),(by unfold Hid; simp [upd]),hz.next apx hsz.out 0 (by decide) _ (fun _ h => Option.some.inj h),hp3.keep (by decide),hp6.keep (by decide),hp7.keep (by decide),hp8.keep (by decide)⟩
    · have e0:z 26 = .pointer (some ⟨w.heap.size + 1,2,none⟩):=hz 0 _ (hw 0 (by kernel_rfl)) rfl
      have cl:=cell_row ((hx.out.block _ (Array.getElem?_eq_some_iff.1 HPL6.out).1).trans HPL6.out) 2
      simp only [List.getElem?_toArray,List.getElem?_cons_zero,List.getElem?_cons_succ] at cl
      refine wpOp_plain rfl rfl ?_
      go_simp
      exact ⟨⟨by simp [hsz.out],hx.out⟩,upd z 27 (.int .u32 (ep:Nat)),(by unfold Hid; simp [upd,e0]),hz.next apx hsz.out 1 (by decide) _ (fun _ h => Option.some.inj h),hp3.keep (by decide),hp6.keep (by decide),hp7.keep (by decide),hp8.keep (by decide)⟩
    · have e1:z 27 = .int .u32 (ep:Nat):=hz 1 _ (hw 1 (by kernel_rfl)) rfl
      refine wpOp_plain rfl rfl ?_
      go_simp
      exact ⟨⟨by simp [hsz.out],hx.out⟩,upd z 28 (.int .u64 (ep:Nat)),(by unfold Hid; simp [upd,e1]),hz.next apx hsz.out 2 (by decide) _ (fun _ h => Option.some.inj h),hp3.keep (by decide),hp6.keep (by decide),hp7.keep (by decide),hp8.keep (by decide)⟩
    · have e2:z 28 = .int .u64 (ep:Nat):=hz 2 _ (hw 2 (by kernel_rfl)) rfl
      refine wpOp_plain rfl rfl ?_
      go_simp
      go_at_call 90
      refine (number_sl ep 4 (by decide) (by have:=HpE.out; omega) wx).mono ?_
      rintro e w8 ⟨vr,rfl,hsb,low⟩
      exact ⟨⟨by simp [hsz.out],hx.out.trans (low.mono hx.out.size)⟩,upd z 29 (vr),(by unfold Hid; simp [upd,e2]),hz.next apx hsz.out 3 (by decide) _ (fun _ h => by cases h),Whn.done (hsb),(hp6.keep (by decide)).map (fun h => h.later low),(hp7.keep (by decide)).map (fun h => h.later low),(hp8.keep (by decide)).map (fun h => h.later low)⟩
    · refine wpOp_plain rfl rfl ?_
      go_simp
      exact ⟨⟨by simp [hsz.out],hx.out⟩,upd z 30 (.slice A9 BB.length c9),(by unfold Hid; simp [upd]),hz.next apx hsz.out 4 (by decide) _ (fun _ h => Option.some.inj h),hp3.keep (by decide),hp6.keep (by decide),hp7.keep (by decide),hp8.keep (by decide)⟩
    · refine wpOp_plain rfl rfl ?_
      go_simp
      exact ⟨⟨by simp [hsz.out],hx.out⟩,upd z 31 (.slice (some ⟨w5.heap.size,0,none⟩) 32 32),(by unfold Hid; simp [upd]),hz.next apx hsz.out 5 (by decide) _ (fun _ h => Option.some.inj h),hp3.keep (by decide),hp6.keep (by decide),hp7.keep (by decide),hp8.keep (by decide)⟩
    · have e4:z 30 = .slice A9 BB.length c9:=hz 4 _ (hw 4 (by kernel_rfl)) rfl
      have e5:z 31 = .slice (some ⟨w5.heap.size,0,none⟩) 32 32:=hz 5 _ (hw 5 (by kernel_rfl)) rfl
      have p3:=hp3.get (hw 3 (by kernel_rfl))
      obtain ⟨A3,c3,e3,b3⟩:=p3
      have hjb0:=join3 (w:=wx) (TT:=TT) b3 (Hb9.out.below hx.out (Nat.le_refl _)) HBi.out.2 (byt_rowF ((hx.out.block _ (Array.getElem?_eq_some_iff.1 HT6.out).1).trans HT6.out) HTT.out.1) HTT.out.2 HTT.out.1
      have hjb:=HSS2.out ▸ hjb0
      clear hjb0
      refine wpOp_plain rfl rfl ?_
      go_simp
      have lown:=Below.alloc (Below.refl wx.heap.size wx) (Nat.le_refl _) (.cells #[.slice A3 (numL ep 4).length c3,.slice A9 BB.length c9,.slice (some ⟨w5.heap.size,0,none⟩) 32 32] 38)
      exact ⟨⟨by simp [hsz.out],hx.out.trans (lown.mono hx.out.size)⟩,upd z 32 (.slice (some ⟨wx.heap.size,0,none⟩) 3 3),(by unfold Hid; simp [upd,e4,e5,e3]),hz.next apx hsz.out 6 (by decide) _ (fun _ h => by cases h),(hp3.keep (by decide)).map (fun h => h.later lown),Whn.done (hjb),(hp7.keep (by decide)).map (fun h => h.later lown),(hp8.keep (by decide)).map (fun h => h.later lown)⟩
    · have p6:=hp6.get (hw 6 (by kernel_rfl))
      obtain ⟨g9,ps9,e9,hP9,hT9,hn9⟩:=p6
      refine wpOp_plain rfl rfl ?_
      simp only [e9]
      go_simp
      go_at_call 89
      refine (joined_own hP9 hT9 hn9 HSl.out.1).mono ?_
      rintro e w8 ⟨vr,rfl,hsb,low⟩
      exact ⟨⟨by simp [hsz.out],hx.out.trans (low.mono hx.out.size)⟩,upd z 33 (vr),(by unfold Hid; simp [upd,e9]),hz.next apx hsz.out 7 (by decide) _ (fun _ h => by cases h),(hp3.keep (by decide)).map (fun h => h.later low),(hp6.keep (by decide)).map (fun h => h.later low),Whn.done (hsb.base (HLow6.out.trans (hx.out.mono HLow6.out.size)).size),(hp8.keep (by decide)).map (fun h => h.later low)⟩
    · have p7:=hp7.get (hw 7 (by kernel_rfl))
      obtain ⟨x7,e7⟩:∃ x7,x7 = z 33:=⟨_,rfl⟩
      refine wpOp_plain rfl rfl ?_
      go_simp
      exact ⟨⟨by simp [hsz.out],hx.out⟩,upd z 6 (z 33),(by unfold Hid; simp [upd]),hz.next apx hsz.out 8 (by decide) _ (fun _ h => by cases h),hp3.keep (by decide),hp6.keep (by decide),hp7.keep (by decide),Whn.done (p7)⟩
    · refine wpOp_plain rfl rfl ?_
      go_simp
      exact ⟨⟨by simp [hsz.out],hx.out⟩,upd z 7 (.int .i64 0),(by unfold Hid; simp [upd]),hz.next apx hsz.out 9 (by decide) _ (fun _ h => Option.some.inj h),hp3.keep (by decide),hp6.keep (by decide),hp7.keep (by decide),hp8.keep (by decide)⟩
  · exact ⟨⟨rfl,(Below.refl _ _).drew⟩,fun xx => (#[.agg (u8s k),.agg #[.slice A n c,.int .u64 (pos:Nat),.int .u32 (ep:Nat)],.slice A2 m c2,.pointer (some ⟨w.heap.size,0,none⟩),.pointer (some ⟨w.heap.size + 1,0,none⟩),undef,.slice none 0 0,.int .i64 0,.int .i64 (B:Nat),.slice A9 BB.length c9,.pointer (some ⟨w5.heap.size,0,none⟩),.slice A2 m c2,.int .i64 (m:Nat),.int .i64 (B:Nat),.int .i64 (B:Nat),.bool false,u16,u17,u18,u19,u20,u21,.agg (u8s k),.agg #[.slice A n c,.int .u64 (pos:Nat),.int .u32 (ep:Nat)],.slice A9 BB.length c9,.agg (u8s TT),undef,undef,undef,undef,undef,undef,undef,undef]:Array Value).getD xx undef,(by rfl),Holding.start,Whn.none (by decide),Whn.none (by decide),Whn.none (by decide),Whn.none (by decide)⟩
end Go.Proofs.YteeghgjkjicjoaaGreatDoor.Seal
