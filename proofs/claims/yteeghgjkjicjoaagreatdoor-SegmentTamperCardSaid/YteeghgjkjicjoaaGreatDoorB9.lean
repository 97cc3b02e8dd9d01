/- Texts of ours, merged. -/
import Derived.Test.YteeghgjkjicjoaaGreatDoorB8
namespace Go.Proofs.YteeghgjkjicjoaaGreatDoor.Seal
open Go.RowKit
structure NI (w:World) (sl:Value) (pos ep:Nat) (N:List Int) (wx:World):Prop where
 pl:wx.heap[w.heap.size]? = some (.cells #[sl,.int .u64 (pos:Nat),.int .u32 (ep:Nat)] 106 (0,0))
 res:wx.heap[w.heap.size + 1]? = some (.cells (u8s (zeros 12)) 160 (0,0))
 non:wx.heap[w.heap.size + 1 + 1]? = some (.cells (vals N).toArray 160 (0,0))
 low:Below w.heap.size w wx
theorem NI.below {w wx wy:World} {sl:Value} {pos ep:Nat} {N:List Int} (h:NI w sl pos ep N wx) (hb:Below wx.heap.size wx wy):NI w sl pos ep N wy :=
 ⟨(hb.block _ (Array.getElem?_eq_some_iff.1 h.pl).1).trans h.pl,(hb.block _ (Array.getElem?_eq_some_iff.1 h.res).1).trans h.res,(hb.block _ (Array.getElem?_eq_some_iff.1 h.non).1).trans h.non,h.low.trans (hb.mono h.low.size)⟩
theorem NI.set {w wx wy:World} {sl:Value} {pos ep:Nat} {N N':List Int} (h:NI w sl pos ep N wx) (hN:wy.heap[w.heap.size + 1 + 1]? = some (.cells (vals N').toArray 160 (0,0))) (hc:Chg [w.heap.size + 1 + 1] wx wy):NI w sl pos ep N' wy :=
 ⟨(hc.block _ (Array.getElem?_eq_some_iff.1 h.pl).1 (by simp; omega)).trans h.pl,(hc.block _ (Array.getElem?_eq_some_iff.1 h.res).1 (by simp)).trans h.res,hN,hc.below h.low h.low.size (fun q hq => by simp at hq; omega)⟩
theorem num_sl {w:World} {g n k:Nat} (h:w.heap[g]? = some (.cells (u8s (numL n k)) 5 (0,0))):SlB (numL n k) (.slice (some ⟨g,0,none⟩) k k) w :=
 ⟨_,k,by rw [numL_length],byt_rowF h (numL_length n k)⟩
theorem splice_n1 (ep:Nat):splice (vals (zeros 12)) 0 (vals (numL ep 4)) = vals (numL ep 4 ++ zeros 8):=by
 have:=splice_at ([]:List Value) (vals (numL ep 4)) (vals (zeros 12))
 simp only [List.nil_append,List.length_nil] at this
 rw [this,vals_length,numL_length]
 simp [vals,zeros]
theorem splice_n2 (pos ep:Nat):splice (vals (numL ep 4 ++ zeros 8)) 4 (vals (numL pos 8)) = vals (nonceL pos ep):=by
 have:=splice_at (vals (numL ep 4)) (vals (numL pos 8)) (vals (zeros 8))
 rw [vals_length,numL_length,vals_length,numL_length] at this
 rw [← vals_app,this]
 simp [vals,zeros,nonceL]
theorem info12:(Tryz.prog.info? 160).map (·.size) = some 12:=by kernel_rfl
set_option maxRecDepth 100000 in
set_option maxHeartbeats 4000000 in
theorem nonce_any (sl:Value) (pos ep:Nat) (hp:pos < 18446744073709551616) (he:ep < 4294967296) (w:World):Calls Tryz.prog 115 #[.agg #[sl,.int .u64 (pos:Nat),.int .u32 (ep:Nat)]] w fun e w' => e = .returned (.agg (u8s (nonceL pos ep))) ∧ Below w.heap.size w w':=by
 have heI:(ep:Int) < 4294967296:=by omega
 have hwe:IntKind.u64.wrap (ep:Int) = ep:=by simp [IntKind.wrap,IntKind.bits,IntKind.signed]; omega
 have h3:=three_new w (.cells #[sl,.int .u64 (pos:Nat),.int .u32 (ep:Nat)] 106) (.cells (u8s (zeros 12)) 160) (.cells (u8s (zeros 12)) 160)
 have hi3:NI w sl pos ep (zeros 12) (((w.alloc (.cells #[sl,.int .u64 (pos:Nat),.int .u32 (ep:Nat)] 106)).alloc (.cells (u8s (zeros 12)) 160)).alloc (.cells (u8s (zeros 12)) 160)):=⟨h3.1,h3.2.1,h3.2.2,below3 w _ _ _⟩
 have ez:u8s (zeros 12) = #[.int .u8 0,.int .u8 0,.int .u8 0,.int .u8 0,.int .u8 0,.int .u8 0,.int .u8 0,.int .u8 0,.int .u8 0,.int .u8 0,.int .u8 0,.int .u8 0]:=rfl
 rw [ez] at hi3
 have Hi3:=Lib.hid hi3
 clear h3 hi3 ez
 obtain ⟨N,hN⟩:∃ N,N = nonceL pos ep:=⟨_,rfl⟩
 rw [← hN]
 have HN:=Lib.hid hN
 clear hN
 go_enter Tryz.func115,Tryz.ntmps115
 go_upto_region 2 with (fail)
 generalize World.alloc _ _ = w3 at Hi3 ⊢
 go_cut [9] from 4 to 9 (fun _ wx => NI w sl pos ep (numL ep 4 ++ zeros 8) wx)
 case first =>
  have apx:apartB [4,5,6,7,8,9] = true:=by decide
  refine wp_region_any (by kernel_rfl) ?_
  change wpAny _ _ _ _ _ _ _ (World.drew _)
  refine wpAny_inv2 (fun ll aa wx => Hid (ll.size = 6 ∧ LastR 5 w3 (NI w sl pos ep (numL ep 4 ++ zeros 8)) ll wx) ∧ ∃ (z:Nat → Value),Hid (aa = ⟨#[.agg #[sl,.int .u64 (pos:Nat),.int .u32 (ep:Nat)],.pointer (some ⟨w.heap.size,0,none⟩),.pointer (some ⟨w.heap.size + 1,0,none⟩),.pointer (some ⟨w.heap.size + 1 + 1,0,none⟩),z 4,z 5,z 6,z 7,z 8,z 9,undef,undef,undef,undef,undef,undef],[]⟩) ∧ Holding [4,5,6,7,8,9] [some (.slice (some ⟨w.heap.size + 1 + 1,0,none⟩) 4 12),some (.pointer (some ⟨w.heap.size,2,none⟩)),some (.int .u32 (ep:Nat)),some (.int .u64 (ep:Nat)),none,none] ll z ∧ Whu ll 4 5 (SlB (numL ep 4)) (z 8) wx) ?_ (by kernel_rfl) ?_ ?_ _ rfl _ _ ?_
  · rintro ll aa wx ⟨hI,_⟩
    exact hI.out.1
  · rintro ll aa wx ⟨hI,z,ha,hz,hp4⟩ hall
    have hx:=Lib.hid hI.out.2
    have hallq:=hall 5 (by decide)
    clear hall hz hI hp4
    obtain rfl:=ha.out
    clear ha
    clear apx
    have HX:=Lib.hid (hx.out.aft hallq)
    clear hx
    go_wp2
    go_meet
    exact HX.out
  · rintro ll aa wx i ⟨hI,z,ha,hz,hp4⟩ hcl hi hu hw
    obtain rfl:=ha.out
    have hsz:=Lib.hid hI.out.1
    have hx:=Lib.hid hI.out.2
    clear ha hI
    have hin:i < 6:=hi
    obtain rfl | rfl | rfl | rfl | rfl | rfl:i = 0 ∨ i = 1 ∨ i = 2 ∨ i = 3 ∨ i = 4 ∨ i = 5:=by omega
    · refine wpOp_plain rfl rfl ?_
      go_simp
      exact ⟨⟨by simp [hsz.out],hx.out.same (by decide)⟩,upd z 4 (.slice (some ⟨w.heap.size + 1 + 1,0,none⟩) 4 12),(by unfold Hid; simp [upd]),hz.next apx hsz.out 0 (by decide) _ (fun _ h => Option.some.inj h),hp4.keep (by decide)⟩
    · refine wpOp_plain rfl rfl ?_
      go_simp
      exact ⟨⟨by simp [hsz.out],hx.out.same (by decide)⟩,upd z 5 (.pointer (some ⟨w.heap.size,2,none⟩)),(by unfold Hid; simp [upd]),hz.next apx hsz.out 1 (by decide) _ (fun _ h => Option.some.inj h),hp4.keep (by decide)⟩
    · have e1:z 5 = .pointer (some ⟨w.heap.size,2,none⟩):=hz 1 _ (hw 1 (by kernel_rfl)) rfl
      have hnl:=notlisted hu (fun hl => hcl 3 2 (hcl 4 3 (hcl 5 4 (hl) (by kernel_rfl)) (by kernel_rfl)) (by kernel_rfl))
      have cl:=cell_row (Hi3.out.below (hx.out.bef hnl)).pl 2
      simp only [List.getElem?_toArray,List.getElem?_cons_zero,List.getElem?_cons_succ] at cl
      refine wpOp_plain rfl rfl ?_
      go_simp
      exact ⟨⟨by simp [hsz.out],hx.out.same (by decide)⟩,upd z 6 (.int .u32 (ep:Nat)),(by unfold Hid; simp [upd,e1]),hz.next apx hsz.out 2 (by decide) _ (fun _ h => Option.some.inj h),hp4.keep (by decide)⟩
    · have e2:z 6 = .int .u32 (ep:Nat):=hz 2 _ (hw 2 (by kernel_rfl)) rfl
      refine wpOp_plain rfl rfl ?_
      go_simp
      exact ⟨⟨by simp [hsz.out],hx.out.same (by decide)⟩,upd z 7 (.int .u64 (ep:Nat)),(by unfold Hid; simp [upd,e2]),hz.next apx hsz.out 3 (by decide) _ (fun _ h => Option.some.inj h),hp4.keep (by decide)⟩
    · have e3:z 7 = .int .u64 (ep:Nat):=hz 3 _ (hw 3 (by kernel_rfl)) rfl
      have hnl:=notlisted hu (fun hl => hcl 5 4 (hl) (by kernel_rfl))
      refine wpOp_plain rfl rfl ?_
      go_simp
      go_at_call 90
      refine (number_any ep 4 (by decide) (by omega) _).mono ?_
      rintro e w8 ⟨rfl,hr8,low⟩
      exact ⟨⟨by simp [hsz.out],hx.out.call (by decide) hnl low⟩,upd z 8 (Value.slice (some ⟨wx.heap.size,0,none⟩) 4 4),(by unfold Hid; simp [upd,e3]),hz.next apx hsz.out 4 (by decide) _ (fun _ h => by cases h),Whu.done (num_sl hr8)⟩
    · have e0:z 4 = .slice (some ⟨w.heap.size + 1 + 1,0,none⟩) 4 12:=hz 0 _ (hw 0 (by kernel_rfl)) rfl
      have p4:=hp4.get (hw 4 (by kernel_rfl)) hu
      obtain ⟨A9,c9,e9,b9⟩:=p4
      have hn9:=Hi3.out.below (hx.out.bef hu)
      refine wpOp_plain rfl rfl (wp_copy_chg (.tmp 4) (.tmp 8) rfl _ 4 12 A9 _ c9 (numL ep 4) e0 e9 rfl b9 (by rw [numL_length]; decide) (w.heap.size + 1 + 1) 0 _ 160 hn9.non (fun _ => rfl) (by simp [vals,zeros,numL_length]) ?_)
      intro w9 hh9 hc9
      have hn:=hn9.set (N':=numL ep 4 ++ zeros 8) (by rw [hh9,splice_n1]) hc9
      go_simp
      exact ⟨⟨by simp [hsz.out],hx.out.done (by rw [hsz.out]; decide) hn⟩,upd z 9 (.int .i64 ((numL ep 4).length:Nat)),(by unfold Hid; simp [upd,e0,e9]),hz.next apx hsz.out 5 (by decide) _ (fun _ h => by cases h),Whu.past (by rw [hsz.out]; decide)⟩
  · exact ⟨⟨rfl,LastR.start⟩,fun xx => (#[.agg #[sl,.int .u64 (pos:Nat),.int .u32 (ep:Nat)],.pointer (some ⟨w.heap.size,0,none⟩),.pointer (some ⟨w.heap.size + 1,0,none⟩),.pointer (some ⟨w.heap.size + 1 + 1,0,none⟩),undef,undef,undef,undef,undef,undef,undef,undef,undef,undef,undef,undef]:Array Value).getD xx undef,(by rfl),Holding.start,Whu.none (by decide)⟩
 case rest =>
  have Hi4:=Lib.hid hcut
  clear hcut Hi3
  go_upto_region 3 with (fail)
  go_cut [14] from 10 to 14 (fun _ wx => NI w sl pos ep (nonceL pos ep) wx)
  case first =>
   have apx:apartB [10,11,12,13,14] = true:=by decide
   refine wp_region_any (by kernel_rfl) ?_
   change wpAny _ _ _ _ _ _ _ (World.drew _)
   refine wpAny_inv2 (fun ll aa wx => Hid (ll.size = 5 ∧ LastR 4 wc (NI w sl pos ep (nonceL pos ep)) ll wx) ∧ ∃ (z:Nat → Value),Hid (aa = ⟨#[.agg #[sl,.int .u64 (pos:Nat),.int .u32 (ep:Nat)],.pointer (some ⟨w.heap.size,0,none⟩),.pointer (some ⟨w.heap.size + 1,0,none⟩),.pointer (some ⟨w.heap.size + 1 + 1,0,none⟩),u4,u5,u6,u7,u8,u9,z 10,z 11,z 12,z 13,z 14,undef],[]⟩) ∧ Holding [10,11,12,13,14] [some (.slice (some ⟨w.heap.size + 1 + 1,4,none⟩) 8 8),some (.pointer (some ⟨w.heap.size,1,none⟩)),some (.int .u64 (pos:Nat)),none,none] ll z ∧ Whu ll 3 4 (SlB (numL pos 8)) (z 13) wx) ?_ (by kernel_rfl) ?_ ?_ _ rfl _ _ ?_
   · rintro ll aa wx ⟨hI,_⟩
     exact hI.out.1
   · rintro ll aa wx ⟨hI,z,ha,hz,hp3⟩ hall
     have hx:=Lib.hid hI.out.2
     have hallq:=hall 4 (by decide)
     clear hall hz hI hp3
     obtain rfl:=ha.out
     clear ha
     clear apx
     have HX:=Lib.hid (hx.out.aft hallq)
     clear hx
     go_wp2
     go_meet
     exact HX.out
   · rintro ll aa wx i ⟨hI,z,ha,hz,hp3⟩ hcl hi hu hw
     obtain rfl:=ha.out
     have hsz:=Lib.hid hI.out.1
     have hx:=Lib.hid hI.out.2
     clear ha hI
     have hin:i < 5:=hi
     obtain rfl | rfl | rfl | rfl | rfl:i = 0 ∨ i = 1 ∨ i = 2 ∨ i = 3 ∨ i = 4:=by omega
     · refine wpOp_plain rfl rfl ?_
       go_simp
       exact ⟨⟨by simp [hsz.out],hx.out.same (by decide)⟩,upd z 10 (.slice (some ⟨w.heap.size + 1 + 1,4,none⟩) 8 8),(by unfold Hid; simp [upd]),hz.next apx hsz.out 0 (by decide) _ (fun _ h => Option.some.inj h),hp3.keep (by decide)⟩
     · refine wpOp_plain rfl rfl ?_
       go_simp
       exact ⟨⟨by simp [hsz.out],hx.out.same (by decide)⟩,upd z 11 (.pointer (some ⟨w.heap.size,1,none⟩)),(by unfold Hid; simp [upd]),hz.next apx hsz.out 1 (by decide) _ (fun _ h => Option.some.inj h),hp3.keep (by decide)⟩
     · have e1:z 11 = .pointer (some ⟨w.heap.size,1,none⟩):=hz 1 _ (hw 1 (by kernel_rfl)) rfl
       have hnl:=notlisted hu (fun hl => hcl 3 2 (hcl 4 3 (hl) (by kernel_rfl)) (by kernel_rfl))
       have cl:=cell_row (Hi4.out.below (hx.out.bef hnl)).pl 1
       simp only [List.getElem?_toArray,List.getElem?_cons_zero,List.getElem?_cons_succ] at cl
       refine wpOp_plain rfl rfl ?_
       go_simp
       exact ⟨⟨by simp [hsz.out],hx.out.same (by decide)⟩,upd z 12 (.int .u64 (pos:Nat)),(by unfold Hid; simp [upd,e1]),hz.next apx hsz.out 2 (by decide) _ (fun _ h => Option.some.inj h),hp3.keep (by decide)⟩
     · have e2:z 12 = .int .u64 (pos:Nat):=hz 2 _ (hw 2 (by kernel_rfl)) rfl
       have hnl:=notlisted hu (fun hl => hcl 4 3 (hl) (by kernel_rfl))
       refine wpOp_plain rfl rfl ?_
       go_simp
       go_at_call 90
       refine (number_any pos 8 (by decide) (by omega) _).mono ?_
       rintro e w8 ⟨rfl,hr8,low⟩
       exact ⟨⟨by simp [hsz.out],hx.out.call (by decide) hnl low⟩,upd z 13 (Value.slice (some ⟨wx.heap.size,0,none⟩) 8 8),(by unfold Hid; simp [upd,e2]),hz.next apx hsz.out 3 (by decide) _ (fun _ h => by cases h),Whu.done (num_sl hr8)⟩
     · have e0:z 10 = .slice (some ⟨w.heap.size + 1 + 1,4,none⟩) 8 8:=hz 0 _ (hw 0 (by kernel_rfl)) rfl
       have p3:=hp3.get (hw 3 (by kernel_rfl)) hu
       obtain ⟨A9,c9,e9,b9⟩:=p3
       have hn9:=Hi4.out.below (hx.out.bef hu)
       refine wpOp_plain rfl rfl (wp_copy_chg (.tmp 10) (.tmp 13) rfl _ 8 8 A9 _ c9 (numL pos 8) e0 e9 rfl b9 (by rw [numL_length]; decide) (w.heap.size + 1 + 1) 4 _ 160 hn9.non (fun _ => rfl) (by simp [vals,zeros,numL_length]) ?_)
       intro w9 hh9 hc9
       have hn:=hn9.set (N':=nonceL pos ep) (by rw [hh9,splice_n2]) hc9
       go_simp
       exact ⟨⟨by simp [hsz.out],hx.out.done (by rw [hsz.out]; decide) hn⟩,upd z 14 (.int .i64 ((numL pos 8).length:Nat)),(by unfold Hid; simp [upd,e0,e9]),hz.next apx hsz.out 4 (by decide) _ (fun _ h => by cases h),Whu.past (by rw [hsz.out]; decide)⟩
   · exact ⟨⟨rfl,LastR.start⟩,fun xx => (#[.agg #[sl,.int .u64 (pos:Nat),.int .u32 (ep:Nat)],.pointer (some ⟨w.heap.size,0,none⟩),.pointer (some ⟨w.heap.size + 1,0,none⟩),.pointer (some ⟨w.heap.size + 1 + 1,0,none⟩),u4,u5,u6,u7,u8,u9,undef,undef,undef,undef,undef,undef]:Array Value).getD xx undef,(by rfl),Holding.start,Whu.none (by decide)⟩
  case rest =>
   have H5:=Lib.hid hcut
   clear hcut Hi4
   have hn12:N.length = 12:=by rw [HN.out,nonceL_length]
   have Hs:Hid ((Tryz.prog.info? 160).map (·.size) = some (u8s N).size):=by show _ = _; rw [u8s_size,hn12]; exact info12
   have Hone:=Lib.hid (u8s_one N)
   have Hz0:=Lib.hid (H5.out.res)
   have Hn0:Hid (wc.heap[w.heap.size + 1 + 1]? = some (.cells (u8s N) 160 (0,0))):=by rw [HN.out]; exact H5.out.non
   have HL:=Lib.hid H5.out.low
   have Hsz:Hid ((u8s (zeros 12)).size = (u8s N).size):=by show _ = _; rw [u8s_size,u8s_size,hn12]; rfl
   clear H5 HN
   generalize u8s (zeros 12) = Z at Hz0 Hsz
   go_wp2_with (first
    | (with_reducible refine wpList_load_row rfl 160 (.tmp 3) rfl (w.heap.size + 1 + 1) rfl 160 (u8s N) (0,0) _ Hn0.out Tryz.underlying160 rfl Hs.out ?_)
    | (refine wpList_store_row rfl 160 (.tmp 2) (.tmp 15) rfl (w.heap.size + 1) (u8s N) (by rfl) (by rfl) 160 _ Hz0.out Hs.out Hsz.out Hone.out ?_))
   exact bodyPost_ret (v:=.agg (u8s N)) (results_cell_row rfl _ _ (w.heap.size + 1) 160 _ (0,0) _ rfl (setRow_heap _ _ _ _ _ _ Hz0.out) Tryz.underlying160 rfl Hs.out) rfl ⟨rfl,below_setRow HL.out (by omega) _⟩
structure SLaid (w:World):Prop where
 sha:Laid w
 cha:Cha.Laid w
theorem SLaid.later {w w':World} (h:SLaid w) (hb:Below w.heap.size w w'):SLaid w':=⟨h.sha.below hb h.sha.sz,h.cha.below hb h.cha.lt⟩
theorem keyL_length (k nm cx:List Int):(keyL k nm cx).length = 32:=hmacL_length _ _
theorem partsAt_one {w:World} {g:Nat} {A:Option Addr} {c:Nat} {C:List Int} (hg:w.cell? ⟨g,0,none⟩ = some (.slice A C.length c)) (hB:Byt w A c C) (hb:InB C):PartsAt w (some ⟨g,0,none⟩) [⟨A,c,C⟩] :=
 ⟨fun j h => by
  obtain rfl:j = 0:=by simp at h; omega
  exact ⟨g,0,rfl,World.block_lt_of_cell? _ _ hg,hg⟩,fun j h => by
  obtain rfl:j = 0:=by simp at h; omega
  exact ⟨hB,hb⟩⟩
theorem key_call (k C nm:List Int) (s:ByteArray) (hs:bytesOf s = nm) (A:Option Addr) (n c g:Nat) (w:World) (hk:k.length = 32) (hb:InB k) (hC:C.length = n) (hCb:InB C) (hn:n ≤ 1000) (hs2:nm.length ≤ 100) (hL:Laid w) (hB:Byt w A c C) (hg:w.cell? ⟨g,0,none⟩ = some (.slice A n c)) :
 Calls Tryz.prog 113 #[.agg (u8s k),.string s,.slice (some ⟨g,0,none⟩) 1 1] w fun e w' => e = .returned (.agg (u8s (keyL k nm C))) ∧ Below w.heap.size w w':=by
 subst hs hC
 have e:canonL (bytesOf s) [⟨A,c,C⟩] = partL (bytesOf s) ++ partL C:=by simp [canonL]
 have h:=derive_any k s (some ⟨g,0,none⟩) 1 1 [⟨A,c,C⟩] w hk hb rfl (partsAt_one hg hB hCb) hL (by rw [e,List.length_append,partL_length,partL_length]; omega)
 rw [e] at h
 exact h
theorem keyL_in (k nm cx:List Int):InB (keyL k nm cx):=hmacL_in _ _
theorem wpList_store_new {ops:Array Oper} {rest:List Oper} {o:Oper} {a:Act} {w:World} {Q:Exit → Act → World → Prop} (hgd:o.guard = none) (x y:Operand) (ho:o.op = .store 24 x y) (l:List Int) (hl:l.length = 32)
 (C:Array Value) (hC:C.size = 32) (hx:a.eval x = .pointer (some ⟨w.heap.size,0,none⟩)) (hy:a.eval y = .agg (u8s l))
 (h:∀ w',w'.heap[w.heap.size]? = some (.cells (u8s l) 24 (0,0)) → Below w.heap.size w w' → wpList Tryz.prog ops Q rest (a.put o.dst undef) w'):wpList Tryz.prog ops Q (o :: rest) a (w.alloc (.cells C 24)):=by
 have hi:(Tryz.prog.info? 24).map (·.size) = some (u8s l).size:=by rw [u8s_size,hl]; exact info35
 refine wpList_store_row hgd 24 x y ho w.heap.size (u8s l) hx hy 24 C (Go.heap_alloc_new w _) hi (by rw [u8s_size,hl,hC]) (u8s_one _) ?_
 exact h _ (setRow_heap _ _ _ _ _ _ (Go.heap_alloc_new w _)) (below_setRow ((Below.refl _ _).alloc (Nat.le_refl _) _) (Nat.le_refl _) _)
theorem infoP:(Tryz.prog.info? 106).map (·.size) = some 3:=by kernel_rfl
theorem infoH:(Tryz.prog.info? 24).map (·.size) = some 32:=by kernel_rfl
def TuB (L:List Int) (v:Value) (w:World):Prop:=∃ A c,v = .tuple #[.slice A L.length c,.int .i64 0] ∧ Byt w A c L
theorem TuB.later {L:List Int} {v:Value} {w w':World} (h:TuB L v w) (hb:Below w.heap.size w w'):TuB L v w':=by
 obtain ⟨A,c,e,b⟩:=h
 exact ⟨A,c,e,b.below hb (Nat.le_refl _)⟩
theorem low3 (w:World) (A B C:Obj):Below w.heap.size w (((w.alloc A).alloc B).alloc C):=below3 w A B C
theorem nonce_at {sl:Value} {pos ep:Nat} {N:List Int} (hN:N = nonceL pos ep) (hp:pos < 18446744073709551616 ∧ ep < 4294967296) (w:World):Calls Tryz.prog 115 #[.agg #[sl,.int .u64 (pos:Nat),.int .u32 (ep:Nat)]] w fun e w' => e = .returned (.agg (u8s N)) ∧ Below w.heap.size w w':=by
 subst hN
 exact nonce_any sl pos ep hp.1 hp.2 w
theorem stream_at {K N L:List Int} {A:Option Addr} {m c:Nat} {w:World} (hK:K.length = 32) (bK:InB K) (hN:N.length = 12) (bN:InB N) (hl:L.length = m) (hs:m ≤ 131072) (hB:Byt w A c L) (hL:Cha.Laid w) :
 Calls Tryz.prog 114 #[.agg (u8s K),.int .u32 1,.agg (u8s N),.slice A m c] w fun e w' => ∃ v,e = .returned v ∧ TuB (Cha.streamL K 1 N L) v w' ∧ Below w.heap.size w w':=by
 have hc:(1:Int) + (Cha.nbl m:Nat) ≤ 4294967296:=by unfold Cha.nbl; omega
 refine (Cha.stream_any K N L 1 A m c hK hN bK bN hl (by omega) (by decide) (by decide) hc w hB hL).mono ?_
 rintro e w' ⟨A',c',rfl,hb,low⟩
 exact ⟨_,rfl,⟨A',c',by rw [Cha.streamL_length,hl],hb⟩,low⟩
set_option maxRecDepth 100000 in
set_option maxHeartbeats 4000000 in
theorem ciphered_any (k C L:List Int) (pos ep:Nat) (A A2:Option Addr) (n c m c2:Nat) (w:World) (hk:k.length = 32) (hb:InB k) (hC:C.length = n) (hCb:InB C) (hn:n ≤ 1000) (hL:L.length = m) (hm:m ≤ 131072) (hp:pos < 18446744073709551616 ∧ ep < 4294967296) (hB1:Byt w A c C) (hB2:Byt w A2 c2 L) (hLd:SLaid w) :
 Calls Tryz.prog 86 #[.agg (u8s k),.agg #[.slice A n c,.int .u64 (pos:Nat),.int .u32 (ep:Nat)],.slice A2 m c2] w fun e w' => ∃ v,e = .returned v ∧ SlB (bodyL k C pos ep L) v w' ∧ Below w.heap.size w w':=by
 obtain ⟨KK,hKK⟩:∃ KK,KK = keyL k encName C:=⟨_,rfl⟩
 obtain ⟨NN,hNN⟩:∃ NN,NN = nonceL pos ep:=⟨_,rfl⟩
 have e:bodyL k C pos ep L = Cha.streamL KK 1 NN L:=by rw [hKK,hNN]; rfl
 rw [e]
 have HKe:=Lib.hid hKK
 have HNN:=Lib.hid hNN
 have HKN:Hid (KK.length = 32 ∧ InB KK ∧ NN.length = 12 ∧ InB NN):=⟨by rw [hKK]; exact keyL_length _ _ _,by rw [hKK]; exact keyL_in _ _ _,by rw [hNN]; exact nonceL_length _ _,by rw [hNN]; exact nonceL_in _ _⟩
 have Hk:Hid (k.length = 32 ∧ InB k):=⟨hk,hb⟩
 have HCC:Hid (C.length = n ∧ InB C):=⟨hC,hCb⟩
 have HL2:Hid (L.length = m ∧ m ≤ 131072):=⟨hL,hm⟩
 have HpE:=Lib.hid hp
 have HB1:=Lib.hid hB1
 have HB20:=Lib.hid hB2
 have HLD:=Lib.hid hLd
 have HsK:Hid ((Tryz.prog.info? 24).map (·.size) = some (u8s KK).size):=by show _ = _; rw [u8s_size,HKN.out.1]; exact infoH
 have HsK0:Hid ((Tryz.prog.info? 24).map (·.size) = some (u8s k).size):=by show _ = _; rw [u8s_size,hk]; exact infoH
 clear hKK hNN e hk hb hC hCb hL hB1 hB2 hLd hp
 go_enter Tryz.func86,Tryz.ntmps86
 go_upto_region 2 with (first
  | (go_at_call 113; refine (key_call k C encName _ rfl A n c (w.heap.size + 1 + 1) _ Hk.out.1 Hk.out.2 HCC.out.1 HCC.out.2 hn (by decide) (HLD.out.sha.below (low3 w _ _ _) HLD.out.sha.sz) (HB1.out.below (low3 w _ _ _) (Nat.le_refl _)) (cell_row (three_new w _ _ _).2.2 0)).mono ?_; rintro e w2 ⟨rfl,hb2⟩; rw [← HKe.out]; have Hb2:=Lib.hid hb2; clear hb2)
  | (refine wpList_store_new rfl (.tmp 7) (.tmp 14) rfl KK HKN.out.1 _ (by rfl) (by rfl) (by rfl) ?_; intro w3 hr3 hb3; have HKK:=Lib.hid hr3; have Hb3:=Lib.hid hb3; clear hr3 hb3)
  | (refine wpList_load_row rfl 24 (.tmp 3) rfl w.heap.size rfl 24 (u8s k) (0,0) _ (two_new w _ _).1 Tryz.underlying24 rfl HsK0.out ?_))
 have h3:=Hb2.out.size
 rw [World.size_alloc,World.size_alloc,World.size_alloc] at h3
 have hlow2:Below w.heap.size w w2:=(low3 w _ _ _).trans (Hb2.out.mono (by rw [World.size_alloc,World.size_alloc,World.size_alloc]; omega))
 have HLow:=Lib.hid (hlow2.trans (Hb3.out.mono hlow2.size))
 have HPL:Hid (w3.heap[w.heap.size + 1]? = some (.cells #[.slice A n c,.int .u64 (pos:Nat),.int .u32 (ep:Nat)] 106 (0,0))):=(Hb3.out.block _ (by omega)).trans ((Hb2.out.block _ (by rw [World.size_alloc,World.size_alloc,World.size_alloc]; omega)).trans (three_new w _ _ _).2.1)
 have HC:Hid (Cha.Laid w3):=HLD.out.cha.below HLow.out HLD.out.cha.lt
 have HCl:Hid (0 < w3.heap.size):=HC.out.lt
 have HB2:=Lib.hid (HB20.out.below HLow.out (Nat.le_refl _))
 clear Hb2 Hb3 h3 hlow2 HB20 HB1 HLD
 have apx:apartB [16,17,18,19,20,15,21,22,8,9] = true:=by decide
 refine wp_region_any (by kernel_rfl) ?_
 change wpAny _ _ _ _ _ _ _ (World.drew _)
 refine wpAny_inv (fun ll aa wx => Hid (ll.size = 10 ∧ Below w3.heap.size w3 wx) ∧ ∃ (z:Nat → Value),Hid (aa = ⟨#[.agg (u8s k),.agg #[.slice A n c,.int .u64 (pos:Nat),.int .u32 (ep:Nat)],.slice A2 m c2,.pointer (some ⟨w.heap.size,0,none⟩),.pointer (some ⟨w.heap.size + 1,0,none⟩),undef,.slice none 0 0,.pointer (some ⟨w2.heap.size,0,none⟩),z 8,z 9,.agg (u8s k),.pointer (some ⟨w.heap.size + 1,0,none⟩),.slice A n c,.slice (some ⟨w.heap.size + 1 + 1,0,none⟩) 1 1,.agg (u8s KK),z 15,z 16,z 17,z 18,z 19,z 20,z 21,z 22,undef],[]⟩) ∧ Holding [16,17,18,19,20,15,21,22,8,9] [some (.agg (u8s KK)),some (.agg #[.slice A n c,.int .u64 (pos:Nat),.int .u32 (ep:Nat)]),some (.agg (u8s NN)),some (.slice A2 m c2),none,none,none,some (.int .i64 0),none,some (.int .i64 0)] ll z ∧ Whn ll 4 (TuB (Cha.streamL KK 1 NN L)) (z 20) wx ∧ Whn ll 5 (TuB (Cha.streamL KK 1 NN L)) (z 15) wx ∧ Whn ll 6 (SlB (Cha.streamL KK 1 NN L)) (z 21) wx ∧ Whn ll 8 (SlB (Cha.streamL KK 1 NN L)) (z 8) wx) ?_ (by kernel_rfl) ?_ ?_ _ _ _ _ (unlisted_none _) ?_
 · rintro ll aa wx ⟨hI,_⟩
   exact hI.out.1
 · rintro ll aa wx ⟨hI,z,ha,hz,hp4,hp5,hp6,hp8⟩ hall
   have hx:=Lib.hid hI.out.2
   have p4:=hp4.get (hall 4 (by decide))
   have p5:=hp5.get (hall 5 (by decide))
   have p6:=hp6.get (hall 6 (by decide))
   have p8:=hp8.get (hall 8 (by decide))
   clear hall hz hI hp4 hp5 hp6 hp8
   obtain rfl:=ha.out
   clear ha
   clear apx
   obtain ⟨A9,c9,eS,b9⟩:=p8
   have HX:=Lib.hid hx.out
   have B9:=Lib.hid b9
   clear hx b9 p4 p5 p6
   go_wp2
   go_ret
   exact ⟨_,rfl,⟨A9,c9,eS,B9.out⟩,HLow.out.trans (HX.out.mono HLow.out.size)⟩
 · rintro ll aa wx i ⟨hI,z,ha,hz,hp4,hp5,hp6,hp8⟩ hi hu hw
   obtain rfl:=ha.out
   have hsz:=Lib.hid hI.out.1
   have hx:=Lib.hid hI.out.2
   clear ha hI
   have hin:i < 10:=hi
   obtain rfl | rfl | rfl | rfl | rfl | rfl | rfl | rfl | rfl | rfl:i = 0 ∨ i = 1 ∨ i = 2 ∨ i = 3 ∨ i = 4 ∨ i = 5 ∨ i = 6 ∨ i = 7 ∨ i = 8 ∨ i = 9:=by omega
   · have cl:=(hx.out.block _ (Array.getElem?_eq_some_iff.1 HKK.out).1).trans HKK.out
     refine wpOp_plain rfl rfl (wp_load_row 24 (.tmp 7) rfl (w2.heap.size) rfl 24 (u8s KK) (0,0) _ cl Tryz.underlying24 rfl HsK.out ?_)
     go_simp
     exact ⟨⟨by simp [hsz.out],hx.out⟩,upd z 16 (.agg (u8s KK)),(by unfold Hid; simp [upd]),hz.next apx hsz.out 0 (by decide) _ (fun _ h => Option.some.inj h),hp4.keep (by decide),hp5.keep (by decide),hp6.keep (by decide),hp8.keep (by decide)⟩
   · have cl:=(hx.out.block _ (Array.getElem?_eq_some_iff.1 HPL.out).1).trans HPL.out
     refine wpOp_plain rfl rfl (wp_load_row 106 (.tmp 4) rfl (w.heap.size + 1) rfl 106 #[.slice A n c,.int .u64 (pos:Nat),.int .u32 (ep:Nat)] (0,0) _ cl Tryz.underlying106 rfl infoP ?_)
     go_simp
     exact ⟨⟨by simp [hsz.out],hx.out⟩,upd z 17 (.agg #[.slice A n c,.int .u64 (pos:Nat),.int .u32 (ep:Nat)]),(by unfold Hid; simp [upd]),hz.next apx hsz.out 1 (by decide) _ (fun _ h => Option.some.inj h),hp4.keep (by decide),hp5.keep (by decide),hp6.keep (by decide),hp8.keep (by decide)⟩
   · have e1:z 17 = .agg #[.slice A n c,.int .u64 (pos:Nat),.int .u32 (ep:Nat)]:=hz 1 _ (hw 1 (by kernel_rfl)) rfl
     refine wpOp_plain rfl rfl ?_
     go_simp
     go_at_call 115
     refine (nonce_at HNN.out HpE.out wx).mono ?_
     rintro e w8 ⟨rfl,low⟩
     exact ⟨⟨by simp [hsz.out],hx.out.trans (low.mono hx.out.size)⟩,upd z 18 (.agg (u8s NN)),(by unfold Hid; simp [upd,e1]),hz.next apx hsz.out 2 (by decide) _ (fun _ h => Option.some.inj h),(hp4.keep (by decide)).map (fun h => h.later low),(hp5.keep (by decide)).map (fun h => h.later low),(hp6.keep (by decide)).map (fun h => h.later low),(hp8.keep (by decide)).map (fun h => h.later low)⟩
   · refine wpOp_plain rfl rfl ?_
     go_simp
     exact ⟨⟨by simp [hsz.out],hx.out⟩,upd z 19 (.slice A2 m c2),(by unfold Hid; simp [upd]),hz.next apx hsz.out 3 (by decide) _ (fun _ h => Option.some.inj h),hp4.keep (by decide),hp5.keep (by decide),hp6.keep (by decide),hp8.keep (by decide)⟩
   · have e0:z 16 = .agg (u8s KK):=hz 0 _ (hw 0 (by kernel_rfl)) rfl
     have e2:z 18 = .agg (u8s NN):=hz 2 _ (hw 2 (by kernel_rfl)) rfl
     have e3:z 19 = .slice A2 m c2:=hz 3 _ (hw 3 (by kernel_rfl)) rfl
     refine wpOp_plain rfl rfl ?_
     go_simp
     go_at_call 114
     refine (stream_at HKN.out.1 HKN.out.2.1 HKN.out.2.2.1 HKN.out.2.2.2 HL2.out.1 HL2.out.2 (HB2.out.below hx.out (Nat.le_refl _)) (HC.out.below hx.out HCl.out)).mono ?_
     rintro e w8 ⟨vr,rfl,hsb,low⟩
     exact ⟨⟨by simp [hsz.out],hx.out.trans (low.mono hx.out.size)⟩,upd z 20 (vr),(by unfold Hid; simp [upd,e0,e2,e3]),hz.next apx hsz.out 4 (by decide) _ (fun _ h => by cases h),Whn.done (hsb),(hp5.keep (by decide)).map (fun h => h.later low),(hp6.keep (by decide)).map (fun h => h.later low),(hp8.keep (by decide)).map (fun h => h.later low)⟩
   · have p4:=hp4.get (hw 4 (by kernel_rfl))
     obtain ⟨A9,c9,e9,b9⟩:=p4
     refine wpOp_plain rfl rfl ?_
     go_simp
     exact ⟨⟨by simp [hsz.out],hx.out⟩,upd z 15 (.tuple #[.slice A9 (Cha.streamL KK 1 NN L).length c9,.int .i64 0]),(by unfold Hid; simp [upd,e9]),hz.next apx hsz.out 5 (by decide) _ (fun _ h => by cases h),hp4.keep (by decide),Whn.done (⟨A9,c9,rfl,b9⟩),hp6.keep (by decide),hp8.keep (by decide)⟩
   · have p5:=hp5.get (hw 5 (by kernel_rfl))
     obtain ⟨A9,c9,e9,b9⟩:=p5
     refine wpOp_plain rfl rfl ?_
     go_simp
     exact ⟨⟨by simp [hsz.out],hx.out⟩,upd z 21 (.slice A9 (Cha.streamL KK 1 NN L).length c9),(by unfold Hid; simp [upd,e9]),hz.next apx hsz.out 6 (by decide) _ (fun _ h => by cases h),hp4.keep (by decide),hp5.keep (by decide),Whn.done (⟨A9,c9,rfl,b9⟩),hp8.keep (by decide)⟩
   · have p5:=hp5.get (hw 5 (by kernel_rfl))
     obtain ⟨A9,c9,e9,b9⟩:=p5
     refine wpOp_plain rfl rfl ?_
     go_simp
     exact ⟨⟨by simp [hsz.out],hx.out⟩,upd z 22 (.int .i64 0),(by unfold Hid; simp [upd,e9]),hz.next apx hsz.out 7 (by decide) _ (fun _ h => Option.some.inj h),hp4.keep (by decide),hp5.keep (by decide),hp6.keep (by decide),hp8.keep (by decide)⟩
   · have p6:=hp6.get (hw 6 (by kernel_rfl))
     obtain ⟨A9,c9,e9,b9⟩:=p6
     refine wpOp_plain rfl rfl ?_
     go_simp
     exact ⟨⟨by simp [hsz.out],hx.out⟩,upd z 8 (.slice A9 (Cha.streamL KK 1 NN L).length c9),(by unfold Hid; simp [upd,e9]),hz.next apx hsz.out 8 (by decide) _ (fun _ h => by cases h),hp4.keep (by decide),hp5.keep (by decide),hp6.keep (by decide),Whn.done (⟨A9,c9,rfl,b9⟩)⟩
   · have e7:z 22 = .int .i64 0:=hz 7 _ (hw 7 (by kernel_rfl)) rfl
     refine wpOp_plain rfl rfl ?_
     go_simp
     exact ⟨⟨by simp [hsz.out],hx.out⟩,upd z 9 (.int .i64 0),(by unfold Hid; simp [upd,e7]),hz.next apx hsz.out 9 (by decide) _ (fun _ h => Option.some.inj h),hp4.keep (by decide),hp5.keep (by decide),hp6.keep (by decide),hp8.keep (by decide)⟩
 · exact ⟨⟨rfl,(Below.refl _ _).drew⟩,fun xx => (#[.agg (u8s k),.agg #[.slice A n c,.int .u64 (pos:Nat),.int .u32 (ep:Nat)],.slice A2 m c2,.pointer (some ⟨w.heap.size,0,none⟩),.pointer (some ⟨w.heap.size + 1,0,none⟩),undef,.slice none 0 0,.pointer (some ⟨w2.heap.size,0,none⟩),undef,undef,.agg (u8s k),.pointer (some ⟨w.heap.size + 1,0,none⟩),.slice A n c,.slice (some ⟨w.heap.size + 1 + 1,0,none⟩) 1 1,.agg (u8s KK),undef,undef,undef,undef,undef,undef,undef,undef,undef]:Array Value).getD xx undef,(by rfl),Holding.start,Whn.none (by decide),Whn.none (by decide),Whn.none (by decide),Whn.none (by decide)⟩
end Go.Proofs.YteeghgjkjicjoaaGreatDoor.Seal
