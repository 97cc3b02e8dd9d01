/- Texts of ours, merged. -/
import Derived.Test.YteeghgjkjicjoaaGreatDoorC31
set_option maxRecDepth 100000
set_option maxHeartbeats 16000000
namespace Go.Proofs.YteeghgjkjicjoaaGreatDoor.Cha
open Go.RowKit
structure RR (S L:List Int) (g gs:Nat) (w wx:World):Prop where
 src:Wds wx gs S
 row:Wds wx g L
 free:∀ j,j < 16 -> wx.frozen? ⟨g,j,none⟩ = false
 low:Below w.heap.size w wx
 hg:w.heap.size <= g
 hgs:gs < w.heap.size
theorem RR.set {S L:List Int} {g gs:Nat} {w wx:World} (h:RR S L g gs w wx) (k:Nat) (v:Int):RR S (L.set k v) g gs w (wx.setCell ⟨g,k,none⟩ (.int .u32 v)):=by
 have h1:=h.hg
 have h2:=h.hgs
 refine ⟨⟨by simpa using h.src.1,fun j hj => ?_⟩,⟨by simpa using h.row.1,fun j hj => ?_⟩,fun j hj => by simpa using h.free j hj,h.low.setCell h1 _,h1,h2⟩
 . rw [World.cell?_setCell_other wx ⟨g,k,none⟩ ⟨gs,j,none⟩ _ (fun h0 => by injection h0 with hb; omega)]
   exact h.src.2 j hj
 . rw [List.length_set] at hj
   by_cases e:k = j
   . subst e
     rw [World.cell?_setCell_same _ _ _ (h.row.2 k hj)]
     simp [List.getD_eq_getElem?_getD,hj]
   . rw [World.cell?_setCell_other wx ⟨g,k,none⟩ ⟨g,j,none⟩ _ (fun h0 => e (by injection h0)),h.row.2 j hj]
     simp [List.getD_eq_getElem?_getD,e]
theorem RR.later {S L:List Int} {g gs:Nat} {w wx:World} (h:RR S L g gs w wx):RR S L g gs w wx.drew :=
 ⟨h.src,h.row,h.free,h.low.trans (Below.refl _ _).drew,h.hg,h.hgs⟩
structure RQ (S:List Int) (A B C D:Nat) (t:List Int) (l:Array Bool) (m g gs:Nat) (w wx:World):Prop where
 sz:l.size = 38
 inv:RR S (wrote S A B C D t m) g gs w wx
 c1:l.getD 31 false = decide (1 <= m)
 c2:l.getD 33 false = decide (2 <= m)
 c3:l.getD 35 false = decide (3 <= m)
 c4:l.getD 37 false = decide (4 <= m)
 hm:m <= 4
section
variable {S:List Int} {A B C D:Nat} {t:List Int} {l:Array Bool} {m g gs:Nat} {w wx:World}
theorem RQ.read (h:RQ S A B C D t l m g gs w wx) (i:Nat) (hi:i ≠ 31 /\ i ≠ 33 /\ i ≠ 35 /\ i ≠ 37):RQ S A B C D t (l.setIfInBounds i true) m g gs w wx where
 sz:=by simp [h.sz]
 inv:=h.inv
 c1:=by rw [getD_set_ne false hi.1]; exact h.c1
 c2:=by rw [getD_set_ne false hi.2.1]; exact h.c2
 c3:=by rw [getD_set_ne false hi.2.2.1]; exact h.c3
 c4:=by rw [getD_set_ne false hi.2.2.2]; exact h.c4
 hm:=h.hm
theorem RQ.w1 (h:RQ S A B C D t l m g gs w wx) (hu:l.getD 31 false = false):m = 0 /\ RQ S A B C D t (l.setIfInBounds 31 true) 1 g gs w (wx.setCell ⟨g,A,none⟩ (.int .u32 (t.getD 0 0))):=by
 have hm:m = 0:=by
  have h2:=h.c1
  rw [hu] at h2
  have h3:=of_decide_eq_false h2.symm
  omega
 subst hm
 refine ⟨rfl,by simp [h.sz],h.inv.set _ _,?_,?_,?_,?_,by omega⟩
 . simp [h.sz]
 . rw [getD_set_ne false (by omega),h.c2]; rfl
 . rw [getD_set_ne false (by omega),h.c3]; rfl
 . rw [getD_set_ne false (by omega),h.c4]; rfl
theorem RQ.w2 (h:RQ S A B C D t l m g gs w wx) (hp:l.getD 31 false = true) (hu:l.getD 33 false = false):m = 1 /\ RQ S A B C D t (l.setIfInBounds 33 true) 2 g gs w (wx.setCell ⟨g,B,none⟩ (.int .u32 (t.getD 1 0))):=by
 have hm:m = 1:=by
  have h1:=h.c1
  rw [hp] at h1
  have h4:=of_decide_eq_true h1.symm
  have h2:=h.c2
  rw [hu] at h2
  have h3:=of_decide_eq_false h2.symm
  omega
 subst hm
 refine ⟨rfl,by simp [h.sz],h.inv.set _ _,?_,?_,?_,?_,by omega⟩
 . rw [getD_set_ne false (by omega),h.c1]; rfl
 . simp [h.sz]
 . rw [getD_set_ne false (by omega),h.c3]; rfl
 . rw [getD_set_ne false (by omega),h.c4]; rfl
theorem RQ.w3 (h:RQ S A B C D t l m g gs w wx) (hp:l.getD 33 false = true) (hu:l.getD 35 false = false):m = 2 /\ RQ S A B C D t (l.setIfInBounds 35 true) 3 g gs w (wx.setCell ⟨g,C,none⟩ (.int .u32 (t.getD 2 0))):=by
 have hm:m = 2:=by
  have h1:=h.c2
  rw [hp] at h1
  have h4:=of_decide_eq_true h1.symm
  have h2:=h.c3
  rw [hu] at h2
  have h3:=of_decide_eq_false h2.symm
  omega
 subst hm
 refine ⟨rfl,by simp [h.sz],h.inv.set _ _,?_,?_,?_,?_,by omega⟩
 . rw [getD_set_ne false (by omega),h.c1]; rfl
 . rw [getD_set_ne false (by omega),h.c2]; rfl
 . simp [h.sz]
 . rw [getD_set_ne false (by omega),h.c4]; rfl
theorem RQ.w4 (h:RQ S A B C D t l m g gs w wx) (hp:l.getD 35 false = true) (hu:l.getD 37 false = false):m = 3 /\ RQ S A B C D t (l.setIfInBounds 37 true) 4 g gs w (wx.setCell ⟨g,D,none⟩ (.int .u32 (t.getD 3 0))):=by
 have hm:m = 3:=by
  have h1:=h.c3
  rw [hp] at h1
  have h4:=of_decide_eq_true h1.symm
  have h2:=h.c4
  rw [hu] at h2
  have h3:=of_decide_eq_false h2.symm
  omega
 subst hm
 refine ⟨rfl,by simp [h.sz],h.inv.set _ _,?_,?_,?_,?_,by omega⟩
 . rw [getD_set_ne false (by omega),h.c1]; rfl
 . rw [getD_set_ne false (by omega),h.c2]; rfl
 . rw [getD_set_ne false (by omega),h.c3]; rfl
 . simp [h.sz]
end
theorem dR_apart:apartB [16,17,18,19,20,21,22,23,24,25,26,27,28,29,30,31,32,33,34,35,36,37,38,39,40,15,41,42,43,44,45,1000,46,1001,47,1002,48,1003] = true:=by decide
theorem rround_any (S:List Int) (hS:S.length = 16) (gs cs:Nat) (A B C D:Nat) (a b c d:Int) (ea:a = (A:Nat)) (eb:b = (B:Nat)) (ec:c = (C:Nat)) (ed:d = (D:Nat)) (a16:A < 16) (b16:B < 16) (c16:C < 16) (d16:D < 16) (w:World) (hs:Wds w gs S) :
 Calls Tryz.prog 141 #[.slice (some ⟨gs,0,none⟩) 16 cs,.int .i64 a,.int .i64 b,.int .i64 c,.int .i64 d] w fun e' w' => ∃ g cap,e' = .returned (.slice (some ⟨g,0,none⟩) 16 cap) /\ w.heap.size <= g /\ Wds w' g (qstep S A B C D) /\ Below w.heap.size w w':=by
 subst ea eb ec ed
 obtain ⟨i32,hi32,hz320,hz321,hz322⟩:=parts3 info32
 have HS:=lhd hS
 have Hs:=lhd hs
 have gi:=lhd hi32
 have gz0:=lhd hz320
 have gz1:=lhd hz321
 have gz2:=lhd hz322
 clear hi32 hz320 hz321 hz322 hS hs
 go_enter Tryz.func141,Tryz.ntmps141
 go_upto_region 3 with (at_builtin; refine wpList_append_own_at _ rfl (.tmp 12) (.tmp 13) 182 rfl w.heap.size 47 i32 (.int .u32 0) 1 4 Tryz.underlying182 gi.out gz0.out gz1.out gz2.out rfl (by decide) (.slice none 0 0) 0 [] rfl (World.ownsRow_nil _ _ _ _) ⟨gs,0,none⟩ 16 cs (vals32 S) rfl (by simp [vals32,HS.out]) (fun j u hj => by { have hj2:=(List.getElem?_eq_some_iff.1 hj).1; simp [vals32] at hj2; rw [Addr.add_mid,Nat.zero_add,Hs.out.2 j hj2,<- hj]; simp [vals32,hj2] }) (fun u hu => by { simp [vals32] at hu; obtain ⟨x,_,rfl⟩:=hu; rfl }) (by unfold maxLen; omega) (by omega) (Nat.le_refl _) ?_; intro v1 w1 hown1 hgrow1 _ _; have Hown1:=lhd hown1; have Hgrow1:=lhd hgrow1; clear hown1 hgrow1)
 obtain ⟨t,ht⟩:∃ t,t = quarterL [S.getD A 0,S.getD B 0,S.getD C 0,S.getD D 0]:=⟨_,rfl⟩
 have HT:=lhd ht
 obtain ⟨g,cap,rfl,hrr⟩:∃ g cap,v1 = .slice (some ⟨g,0,none⟩) 16 cap /\ RR S S g gs w w1:=by
  have hown:=Hown1.out
  have hgr:=Hgrow1.out
  rw [List.nil_append,Nat.zero_add] at hown
  have hlow:Below w.heap.size w w1:=(Below.refl _ _).grown hgr (Nat.le_refl _) (fun k hk => by cases hk)
  obtain ⟨g,cap,hv,hg,hw⟩:=own_cells32 hown HS.out (by decide)
  refine ⟨g,cap,hv,Hs.out.below hlow Hs.out.1,hw,fun j hj => ?_,hlow,hg,Hs.out.1⟩
  rcases hown.2 with ⟨hn,_⟩ | ⟨g2,cap2,cur,hv2,_,hh,_⟩
  . rw [hv] at hn; cases hn
  . rw [hv] at hv2
    cases hv2
    simp [World.frozen?,hh]
 have Hrr:=lhd hrr
 have a16':(A:Int) < 16:=by omega
 have b16':(B:Int) < 16:=by omega
 have c16':(C:Int) < 16:=by omega
 have d16':(D:Int) < 16:=by omega
 clear ht hrr Hown1 Hgrow1
 refine wp_region_any (by kernel_rfl) ?_
 change wpAny _ _ _ _ _ _ _ (World.drew _)
 refine wpAny_inv (fun l a wx => ∃ (m:Nat) (z:Nat -> Value),Hid (a = ⟨#[.slice (some ⟨gs,0,none⟩) 16 cs,.int .i64 (A:Nat),.int .i64 (B:Nat),.int .i64 (C:Nat),.int .i64 (D:Nat),undef,undef,undef,undef,undef,.slice none 0 0,.slice (some ⟨g,0,none⟩) 16 cap,.slice none 0 0,.slice (some ⟨gs,0,none⟩) 16 cs,.slice (some ⟨g,0,none⟩) 16 cap,z 15,z 16,z 17,z 18,z 19,z 20,z 21,z 22,z 23,z 24,z 25,z 26,z 27,z 28,z 29,z 30,z 31,z 32,z 33,z 34,z 35,z 36,z 37,z 38,z 39,z 40,z 41,z 42,z 43,z 44,z 45,z 46,z 47,z 48,undef],[]⟩) /\ Holding [16,17,18,19,20,21,22,23,24,25,26,27,28,29,30,31,32,33,34,35,36,37,38,39,40,15,41,42,43,44,45,1000,46,1001,47,1002,48,1003] [some (.slice (some ⟨g,0,none⟩) 16 cap),some (.int .i64 (A:Nat)),some (.slice (some ⟨g,0,none⟩) 16 cap),some (.int .i64 (B:Nat)),some (.slice (some ⟨g,0,none⟩) 16 cap),some (.int .i64 (C:Nat)),some (.slice (some ⟨g,0,none⟩) 16 cap),some (.int .i64 (D:Nat)),some (.slice (some ⟨gs,0,none⟩) 16 cs),some (.int .i64 (A:Nat)),some (.pointer (some ⟨gs,A,none⟩)),some (.int .u32 (S.getD A 0)),some (.slice (some ⟨gs,0,none⟩) 16 cs),some (.int .i64 (B:Nat)),some (.pointer (some ⟨gs,B,none⟩)),some (.int .u32 (S.getD B 0)),some (.slice (some ⟨gs,0,none⟩) 16 cs),some (.int .i64 (C:Nat)),some (.pointer (some ⟨gs,C,none⟩)),some (.int .u32 (S.getD C 0)),some (.slice (some ⟨gs,0,none⟩) 16 cs),some (.int .i64 (D:Nat)),some (.pointer (some ⟨gs,D,none⟩)),some (.int .u32 (S.getD D 0)),some (.tuple #[.int .u32 (t.getD 0 0),.int .u32 (t.getD 1 0),.int .u32 (t.getD 2 0),.int .u32 (t.getD 3 0)]),some (.tuple #[.int .u32 (t.getD 0 0),.int .u32 (t.getD 1 0),.int .u32 (t.getD 2 0),.int .u32 (t.getD 3 0)]),some (.int .u32 (t.getD 0 0)),some (.int .u32 (t.getD 1 0)),some (.int .u32 (t.getD 2 0)),some (.int .u32 (t.getD 3 0)),some (.pointer (some ⟨g,A,none⟩)),none,some (.pointer (some ⟨g,B,none⟩)),none,some (.pointer (some ⟨g,C,none⟩)),none,some (.pointer (some ⟨g,D,none⟩)),none] l z /\ RQ S A B C D t l m g gs w wx) ?_ (by kernel_rfl) ?_ ?_ _ _ _ _ (unlisted_none _) ?_
 . rintro l a wx ⟨m,z,_,_,h⟩
   exact h.sz
 . rintro l a wx ⟨m,z,ha,hz,h⟩ hall
   obtain rfl:=ha.out
   clear ha
   have h4:=h.c4
   rw [hall 37 (by decide)] at h4
   have hm:=h.hm
   have h5:=of_decide_eq_true h4.symm
   obtain rfl:m = 4:=by omega
   have HR:=lhd h.inv
   have HW:Hid (wrote S A B C D t 4 = qstep S A B C D):=by show _ = _; rw [HT.out]; rfl
   clear h4 h5 hm h hz hall
   go_wp2
   go_ret
   exact ⟨g,⟨cap,rfl⟩,HR.out.hg,by rw [<- HW.out]; exact HR.out.row,HR.out.low⟩
 . rintro l a wx i ⟨m,z,ha,hz,h⟩ hi hu hw
   obtain rfl:=ha.out
   clear ha
   have hi38:i < 38:=hi
   obtain rfl | rfl | rfl | rfl | rfl | rfl | rfl | rfl | rfl | rfl | rfl | rfl | rfl | rfl | rfl | rfl | rfl | rfl | rfl | rfl | rfl | rfl | rfl | rfl | rfl | rfl | rfl | rfl | rfl | rfl | rfl | rfl | rfl | rfl | rfl | rfl | rfl | rfl:i = 0 \/ i = 1 \/ i = 2 \/ i = 3 \/ i = 4 \/ i = 5 \/ i = 6 \/ i = 7 \/ i = 8 \/ i = 9 \/ i = 10 \/ i = 11 \/ i = 12 \/ i = 13 \/ i = 14 \/ i = 15 \/ i = 16 \/ i = 17 \/ i = 18 \/ i = 19 \/ i = 20 \/ i = 21 \/ i = 22 \/ i = 23 \/ i = 24 \/ i = 25 \/ i = 26 \/ i = 27 \/ i = 28 \/ i = 29 \/ i = 30 \/ i = 31 \/ i = 32 \/ i = 33 \/ i = 34 \/ i = 35 \/ i = 36 \/ i = 37:=by omega
   . refine wpOp_plain rfl rfl ?_
     go_simp
     exact ⟨m,upd z 16 (.slice (some ⟨g,0,none⟩) 16 cap),(by unfold Hid; simp [upd]),hz.next dR_apart h.sz 0 (by decide) _ (fun _ h => Option.some.inj h),h.read 0 (by omega)⟩
   . refine wpOp_plain rfl rfl ?_
     go_simp
     exact ⟨m,upd z 17 (.int .i64 (A:Nat)),(by unfold Hid; simp [upd]),hz.next dR_apart h.sz 1 (by decide) _ (fun _ h => Option.some.inj h),h.read 1 (by omega)⟩
   . refine wpOp_plain rfl rfl ?_
     go_simp
     exact ⟨m,upd z 18 (.slice (some ⟨g,0,none⟩) 16 cap),(by unfold Hid; simp [upd]),hz.next dR_apart h.sz 2 (by decide) _ (fun _ h => Option.some.inj h),h.read 2 (by omega)⟩
   . refine wpOp_plain rfl rfl ?_
     go_simp
     exact ⟨m,upd z 19 (.int .i64 (B:Nat)),(by unfold Hid; simp [upd]),hz.next dR_apart h.sz 3 (by decide) _ (fun _ h => Option.some.inj h),h.read 3 (by omega)⟩
   . refine wpOp_plain rfl rfl ?_
     go_simp
     exact ⟨m,upd z 20 (.slice (some ⟨g,0,none⟩) 16 cap),(by unfold Hid; simp [upd]),hz.next dR_apart h.sz 4 (by decide) _ (fun _ h => Option.some.inj h),h.read 4 (by omega)⟩
   . refine wpOp_plain rfl rfl ?_
     go_simp
     exact ⟨m,upd z 21 (.int .i64 (C:Nat)),(by unfold Hid; simp [upd]),hz.next dR_apart h.sz 5 (by decide) _ (fun _ h => Option.some.inj h),h.read 5 (by omega)⟩
   . refine wpOp_plain rfl rfl ?_
     go_simp
     exact ⟨m,upd z 22 (.slice (some ⟨g,0,none⟩) 16 cap),(by unfold Hid; simp [upd]),hz.next dR_apart h.sz 6 (by decide) _ (fun _ h => Option.some.inj h),h.read 6 (by omega)⟩
   . refine wpOp_plain rfl rfl ?_
     go_simp
     exact ⟨m,upd z 23 (.int .i64 (D:Nat)),(by unfold Hid; simp [upd]),hz.next dR_apart h.sz 7 (by decide) _ (fun _ h => Option.some.inj h),h.read 7 (by omega)⟩
   . refine wpOp_plain rfl rfl ?_
     go_simp
     exact ⟨m,upd z 24 (.slice (some ⟨gs,0,none⟩) 16 cs),(by unfold Hid; simp [upd]),hz.next dR_apart h.sz 8 (by decide) _ (fun _ h => Option.some.inj h),h.read 8 (by omega)⟩
   . refine wpOp_plain rfl rfl ?_
     go_simp
     exact ⟨m,upd z 25 (.int .i64 (A:Nat)),(by unfold Hid; simp [upd]),hz.next dR_apart h.sz 9 (by decide) _ (fun _ h => Option.some.inj h),h.read 9 (by omega)⟩
   . have e8:z 24 = .slice (some ⟨gs,0,none⟩) 16 cs:=hz 8 _ (hw 8 (by kernel_rfl)) rfl
     have e9:z 25 = .int .i64 (A:Nat):=hz 9 _ (hw 9 (by kernel_rfl)) rfl
     refine wpOp_plain rfl rfl ?_
     go_simp
     exact ⟨m,upd z 26 (.pointer (some ⟨gs,A,none⟩)),(by unfold Hid; simp [upd,e8,e9]),hz.next dR_apart h.sz 10 (by decide) _ (fun _ h => Option.some.inj h),h.read 10 (by omega)⟩
   . have e10:z 26 = .pointer (some ⟨gs,A,none⟩):=hz 10 _ (hw 10 (by kernel_rfl)) rfl
     have cc:=h.inv.src.2 A (by rw [HS.out]; exact a16)
     refine wpOp_plain rfl rfl ?_
     go_simp
     exact ⟨m,upd z 27 (.int .u32 (S.getD A 0)),(by unfold Hid; simp [upd,e10]),hz.next dR_apart h.sz 11 (by decide) _ (fun _ h => Option.some.inj h),h.read 11 (by omega)⟩
   . refine wpOp_plain rfl rfl ?_
     go_simp
     exact ⟨m,upd z 28 (.slice (some ⟨gs,0,none⟩) 16 cs),(by unfold Hid; simp [upd]),hz.next dR_apart h.sz 12 (by decide) _ (fun _ h => Option.some.inj h),h.read 12 (by omega)⟩
   . refine wpOp_plain rfl rfl ?_
     go_simp
     exact ⟨m,upd z 29 (.int .i64 (B:Nat)),(by unfold Hid; simp [upd]),hz.next dR_apart h.sz 13 (by decide) _ (fun _ h => Option.some.inj h),h.read 13 (by omega)⟩
   . have e12:z 28 = .slice (some ⟨gs,0,none⟩) 16 cs:=hz 12 _ (hw 12 (by kernel_rfl)) rfl
     have e13:z 29 = .int .i64 (B:Nat):=hz 13 _ (hw 13 (by kernel_rfl)) rfl
     refine wpOp_plain rfl rfl ?_
     go_simp
     exact ⟨m,upd z 30 (.pointer (some ⟨gs,B,none⟩)),(by unfold Hid; simp [upd,e12,e13]),hz.next dR_apart h.sz 14 (by decide) _ (fun _ h => Option.some.inj h),h.read 14 (by omega)⟩
   . have e14:z 30 = .pointer (some ⟨gs,B,none⟩):=hz 14 _ (hw 14 (by kernel_rfl)) rfl
     have cc:=h.inv.src.2 B (by rw [HS.out]; exact b16)
     refine wpOp_plain rfl rfl ?_
     go_simp
     exact ⟨m,upd z 31 (.int .u32 (S.getD B 0)),(by unfold Hid; simp [upd,e14]),hz.next dR_apart h.sz 15 (by decide) _ (fun _ h => Option.some.inj h),h.read 15 (by omega)⟩
   . refine wpOp_plain rfl rfl ?_
     go_simp
     exact ⟨m,upd z 32 (.slice (some ⟨gs,0,none⟩) 16 cs),(by unfold Hid; simp [upd]),hz.next dR_apart h.sz 16 (by decide) _ (fun _ h => Option.some.inj h),h.read 16 (by omega)⟩
   . refine wpOp_plain rfl rfl ?_
     go_simp
     exact ⟨m,upd z 33 (.int .i64 (C:Nat)),(by unfold Hid; simp [upd]),hz.next dR_apart h.sz 17 (by decide) _ (fun _ h => Option.some.inj h),h.read 17 (by omega)⟩
   . have e16:z 32 = .slice (some ⟨gs,0,none⟩) 16 cs:=hz 16 _ (hw 16 (by kernel_rfl)) rfl
     have e17:z 33 = .int .i64 (C:Nat):=hz 17 _ (hw 17 (by kernel_rfl)) rfl
     refine wpOp_plain rfl rfl ?_
     go_simp
     exact ⟨m,upd z 34 (.pointer (some ⟨gs,C,none⟩)),(by unfold Hid; simp [upd,e16,e17]),hz.next dR_apart h.sz 18 (by decide) _ (fun _ h => Option.some.inj h),h.read 18 (by omega)⟩
   . have e18:z 34 = .pointer (some ⟨gs,C,none⟩):=hz 18 _ (hw 18 (by kernel_rfl)) rfl
     have cc:=h.inv.src.2 C (by rw [HS.out]; exact c16)
     refine wpOp_plain rfl rfl ?_
     go_simp
     exact ⟨m,upd z 35 (.int .u32 (S.getD C 0)),(by unfold Hid; simp [upd,e18]),hz.next dR_apart h.sz 19 (by decide) _ (fun _ h => Option.some.inj h),h.read 19 (by omega)⟩
   . refine wpOp_plain rfl rfl ?_
     go_simp
     exact ⟨m,upd z 36 (.slice (some ⟨gs,0,none⟩) 16 cs),(by unfold Hid; simp [upd]),hz.next dR_apart h.sz 20 (by decide) _ (fun _ h => Option.some.inj h),h.read 20 (by omega)⟩
   . refine wpOp_plain rfl rfl ?_
     go_simp
     exact ⟨m,upd z 37 (.int .i64 (D:Nat)),(by unfold Hid; simp [upd]),hz.next dR_apart h.sz 21 (by decide) _ (fun _ h => Option.some.inj h),h.read 21 (by omega)⟩
   . have e20:z 36 = .slice (some ⟨gs,0,none⟩) 16 cs:=hz 20 _ (hw 20 (by kernel_rfl)) rfl
     have e21:z 37 = .int .i64 (D:Nat):=hz 21 _ (hw 21 (by kernel_rfl)) rfl
     refine wpOp_plain rfl rfl ?_
     go_simp
     exact ⟨m,upd z 38 (.pointer (some ⟨gs,D,none⟩)),(by unfold Hid; simp [upd,e20,e21]),hz.next dR_apart h.sz 22 (by decide) _ (fun _ h => Option.some.inj h),h.read 22 (by omega)⟩
   . have e22:z 38 = .pointer (some ⟨gs,D,none⟩):=hz 22 _ (hw 22 (by kernel_rfl)) rfl
     have cc:=h.inv.src.2 D (by rw [HS.out]; exact d16)
     refine wpOp_plain rfl rfl ?_
     go_simp
     exact ⟨m,upd z 39 (.int .u32 (S.getD D 0)),(by unfold Hid; simp [upd,e22]),hz.next dR_apart h.sz 23 (by decide) _ (fun _ h => Option.some.inj h),h.read 23 (by omega)⟩
   . have e11:z 27 = .int .u32 (S.getD A 0):=hz 11 _ (hw 11 (by kernel_rfl)) rfl
     have e15:z 31 = .int .u32 (S.getD B 0):=hz 15 _ (hw 15 (by kernel_rfl)) rfl
     have e19:z 35 = .int .u32 (S.getD C 0):=hz 19 _ (hw 19 (by kernel_rfl)) rfl
     have e23:z 39 = .int .u32 (S.getD D 0):=hz 23 _ (hw 23 (by kernel_rfl)) rfl
     refine wpOp_plain rfl rfl ?_
     go_simp
     go_at_call 155
     refine (rquarter_any _ _ _ _ _).mono ?_
     rintro e w' ⟨rfl,rfl⟩
     have et:Value.tuple #[.int .u32 (qa2 (S.getD A 0) (S.getD B 0) (S.getD C 0) (S.getD D 0)),.int .u32 (qb2 (S.getD A 0) (S.getD B 0) (S.getD C 0) (S.getD D 0)),.int .u32 (qc2 (S.getD A 0) (S.getD B 0) (S.getD C 0) (S.getD D 0)),.int .u32 (qd2 (S.getD A 0) (S.getD B 0) (S.getD C 0) (S.getD D 0))] = .tuple #[.int .u32 (t.getD 0 0),.int .u32 (t.getD 1 0),.int .u32 (t.getD 2 0),.int .u32 (t.getD 3 0)]:=by rw [HT.out]; rfl
     have Et:=lhd et
     clear et
     exact ⟨m,upd z 40 (.tuple #[.int .u32 (t.getD 0 0),.int .u32 (t.getD 1 0),.int .u32 (t.getD 2 0),.int .u32 (t.getD 3 0)]),(by rw [<- Et.out]; unfold Hid; simp [upd,e11,e15,e19,e23]),hz.next dR_apart h.sz 24 (by decide) _ (fun _ h => Option.some.inj h),h.read 24 (by omega)⟩
   . have e24:z 40 = .tuple #[.int .u32 (t.getD 0 0),.int .u32 (t.getD 1 0),.int .u32 (t.getD 2 0),.int .u32 (t.getD 3 0)]:=hz 24 _ (hw 24 (by kernel_rfl)) rfl
     refine wpOp_plain rfl rfl ?_
     go_simp
     exact ⟨m,upd z 15 (.tuple #[.int .u32 (t.getD 0 0),.int .u32 (t.getD 1 0),.int .u32 (t.getD 2 0),.int .u32 (t.getD 3 0)]),(by unfold Hid; simp [upd,e24]),hz.next dR_apart h.sz 25 (by decide) _ (fun _ h => Option.some.inj h),h.read 25 (by omega)⟩
   . have e25:z 15 = .tuple #[.int .u32 (t.getD 0 0),.int .u32 (t.getD 1 0),.int .u32 (t.getD 2 0),.int .u32 (t.getD 3 0)]:=hz 25 _ (hw 25 (by kernel_rfl)) rfl
     refine wpOp_plain rfl rfl ?_
     go_simp
     exact ⟨m,upd z 41 (.int .u32 (t.getD 0 0)),(by unfold Hid; simp [upd,e25]),hz.next dR_apart h.sz 26 (by decide) _ (fun _ h => Option.some.inj h),h.read 26 (by omega)⟩
   . have e25:z 15 = .tuple #[.int .u32 (t.getD 0 0),.int .u32 (t.getD 1 0),.int .u32 (t.getD 2 0),.int .u32 (t.getD 3 0)]:=hz 25 _ (hw 25 (by kernel_rfl)) rfl
     refine wpOp_plain rfl rfl ?_
     go_simp
     exact ⟨m,upd z 42 (.int .u32 (t.getD 1 0)),(by unfold Hid; simp [upd,e25]),hz.next dR_apart h.sz 27 (by decide) _ (fun _ h => Option.some.inj h),h.read 27 (by omega)⟩
   . have e25:z 15 = .tuple #[.int .u32 (t.getD 0 0),.int .u32 (t.getD 1 0),.int .u32 (t.getD 2 0),.int .u32 (t.getD 3 0)]:=hz 25 _ (hw 25 (by kernel_rfl)) rfl
     refine wpOp_plain rfl rfl ?_
     go_simp
     exact ⟨m,upd z 43 (.int .u32 (t.getD 2 0)),(by unfold Hid; simp [upd,e25]),hz.next dR_apart h.sz 28 (by decide) _ (fun _ h => Option.some.inj h),h.read 28 (by omega)⟩
   . have e25:z 15 = .tuple #[.int .u32 (t.getD 0 0),.int .u32 (t.getD 1 0),.int .u32 (t.getD 2 0),.int .u32 (t.getD 3 0)]:=hz 25 _ (hw 25 (by kernel_rfl)) rfl
     refine wpOp_plain rfl rfl ?_
     go_simp
     exact ⟨m,upd z 44 (.int .u32 (t.getD 3 0)),(by unfold Hid; simp [upd,e25]),hz.next dR_apart h.sz 29 (by decide) _ (fun _ h => Option.some.inj h),h.read 29 (by omega)⟩
   . have e0:z 16 = .slice (some ⟨g,0,none⟩) 16 cap:=hz 0 _ (hw 0 (by kernel_rfl)) rfl
     have e1:z 17 = .int .i64 (A:Nat):=hz 1 _ (hw 1 (by kernel_rfl)) rfl
     refine wpOp_plain rfl rfl ?_
     go_simp
     exact ⟨m,upd z 45 (.pointer (some ⟨g,A,none⟩)),(by unfold Hid; simp [upd,e0,e1]),hz.next dR_apart h.sz 30 (by decide) _ (fun _ h => Option.some.inj h),h.read 30 (by omega)⟩
   . have e30:z 45 = .pointer (some ⟨g,A,none⟩):=hz 30 _ (hw 30 (by kernel_rfl)) rfl
     have e26:z 41 = .int .u32 (t.getD 0 0):=hz 26 _ (hw 26 (by kernel_rfl)) rfl
     obtain ⟨rfl,hR⟩:=h.w1 hu
     have cc:=h.inv.row.2 A (by rw [wrote_length,HS.out]; exact a16)
     have fz:=h.inv.free A a16
     refine wpOp_plain rfl rfl ?_
     go_simp
     exact ⟨_,z,(by unfold Hid; simp [e30,e26]),hz.pass 31 rfl,hR⟩
   . have e2:z 18 = .slice (some ⟨g,0,none⟩) 16 cap:=hz 2 _ (hw 2 (by kernel_rfl)) rfl
     have e3:z 19 = .int .i64 (B:Nat):=hz 3 _ (hw 3 (by kernel_rfl)) rfl
     refine wpOp_plain rfl rfl ?_
     go_simp
     exact ⟨m,upd z 46 (.pointer (some ⟨g,B,none⟩)),(by unfold Hid; simp [upd,e2,e3]),hz.next dR_apart h.sz 32 (by decide) _ (fun _ h => Option.some.inj h),h.read 32 (by omega)⟩
   . have e32:z 46 = .pointer (some ⟨g,B,none⟩):=hz 32 _ (hw 32 (by kernel_rfl)) rfl
     have e27:z 42 = .int .u32 (t.getD 1 0):=hz 27 _ (hw 27 (by kernel_rfl)) rfl
     obtain ⟨rfl,hR⟩:=h.w2 (hw 31 (by kernel_rfl)) hu
     have cc:=h.inv.row.2 B (by rw [wrote_length,HS.out]; exact b16)
     have fz:=h.inv.free B b16
     refine wpOp_plain rfl rfl ?_
     go_simp
     exact ⟨_,z,(by unfold Hid; simp [e32,e27]),hz.pass 33 rfl,hR⟩
   . have e4:z 20 = .slice (some ⟨g,0,none⟩) 16 cap:=hz 4 _ (hw 4 (by kernel_rfl)) rfl
     have e5:z 21 = .int .i64 (C:Nat):=hz 5 _ (hw 5 (by kernel_rfl)) rfl
     refine wpOp_plain rfl rfl ?_
     go_simp
     exact ⟨m,upd z 47 (.pointer (some ⟨g,C,none⟩)),(by unfold Hid; simp [upd,e4,e5]),hz.next dR_apart h.sz 34 (by decide) _ (fun _ h => Option.some.inj h),h.read 34 (by omega)⟩
   . have e34:z 47 = .pointer (some ⟨g,C,none⟩):=hz 34 _ (hw 34 (by kernel_rfl)) rfl
     have e28:z 43 = .int .u32 (t.getD 2 0):=hz 28 _ (hw 28 (by kernel_rfl)) rfl
     obtain ⟨rfl,hR⟩:=h.w3 (hw 33 (by kernel_rfl)) hu
     have cc:=h.inv.row.2 C (by rw [wrote_length,HS.out]; exact c16)
     have fz:=h.inv.free C c16
     refine wpOp_plain rfl rfl ?_
     go_simp
     exact ⟨_,z,(by unfold Hid; simp [e34,e28]),hz.pass 35 rfl,hR⟩
   . have e6:z 22 = .slice (some ⟨g,0,none⟩) 16 cap:=hz 6 _ (hw 6 (by kernel_rfl)) rfl
     have e7:z 23 = .int .i64 (D:Nat):=hz 7 _ (hw 7 (by kernel_rfl)) rfl
     refine wpOp_plain rfl rfl ?_
     go_simp
     exact ⟨m,upd z 48 (.pointer (some ⟨g,D,none⟩)),(by unfold Hid; simp [upd,e6,e7]),hz.next dR_apart h.sz 36 (by decide) _ (fun _ h => Option.some.inj h),h.read 36 (by omega)⟩
   . have e36:z 48 = .pointer (some ⟨g,D,none⟩):=hz 36 _ (hw 36 (by kernel_rfl)) rfl
     have e29:z 44 = .int .u32 (t.getD 3 0):=hz 29 _ (hw 29 (by kernel_rfl)) rfl
     obtain ⟨rfl,hR⟩:=h.w4 (hw 35 (by kernel_rfl)) hu
     have cc:=h.inv.row.2 D (by rw [wrote_length,HS.out]; exact d16)
     have fz:=h.inv.free D d16
     refine wpOp_plain rfl rfl ?_
     go_simp
     exact ⟨_,z,(by unfold Hid; simp [e36,e29]),hz.pass 37 rfl,hR⟩
 . exact ⟨0,fun x => (#[.slice (some ⟨gs,0,none⟩) 16 cs,.int .i64 (A:Nat),.int .i64 (B:Nat),.int .i64 (C:Nat),.int .i64 (D:Nat),undef,undef,undef,undef,undef,.slice none 0 0,.slice (some ⟨g,0,none⟩) 16 cap,.slice none 0 0,.slice (some ⟨gs,0,none⟩) 16 cs,.slice (some ⟨g,0,none⟩) 16 cap,undef,undef,undef,undef,undef,undef,undef,undef,undef,undef,undef,undef,undef,undef,undef,undef,undef,undef,undef,undef,undef,undef,undef,undef,undef,undef,undef,undef,undef,undef,undef,undef,undef,undef,undef]:Array Value).getD x undef,rfl,Holding.start,⟨rfl,Hrr.out.later,rfl,rfl,rfl,rfl,by omega⟩⟩
end Go.Proofs.YteeghgjkjicjoaaGreatDoor.Cha
namespace Go.Proofs.YteeghgjkjicjoaaGreatDoor.Cha
open Go.RowKit
structure RB (S L:List Int) (gS gL:Nat) (w wx:World):Prop where
 src:Wds wx gS S
 mix:Wds wx gL L
 res:wx.heap[w.heap.size + 1 + 1]? = some (.cells (u8s zeros64) 167 (0,0))
 low:Below w.heap.size w wx
theorem RB.next {S L L':List Int} {gS gL g':Nat} {w wx wy:World} (h:RB S L gS gL w wx) (hb:Below wx.heap.size wx wy) (hw:Wds wy g' L'):RB S L' gS g' w wy:=by
 have h1:=(Array.getElem?_eq_some_iff.1 h.res).1
 exact ⟨h.src.below hb h.src.1,hw,(hb.block _ h1).trans h.res,h.low.trans (hb.mono (by omega))⟩
structure RO (S M:List Int) (gS gM G j:Nat) (w wx:World):Prop where
 src:Wds wx gS S
 mix:Wds wx gM M
 res:wx.heap[w.heap.size + 1 + 1]? = some (.cells (u8s zeros64) 167 (0,0))
 row:∃ C:Array Value,HoldsB C 64 j (outF M S) /\ wx.heap[G]? = some (.cells C 167 (0,0))
 sep:gS < G /\ gM < G /\ w.heap.size + 1 + 1 < G
 low:Below w.heap.size w wx
theorem RO.set {S M:List Int} {gS gM G j:Nat} {w wx:World} (h:RO S M gS gM G j w wx) (hj:j < 64) (v:Int) (hv:v = outF M S j):RO S M gS gM G (j + 1) w (wx.setCell ⟨G,j,none⟩ (.int .u8 v)):=by
 obtain ⟨C,hC,hr⟩:=h.row
 obtain ⟨s1,s2,s3⟩:=h.sep
 have e1:(wx.setCell ⟨G,j,none⟩ (.int .u8 v)).heap[gS]? = wx.heap[gS]?:=heap_setCell_other _ _ _ _ (by simp; omega)
 have e2:(wx.setCell ⟨G,j,none⟩ (.int .u8 v)).heap[gM]? = wx.heap[gM]?:=heap_setCell_other _ _ _ _ (by simp; omega)
 refine ⟨⟨by simpa using h.src.1,fun i hi => (World.cell?_of_block e1).trans (h.src.2 i hi)⟩,⟨by simpa using h.mix.1,fun i hi => (World.cell?_of_block e2).trans (h.mix.2 i hi)⟩,?_,⟨_,hC.set hj v hv,heap_setCell_same _ _ _ _ _ _ hr⟩,h.sep,h.low.setCell (by simp; omega) _⟩
 rw [heap_setCell_other _ _ _ _ (by simp; omega)]
 exact h.res
theorem RO.drewN {S M:List Int} {gS gM G j:Nat} {w wx:World} (h:RO S M gS gM G j w wx) (n:Nat):RO S M gS gM G j w (wx.drewN n) :=
 ⟨h.src,h.mix,h.res,h.row,h.sep,Below.drewN h.low n⟩
theorem outF_step (M S:List Int) (k j:Nat) (hj:j < 4) (x:Int) (hx:x = (M.getD k 0 + S.getD k 0) % 4294967296):x / 256 ^ j % 256 = outF M S (4 * k + j):=by
 obtain ⟨h0,h1,h2,h3⟩:=outF_at M S k x hx
 obtain rfl | rfl | rfl | rfl:j = 0 \/ j = 1 \/ j = 2 \/ j = 3:=by omega
 . rw [Nat.add_zero,h0,show (256:Int) ^ 0 = 1 from rfl,Int.ediv_one]
 . rw [h1]; rfl
 . rw [h2]; rfl
 . rw [h3]; rfl
theorem pow_step (x:Int) (j:Nat):x / 256 ^ j / 256 = x / 256 ^ (j + 1):=by
 rw [Int.ediv_ediv_of_nonneg (Int.pow_nonneg (by decide)),Int.pow_succ]
theorem rblock_any (K Nn:List Int) (c:Int) (hK:K.length = 32) (hN:Nn.length = 12) (bK:InB K) (bN:InB Nn) (w:World) :
 Calls Tryz.prog 125 #[.agg (u8s K),.int .u32 c,.agg (u8s Nn)] w fun e' w' => e' = .returned (.agg (u8s (blockL K c Nn))) /\ Below w.heap.size w w':=by
 have h3:=lhd (three_new w)
 have b3:=lhd (below3 w)
 have Hf:=lhd (rfirst_any K Nn c hK hN bK bN)
 have HsK:Hid ((Tryz.prog.info? 24).map (·.size) = some (u8s K).size):=by show _ = _; rw [u8s_size,hK]; kernel_rfl
 have HsN:Hid ((Tryz.prog.info? 155).map (·.size) = some (u8s Nn).size):=by show _ = _; rw [u8s_size,hN]; kernel_rfl
 obtain ⟨S,hS⟩:∃ S,S = stL K c Nn:=⟨_,rfl⟩
 have HS:=lhd hS
 have Hl:Hid (S.length = 16):=by show _ = _; rw [hS,stL_length]
 clear hK hN bK bN hS
 go_enter Tryz.func125,Tryz.ntmps125
 go_wp2_with (first
  | (with_reducible refine wpList_load_row rfl 24 (.tmp 3) rfl w.heap.size rfl 24 (u8s K) (0,0) _ (h3.out _ _ _).1 Tryz.underlying24 rfl HsK.out ?_)
  | (with_reducible refine wpList_load_row rfl 155 (.tmp 5) rfl (w.heap.size + 1) rfl 155 (u8s Nn) (0,0) _ (h3.out _ _ _).2.1 Tryz.underlying155 rfl HsN.out ?_)
  | (go_at_call 140; refine (Hf.out _).mono ?_; rintro e w1 ⟨gS,cS,rfl,-,hwS,low1⟩; rw [<- HS.out] at hwS; have HwS:=lhd hwS; have Low1:=lhd low1; clear hwS low1))
 have hr0:RB S (drs S 0) gS gS w w1:=⟨HwS.out,HwS.out,(Low1.out.block _ (by simp)).trans (h3.out _ _ _).2.2,(b3.out _ _ _).trans (Low1.out.mono (by simp; omega))⟩
 have Hr0:=lhd hr0
 clear hr0 HwS Low1 h3 b3 Hf HsK HsN
 go_loopw [8,9] (fun v i wr => ∃ k:Nat,k <= 10 /\ i = .int .i64 k /\ ∃ g cap,v = .slice (some ⟨g,0,none⟩) 16 cap /\ Hid (RB S (drs S k) gS g w wr)) (fun _ i _ => 10 - (intOf i).toNat)
 case atStart => exact ⟨0,Nat.zero_le _,rfl,gS,cS,rfl,Hr0.out⟩
 case round =>
  clear Hr0
  obtain ⟨k,hk,rfl,g0,c0,rfl,R0⟩:=hrel
  by_cases hlt10:k < 10
  . have hlt':(k:Int) < 10:=by omega
    obtain ⟨L0,e0⟩:∃ L0,L0 = drs S k:=⟨_,rfl⟩
    obtain ⟨L1,e1⟩:∃ L1,L1 = qstep L0 0 4 8 12:=⟨_,rfl⟩
    obtain ⟨L2,e2⟩:∃ L2,L2 = qstep L1 1 5 9 13:=⟨_,rfl⟩
    obtain ⟨L3,e3⟩:∃ L3,L3 = qstep L2 2 6 10 14:=⟨_,rfl⟩
    obtain ⟨L4,e4⟩:∃ L4,L4 = qstep L3 3 7 11 15:=⟨_,rfl⟩
    obtain ⟨L5,e5⟩:∃ L5,L5 = qstep L4 0 5 10 15:=⟨_,rfl⟩
    obtain ⟨L6,e6⟩:∃ L6,L6 = qstep L5 1 6 11 12:=⟨_,rfl⟩
    obtain ⟨L7,e7⟩:∃ L7,L7 = qstep L6 2 7 8 13:=⟨_,rfl⟩
    obtain ⟨L8,e8⟩:∃ L8,L8 = qstep L7 3 4 9 14:=⟨_,rfl⟩
    have E1:=lhd e1
    have E2:=lhd e2
    have E3:=lhd e3
    have E4:=lhd e4
    have E5:=lhd e5
    have E6:=lhd e6
    have E7:=lhd e7
    have E8:=lhd e8
    have HD:Hid (drs S (k + 1) = L8):=by show _ = _; rw [e8,e7,e6,e5,e4,e3,e2,e1,e0]; rfl
    have n0:Hid (L0.length = 16):=by show _ = _; rw [e0,drs_length,Hl.out]
    have n1:Hid (L1.length = 16):=by show _ = _; rw [e1,qstep_length,n0.out]
    have n2:Hid (L2.length = 16):=by show _ = _; rw [e2,qstep_length,n1.out]
    have n3:Hid (L3.length = 16):=by show _ = _; rw [e3,qstep_length,n2.out]
    have n4:Hid (L4.length = 16):=by show _ = _; rw [e4,qstep_length,n3.out]
    have n5:Hid (L5.length = 16):=by show _ = _; rw [e5,qstep_length,n4.out]
    have n6:Hid (L6.length = 16):=by show _ = _; rw [e6,qstep_length,n5.out]
    have n7:Hid (L7.length = 16):=by show _ = _; rw [e7,qstep_length,n6.out]
    rw [<- e0] at R0
    clear e0 e1 e2 e3 e4 e5 e6 e7 e8
    go_wp2_with (first
     | (go_at_call 141; refine (rround_any L7 n7.out g7 c7 3 4 9 14 _ _ _ _ rfl rfl rfl rfl (by decide) (by decide) (by decide) (by decide) _ R7.out.mix).mono ?_; rintro e x8 ⟨g8,c8,rfl,-,hw8,low8⟩; rw [<- E8.out] at hw8; have R8:=lhd (R7.out.next low8 hw8); clear hw8 low8)
     | (go_at_call 141; refine (rround_any L6 n6.out g6 c6 2 7 8 13 _ _ _ _ rfl rfl rfl rfl (by decide) (by decide) (by decide) (by decide) _ R6.out.mix).mono ?_; rintro e x7 ⟨g7,c7,rfl,-,hw7,low7⟩; rw [<- E7.out] at hw7; have R7:=lhd (R6.out.next low7 hw7); clear hw7 low7)
     | (go_at_call 141; refine (rround_any L5 n5.out g5 c5 1 6 11 12 _ _ _ _ rfl rfl rfl rfl (by decide) (by decide) (by decide) (by decide) _ R5.out.mix).mono ?_; rintro e x6 ⟨g6,c6,rfl,-,hw6,low6⟩; rw [<- E6.out] at hw6; have R6:=lhd (R5.out.next low6 hw6); clear hw6 low6)
     | (go_at_call 141; refine (rround_any L4 n4.out g4 c4 0 5 10 15 _ _ _ _ rfl rfl rfl rfl (by decide) (by decide) (by decide) (by decide) _ R4.out.mix).mono ?_; rintro e x5 ⟨g5,c5,rfl,-,hw5,low5⟩; rw [<- E5.out] at hw5; have R5:=lhd (R4.out.next low5 hw5); clear hw5 low5)
     | (go_at_call 141; refine (rround_any L3 n3.out g3 c3 3 7 11 15 _ _ _ _ rfl rfl rfl rfl (by decide) (by decide) (by decide) (by decide) _ R3.out.mix).mono ?_; rintro e x4 ⟨g4,c4,rfl,-,hw4,low4⟩; rw [<- E4.out] at hw4; have R4:=lhd (R3.out.next low4 hw4); clear hw4 low4)
     | (go_at_call 141; refine (rround_any L2 n2.out g2 c2 2 6 10 14 _ _ _ _ rfl rfl rfl rfl (by decide) (by decide) (by decide) (by decide) _ R2.out.mix).mono ?_; rintro e x3 ⟨g3,c3,rfl,-,hw3,low3⟩; rw [<- E3.out] at hw3; have R3:=lhd (R2.out.next low3 hw3); clear hw3 low3)
     | (go_at_call 141; refine (rround_any L1 n1.out g1 c1 1 5 9 13 _ _ _ _ rfl rfl rfl rfl (by decide) (by decide) (by decide) (by decide) _ R1.out.mix).mono ?_; rintro e x2 ⟨g2,c2,rfl,-,hw2,low2⟩; rw [<- E2.out] at hw2; have R2:=lhd (R1.out.next low2 hw2); clear hw2 low2)
     | (go_at_call 141; refine (rround_any L0 n0.out g0 c0 0 4 8 12 _ _ _ _ rfl rfl rfl rfl (by decide) (by decide) (by decide) (by decide) _ R0.out.mix).mono ?_; rintro e x1 ⟨g1,c1,rfl,-,hw1,low1⟩; rw [<- E1.out] at hw1; have R1:=lhd (R0.out.next low1 hw1); clear hw1 low1))
    go_roundw
    case rel => exact ⟨k + 1,by omega,by go_num,g8,c8,rfl,by rw [HD.out]; exact R8.out⟩
    case measure => simp [intOf]; omega
  . have e10:k = 10:=by omega
    rw [e10] at R0
    clear e10 hk
    obtain ⟨M,hM⟩:∃ M,M = drs S 10:=⟨_,rfl⟩
    rw [<- hM] at R0
    have HM:=lhd hM
    have HMl:Hid (M.length = 16):=by show _ = _; rw [hM,drs_length,Hl.out]
    have hb9:Below wr.heap.size wr (wr.alloc (.cells (u8s zeros64) 167)):=(Below.refl _ _).alloc (Nat.le_refl _) _
    have ho9:RO S M gS g0 wr.heap.size 0 w (wr.alloc (.cells (u8s zeros64) 167)):=by
     have s2:=(Array.getElem?_eq_some_iff.1 R0.out.res).1
     exact ⟨R0.out.src.below hb9 R0.out.src.1,R0.out.mix.below hb9 R0.out.mix.1,(hb9.block _ s2).trans R0.out.res,⟨_,HoldsB.nil _ _ _ rfl,Go.heap_alloc_new _ _⟩,⟨R0.out.src.1,R0.out.mix.1,s2⟩,R0.out.low.trans (hb9.mono (by omega))⟩
    have Ho9:=lhd ho9
    clear hM hb9 ho9 R0
    go_wp2_with fail
    go_loopw [11] (fun i wx => ∃ k:Nat,k <= 16 /\ i = .int .i64 k /\ Hid (RO S M gS g0 wr.heap.size (4 * k) w wx)) (fun i _ => 16 - (intOf i).toNat)
    case atStart => exact ⟨0,Nat.zero_le _,rfl,Ho9.out⟩
    case round =>
     clear Ho9
     rename World => wx
     obtain ⟨k,hk,rfl,hinv⟩:=hrel
     by_cases hlt16:k < 16
     . have hlt16':(k:Int) < 16:=by omega
       obtain ⟨mk,hmk⟩:∃ mk,mk = M.getD k 0:=⟨_,rfl⟩
       obtain ⟨sk,hsk⟩:∃ sk,sk = S.getD k 0:=⟨_,rfl⟩
       have cm:wx.cell? ⟨g0,k,none⟩ = some (.int .u32 mk):=by rw [hmk]; exact hinv.out.mix.2 k (by rw [HMl.out]; exact hlt16)
       have cs:wx.cell? ⟨gS,k,none⟩ = some (.int .u32 sk):=by rw [hsk]; exact hinv.out.src.2 k (by rw [Hl.out]; exact hlt16)
       have Hmk:=lhd hmk
       have Hsk:=lhd hsk
       clear hmk hsk
       go_wp2
       go_quiet (fail)
       generalize hx:(mk + sk) % 4294967296 = x
       have x0:0 <= x:=by omega
       have x1:x < 4294967296:=by omega
       have Hx:Hid (x = (M.getD k 0 + S.getD k 0) % 4294967296):=by show _ = _; rw [<- Hmk.out,<- Hsk.out,hx]
       have Hinv:=lhd (hinv.out.drewN nq)
       clear hx cm cs hinv
       go_wp2
       go_loopw [12,13] (fun v i wy => ∃ j:Nat,j <= 4 /\ i = .int .i64 j /\ v = .int .u32 (x / 256 ^ j) /\ Hid (RO S M gS g0 wr.heap.size (4 * k + j) w wy)) (fun _ i _ => 4 - (intOf i).toNat)
       case atStart => exact ⟨0,Nat.zero_le _,rfl,by rw [show (256:Int) ^ 0 = 1 from rfl,Int.ediv_one],Hinv.out⟩
       case round =>
        clear Hinv
        rename World => wy
        obtain ⟨j,hj,rfl,rfl,hq⟩:=hrel
        by_cases hlt4:j < 4
        . have hlt4':(j:Int) < 4:=by omega
          obtain ⟨y,hy⟩:∃ y,y = x / 256 ^ j:=⟨_,rfl⟩
          rw [<- hy]
          have y0:0 <= y:=by rw [hy]; exact Int.ediv_nonneg x0 (Int.pow_nonneg (by decide))
          have y1:y < 4294967296:=by
           have:y <= x:=by rw [hy]; exact Int.ediv_le_self _ x0
           omega
          obtain ⟨C,hC,hr⟩:=hq.out.row
          obtain ⟨v0,hv0⟩:∃ v0,wy.cell? ⟨wr.heap.size,4 * k + j,none⟩ = some v0:=by
           rw [cell_row hr,Array.getElem?_eq_getElem (by rw [hC.1]; omega)]; exact ⟨_,rfl⟩
          have f0:=free_row hr (4 * k + j)
          have hset:=hq.out.set (by omega) (y % 256) (by rw [hy]; exact outF_step M S k j hlt4 x Hx.out)
          have hnext:y / 256 = x / 256 ^ (j + 1):=by rw [hy,pow_step]
          have Hset:=lhd hset
          have Hnext:=lhd hnext
          have tn:(4 * (k:Int) + (j:Int)).toNat = 4 * k + j:=by omega
          have t64:4 * (k:Int) + (j:Int) < 64:=by omega
          have t0:0 <= 4 * (k:Int) + (j:Int):=by omega
          clear hy hset hnext hr hC hq
          go_wp2
          go_roundw
          case rel => exact ⟨j + 1,by omega,by go_num,by rw [Hnext.out],Hset.out⟩
          case measure => simp [intOf]; omega
        . have e4:j = 4:=by omega
          rw [e4] at hq
          clear e4 hj
          go_wp2
          go_roundw
          case rel => exact ⟨k + 1,by omega,by go_num,hq.out⟩
          case measure => simp [intOf]; omega
     . have e16:k = 16:=by omega
       rw [e16] at hinv
       clear e16 hk
       obtain ⟨C,hC,hr⟩:=hinv.out.row
       have hCe:C = u8s (blockL K c Nn):=hC.whole (blockL_length _ _ _) (fun j hj => by rw [HM.out,HS.out]; exact outL_getD _ _ j hj)
       rw [hCe] at hr
       have hrow:=setRow_heap wx _ _ (u8s (blockL K c Nn)) _ _ hinv.out.res
       have hlow:Below w.heap.size w (wx.setRow (w.heap.size + 1 + 1) (u8s (blockL K c Nn))):=below_setRow hinv.out.low (by omega) _
       have Hsz:Hid ((Tryz.prog.info? 167).map (·.size) = some (u8s (blockL K c Nn)).size):=by show _ = _; rw [u8s_size,blockL_length]; exact info64
       have Hzz:Hid ((u8s zeros64).size = (u8s (blockL K c Nn)).size):=by show _ = _; rw [u8s_size,u8s_size,blockL_length]; rfl
       have Hr:=lhd hr
       have Hz:=lhd hinv.out.res
       have Hrow:=lhd hrow
       clear hCe hC hr hrow hinv
       go_wp2_with (first | (with_reducible refine wpList_load_row rfl 167 (.tmp 10) rfl wr.heap.size rfl 167 (u8s (blockL K c Nn)) (0,0) _ Hr.out Tryz.underlying167 rfl Hsz.out ?_) | (with_reducible refine wpList_store_row rfl 167 (.tmp 6) (.tmp 66) rfl (w.heap.size + 1 + 1) (u8s (blockL K c Nn)) rfl rfl 167 (u8s zeros64) Hz.out Hsz.out Hzz.out (u8s_one _) ?_))
       exact bodyPost_ret (v:=.agg (u8s (blockL K c Nn))) (results_cell_row rfl _ _ (w.heap.size + 1 + 1) 167 _ (0,0) _ rfl Hrow.out Tryz.underlying167 rfl Hsz.out) rfl ⟨rfl,hlow⟩
end Go.Proofs.YteeghgjkjicjoaaGreatDoor.Cha
