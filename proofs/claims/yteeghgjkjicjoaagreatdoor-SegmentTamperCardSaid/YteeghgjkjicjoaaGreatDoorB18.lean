/- Texts of ours, merged. -/
import Derived.Test.YteeghgjkjicjoaaGreatDoorB13
namespace Go.Proofs.YteeghgjkjicjoaaGreatDoor.Seal
open Go.RowKit
def SlN (B:Nat) (L:List Int) (v:Value) (w:World):Prop:=SlB L v w ∧ ∀ q,v.ownBlock = some q → B ≤ q ∧ q < w.heap.size
theorem SlN.later {B:Nat} {L:List Int} {v:Value} {w w':World} (h:SlN B L v w) (hb:Below w.heap.size w w'):SlN B L v w':=⟨h.1.later hb,fun q hq => ⟨(h.2 q hq).1,Nat.lt_of_lt_of_le (h.2 q hq).2 hb.size⟩⟩
theorem SlN.base {B B':Nat} {L:List Int} {v:Value} {w:World} (h:SlN B L v w) (hB:B' ≤ B):SlN B' L v w:=⟨h.1,fun q hq => ⟨Nat.le_trans hB (h.2 q hq).1,(h.2 q hq).2⟩⟩
theorem SlN.own {B n:Nat} {L:List Int} {v:Value} {w:World} (h:w.ownsRow B 5 1 v n (vals L)) (hn:L.length = n):SlN B L v w:=by
 subst hn
 exact ⟨own_slb h,fun q hq => h.lt q hq⟩
theorem clone_new {g off c l:Nat} {L:List Int} {w:World} (hB:Byt w (some ⟨g,off,none⟩) c L) (hl:L.length = l) (hle:l ≤ 4294967296) :
 Calls Tryz.prog 35 #[.slice (some ⟨g,off,none⟩) l c] w fun e w' => ∃ v,e = .returned v ∧ SlN w.heap.size L v w' ∧ Below w.heap.size w w':=by
 refine (Dsk.clone_own hB hl hle).mono ?_
 rintro e w' ⟨v,rfl,ho,hb⟩
 exact ⟨v,rfl,SlN.own ho hl,hb⟩
def UnpN (B:Nat) (r:Option (List Int)) (e:Ending) (w':World):Prop:=match r with
 | none => e = .returned (.tuple #[.slice none 0 0,.bool false])
 | some T => ∃ v,e = .returned (.tuple #[v,.bool true]) ∧ SlN B T v w'
def OpenN (B:Nat) (r:Option (List Int × Nat)) (e:Ending) (w':World):Prop:=match r with
 | none => e = .returned (.tuple #[.slice none 0 0,.int .u32 0,.int .i64 9])
 | some x => ∃ v,e = .returned (.tuple #[v,.int .u32 (x.2:Nat),.int .i64 0]) ∧ SlN B x.1 v w'
set_option maxRecDepth 100000 in
set_option maxHeartbeats 4000000 in
theorem unpadded_new (A:Option Addr) (n c:Nat) (P:List Int) (w:World) (hn:P.length = n) (h64:64 ≤ n) (hmax:n ≤ 131072) (hB:Byt w A c P) (hb:InB P) :
 Calls Tryz.prog 109 #[.slice A n c] w fun e w' => UnpN w.heap.size (unpad P) e w' ∧ Below w.heap.size w w':=by
 obtain ⟨r,hr⟩:∃ r,r = unpad P:=⟨_,rfl⟩
 rw [← hr]
 have hr4:=be4_in hb
 obtain ⟨N,hN⟩:∃ N:Nat,be4 P = N:=⟨(be4 P).toNat,by omega⟩
 have HR:=Lib.hid hr
 have HN:=Lib.hid hN
 have Hn:=Lib.hid hn
 have hnc:n ≤ c:=by rw [← hn]; exact hB.1
 obtain ⟨g,off,rfl,hg,_⟩:=hB.2.2 (by omega)
 have HB:=Lib.hid hB
 have HRd:Hid (Calls Tryz.prog 107 #[.slice (some ⟨g,off,none⟩) 4 c] w fun e w' => e = .returned (.int .u32 (N:Nat)) ∧ Below w.heap.size w w'):=by
  have:=read_any (some ⟨g,off,none⟩) 4 c P w hB (Nat.le_refl _) (by omega) hb
  rwa [hN] at this
 obtain ⟨z,hz⟩:∃ z,z = bktI N:=⟨_,rfl⟩
 have HZ:Hid (∀ w,Calls Tryz.prog 85 #[.int .i64 (N:Nat)] w fun e w' => e = .returned (.int .i64 z) ∧ w = w'):=fun w => by rw [hz]; exact bucket_any (N:Nat) w
 have Hz:=Lib.hid hz
 have hNI:(N:Int) < 4294967296:=by omega
 have h4c:(4:Int) ≤ c:=by omega
 have h4n:(4:Int) ≤ n:=by omega
 clear hr hN hn hB hb hg hz
 by_cases hzn:z = n
 · have hNb:N ≤ 131068:=by
    have:=Hz.out
    unfold bktI at this
    split at this
    · omega
    · omega
   have hge:N + 4 ≤ n:=by
    have h1:=bkt_ge hNb
    have:=Hz.out
    unfold bktI at this
    rw [if_neg (by omega),Int.toNat_natCast] at this
    omega
   subst hzn
   clear hr4
   go_enter Tryz.func109,Tryz.ntmps109
   go_upto_region 4 with (first
    | (go_at_call 107; refine HRd.out.mono ?_; rintro e w1 ⟨rfl,hb1⟩; have Hb1:=Lib.hid hb1; clear hb1)
    | (go_at_call 85; refine (HZ.out _).mono ?_; rintro e w2 ⟨rfl,rfl⟩))
   have hgeI:4 + (N:Int) ≤ n:=by omega
   have hgcI:4 + (N:Int) ≤ c:=by omega
   have h04:0 ≤ 4 + (N:Int):=by omega
   have h44:(4:Int) ≤ 4 + (N:Int):=by omega
   have hT4:(4 + (N:Int)).toNat = 4 + N:=by omega
   have hc4:¬ c = 4:=by omega
   have hP4:4 + N ≤ P.length:=by rw [Hn.out]; omega
   have hP0:0 < P.length:=by rw [Hn.out]; omega
   have HP4:=Lib.hid hP4
   have HP0:=Lib.hid hP0
   clear hP4 hP0
   by_cases hcc:c = 4 + N
   · go_quiet (fail)
     have hnn:n = 4 + N:=by omega
     have hlowW:Below w.heap.size w (w1.drewN nq):=Below.drewN Hb1.out nq
     have hbT:Byt (w1.drewN nq) (some ⟨g,off + 4,none⟩) (N) ((P.drop 4).take N):=by have h:=byt_sub (HB.out.below (Below.drewN Hb1.out nq) (Nat.le_refl _)) 4 N HP4.out HP0.out; rwa [show c - 4 = N by omega] at h
     have hbR:Byt (w1.drewN nq) (some ⟨g,off,none⟩) (0) (P.drop (4 + N)):=by rw [List.drop_eq_nil_of_le (by rw [Hn.out]; omega)]; exact byt_empty _ _ _
     generalize w1.drewN nq = w3 at hlowW hbT hbR ⊢
     have HlW:=Lib.hid hlowW
     have HbT:=Lib.hid hbT
     have hTl:((P.drop 4).take N).length = N:=by rw [List.length_take,List.length_drop,Hn.out]; omega
     have HCl:=Lib.hid (clone_new hbT hTl (by omega))
     by_cases haz:AllZ (P.drop (4 + N))
     · have HC:=Lib.hid (contains_no hbR (by rw [List.length_drop,Hn.out]) (by omega) haz)
       have hy:=unpad_yes HN.out (by rw [Hn.out]; exact Hz.out.symm) haz
       have Hy:=Lib.hid (HR.out.trans hy)
       clear hy haz hlowW hbT hbR hTl HRd HZ hnn hNI hNb hmax
       go_wp2_with (first
        | (go_at_call 123; refine HC.out.mono ?_; rintro e w4 ⟨rfl,rfl⟩)
        | (go_at_call 35; refine HCl.out.mono ?_; rintro e w5 ⟨v5,rfl,hs5,hb5⟩; have Hs5:=Lib.hid hs5; have Hb5:=Lib.hid hb5; clear hs5 hb5))
       go_ret2
       refine ⟨?_,HlW.out.trans (Hb5.out.mono HlW.out.size)⟩
       rw [Hy.out]
       exact ⟨_,rfl,Hs5.out.base HlW.out.size⟩
     · have HC:=Lib.hid (contains_yes hbR (by rw [List.length_drop,Hn.out]) (by omega) haz)
       have hy:=unpad_no HN.out (fun h => haz h.2)
       have Hy:=Lib.hid (HR.out.trans hy)
       clear hy haz hlowW hbT hbR hTl HRd HZ hnn hNI hNb hmax
       go_wp2_with (go_at_call 123; refine HC.out.mono ?_; rintro e w4 ⟨rfl,rfl⟩)
       go_ret2
       refine ⟨?_,HlW.out⟩
       rw [Hy.out]
       rfl
   · have hcc2:¬ 4 + N = c:=by omega
     go_quiet (fail)
     have hlowW:Below w.heap.size w (w1.drewN nq):=Below.drewN Hb1.out nq
     have hbT:Byt (w1.drewN nq) (some ⟨g,off + 4,none⟩) (c - 4) ((P.drop 4).take N):=byt_sub (HB.out.below (Below.drewN Hb1.out nq) (Nat.le_refl _)) 4 N HP4.out HP0.out
     have hbR:Byt (w1.drewN nq) (some ⟨g,off + (4 + N),none⟩) (c - (4 + N)) (P.drop (4 + N)):=by have h:=byt_sub (HB.out.below (Below.drewN Hb1.out nq) (Nat.le_refl _)) (4 + N) (P.length - (4 + N)) (by have:=HP4.out; omega) HP0.out; rwa [List.take_of_length_le (by rw [List.length_drop]; exact Nat.le_refl _)] at h
     generalize w1.drewN nq = w3 at hlowW hbT hbR ⊢
     have HlW:=Lib.hid hlowW
     have HbT:=Lib.hid hbT
     have hTl:((P.drop 4).take N).length = N:=by rw [List.length_take,List.length_drop,Hn.out]; omega
     have HCl:=Lib.hid (clone_new hbT hTl (by omega))
     by_cases haz:AllZ (P.drop (4 + N))
     · have HC:=Lib.hid (contains_no hbR (by rw [List.length_drop,Hn.out]) (by omega) haz)
       have hy:=unpad_yes HN.out (by rw [Hn.out]; exact Hz.out.symm) haz
       have Hy:=Lib.hid (HR.out.trans hy)
       clear hy haz hlowW hbT hbR hTl HRd HZ hNI hNb hmax
       go_wp2_with (first
        | (go_at_call 123; refine HC.out.mono ?_; rintro e w4 ⟨rfl,rfl⟩)
        | (go_at_call 35; refine HCl.out.mono ?_; rintro e w5 ⟨v5,rfl,hs5,hb5⟩; have Hs5:=Lib.hid hs5; have Hb5:=Lib.hid hb5; clear hs5 hb5))
       go_ret2
       refine ⟨?_,HlW.out.trans (Hb5.out.mono HlW.out.size)⟩
       rw [Hy.out]
       exact ⟨_,rfl,Hs5.out.base HlW.out.size⟩
     · have HC:=Lib.hid (contains_yes hbR (by rw [List.length_drop,Hn.out]) (by omega) haz)
       have hy:=unpad_no HN.out (fun h => haz h.2)
       have Hy:=Lib.hid (HR.out.trans hy)
       clear hy haz hlowW hbT hbR hTl HRd HZ hNI hNb hmax
       go_wp2_with (go_at_call 123; refine HC.out.mono ?_; rintro e w4 ⟨rfl,rfl⟩)
       go_ret2
       refine ⟨?_,HlW.out⟩
       rw [Hy.out]
       rfl
 · have hno:=unpad_no HN.out (fun h => hzn (by rw [Hz.out,h.1,Hn.out]))
   have Hy:=Lib.hid (HR.out.trans hno)
   have hzb:(z == (n:Int)) = false:=beq_eq_false_iff_ne.2 hzn
   clear hno hr4 Hz
   go_enter Tryz.func109,Tryz.ntmps109
   go_upto_region 2 with (go_at_call 107; refine HRd.out.mono ?_; rintro e w1 ⟨rfl,hb1⟩; have Hb1:=Lib.hid hb1; clear hb1)
   clear hNI hmax
   go_wp2_with (go_at_call 85; refine (HZ.out _).mono ?_; rintro e w2 ⟨rfl,rfl⟩)
   go_ret2
   refine ⟨?_,Hb1.out⟩
   rw [Hy.out]
   rfl
set_option maxRecDepth 100000 in
set_option maxHeartbeats 8000000 in
theorem open_in_new (k C S:List Int) (pos ep0 q:Nat) (A A2:Option Addr) (n c m c2:Nat) (w:World) (hk:k.length = 32) (hb:InB k) (hC:C.length = n) (hCb:InB C) (hn:n ≤ 1000) (hS:S.length = m) (hSb:InB S) (hm:m = 36 + q) (hbk:isBk (q:Int)) (hp:pos < 18446744073709551616) (hB1:Byt w A c C) (hB2:Byt w A2 c2 S) (hLd:SLaid w) :
 Calls Tryz.prog 79 #[.agg (u8s k),.agg #[.slice A n c,.int .u64 (pos:Nat),.int .u32 (ep0:Nat)],.slice A2 m c2] w fun e w' => OpenN w.heap.size (openL k C pos S) e w' ∧ Below w.heap.size w w':=by
 obtain ⟨r,hr⟩:∃ r,r = openL k C pos S:=⟨_,rfl⟩
 rw [← hr]
 have hbq:=isBk_pos hbk
 have hq1:64 ≤ q:=by omega
 have hq2:q ≤ 131072:=by omega
 have hE4:=be4_in hSb
 obtain ⟨E,hE⟩:∃ E:Nat,be4 S = E:=⟨(be4 S).toNat,by omega⟩
 obtain ⟨B,hB⟩:∃ B,B = (S.drop 4).take q:=⟨_,rfl⟩
 obtain ⟨TD,hTD⟩:∃ TD,TD = S.drop (4 + q):=⟨_,rfl⟩
 obtain ⟨TT,hTT⟩:∃ TT,TT = tagL k C pos E B:=⟨_,rfl⟩
 obtain ⟨DD,hDD⟩:∃ DD,DD = bodyL k C pos E B:=⟨_,rfl⟩
 have hBl:B.length = q:=by rw [hB,List.length_take,List.length_drop,hS]; omega
 have hBin:InB B:=by rw [hB]; exact (hSb.drop _).take _
 have HBq:Hid (B.length = q ∧ InB B):=⟨hBl,hBin⟩
 have HTl:Hid (TT.length = 32 ∧ InB TT):=⟨by rw [hTT]; exact tagL_length _ _ _ _ _,by rw [hTT]; exact tagL_in _ _ _ _ _⟩
 have HTD:Hid (TD.length = 32 ∧ InB TD):=⟨by rw [hTD,List.length_drop,hS]; omega,by rw [hTD]; exact hSb.drop _⟩
 have HDl:Hid (64 ≤ DD.length ∧ DD.length ≤ 131072 ∧ InB DD):=⟨by rw [hDD,bodyL_length,hBl]; exact hq1,by rw [hDD,bodyL_length,hBl]; exact hq2,by rw [hDD]; exact bodyL_in hBin⟩
 have HTT:Hid (tagL k C pos E B = TT):=hTT.symm
 have HDD:Hid (bodyL k C pos E B = DD):=hDD.symm
 have HNo:Hid (TT ≠ TD → r = none):=fun h => by rw [hr]; exact openL_no2 (hS.trans hm) hE (by rw [← hB,← hTT,← hTD]; exact h)
 have HYes:Hid (TT = TD → r = (unpad DD).map fun L => (L,E)):=fun h => by
  rw [hr,openL_yes (by rw [hS,hm]; rw [show ((36 + q:Nat):Int) - 36 = q by omega]; exact hbk) (hS.trans hm) hE (by rw [← hB,← hTT,← hTD]; exact h),← hB,hDD]
 have HpE:Hid (pos < 18446744073709551616 ∧ E < 4294967296):=⟨hp,by omega⟩
 have Hk:Hid (k.length = 32 ∧ InB k):=⟨hk,hb⟩
 have HCC:Hid (C.length = n ∧ InB C):=⟨hC,hCb⟩
 have hmc:m ≤ c2:=by rw [← hS]; exact hB2.1
 obtain ⟨g,off,rfl,_,_⟩:=hB2.2.2 (by omega)
 have HBb0:Hid (∀ w',Below w.heap.size w w' → Byt w' (some ⟨g,off + 4,none⟩) (c2 - 4) B):=fun w' h => by rw [hB]; exact byt_sub (hB2.below h (Nat.le_refl _)) 4 q (by omega) (by omega)
 have HTDb0:Hid (∀ w',Below w.heap.size w w' → Byt w' (some ⟨g,off + (4 + q),none⟩) (c2 - (4 + q)) TD):=fun w' h => by
  have h2:=byt_sub (hB2.below h (Nat.le_refl _)) (4 + q) 32 (by omega) (by omega)
  rwa [List.take_of_length_le (by rw [List.length_drop]; omega),← hTD] at h2
 have HRd:Hid (∀ w',Below w.heap.size w w' → Calls Tryz.prog 107 #[.slice (some ⟨g,off,none⟩) 4 c2] w' fun e w'' => e = .returned (.int .u32 (E:Nat)) ∧ Below w'.heap.size w' w''):=fun w' h => by
  have h2:=read_any (some ⟨g,off,none⟩) 4 c2 S w' (hB2.below h (Nat.le_refl _)) (Nat.le_refl _) (by omega) hSb
  rwa [hE] at h2
 have HIs:Hid (∀ w,Calls Tryz.prog 106 #[.int .i64 (q:Nat)] w fun e w' => e = .returned (.bool true) ∧ w = w'):=fun w => by
  have h:=isBucket_any (q:Nat) (by omega) (by omega) w
  rwa [decide_eq_true hbk] at h
 have HC0:=Lib.hid hB1
 have HLD0:=Lib.hid hLd
 have HsK0:Hid ((Tryz.prog.info? 24).map (·.size) = some (u8s k).size):=by show _ = _; rw [u8s_size,hk]; exact infoH
 have hx1:(m:Int) - 4 - 32 = q:=by omega
 have hmI:(m:Int) ≤ 131108:=by omega
 have h4c:(4:Int) ≤ c2:=by omega
 have h4m:(4:Int) ≤ m:=by omega
 have hlow0:=below_two w (.cells (u8s k) 24) (.cells #[.slice A n c,.int .u64 (pos:Nat),.int .u32 (ep0:Nat)] 106)
 have hK0:=(two_new w (.cells (u8s k) 24) (.cells #[.slice A n c,.int .u64 (pos:Nat),.int .u32 (ep0:Nat)] 106)).1
 have hP0:=(two_new w (.cells (u8s k) 24) (.cells #[.slice A n c,.int .u64 (pos:Nat),.int .u32 (ep0:Nat)] 106)).2
 have Hlow0:=Lib.hid hlow0
 have HK0:=Lib.hid hK0
 have HP0:=Lib.hid hP0
 have Hmq:=Lib.hid hm
 clear hr hbq hE4 hE hB hTD hTT hDD hBl hBin hk hb hC hCb hS hSb hbk hp hB1 hB2 hLd hlow0 hK0 hP0 hm
 go_enter Tryz.func79,Tryz.ntmps79
 go_upto_region 4 with (go_at_call 106; refine (HIs.out _).mono ?_; rintro e w' ⟨rfl,rfl⟩)
 generalize World.alloc _ _ = w0 at Hlow0 HK0 HP0 ⊢
 have Hrd:=Lib.hid (HRd.out w0 Hlow0.out)
 clear HRd HIs
 have hgP:∀ w1:World,Below w0.heap.size w0 w1 → w1.cell? ⟨w.heap.size + 1,2,none⟩ = some (.int .u32 (ep0:Nat)) ∧ w1.frozen? ⟨w.heap.size + 1,2,none⟩ = false:=fun w1 h => by
  have hb:=(h.block _ (Array.getElem?_eq_some_iff.1 HP0.out).1).trans HP0.out
  exact ⟨by rw [cell_row hb]; rfl,free_row hb 2⟩
 have HgP:=Lib.hid hgP
 clear hgP
 go_upto_region 5 with (go_at_call 107; refine Hrd.out.mono ?_; rintro e w1 ⟨rfl,hb1⟩; have cP:=(HgP.out _ hb1).1; have fP:=(HgP.out _ hb1).2; have Hb1:=Lib.hid hb1; clear hb1)
 have hb01:Below w0.heap.size w0 w1:=Hb1.out
 have hlow1:Below w.heap.size w w1:=Hlow0.out.trans (hb01.mono Hlow0.out.size)
 have hP1:=heap_setCell_same w1 (w.heap.size + 1) 2 _ _ (.int .u32 (E:Nat)) ((hb01.block _ (Array.getElem?_eq_some_iff.1 HP0.out).1).trans HP0.out)
 have hK1:(w1.setCell ⟨w.heap.size + 1,2,none⟩ (.int .u32 (E:Nat))).heap[w.heap.size]? = some (.cells (u8s k) 24 (0,0)):=by
  have h1:=((Chg.refl [w.heap.size + 1] w1).setCell (p:=⟨w.heap.size + 1,2,none⟩) (by simp) (.int .u32 (E:Nat)))
  exact (h1.block _ (Nat.lt_of_lt_of_le (Array.getElem?_eq_some_iff.1 HK0.out).1 hb01.size) (by simp)).trans ((hb01.block _ (Array.getElem?_eq_some_iff.1 HK0.out).1).trans HK0.out)
 have hlow1':Below w.heap.size w (w1.setCell ⟨w.heap.size + 1,2,none⟩ (.int .u32 (E:Nat))):=Below.setCell (p:=⟨w.heap.size + 1,2,none⟩) hlow1 (by simp) _
 clear hb01 hlow1 Hb1 cP fP Hrd HgP HP0 HK0 Hlow0
 generalize World.setCell _ _ _ = w2 at hP1 hK1 hlow1' ⊢
 have hgm:4 + (q:Int) ≤ m:=by have:=Hmq.out; omega
 have hgc:4 + (q:Int) ≤ c2:=by omega
 have h04:0 ≤ 4 + (q:Int):=by omega
 have h44:(4:Int) ≤ 4 + (q:Int):=by omega
 have hT4:(4 + (q:Int)).toNat = 4 + q:=by omega
 have hc4:¬ c2 = 4:=by omega
 have hcc:¬ c2 = 4 + q:=by have:=Hmq.out; omega
 have hcc2:¬ 4 + q = c2:=by have:=Hmq.out; omega
 have hmm:m - (4 + q) = 32:=by have:=Hmq.out; omega
 have HP1:=Lib.hid hP1
 have HK1:=Lib.hid hK1
 have HL1:=Lib.hid hlow1'
 clear hP1 hK1 hlow1'
 go_quiet (fail)
 have hd:Below w2.heap.size w2 (w2.drewN nq):=Below.drewN (Below.refl _ _) nq
 have HK2:Hid ((w2.drewN nq).heap[w.heap.size]? = some (.cells (u8s k) 24 (0,0))):=HK1.out
 have HPL2:Hid ((w2.drewN nq).heap[w.heap.size + 1]? = some (.cells #[.slice A n c,.int .u64 (pos:Nat),.int .u32 (E:Nat)] 106 (0,0))):=HP1.out
 have HL2:Hid (Below w.heap.size w (w2.drewN nq)):=HL1.out.trans (hd.mono HL1.out.size)
 clear hd HK1 HP1 HL1
 generalize w2.drewN nq = w2 at HK2 HPL2 HL2 ⊢
 have HC2:=Lib.hid (HC0.out.below HL2.out (Nat.le_refl _))
 have HLD2:=Lib.hid (HLD0.out.later HL2.out)
 have HBb:=Lib.hid (HBb0.out _ HL2.out)
 clear hgm hgc h04 h44 hT4 hc4 hcc hcc2 hmm HC0 HLD0 hmI
 go_upto_region 7 with (first
  | (go_at_call 88; refine (tagOf_any k C B pos E A (some ⟨g,off + 4,none⟩) n c q (c2 - 4) w2 Hk.out.1 Hk.out.2 HCC.out.1 HCC.out.2 hn HBq.out.1 HBq.out.2 hq2 HpE.out HC2.out HBb.out HLD2.out).mono ?_; rintro e w5 ⟨rfl,hb5⟩; rw [HTT.out]; have Hb5:=Lib.hid hb5; clear hb5)
  | (refine wpList_store_new rfl (.tmp 12) (.tmp 37) rfl TT HTl.out.1 _ (by rfl) (by rfl) (by rfl) ?_; intro w6 hr6 hb6; have HT6:=Lib.hid hr6; have Hb6:=Lib.hid hb6; clear hr6 hb6)
  | (refine wpList_load_row rfl 24 (.tmp 3) rfl w.heap.size rfl 24 (u8s k) (0,0) _ HK2.out Tryz.underlying24 rfl HsK0.out ?_)
  | (refine wpList_load_row rfl 106 (.tmp 4) rfl (w.heap.size + 1) rfl 106 #[.slice A n c,.int .u64 (pos:Nat),.int .u32 (E:Nat)] (0,0) _ HPL2.out Tryz.underlying106 rfl infoP ?_))
 have hl26:Below w2.heap.size w2 w6:=Hb5.out.trans (Hb6.out.mono Hb5.out.size)
 have HL6:=Lib.hid (HL2.out.trans (hl26.mono HL2.out.size))
 have HC6:=Lib.hid (HC2.out.below hl26 (Nat.le_refl _))
 have HLD6:=Lib.hid (HLD2.out.later hl26)
 have HBb6:=Lib.hid (HBb0.out _ HL6.out)
 have HTD6:=Lib.hid (HTDb0.out _ HL6.out)
 have HK6:=Lib.hid ((hl26.block _ (Array.getElem?_eq_some_iff.1 HK2.out).1).trans HK2.out)
 have HPL6:=Lib.hid ((hl26.block _ (Array.getElem?_eq_some_iff.1 HPL2.out).1).trans HPL2.out)
 clear hl26 Hb5 Hb6 HC2 HLD2 HBb HBb0 HTDb0 HK2 HPL2 HL2
 by_cases htt:TT = TD
 · have HEq:Hid (Calls Tryz.prog 108 #[.slice (some ⟨w5.heap.size,0,none⟩) 32 32,.slice (some ⟨g,off + (4 + q),none⟩) 32 (c2 - (4 + q))] w6 fun e w' => e = .returned (.bool true) ∧ ∃ q,w' = w6.drewN q):=by
    have hd:=HTD6.out
    rw [← htt] at hd
    exact equal_yes TT _ _ 32 _ 32 w6 HTl.out.1 HTl.out.2 (byt_rowF HT6.out HTl.out.1) hd (by decide)
   have hy:=HYes.out htt
   have HY:=Lib.hid hy
   clear hy HYes HNo htt HTD6 HTD HTl
   cases hu:unpad DD with
   | none =>
     have HU:=Lib.hid hu
     clear hu
     go_wp2_with (first
      | (go_at_call 108; refine HEq.out.mono ?_; rintro e w7 ⟨rfl,q7,rfl⟩)
      | (go_at_call 86; refine (ciphered_any k C B pos E A (some ⟨g,off + 4,none⟩) n c q (c2 - 4) _ Hk.out.1 Hk.out.2 HCC.out.1 HCC.out.2 hn HBq.out.1 hq2 HpE.out (HC6.out.below (Below.drewN (Below.refl _ _) q7) (Nat.le_refl _)) (HBb6.out.below (Below.drewN (Below.refl _ _) q7) (Nat.le_refl _)) (HLD6.out.later (Below.drewN (Below.refl _ _) q7))).mono ?_; rintro e w8 ⟨v8,rfl,hs8,hb8⟩; rw [HDD.out] at hs8; obtain ⟨A8,c8,rfl,hs8⟩:=hs8; have Hs8:=Lib.hid hs8; have Hb8:=Lib.hid ((Below.drewN (Below.refl _ _) q7).trans hb8); clear hs8 hb8)
      | (go_at_call 109; refine (unpadded_new A8 DD.length c8 DD w8 rfl HDl.out.1 HDl.out.2.1 Hs8.out HDl.out.2.2).mono ?_; rintro e w9 ⟨he9,hb9⟩; rw [HU.out] at he9; have he9:e = Ending.returned (.tuple #[.slice none 0 0,.bool false]):=he9; subst he9; have Hb9:=Lib.hid hb9; clear hb9)
      | (refine wpList_load_row rfl 24 (.tmp 3) rfl w.heap.size rfl 24 (u8s k) (0,0) _ HK6.out Tryz.underlying24 rfl HsK0.out ?_)
      | (refine wpList_load_row rfl 106 (.tmp 4) rfl (w.heap.size + 1) rfl 106 #[.slice A n c,.int .u64 (pos:Nat),.int .u32 (E:Nat)] (0,0) _ HPL6.out Tryz.underlying106 rfl infoP ?_))
     go_ret3
     refine ⟨?_,HL6.out.trans ((Hb8.out.trans (Hb9.out.mono Hb8.out.size)).mono HL6.out.size)⟩
     rw [HY.out,HU.out]
     rfl
   | some T =>
     have HU:=Lib.hid hu
     clear hu
     go_upto_region 12 with (first
      | (go_at_call 108; refine HEq.out.mono ?_; rintro e w7 ⟨rfl,q7,rfl⟩)
      | (go_at_call 86; refine (ciphered_any k C B pos E A (some ⟨g,off + 4,none⟩) n c q (c2 - 4) _ Hk.out.1 Hk.out.2 HCC.out.1 HCC.out.2 hn HBq.out.1 hq2 HpE.out (HC6.out.below (Below.drewN (Below.refl _ _) q7) (Nat.le_refl _)) (HBb6.out.below (Below.drewN (Below.refl _ _) q7) (Nat.le_refl _)) (HLD6.out.later (Below.drewN (Below.refl _ _) q7))).mono ?_; rintro e w8 ⟨v8,rfl,hs8,hb8⟩; rw [HDD.out] at hs8; obtain ⟨A8,c8,rfl,hs8⟩:=hs8; have Hs8:=Lib.hid hs8; have Hb8:=Lib.hid ((Below.drewN (Below.refl _ _) q7).trans hb8); clear hs8 hb8)
      | (go_at_call 109; refine (unpadded_new A8 DD.length c8 DD w8 rfl HDl.out.1 HDl.out.2.1 Hs8.out HDl.out.2.2).mono ?_; rintro e w9 ⟨he9,hb9⟩; rw [HU.out] at he9; obtain ⟨v9,he9,hs9⟩:=he9; subst he9; have Hs9:=Lib.hid (hs9.base (Nat.le_trans HL6.out.size Hb8.out.size)); clear hs9; have Hb9:=Lib.hid hb9; clear hb9)
      | (refine wpList_load_row rfl 24 (.tmp 3) rfl w.heap.size rfl 24 (u8s k) (0,0) _ HK6.out Tryz.underlying24 rfl HsK0.out ?_)
      | (refine wpList_load_row rfl 106 (.tmp 4) rfl (w.heap.size + 1) rfl 106 #[.slice A n c,.int .u64 (pos:Nat),.int .u32 (E:Nat)] (0,0) _ HPL6.out Tryz.underlying106 rfl infoP ?_))
     have hl69:Below w6.heap.size w6 w9:=Hb8.out.trans (Hb9.out.mono Hb8.out.size)
     have hP9:=cell_row ((hl69.block _ (Array.getElem?_eq_some_iff.1 HPL6.out).1).trans HPL6.out) 2
     simp only [List.getElem?_toArray,List.getElem?_cons_zero,List.getElem?_cons_succ] at hP9
     have HL9:=Lib.hid (HL6.out.trans (hl69.mono HL6.out.size))
     clear hl69 Hb8 Hb9
     go_quiet (fail)
     go_wp2
     go_ret3
     refine ⟨?_,Below.drewN HL9.out _⟩
     rw [HY.out,HU.out]
     exact ⟨v9,rfl,Hs9.out.later (Below.drewN (Below.refl _ _) _)⟩
 · have HEq:Hid (Calls Tryz.prog 108 #[.slice (some ⟨w5.heap.size,0,none⟩) 32 32,.slice (some ⟨g,off + (4 + q),none⟩) 32 (c2 - (4 + q))] w6 fun e w' => e = .returned (.bool false) ∧ ∃ q,w' = w6.drewN q) :=
    equal_no TT TD _ _ 32 _ 32 32 w6 HTl.out.1 HTD.out.1 HTl.out.2 HTD.out.2 (byt_rowF HT6.out HTl.out.1) HTD6.out (by decide) htt
   have hy:=HNo.out htt
   have HY:=Lib.hid hy
   clear hy HYes HNo htt HTD6 HTD HTl
   go_wp2_with (go_at_call 108; refine HEq.out.mono ?_; rintro e w7 ⟨rfl,q7,rfl⟩)
   go_ret3
   refine ⟨?_,Below.drewN HL6.out _⟩
   rw [HY.out]
   rfl
theorem open_new (k C S:List Int) (pos ep0:Nat) (A A2:Option Addr) (n c m c2:Nat) (w:World) (hk:k.length = 32) (hb:InB k) (hC:C.length = n) (hCb:InB C) (hn:n ≤ 1000) (hS:S.length = m) (hSb:InB S) (hm:m ≤ 200000) (hp:pos < 18446744073709551616) (hB1:Byt w A c C) (hB2:Byt w A2 c2 S) (hLd:SLaid w) :
 Calls Tryz.prog 79 #[.agg (u8s k),.agg #[.slice A n c,.int .u64 (pos:Nat),.int .u32 (ep0:Nat)],.slice A2 m c2] w fun e w' => OpenN w.heap.size (openL k C pos S) e w' ∧ Below w.heap.size w w':=by
 by_cases h:isBk ((m:Int) - 36)
 · have hp:=isBk_pos h
   obtain ⟨q,hq⟩:∃ q:Nat,m = 36 + q:=⟨m - 36,by omega⟩
   exact open_in_new k C S pos ep0 q A A2 n c m c2 w hk hb hC hCb hn hS hSb hq (by rwa [hq,show ((36 + q:Nat):Int) - 36 = q by omega] at h) (by assumption) hB1 hB2 hLd
 · rw [openL_no1 (by rw [hS]; exact h)]
   exact open_bad k _ pos ep0 A2 m c2 hm h w
end Go.Proofs.YteeghgjkjicjoaaGreatDoor.Seal
