/- Texts of ours, merged. -/
import Derived.Test.YteeghgjkjicjoaaGreatDoorB20
namespace Go.Proofs.YteeghgjkjicjoaaGreatDoor.Sgm
open Go.RowKit Dsk Slt Epo
def Tab:List Nat:=[2, 1, 0]
theorem tab_lt {w:World} (h:Seal.SLaid w):∀ q ∈ Tab,q < w.heap.size:=by
 intro q hq
 simp only [Tab,List.mem_cons,List.mem_nil_iff,or_false] at hq
 rcases hq with rfl | rfl | rfl
 · exact World.block_lt_of_cell? _ _ (h.sha.k 0 (by decide))
 · exact World.block_lt_of_cell? _ _ (h.sha.s 0 (by decide))
 · exact h.cha.lt
theorem slaid_chg {X:List Nat} {w w':World} (h:Seal.SLaid w) (hc:Chg X w w') (hX:∀ q ∈ X,q ∉ Tab):Seal.SLaid w':=by
 have hk:∀ q ∈ Tab,w'.heap[q]? = w.heap[q]?:=fun q hq => hc.block q (tab_lt h q hq) (fun hm => hX q hm hq)
 refine ⟨⟨fun j hj => (World.cell?_of_block (hk _ (by simp [Tab]))).trans (h.sha.k j hj),fun j hj => (World.cell?_of_block (hk _ (by simp [Tab]))).trans (h.sha.s j hj),Nat.le_trans h.sha.sz hc.size⟩,?_⟩
 obtain ⟨t,fr,hr⟩:=h.cha.row
 exact ⟨t,fr,(hk _ (by simp [Tab])).trans hr⟩
def xs0 (D:DS):Int:=if D.off then 12 else tellE (regL D 0 1024)
def CtW (x:Int) (D:DS) (K:DK) (B:Nat) (cp:Option Addr) (w:World):Prop:=x = 0 → ∃ gC v,cp = some ⟨gC,0,none⟩ ∧ D.off = false ∧ Cnt (regL D 0 1024) v ∧ Ct w K gC ⟨0,1024,v⟩ ∧ B ≤ gC
theorem within8 {D:DS} (h:9 ≤ D.secs):withinI 0 8 D.secs = true:=by
 unfold withinI
 rw [decide_eq_true (by omega),decide_eq_true (by omega),decide_eq_true (by omega)]
 rfl
theorem ctOpen_any {w:World} {K:DK} {D:DS} (h:Dsk w K D) (h9:9 ≤ D.secs):Calls Tryz.prog 40 #[.pointer (some ⟨K.g,0,none⟩),.int .i64 0,.int .i64 8] w fun e w' => ∃ cp,e = .returned (.tuple #[.pointer cp,.int .i64 (xs0 D)]) ∧ CtW (xs0 D) D K w.heap.size cp w' ∧ Below w.heap.size w w':=by
 unfold xs0
 by_cases ho:D.off = true
 · rw [if_pos ho]
   have e:refE D (withinI 0 8 D.secs) = 12:=by rw [within8 h9]; unfold refE; rw [if_pos rfl,if_pos ho]
   have:=Epo.open_no h 0 8 (by decide) (by rw [e]; decide)
   rw [e] at this
   refine this.mono ?_
   rintro e w' ⟨rfl,rfl⟩
   exact ⟨none,rfl,(fun h => by cases h),Below.refl _ _⟩
 · have hof:D.off = false:=by simpa using ho
   rw [if_neg ho]
   rcases tell_cases (regL D 0 1024) with ⟨h1,_⟩ | ⟨h1,h2,_⟩
   · rw [h1]
     refine (Epo.open_bad h 0 8 (by decide) (by omega) hof h1).mono ?_
     rintro e w' ⟨rfl,hb⟩
     exact ⟨none,rfl,(fun h => by cases h),hb⟩
   · rw [h1]
     refine (Epo.open_ok h 0 8 _ (by decide) (by omega) hof h2).mono ?_
     rintro e w' ⟨g,rfl,hg,hc,hb⟩
     exact ⟨_,rfl,fun _ => ⟨g,_,rfl,hof,h2,hc,hg⟩,hb⟩
section
variable {w0 w:World} {K:DK} {bd bs bc gS:Nat} {key:List Int} {A:Option Addr} {c:Nat} {C:List Int} {D:DS}
set_option maxRecDepth 100000 in
set_option maxHeartbeats 1000000 in
theorem open1_any {lg cp:Option Addr} {ep:Nat} {tv:Value} (h:OB w0 w K bd bs bc gS lg cp key A c C ep tv D) (h9:9 ≤ D.secs):Calls Tryz.prog 39 #[.pointer (some ⟨bd,0,none⟩),.pointer (some ⟨bc,0,none⟩)] w fun e w' => e = .returned (.int .i64 (xs0 D)) ∧ ∃ cp',OB w0 w' K bd bs bc gS lg cp' key A c C ep tv D ∧ CtW (xs0 D) D K w.heap.size cp' w' ∧ Chg [bc] w w':=by
 have H:=Lib.hid h
 have Ho:=Lib.hid (ctOpen_any h.dsk h9)
 have c0:w.cell? ⟨bd,0,none⟩ = some (.pointer (some ⟨K.g,0,none⟩)):=cell_row h.d 0
 obtain ⟨x,hx⟩:∃ x,x = xs0 D:=⟨_,rfl⟩
 rw [← hx] at Ho ⊢
 clear h h9 hx
 go_enter Tryz.func39,Tryz.ntmps39
 go_wp2_with (go_at_call 40; refine Ho.out.mono ?_; rintro e w2 ⟨cp2,rfl,hw2,hb2⟩; have ho2:=H.out.later hb2; have cc:=cell_row ho2.cc 0; have fc:=free_row ho2.cc 0; have Ho2:=Lib.hid ho2; have Hw2:=Lib.hid hw2; have Hb2:=Lib.hid hb2; clear hw2 hb2 ho2)
 go_ret
 refine ⟨rfl,cp2,Ho2.out.setC cp2,fun hx => ?_,(Chg.of_below Hb2.out).setCell (by simp) _⟩
 obtain ⟨gC,v,e1,e2,e3,e4,e5⟩:=Hw2.out hx
 have hlt:=H.out.lt
 exact ⟨gC,v,e1,e2,e3,e4.chg ((Chg.refl [bc] _).setCell (by simp) _) (by simp; intro e6; omega),e5⟩
def LgW (x:Int) (K:DK) (S:LS) (B:Nat) (lp:Option Addr) (w:World):Prop:=x = 0 → ∃ J:LK,lp = some ⟨J.g,0,none⟩ ∧ Lg w K J S ∧ (∀ q ∈ J.bl,B ≤ q) ∧ (∀ q ∈ J.tx,B ≤ q)
theorem LgW.chg {x:Int} {S:LS} {B:Nat} {lp:Option Addr} {w':World} {X:List Nat} (h:LgW x K S B lp w) (hc:Chg X w w') (hX:∀ q ∈ X,q < B):LgW x K S B lp w':=fun hx => by
 obtain ⟨J,e,hl,h1,h2⟩:=h hx
 exact ⟨J,e,hl.chg hc (fun q hq hm => by have:=h1 q hq; have:=hX q hm; omega) (fun q hq hm => by have:=h2 q hq; have:=hX q hm; omega),h1,h2⟩
def LgT (x:Int) (K:DK) (S:LS) (B:Nat) (v:Value) (w:World):Prop:=∃ lp,v = .tuple #[.pointer lp,.int .i64 x] ∧ LgW x K S B lp w
def LgP (x:Int) (K:DK) (S:LS) (B:Nat) (v:Value) (w:World):Prop:=∃ lp,v = .pointer lp ∧ LgW x K S B lp w
theorem LgT.chg {x:Int} {S:LS} {B:Nat} {v:Value} {w':World} {X:List Nat} (h:LgT x K S B v w) (hc:Chg X w w') (hX:∀ q ∈ X,q < B):LgT x K S B v w':=by
 obtain ⟨lp,e,h⟩:=h; exact ⟨lp,e,h.chg hc hX⟩
theorem LgP.chg {x:Int} {S:LS} {B:Nat} {v:Value} {w':World} {X:List Nat} (h:LgP x K S B v w) (hc:Chg X w w') (hX:∀ q ∈ X,q < B):LgP x K S B v w':=by
 obtain ⟨lp,e,h⟩:=h; exact ⟨lp,e,h.chg hc hX⟩
theorem LgT.base {x:Int} {S:LS} {B B':Nat} {v:Value} (h:LgT x K S B v w) (hB:B' ≤ B):LgT x K S B' v w:=by
 obtain ⟨lp,e,h⟩:=h
 refine ⟨lp,e,fun hx => ?_⟩
 obtain ⟨J,e,hl,h1,h2⟩:=h hx
 exact ⟨J,e,hl,fun q hq => Nat.le_trans hB (h1 q hq),fun q hq => Nat.le_trans hB (h2 q hq)⟩
theorem LgT.later {x:Int} {S:LS} {B:Nat} {v:Value} {w':World} (h:LgT x K S B v w) (hb:Below w.heap.size w w'):LgT x K S B v w':=h.chg (X:=[]) (Chg.of_below hb) (by simp)
theorem LgP.later {x:Int} {S:LS} {B:Nat} {v:Value} {w':World} (h:LgP x K S B v w) (hb:Below w.heap.size w w'):LgP x K S B v w':=h.chg (X:=[]) (Chg.of_below hb) (by simp)
def RowL (gS:Nat) (K:DK) (key:List Int) (cx:Value) (ep:Nat) (tv:Value) (x:Int) (S:LS) (B:Nat) (_v:Value) (w:World):Prop:=∃ lp,w.heap[gS]? = some (.cells (rowG none K lp key cx ep tv false) 88 (0,0)) ∧ LgW x K S B lp w
theorem RowL.later {cx tv v:Value} {ep B:Nat} {x:Int} {S:LS} {w':World} (h:RowL gS K key cx ep tv x S B v w) (hb:Below w.heap.size w w'):RowL gS K key cx ep tv x S B v w':=by
 obtain ⟨lp,h1,h2⟩:=h
 exact ⟨lp,(hb.block _ (Array.getElem?_eq_some_iff.1 h1).1).trans h1,h2.chg (X:=[]) (Chg.of_below hb) (by simp)⟩
def logL (D:DS):List Int:=(D.data.drop (8 * 128)).take ((D.secs - 8) * 128)
def logS (D:DS) (cs:List (List Int)):LS:=⟨8,D.secs - 8,useR cs (List.range cs.length),cs.map textC,false⟩
def xs1 (e:Bool):Int:=if e then 9 else 0
theorem lgOpen_any {w:World} {K:DK} {D:DS} (h:Dsk w K D) (h9:9 ≤ D.secs) (ho:D.off = false) {cs:List (List Int)} {R:List Int} {e:Bool} (hr:Reads (logL D) cs R e):Calls Tryz.prog 42 #[.pointer (some ⟨K.g,0,none⟩),.int .i64 8,.int .i64 ((D.secs - 8:Nat):Int)] w fun v w' => ∃ u,v = .returned u ∧ LgT (xs1 e) K (logS D cs) w.heap.size u w' ∧ Below w.heap.size w w':=by
 refine (open_walk h 8 (D.secs - 8) (by omega) (by omega) ho (L:=logL D) rfl hr).mono ?_
 rintro v w' ⟨hq,hb⟩
 rcases hq with ⟨rfl,rfl⟩ | ⟨rfl,J,rfl,hl,h1,h2⟩
 · exact ⟨_,rfl,⟨none,rfl,(fun h => by cases h)⟩,hb⟩
 · exact ⟨_,rfl,⟨some ⟨J.g,0,none⟩,rfl,fun _ => ⟨J,rfl,hl,h1,h2⟩⟩,hb⟩
set_option maxRecDepth 100000 in
set_option maxHeartbeats 2000000 in
theorem open2_any {lg cp:Option Addr} {ep:Nat} {tv:Value} (h:OB w0 w K bd bs bc gS lg cp key A c C ep tv D) (h9:9 ≤ D.secs) (ho:D.off = false) {cs:List (List Int)} {R:List Int} {e:Bool} (hr:Reads (logL D) cs R e):Calls Tryz.prog 41 #[.pointer (some ⟨bd,0,none⟩),.pointer (some ⟨bs,0,none⟩)] w fun ee w' => ee = .returned (.int .i64 (xs1 e)) ∧ ∃ lp,OB w0 w' K bd bs bc gS lp cp key A c C ep tv D ∧ LgW (xs1 e) K (logS D cs) w.heap.size lp w' ∧ Chg [gS] w w':=by
 have H:=Lib.hid h
 obtain ⟨R0,hR0⟩:∃ R0,R0 = rowG none K lg key (.slice A C.length c) ep tv false:=⟨_,rfl⟩
 have hrow:=h.r
 rw [← hR0] at hrow
 have HR0:=Lib.hid hR0
 have Hrow:=Lib.hid hrow
 have hset:∀ lp,R0.setIfInBounds 2 (.pointer lp) = rowG none K lp key (.slice A C.length c) ep tv false:=fun lp => by rw [hR0]; exact rowG_set2 lp
 have HSet:=Lib.hid hset
 obtain ⟨x,hx⟩:∃ x,x = xs1 e:=⟨_,rfl⟩
 obtain ⟨n,hn⟩:∃ n,n = D.secs:=⟨_,rfl⟩
 have hbe:((n:Nat):Int) - 8 = ((D.secs - 8:Nat):Int):=by omega
 have hmost:=h.dsk.ok.most
 have Hop:=Lib.hid (fun (W:World) (hd:Dsk W K D) => lgOpen_any hd h9 ho hr)
 have Hsec:=Lib.hid (fun (W:World) (hd:Dsk W K D) => sectors_count hd)
 rw [← hn] at Hsec
 rw [← hbe,← hx] at Hop
 rw [← hx]
 have Hlt:=Lib.hid h.lt
 have Hne:=Lib.hid h.ne
 have HD:=Lib.hid h.dsk
 have Hdc:Hid (∀ X W,Chg X w W → (∀ q ∈ X,w0.heap.size ≤ q) → Dsk W K D):=fun X W hc hX => h.dskc hc hX
 have HgS:=Lib.hid h.base.2.2.2
 have Hd:=Lib.hid h.d
 have Hs:=Lib.hid h.s
 have hnI:(n:Int) ≤ 16384:=by omega
 have hn9:(9:Int) ≤ n:=by omega
 have hw8:IntKind.i64.wrap ((n:Int) - 8) = (n:Int) - 8:=by simp [IntKind.wrap,IntKind.bits,IntKind.signed]; omega
 clear hR0 hrow hset hx hn hbe hmost h h9 ho hr
 unfold DK.ptr at *
 go_enter Tryz.func41,Tryz.ntmps41
 go_upto_region 1 with (fail)
 have apx:apartB [4,5,6,7,8,9,3,10,11,12,13,1011,2] = true:=by decide
 refine wp_region_any (by kernel_rfl) ?_
 change wpAny _ _ _ _ _ _ _ (World.drew _)
 refine wpAny_inv2 (fun ll aa wx => Hid (ll.size = 13 ∧ RSt 88 gS R0 11 [] w ll wx) ∧ ∃ (z:Nat → Value),Hid (aa = ⟨#[.pointer (some ⟨bd,0,none⟩),.pointer (some ⟨bs,0,none⟩),z 2,z 3,z 4,z 5,z 6,z 7,z 8,z 9,z 10,z 11,z 12,z 13,undef],[]⟩) ∧ Holding [4,5,6,7,8,9,3,10,11,12,13,1011,2] [some (.pointer (some ⟨gS,0,none⟩)),some (.pointer (some ⟨K.g,0,none⟩)),some (.pointer (some ⟨K.g,0,none⟩)),some (.int .i64 (n:Nat)),some (.int .i64 ((n:Int) - 8)),none,none,none,some (.int .i64 x),some (.pointer (some ⟨gS,0,none⟩)),some (.pointer (some ⟨gS,2,none⟩)),none,some (.int .i64 x)] ll z ∧ Whn ll 5 (LgT x K (logS D cs) w.heap.size) (z 9) wx ∧ Whn ll 6 (LgT x K (logS D cs) w.heap.size) (z 3) wx ∧ Whn ll 7 (LgP x K (logS D cs) w.heap.size) (z 10) wx ∧ Whn ll 11 (RowL gS K key (.slice A C.length c) ep tv x (logS D cs) w.heap.size) (z 1011) wx) ?_ (by kernel_rfl) ?_ ?_ _ rfl _ _ ?_
 · rintro ll aa wx ⟨hI,_⟩
   exact hI.out.1
 · rintro ll aa wx ⟨hI,z,ha,hz,hp5,hp6,hp7,hp11⟩ hall
   have hx:=Lib.hid hI.out.2
   have e0:z 4 = .pointer (some ⟨gS,0,none⟩):=hz 0 _ (hall 0 (by decide)) rfl
   have e1:z 5 = .pointer (some ⟨K.g,0,none⟩):=hz 1 _ (hall 1 (by decide)) rfl
   have e2:z 6 = .pointer (some ⟨K.g,0,none⟩):=hz 2 _ (hall 2 (by decide)) rfl
   have e3:z 7 = .int .i64 (n:Nat):=hz 3 _ (hall 3 (by decide)) rfl
   have e4:z 8 = .int .i64 ((n:Int) - 8):=hz 4 _ (hall 4 (by decide)) rfl
   have e8:z 11 = .int .i64 x:=hz 8 _ (hall 8 (by decide)) rfl
   have e9:z 12 = .pointer (some ⟨gS,0,none⟩):=hz 9 _ (hall 9 (by decide)) rfl
   have e10:z 13 = .pointer (some ⟨gS,2,none⟩):=hz 10 _ (hall 10 (by decide)) rfl
   have e12:z 2 = .int .i64 x:=hz 12 _ (hall 12 (by decide)) rfl
   have p5:=hp5.get (hall 5 (by decide))
   have p6:=hp6.get (hall 6 (by decide))
   have p7:=hp7.get (hall 7 (by decide))
   have p11:=hp11.get (hall 11 (by decide))
   clear hall hz hI hp5 hp6 hp7 hp11
   obtain rfl:=ha.out
   clear ha
   clear apx
   obtain ⟨lp,hlp,hLg⟩:=p11
   have HX:=Lib.hid hx.out.chg
   have HL:=Lib.hid hlp
   have HG:=Lib.hid hLg
   simp only [e12]
   clear e0 e1 e2 e3 e4 e8 e9 e10 e12 hx p5 p6 p7 hlp hLg
   go_wp2
   go_ret
   exact ⟨rfl,lp,H.out.setR HX.out (Hdc.out _ _ HX.out (by simp; exact HgS.out)) (by simp) HL.out,HG.out,HX.out⟩
 · rintro ll aa wx i ⟨hI,z,ha,hz,hp5,hp6,hp7,hp11⟩ hcl hi hu hw
   obtain rfl:=ha.out
   have hsz:=Lib.hid hI.out.1
   have hx:=Lib.hid hI.out.2
   clear ha hI
   have hin:i < 13:=hi
   obtain rfl | rfl | rfl | rfl | rfl | rfl | rfl | rfl | rfl | rfl | rfl | rfl | rfl:i = 0 ∨ i = 1 ∨ i = 2 ∨ i = 3 ∨ i = 4 ∨ i = 5 ∨ i = 6 ∨ i = 7 ∨ i = 8 ∨ i = 9 ∨ i = 10 ∨ i = 11 ∨ i = 12:=by omega
   · have cl:wx.cell? ⟨bs,0,none⟩ = some (.pointer (some ⟨gS,0,none⟩)):=cell_row (hx.out.chg.at Hs.out (by simp; exact Hne.out.2.2.2.1)) 0
     refine wpOp_plain rfl rfl ?_
     go_simp
     exact ⟨⟨by simp [hsz.out],hx.out.same (by decide)⟩,upd z 4 (.pointer (some ⟨gS,0,none⟩)),(by unfold Hid; simp [upd]),hz.next apx hsz.out 0 (by decide) _ (fun _ h => Option.some.inj h),hp5.keep (by decide),hp6.keep (by decide),hp7.keep (by decide),hp11.keep (by decide)⟩
   · have cl:wx.cell? ⟨bd,0,none⟩ = some (.pointer (some ⟨K.g,0,none⟩)):=cell_row (hx.out.chg.at Hd.out (by simp; exact Hne.out.2.1)) 0
     refine wpOp_plain rfl rfl ?_
     go_simp
     exact ⟨⟨by simp [hsz.out],hx.out.same (by decide)⟩,upd z 5 (.pointer (some ⟨K.g,0,none⟩)),(by unfold Hid; simp [upd]),hz.next apx hsz.out 1 (by decide) _ (fun _ h => Option.some.inj h),hp5.keep (by decide),hp6.keep (by decide),hp7.keep (by decide),hp11.keep (by decide)⟩
   · have cl:wx.cell? ⟨bd,0,none⟩ = some (.pointer (some ⟨K.g,0,none⟩)):=cell_row (hx.out.chg.at Hd.out (by simp; exact Hne.out.2.1)) 0
     refine wpOp_plain rfl rfl ?_
     go_simp
     exact ⟨⟨by simp [hsz.out],hx.out.same (by decide)⟩,upd z 6 (.pointer (some ⟨K.g,0,none⟩)),(by unfold Hid; simp [upd]),hz.next apx hsz.out 2 (by decide) _ (fun _ h => Option.some.inj h),hp5.keep (by decide),hp6.keep (by decide),hp7.keep (by decide),hp11.keep (by decide)⟩
   · have e2:z 6 = .pointer (some ⟨K.g,0,none⟩):=hz 2 _ (hw 2 (by kernel_rfl)) rfl
     refine wpOp_plain rfl rfl ?_
     go_simp
     go_at_call 13
     refine (Hsec.out wx (Hdc.out _ _ hx.out.chg (by simp; exact HgS.out))).mono ?_
     rintro e w' ⟨rfl,rfl⟩; have low:=Below.refl wx.heap.size wx
     exact ⟨⟨by simp [hsz.out],hx.out.call Hlt.out.2.2.2 (by decide) low⟩,upd z 7 (.int .i64 (n:Nat)),(by unfold Hid; simp [upd,e2]),hz.next apx hsz.out 3 (by decide) _ (fun _ h => Option.some.inj h),(hp5.keep (by decide)).map (fun h => h.later low),(hp6.keep (by decide)).map (fun h => h.later low),(hp7.keep (by decide)).map (fun h => h.later low),(hp11.keep (by decide)).map (fun h => h.later low)⟩
   · have e3:z 7 = .int .i64 (n:Nat):=hz 3 _ (hw 3 (by kernel_rfl)) rfl
     refine wpOp_plain rfl rfl ?_
     go_simp
     exact ⟨⟨by simp [hsz.out],hx.out.same (by decide)⟩,upd z 8 (.int .i64 ((n:Int) - 8)),(by unfold Hid; simp [upd,e3]),hz.next apx hsz.out 4 (by decide) _ (fun _ h => Option.some.inj h),hp5.keep (by decide),hp6.keep (by decide),hp7.keep (by decide),hp11.keep (by decide)⟩
   · have e1:z 5 = .pointer (some ⟨K.g,0,none⟩):=hz 1 _ (hw 1 (by kernel_rfl)) rfl
     have e4:z 8 = .int .i64 ((n:Int) - 8):=hz 4 _ (hw 4 (by kernel_rfl)) rfl
     refine wpOp_plain rfl rfl ?_
     go_simp
     go_at_call 42
     refine (Hop.out wx (Hdc.out _ _ hx.out.chg (by simp; exact HgS.out))).mono ?_
     rintro e w' ⟨vr,rfl,hT,low⟩
     exact ⟨⟨by simp [hsz.out],hx.out.call Hlt.out.2.2.2 (by decide) low⟩,upd z 9 (vr),(by unfold Hid; simp [upd,e1,e4]),hz.next apx hsz.out 5 (by decide) _ (fun _ h => by cases h),Whn.done (hT.base hx.out.chg.size),(hp6.keep (by decide)).map (fun h => h.later low),(hp7.keep (by decide)).map (fun h => h.later low),(hp11.keep (by decide)).map (fun h => h.later low)⟩
   · have p5:=hp5.get (hw 5 (by kernel_rfl))
     refine wpOp_plain rfl rfl ?_
     go_simp
     exact ⟨⟨by simp [hsz.out],hx.out.same (by decide)⟩,upd z 3 (z 9),(by unfold Hid; simp [upd]),hz.next apx hsz.out 6 (by decide) _ (fun _ h => by cases h),hp5.keep (by decide),Whn.done (p5),hp7.keep (by decide),hp11.keep (by decide)⟩
   · have p6:=hp6.get (hw 6 (by kernel_rfl))
     obtain ⟨l6,e6,h6⟩:=p6
     refine wpOp_plain rfl rfl ?_
     simp only [e6]
     go_simp
     exact ⟨⟨by simp [hsz.out],hx.out.same (by decide)⟩,upd z 10 (.pointer l6),(by unfold Hid; simp [upd,e6]),hz.next apx hsz.out 7 (by decide) _ (fun _ h => by cases h),hp5.keep (by decide),hp6.keep (by decide),Whn.done (⟨l6,rfl,h6⟩),hp11.keep (by decide)⟩
   · have p6:=hp6.get (hw 6 (by kernel_rfl))
     obtain ⟨l6,e6,h6⟩:=p6
     refine wpOp_plain rfl rfl ?_
     simp only [e6]
     go_simp
     exact ⟨⟨by simp [hsz.out],hx.out.same (by decide)⟩,upd z 11 (.int .i64 x),(by unfold Hid; simp [upd,e6]),hz.next apx hsz.out 8 (by decide) _ (fun _ h => Option.some.inj h),hp5.keep (by decide),hp6.keep (by decide),hp7.keep (by decide),hp11.keep (by decide)⟩
   · have e0:z 4 = .pointer (some ⟨gS,0,none⟩):=hz 0 _ (hw 0 (by kernel_rfl)) rfl
     refine wpOp_plain rfl rfl ?_
     go_simp
     exact ⟨⟨by simp [hsz.out],hx.out.same (by decide)⟩,upd z 12 (.pointer (some ⟨gS,0,none⟩)),(by unfold Hid; simp [upd,e0]),hz.next apx hsz.out 9 (by decide) _ (fun _ h => Option.some.inj h),hp5.keep (by decide),hp6.keep (by decide),hp7.keep (by decide),hp11.keep (by decide)⟩
   · have e9:z 12 = .pointer (some ⟨gS,0,none⟩):=hz 9 _ (hw 9 (by kernel_rfl)) rfl
     refine wpOp_plain rfl rfl ?_
     go_simp
     exact ⟨⟨by simp [hsz.out],hx.out.same (by decide)⟩,upd z 13 (.pointer (some ⟨gS,2,none⟩)),(by unfold Hid; simp [upd,e9]),hz.next apx hsz.out 10 (by decide) _ (fun _ h => Option.some.inj h),hp5.keep (by decide),hp6.keep (by decide),hp7.keep (by decide),hp11.keep (by decide)⟩
   · have e10:z 13 = .pointer (some ⟨gS,2,none⟩):=hz 10 _ (hw 10 (by kernel_rfl)) rfl
     have p7:=hp7.get (hw 7 (by kernel_rfl))
     obtain ⟨l7,e7,h7⟩:=p7
     have crow:=hx.out.row hu
     have cz:wx.cell? ⟨gS,2,none⟩ = R0[2]?:=cell_row crow 2
     have cz2:R0[2]? = some (.pointer lg):=by rw [HR0.out]; rfl
     rw [cz2] at cz
     have fz:wx.frozen? ⟨gS,2,none⟩ = false:=free_row crow 2
     refine wpOp_plain rfl rfl ?_
     simp only [e7]
     go_simp
     exact ⟨⟨by simp [hsz.out],hx.out.store (by rw [hsz.out]; decide)⟩,upd z 1011 (undef),(by unfold Hid; simp [upd,e10,e7]),hz.next apx hsz.out 11 (by decide) _ (fun _ h => by cases h),(hp5.keep (by decide)).map (fun h => h.chg ((Chg.refl [gS] _).setCell (by simp) _) (by simp; exact Hlt.out.2.2.2)),(hp6.keep (by decide)).map (fun h => h.chg ((Chg.refl [gS] _).setCell (by simp) _) (by simp; exact Hlt.out.2.2.2)),(hp7.keep (by decide)).map (fun h => h.chg ((Chg.refl [gS] _).setCell (by simp) _) (by simp; exact Hlt.out.2.2.2)),Whn.done (⟨l7,by rw [← HSet.out]; exact heap_setCell_same _ _ _ _ _ _ crow,h7.chg ((Chg.refl [gS] _).setCell (by simp) _) (by simp; exact Hlt.out.2.2.2)⟩)⟩
   · have e8:z 11 = .int .i64 x:=hz 8 _ (hw 8 (by kernel_rfl)) rfl
     refine wpOp_plain rfl rfl ?_
     go_simp
     exact ⟨⟨by simp [hsz.out],hx.out.same (by decide)⟩,upd z 2 (.int .i64 x),(by unfold Hid; simp [upd,e8]),hz.next apx hsz.out 12 (by decide) _ (fun _ h => Option.some.inj h),hp5.keep (by decide),hp6.keep (by decide),hp7.keep (by decide),hp11.keep (by decide)⟩
 · exact ⟨⟨rfl,RSt.start Hrow.out⟩,fun xx => (#[.pointer (some ⟨bd,0,none⟩),.pointer (some ⟨bs,0,none⟩),.int .i64 0,undef,undef,undef,undef,undef,undef,undef,undef,undef,undef,undef,undef]:Array Value).getD xx undef,rfl,Holding.start,Whn.none (by decide),Whn.none (by decide),Whn.none (by decide),Whn.none (by decide)⟩
def xs2 (r:Option (List (List Int))):Int:=match r with | none => 9 | some _ => 0
def OdW (r:Option (List (List Int))) (B:Nat) (tv:Value) (w:World):Prop:=match r with | none => tv = .slice none 0 0 | some T => ∃ ts,NewT B tv ts T w
theorem NewT.chg {B:Nat} {v:Value} {ts:List Value} {T:List (List Int)} {w':World} {X:List Nat} (h:NewT B v ts T w) (hc:Chg X w w') (hX:∀ q ∈ X,q < B):NewT B v ts T w' :=
 ⟨own_chg h.own hc (fun q hq hm => by have:=(h.own.lt q hq).1; have:=hX q hm; omega),fun i hi => by
  obtain ⟨A,c,e,hB⟩:=h.txt i hi
  refine ⟨A,c,e,hB.chg hc (fun a ha hm => ?_)⟩
  have:=(h.new _ (ts_mem (by rw [e,ha]) (by rw [h.len]; exact hi))).1
  have:=hX _ hm
  omega,fun q hq => ⟨(h.new q hq).1,Nat.lt_of_lt_of_le (h.new q hq).2.1 hc.size,(h.new q hq).2.2⟩,h.inb⟩
theorem OdW.chg {r:Option (List (List Int))} {B:Nat} {tv:Value} {w':World} {X:List Nat} (h:OdW r B tv w) (hc:Chg X w w') (hX:∀ q ∈ X,q < B):OdW r B tv w':=by
 cases r with
 | none => exact h
 | some T => obtain ⟨ts,h⟩:=h; exact ⟨ts,NewT.chg h hc hX⟩
def OdP (r:Option (List (List Int))) (B:Nat) (u:Value) (w:World):Prop:=OdW r B u w ∧ ∃ A n c,u = .slice A n c
theorem OdP.chg {r:Option (List (List Int))} {B:Nat} {u:Value} {w':World} {X:List Nat} (h:OdP r B u w) (hc:Chg X w w') (hX:∀ q ∈ X,q < B):OdP r B u w':=⟨h.1.chg hc hX,h.2⟩
theorem OdP.later {r:Option (List (List Int))} {B:Nat} {u:Value} {w':World} (h:OdP r B u w) (hb:Below w.heap.size w w'):OdP r B u w':=h.chg (X:=[]) (Chg.of_below hb) (by simp)
def OdT (x:Int) (r:Option (List (List Int))) (B:Nat) (u:Value) (w:World):Prop:=∃ A n c,u = .tuple #[.slice A n c,.int .i64 x] ∧ OdP r B (.slice A n c) w
theorem OdT.chg {x:Int} {r:Option (List (List Int))} {B:Nat} {u:Value} {w':World} {X:List Nat} (h:OdT x r B u w) (hc:Chg X w w') (hX:∀ q ∈ X,q < B):OdT x r B u w':=by
 obtain ⟨A,n,c,e,h⟩:=h; exact ⟨A,n,c,e,h.chg hc hX⟩
theorem OdT.later {x:Int} {r:Option (List (List Int))} {B:Nat} {u:Value} {w':World} (h:OdT x r B u w) (hb:Below w.heap.size w w'):OdT x r B u w':=h.chg (X:=[]) (Chg.of_below hb) (by simp)
def RowT (gS:Nat) (K:DK) (lg:Option Addr) (key:List Int) (cx:Value) (ep:Nat) (r:Option (List (List Int))) (B:Nat) (_v:Value) (w:World):Prop:=∃ tv,w.heap[gS]? = some (.cells (rowG none K lg key cx ep tv false) 88 (0,0)) ∧ OdW r B tv w
theorem RowT.later {lg:Option Addr} {cx v:Value} {ep B:Nat} {r:Option (List (List Int))} {w':World} (h:RowT gS K lg key cx ep r B v w) (hb:Below w.heap.size w w'):RowT gS K lg key cx ep r B v w':=by
 obtain ⟨tv,h1,h2⟩:=h
 exact ⟨tv,(hb.block _ (Array.getElem?_eq_some_iff.1 h1).1).trans h1,h2.chg (X:=[]) (Chg.of_below hb) (by simp)⟩
theorem opnd_told {B B':Nat} {r:Option (List (List Int))} {e:Ending} {w:World} (h:OpndQ B r e w) (hB:B' ≤ B):∃ A n c,e = .returned (.tuple #[.slice A n c,.int .i64 (xs2 r)]) ∧ OdP r B' (.slice A n c) w:=by
 cases r with
 | none => exact ⟨none,0,0,h,rfl,_,_,_,rfl⟩
 | some T =>
   obtain ⟨v,ts,rfl,hT⟩:=h
   obtain ⟨A,c,rfl⟩:=own_nilK hT.own
   exact ⟨A,_,c,rfl,⟨ts,hT.base hB⟩,_,_,_,rfl⟩
set_option maxRecDepth 100000 in
set_option maxHeartbeats 2000000 in
theorem open3_any {J:LK} {S:LS} {gC v ep:Nat} {tv:Value} (h:OB w0 w K bd bs bc gS (some ⟨J.g,0,none⟩) (some ⟨gC,0,none⟩) key A c C ep tv D) (hl:Lg w K J S) (hjn:(∀ q ∈ J.bl,q ≠ gS) ∧ ∀ q ∈ J.tx,q ≠ gS) (hct:Ct w K gC ⟨0,1024,v⟩) (hgC:gC ≠ gS) (hv:v ≤ 1024) (hk:key.length = 32) (hkb:InB key) (hCb:InB C) (hCl:C.length ≤ 1000) (hS:∀ t ∈ S.texts,t.length ≤ 200000) (hLd:Seal.SLaid w) (htab:gS ∉ Tab) :
 Calls Tryz.prog 43 #[.pointer (some ⟨bs,0,none⟩),.pointer (some ⟨bc,0,none⟩)] w fun ee w' => ee = .returned (.int .i64 (xs2 (opensL key C v 0 1 S.texts))) ∧ ∃ tv',OB w0 w' K bd bs bc gS (some ⟨J.g,0,none⟩) (some ⟨gC,0,none⟩) key A c C ep tv' D ∧ OdW (opensL key C v 0 1 S.texts) w.heap.size tv' w' ∧ Chg [gS] w w':=by
 have H:=Lib.hid h
 obtain ⟨R0,hR0⟩:∃ R0,R0 = rowG none K (some ⟨J.g,0,none⟩) key (.slice A C.length c) ep tv false:=⟨_,rfl⟩
 have hrow:=h.r
 rw [← hR0] at hrow
 have HR0:=Lib.hid hR0
 have Hrow:=Lib.hid hrow
 have hset:∀ tv',R0.setIfInBounds 37 tv' = rowG none K (some ⟨J.g,0,none⟩) key (.slice A C.length c) ep tv' false:=fun tv' => by rw [hR0]; exact rowG_set37 hk tv'
 have HSet:=Lib.hid hset
 obtain ⟨r,hr⟩:∃ r,r = opensL key C v 0 1 S.texts:=⟨_,rfl⟩
 have Hop:Hid (∀ W,W.heap[gS]? = some (.cells R0 88 (0,0)) → Chg [gS] w W → Calls Tryz.prog 44 #[.pointer (some ⟨gS,0,none⟩),.int .u32 (v:Nat)] W fun e w' => OpndQ W.heap.size r e w' ∧ Below W.heap.size W w'):=fun W hW hc => by
  rw [hR0] at hW
  rw [hr]
  exact opened_any (hl.chg hc (fun q hq => by simp; exact hjn.1 q hq) (fun q hq => by simp; exact hjn.2 q hq)) hW hk hkb rfl hCb hCl (h.ctx.chg hc (fun a ha => by simp; exact (h.ctxn a ha).2.2.2.2)) (by omega) hS (slaid_chg hLd hc (by simp; exact htab))
 have Hval:Hid (∀ W,Chg [gS] w W → Calls Tryz.prog 45 #[.pointer (some ⟨gC,0,none⟩)] W fun e w' => e = .returned (.int .i64 (v:Nat)) ∧ W = w'):=fun W hc => value_any (hct.chg hc (by simp; exact hgC))
 rw [← hr]
 have Hlt:=Lib.hid h.lt
 have Hne:=Lib.hid h.ne
 have Hdc:Hid (∀ X W,Chg X w W → (∀ q ∈ X,w0.heap.size ≤ q) → Dsk W K D):=fun X W hc hX => h.dskc hc hX
 have HgS:=Lib.hid h.base.2.2.2
 have Hs:=Lib.hid h.s
 have Hc:=Lib.hid h.cc
 have H37:Hid (R0[37]? = some tv):=by show _ = _; rw [hR0]; exact (rowG_at hk).2.2.2.2.2.1
 obtain ⟨x,hx⟩:∃ x,x = xs2 r:=⟨_,rfl⟩
 rw [← hx]
 have Hx:=Lib.hid hx
 have hvI:(v:Int) ≤ 1024:=by omega
 have hwv:IntKind.u32.wrap (v:Int) = v:=by simp [IntKind.wrap,IntKind.bits,IntKind.signed]; omega
 clear hR0 hrow hset hr h hl hjn hct hgC hv hk hkb hCb hCl hS hLd htab hx
 go_enter Tryz.func43,Tryz.ntmps43
 go_upto_region 1 with (fail)
 have apx:apartB [4,5,6,7,8,9,3,10,11,12,13,1011,2] = true:=by decide
 refine wp_region_any (by kernel_rfl) ?_
 change wpAny _ _ _ _ _ _ _ (World.drew _)
 refine wpAny_inv2 (fun ll aa wx => Hid (ll.size = 13 ∧ RSt 88 gS R0 11 [] w ll wx) ∧ ∃ (z:Nat → Value),Hid (aa = ⟨#[.pointer (some ⟨bs,0,none⟩),.pointer (some ⟨bc,0,none⟩),z 2,z 3,z 4,z 5,z 6,z 7,z 8,z 9,z 10,z 11,z 12,z 13,undef],[]⟩) ∧ Holding [4,5,6,7,8,9,3,10,11,12,13,1011,2] [some (.pointer (some ⟨gS,0,none⟩)),some (.pointer (some ⟨gS,0,none⟩)),some (.pointer (some ⟨gC,0,none⟩)),some (.int .i64 (v:Nat)),some (.int .u32 (v:Nat)),none,none,none,some (.int .i64 x),some (.pointer (some ⟨gS,0,none⟩)),some (.pointer (some ⟨gS,37,none⟩)),none,some (.int .i64 x)] ll z ∧ Whn ll 5 (OdT x r w.heap.size) (z 9) wx ∧ Whn ll 6 (OdT x r w.heap.size) (z 3) wx ∧ Whn ll 7 (OdP r w.heap.size) (z 10) wx ∧ Whn ll 11 (RowT gS K (some ⟨J.g,0,none⟩) key (.slice A C.length c) ep r w.heap.size) (z 1011) wx) ?_ (by kernel_rfl) ?_ ?_ _ rfl _ _ ?_
 · rintro ll aa wx ⟨hI,_⟩
   exact hI.out.1
 · rintro ll aa wx ⟨hI,z,ha,hz,hp5,hp6,hp7,hp11⟩ hall
   have hx:=Lib.hid hI.out.2
   have e0:z 4 = .pointer (some ⟨gS,0,none⟩):=hz 0 _ (hall 0 (by decide)) rfl
   have e1:z 5 = .pointer (some ⟨gS,0,none⟩):=hz 1 _ (hall 1 (by decide)) rfl
   have e2:z 6 = .pointer (some ⟨gC,0,none⟩):=hz 2 _ (hall 2 (by decide)) rfl
   have e3:z 7 = .int .i64 (v:Nat):=hz 3 _ (hall 3 (by decide)) rfl
   have e4:z 8 = .int .u32 (v:Nat):=hz 4 _ (hall 4 (by decide)) rfl
   have e8:z 11 = .int .i64 x:=hz 8 _ (hall 8 (by decide)) rfl
   have e9:z 12 = .pointer (some ⟨gS,0,none⟩):=hz 9 _ (hall 9 (by decide)) rfl
   have e10:z 13 = .pointer (some ⟨gS,37,none⟩):=hz 10 _ (hall 10 (by decide)) rfl
   have e12:z 2 = .int .i64 x:=hz 12 _ (hall 12 (by decide)) rfl
   have p5:=hp5.get (hall 5 (by decide))
   have p6:=hp6.get (hall 6 (by decide))
   have p7:=hp7.get (hall 7 (by decide))
   have p11:=hp11.get (hall 11 (by decide))
   clear hall hz hI hp5 hp6 hp7 hp11
   obtain rfl:=ha.out
   clear ha
   clear apx
   obtain ⟨tv',htv,hOd⟩:=p11
   have HX:=Lib.hid hx.out.chg
   have HL:=Lib.hid htv
   have HG:=Lib.hid hOd
   simp only [e12]
   clear e0 e1 e2 e3 e4 e8 e9 e10 e12 hx p5 p6 p7 htv hOd
   go_wp2
   go_ret
   exact ⟨rfl,tv',H.out.setR HX.out (Hdc.out _ _ HX.out (by simp; exact HgS.out)) (by simp) HL.out,HG.out,HX.out⟩
 · rintro ll aa wx i ⟨hI,z,ha,hz,hp5,hp6,hp7,hp11⟩ hcl hi hu hw
   obtain rfl:=ha.out
   have hsz:=Lib.hid hI.out.1
   have hx:=Lib.hid hI.out.2
   clear ha hI
   have hin:i < 13:=hi
   obtain rfl | rfl | rfl | rfl | rfl | rfl | rfl | rfl | rfl | rfl | rfl | rfl | rfl:i = 0 ∨ i = 1 ∨ i = 2 ∨ i = 3 ∨ i = 4 ∨ i = 5 ∨ i = 6 ∨ i = 7 ∨ i = 8 ∨ i = 9 ∨ i = 10 ∨ i = 11 ∨ i = 12:=by omega
   · have cl:wx.cell? ⟨bs,0,none⟩ = some (.pointer (some ⟨gS,0,none⟩)):=cell_row (hx.out.chg.at Hs.out (by simp; exact Hne.out.2.2.2.1)) 0
     refine wpOp_plain rfl rfl ?_
     go_simp
     exact ⟨⟨by simp [hsz.out],hx.out.same (by decide)⟩,upd z 4 (.pointer (some ⟨gS,0,none⟩)),(by unfold Hid; simp [upd]),hz.next apx hsz.out 0 (by decide) _ (fun _ h => Option.some.inj h),hp5.keep (by decide),hp6.keep (by decide),hp7.keep (by decide),hp11.keep (by decide)⟩
   · have cl:wx.cell? ⟨bs,0,none⟩ = some (.pointer (some ⟨gS,0,none⟩)):=cell_row (hx.out.chg.at Hs.out (by simp; exact Hne.out.2.2.2.1)) 0
     refine wpOp_plain rfl rfl ?_
     go_simp
     exact ⟨⟨by simp [hsz.out],hx.out.same (by decide)⟩,upd z 5 (.pointer (some ⟨gS,0,none⟩)),(by unfold Hid; simp [upd]),hz.next apx hsz.out 1 (by decide) _ (fun _ h => Option.some.inj h),hp5.keep (by decide),hp6.keep (by decide),hp7.keep (by decide),hp11.keep (by decide)⟩
   · have cl:wx.cell? ⟨bc,0,none⟩ = some (.pointer (some ⟨gC,0,none⟩)):=cell_row (hx.out.chg.at Hc.out (by simp; exact Hne.out.2.2.2.2)) 0
     refine wpOp_plain rfl rfl ?_
     go_simp
     exact ⟨⟨by simp [hsz.out],hx.out.same (by decide)⟩,upd z 6 (.pointer (some ⟨gC,0,none⟩)),(by unfold Hid; simp [upd]),hz.next apx hsz.out 2 (by decide) _ (fun _ h => Option.some.inj h),hp5.keep (by decide),hp6.keep (by decide),hp7.keep (by decide),hp11.keep (by decide)⟩
   · have e2:z 6 = .pointer (some ⟨gC,0,none⟩):=hz 2 _ (hw 2 (by kernel_rfl)) rfl
     refine wpOp_plain rfl rfl ?_
     go_simp
     go_at_call 45
     refine (Hval.out wx hx.out.chg).mono ?_
     rintro e w' ⟨rfl,rfl⟩; have low:=Below.refl wx.heap.size wx
     exact ⟨⟨by simp [hsz.out],hx.out.call Hlt.out.2.2.2 (by decide) low⟩,upd z 7 (.int .i64 (v:Nat)),(by unfold Hid; simp [upd,e2]),hz.next apx hsz.out 3 (by decide) _ (fun _ h => Option.some.inj h),(hp5.keep (by decide)).map (fun h => h.later low),(hp6.keep (by decide)).map (fun h => h.later low),(hp7.keep (by decide)).map (fun h => h.later low),(hp11.keep (by decide)).map (fun h => h.later low)⟩
   · have e3:z 7 = .int .i64 (v:Nat):=hz 3 _ (hw 3 (by kernel_rfl)) rfl
     refine wpOp_plain rfl rfl ?_
     go_simp
     exact ⟨⟨by simp [hsz.out],hx.out.same (by decide)⟩,upd z 8 (.int .u32 (v:Nat)),(by unfold Hid; simp [upd,e3]),hz.next apx hsz.out 4 (by decide) _ (fun _ h => Option.some.inj h),hp5.keep (by decide),hp6.keep (by decide),hp7.keep (by decide),hp11.keep (by decide)⟩
   · have e1:z 5 = .pointer (some ⟨gS,0,none⟩):=hz 1 _ (hw 1 (by kernel_rfl)) rfl
     have e4:z 8 = .int .u32 (v:Nat):=hz 4 _ (hw 4 (by kernel_rfl)) rfl
     refine wpOp_plain rfl rfl ?_
     go_simp
     go_at_call 44
     refine (Hop.out wx (hx.out.row (not_listed (fun hl => hcl 6 5 (hcl 7 6 (hcl 11 7 hl (by kernel_rfl)) (by kernel_rfl)) (by kernel_rfl)) hu)) hx.out.chg).mono ?_
     rintro e w' ⟨hq,low⟩; obtain ⟨Aq,nq9,cq,rfl,hP⟩:=opnd_told hq hx.out.chg.size; rw [← Hx.out]; obtain ⟨vr,hvr⟩:∃ vr:Value,vr = .tuple #[.slice Aq nq9 cq,.int .i64 x]:=⟨_,rfl⟩; rw [← hvr]
     exact ⟨⟨by simp [hsz.out],hx.out.call Hlt.out.2.2.2 (by decide) low⟩,upd z 9 (vr),(by unfold Hid; simp [upd,e1,e4]),hz.next apx hsz.out 5 (by decide) _ (fun _ h => by cases h),Whn.done (⟨Aq,nq9,cq,hvr,hP⟩),(hp6.keep (by decide)).map (fun h => h.later low),(hp7.keep (by decide)).map (fun h => h.later low),(hp11.keep (by decide)).map (fun h => h.later low)⟩
   · have p5:=hp5.get (hw 5 (by kernel_rfl))
     refine wpOp_plain rfl rfl ?_
     go_simp
     exact ⟨⟨by simp [hsz.out],hx.out.same (by decide)⟩,upd z 3 (z 9),(by unfold Hid; simp [upd]),hz.next apx hsz.out 6 (by decide) _ (fun _ h => by cases h),hp5.keep (by decide),Whn.done (p5),hp7.keep (by decide),hp11.keep (by decide)⟩
   · have p6:=hp6.get (hw 6 (by kernel_rfl))
     obtain ⟨A6,n6,c6,e6,h6⟩:=p6
     refine wpOp_plain rfl rfl ?_
     simp only [e6]
     go_simp
     exact ⟨⟨by simp [hsz.out],hx.out.same (by decide)⟩,upd z 10 (.slice A6 n6 c6),(by unfold Hid; simp [upd,e6]),hz.next apx hsz.out 7 (by decide) _ (fun _ h => by cases h),hp5.keep (by decide),hp6.keep (by decide),Whn.done (h6),hp11.keep (by decide)⟩
   · have p6:=hp6.get (hw 6 (by kernel_rfl))
     obtain ⟨A6,n6,c6,e6,h6⟩:=p6
     refine wpOp_plain rfl rfl ?_
     simp only [e6]
     go_simp
     exact ⟨⟨by simp [hsz.out],hx.out.same (by decide)⟩,upd z 11 (.int .i64 x),(by unfold Hid; simp [upd,e6]),hz.next apx hsz.out 8 (by decide) _ (fun _ h => Option.some.inj h),hp5.keep (by decide),hp6.keep (by decide),hp7.keep (by decide),hp11.keep (by decide)⟩
   · have e0:z 4 = .pointer (some ⟨gS,0,none⟩):=hz 0 _ (hw 0 (by kernel_rfl)) rfl
     refine wpOp_plain rfl rfl ?_
     go_simp
     exact ⟨⟨by simp [hsz.out],hx.out.same (by decide)⟩,upd z 12 (.pointer (some ⟨gS,0,none⟩)),(by unfold Hid; simp [upd,e0]),hz.next apx hsz.out 9 (by decide) _ (fun _ h => Option.some.inj h),hp5.keep (by decide),hp6.keep (by decide),hp7.keep (by decide),hp11.keep (by decide)⟩
   · have e9:z 12 = .pointer (some ⟨gS,0,none⟩):=hz 9 _ (hw 9 (by kernel_rfl)) rfl
     refine wpOp_plain rfl rfl ?_
     go_simp
     exact ⟨⟨by simp [hsz.out],hx.out.same (by decide)⟩,upd z 13 (.pointer (some ⟨gS,37,none⟩)),(by unfold Hid; simp [upd,e9]),hz.next apx hsz.out 10 (by decide) _ (fun _ h => Option.some.inj h),hp5.keep (by decide),hp6.keep (by decide),hp7.keep (by decide),hp11.keep (by decide)⟩
   · have e10:z 13 = .pointer (some ⟨gS,37,none⟩):=hz 10 _ (hw 10 (by kernel_rfl)) rfl
     have p7:=hp7.get (hw 7 (by kernel_rfl))
     obtain ⟨h7,A7,n7,c7,e7⟩:=p7
     rw [e7] at h7
     have crow:=hx.out.row hu
     have cz:wx.cell? ⟨gS,37,none⟩ = some tv:=(cell_row crow 37).trans H37.out
     have fz:wx.frozen? ⟨gS,37,none⟩ = false:=free_row crow 37
     refine wpOp_plain rfl rfl ?_
     simp only [e7]
     go_simp
     exact ⟨⟨by simp [hsz.out],hx.out.store (by rw [hsz.out]; decide)⟩,upd z 1011 (undef),(by unfold Hid; simp [upd,e10,e7]),hz.next apx hsz.out 11 (by decide) _ (fun _ h => by cases h),(hp5.keep (by decide)).map (fun h => h.chg ((Chg.refl [gS] _).setCell (by simp) _) (by simp; exact Hlt.out.2.2.2)),(hp6.keep (by decide)).map (fun h => h.chg ((Chg.refl [gS] _).setCell (by simp) _) (by simp; exact Hlt.out.2.2.2)),(hp7.keep (by decide)).map (fun h => h.chg ((Chg.refl [gS] _).setCell (by simp) _) (by simp; exact Hlt.out.2.2.2)),Whn.done (⟨_,by rw [← HSet.out]; exact heap_setCell_same _ _ _ _ _ _ crow,h7.chg ((Chg.refl [gS] _).setCell (by simp) _) (by simp; exact Hlt.out.2.2.2)⟩)⟩
   · have e8:z 11 = .int .i64 x:=hz 8 _ (hw 8 (by kernel_rfl)) rfl
     refine wpOp_plain rfl rfl ?_
     go_simp
     exact ⟨⟨by simp [hsz.out],hx.out.same (by decide)⟩,upd z 2 (.int .i64 x),(by unfold Hid; simp [upd,e8]),hz.next apx hsz.out 12 (by decide) _ (fun _ h => Option.some.inj h),hp5.keep (by decide),hp6.keep (by decide),hp7.keep (by decide),hp11.keep (by decide)⟩
 · exact ⟨⟨rfl,RSt.start Hrow.out⟩,fun xx => (#[.pointer (some ⟨bs,0,none⟩),.pointer (some ⟨bc,0,none⟩),.int .i64 0,undef,undef,undef,undef,undef,undef,undef,undef,undef,undef,undef,undef]:Array Value).getD xx undef,rfl,Holding.start,Whn.none (by decide),Whn.none (by decide),Whn.none (by decide),Whn.none (by decide)⟩
end
end Go.Proofs.YteeghgjkjicjoaaGreatDoor.Sgm
namespace Go.Proofs.YteeghgjkjicjoaaGreatDoor.Sgm
open Go.RowKit Dsk Slt Epo
structure RSp (T0:TypeId) (g:Nat) (R:Array Value) (p q:Nat) (X:List Nat) (W:World) (ll:Array Bool) (wx:World):Prop where
 st:RSt T0 g R q X W ll wx
 low:ll.getD p false = false → ll.getD q false = false → Below W.heap.size W wx
section
variable {T0:TypeId} {g p q:Nat} {R:Array Value} {X:List Nat} {W wx w':World} {ll:Array Bool}
theorem RSp.start {n:Nat} (h:W.heap[g]? = some (.cells R T0 (0,0))):RSp T0 g R p q X W (Array.replicate n false) W.drew:=⟨RSt.start h,fun _ _ => (Below.refl _ _).drew⟩
theorem RSp.same {i:Nat} (h:RSp T0 g R p q X W ll wx) (hi:i ≠ p) (hj:i ≠ q):RSp T0 g R p q X W (ll.setIfInBounds i true) wx:=⟨h.st.same hj,by rw [getD_set_ne false hi,getD_set_ne false hj]; exact h.low⟩
theorem RSp.callX (h:RSp T0 g R p q X W ll wx) (hs:p < ll.size) (hj:p ≠ q) (hgX:g ∉ X) (hb:Chg X wx w'):RSp T0 g R p q X W (ll.setIfInBounds p true) w':=⟨h.st.callX hj hgX hb,fun a => by simp [hs] at a⟩
theorem RSp.store {o:Nat} {z:Value} (h:RSp T0 g R p q X W ll wx) (hs:q < ll.size):RSp T0 g R p q X W (ll.setIfInBounds q true) (wx.setCell ⟨g,o,none⟩ z):=⟨h.st.store hs,fun _ a => by simp [hs] at a⟩
end
def DkW (K:DK) (D:DS) (_v:Value) (w:World):Prop:=Dsk w K D
section
variable {w0 w:World} {K:DK} {bd bs bc gS:Nat} {key:List Int} {A:Option Addr} {c:Nat} {C:List Int} {D:DS}
set_option maxRecDepth 100000 in
set_option maxHeartbeats 2000000 in
theorem open4_any {lg:Option Addr} {gC v ep:Nat} {tv:Value} (h:OB w0 w K bd bs bc gS lg (some ⟨gC,0,none⟩) key A c C ep tv D) (hct:Ct w K gC ⟨0,1024,v⟩) (hgC:gC ≠ gS ∧ w0.heap.size ≤ gC ∧ gC ≠ bd ∧ gC ≠ bs ∧ gC ≠ bc ∧ ∀ a,A = some a → a.block ≠ gC) (hv:v ≤ 1024) (h9:9 ≤ D.secs) (ho:D.off = false) (hw:D.writes ≤ 1152921504606846976) (hk:key.length = 32) :
 Calls Tryz.prog 46 #[.pointer (some ⟨bc,0,none⟩),.pointer (some ⟨bs,0,none⟩)] w fun ee w' => ee = .returned (.int .i64 (nxtE D v)) ∧ OB w0 w' K bd bs bc gS lg (some ⟨gC,0,none⟩) key A c C (nxtP D v) tv (nxtD D v) ∧ Chg (gS :: gC :: K.bl) w w':=by
 have H:=Lib.hid h
 obtain ⟨R0,hR0⟩:∃ R0,R0 = rowG none K lg key (.slice A C.length c) ep tv false:=⟨_,rfl⟩
 have hrow:=h.r
 rw [← hR0] at hrow
 have Hrow:=Lib.hid hrow
 obtain ⟨P,hP⟩:∃ P,P = nxtP D v:=⟨_,rfl⟩
 obtain ⟨x,hx⟩:∃ x,x = nxtE D v:=⟨_,rfl⟩
 obtain ⟨D',hD'⟩:∃ D',D' = nxtD D v:=⟨_,rfl⟩
 have hset:R0.setIfInBounds 36 (.int .u32 (P:Nat)) = rowG none K lg key (.slice A C.length c) P tv false:=by rw [hR0]; exact rowG_set36 hk P
 have HSet:=Lib.hid hset
 have H36:Hid (R0[36]? = some (.int .u32 (ep:Nat))):=by show _ = _; rw [hR0]; exact (rowG_at hk).2.2.2.2.1
 have hkn:=h.kn
 have hgK:gC ∉ K.bl:=fun hm => by have:=h.kin _ hm; have:=hgC.2.1; omega
 have hl:1024 ≤ D.data.length:=by have:=h.dsk.ok.whole128; omega
 have Hop:Hid (∀ W,Below w.heap.size w W → Calls Tryz.prog 47 #[.pointer (some ⟨gC,0,none⟩)] W fun e w' => e = .returned (.tuple #[.int .u32 (P:Nat),.int .i64 x]) ∧ Dsk w' K D' ∧ Chg (gC :: K.bl) W w'):=fun W hW => by
  rw [hP,hx,hD']; exact nextEpoch_any (h.dsk.later hW) (hct.later hW) hgK hv hl ho hw
 rw [← hP,← hx,← hD']
 have Hlt:=Lib.hid h.lt
 have Hne:=Lib.hid h.ne
 have Hkn:=Lib.hid hkn
 have HgC:=Lib.hid hgC
 have HX:Hid (gS ∉ gC :: K.bl):=by
  intro hm
  rcases List.mem_cons.1 hm with e | hm
  · exact hgC.1 e.symm
  · exact hkn.2.2.2 hm
 have Hs:=Lib.hid h.s
 have Hc:=Lib.hid h.cc
 have Hbox:Hid (∀ b,w0.heap.size ≤ b → b ≠ gS → b ≠ gC → b ∉ gS :: gC :: K.bl):=fun b h1 h2 h3 hm => by
  rcases List.mem_cons.1 hm with e | hm
  · exact h2 e
  rcases List.mem_cons.1 hm with e | hm
  · exact h3 e
  · have:=h.kin _ hm; omega
 have Hbase:=Lib.hid h.base
 clear hR0 hrow hset h hct hgC hv h9 ho hw hk hkn hgK hl hP hx hD'
 go_enter Tryz.func46,Tryz.ntmps46
 go_upto_region 1 with (fail)
 have apx:apartB [4,5,6,3,7,8,9,10,1008,2] = true:=by decide
 refine wp_region_any (by kernel_rfl) ?_
 change wpAny _ _ _ _ _ _ _ (World.drew _)
 refine wpAny_inv2 (fun ll aa wx => Hid (ll.size = 10 ∧ RSp 88 gS R0 2 8 (gC :: K.bl) w ll wx) ∧ ∃ (z:Nat → Value),Hid (aa = ⟨#[.pointer (some ⟨bc,0,none⟩),.pointer (some ⟨bs,0,none⟩),z 2,z 3,z 4,z 5,z 6,z 7,z 8,z 9,z 10,undef],[]⟩) ∧ Holding [4,5,6,3,7,8,9,10,1008,2] [some (.pointer (some ⟨gS,0,none⟩)),some (.pointer (some ⟨gC,0,none⟩)),some (.tuple #[.int .u32 (P:Nat),.int .i64 x]),some (.tuple #[.int .u32 (P:Nat),.int .i64 x]),some (.int .u32 (P:Nat)),some (.int .i64 x),some (.pointer (some ⟨gS,0,none⟩)),some (.pointer (some ⟨gS,36,none⟩)),none,some (.int .i64 x)] ll z ∧ Whn ll 2 (DkW K D') (z 6) wx ∧ Whn ll 8 (RowAt 88 gS (rowG none K lg key (.slice A C.length c) P tv false)) (z 1008) wx) ?_ (by kernel_rfl) ?_ ?_ _ rfl _ _ ?_
 · rintro ll aa wx ⟨hI,_⟩
   exact hI.out.1
 · rintro ll aa wx ⟨hI,z,ha,hz,hp2,hp8⟩ hall
   have hx:=Lib.hid hI.out.2
   have e0:z 4 = .pointer (some ⟨gS,0,none⟩):=hz 0 _ (hall 0 (by decide)) rfl
   have e1:z 5 = .pointer (some ⟨gC,0,none⟩):=hz 1 _ (hall 1 (by decide)) rfl
   have e2:z 6 = .tuple #[.int .u32 (P:Nat),.int .i64 x]:=hz 2 _ (hall 2 (by decide)) rfl
   have e3:z 3 = .tuple #[.int .u32 (P:Nat),.int .i64 x]:=hz 3 _ (hall 3 (by decide)) rfl
   have e4:z 7 = .int .u32 (P:Nat):=hz 4 _ (hall 4 (by decide)) rfl
   have e5:z 8 = .int .i64 x:=hz 5 _ (hall 5 (by decide)) rfl
   have e6:z 9 = .pointer (some ⟨gS,0,none⟩):=hz 6 _ (hall 6 (by decide)) rfl
   have e7:z 10 = .pointer (some ⟨gS,36,none⟩):=hz 7 _ (hall 7 (by decide)) rfl
   have e9:z 2 = .int .i64 x:=hz 9 _ (hall 9 (by decide)) rfl
   have p2:=hp2.get (hall 2 (by decide))
   have p8:=hp8.get (hall 8 (by decide))
   clear hall hz hI hp2 hp8
   obtain rfl:=ha.out
   clear ha
   clear apx
   have HX2:=Lib.hid hx.out.st.chg
   have HL:=Lib.hid p8
   have HD2:=Lib.hid p2
   simp only [e9]
   clear e0 e1 e2 e3 e4 e5 e6 e7 e9 hx p2 p8
   go_wp2
   go_ret
   refine ⟨rfl,H.out.setR HX2.out HD2.out (fun q hq => ?_) HL.out,HX2.out⟩
   rcases List.mem_cons.1 hq with rfl | hq
   · exact .inr (.inr ⟨HgC.out.2.1,HgC.out.2.2.1,HgC.out.2.2.2.1,HgC.out.2.2.2.2.1,HgC.out.1,HgC.out.2.2.2.2.2⟩)
   · exact .inl hq
 · rintro ll aa wx i ⟨hI,z,ha,hz,hp2,hp8⟩ hcl hi hu hw
   obtain rfl:=ha.out
   have hsz:=Lib.hid hI.out.1
   have hx:=Lib.hid hI.out.2
   clear ha hI
   have hin:i < 10:=hi
   obtain rfl | rfl | rfl | rfl | rfl | rfl | rfl | rfl | rfl | rfl:i = 0 ∨ i = 1 ∨ i = 2 ∨ i = 3 ∨ i = 4 ∨ i = 5 ∨ i = 6 ∨ i = 7 ∨ i = 8 ∨ i = 9:=by omega
   · have cl:wx.cell? ⟨bs,0,none⟩ = some (.pointer (some ⟨gS,0,none⟩)):=cell_row (hx.out.st.chg.at Hs.out (Hbox.out _ Hbase.out.2.1 Hne.out.2.2.2.1 (fun e => HgC.out.2.2.2.1 e.symm))) 0
     refine wpOp_plain rfl rfl ?_
     go_simp
     exact ⟨⟨by simp [hsz.out],hx.out.same (by decide) (by decide)⟩,upd z 4 (.pointer (some ⟨gS,0,none⟩)),(by unfold Hid; simp [upd]),hz.next apx hsz.out 0 (by decide) _ (fun _ h => Option.some.inj h),hp2.keep (by decide),hp8.keep (by decide)⟩
   · have cl:wx.cell? ⟨bc,0,none⟩ = some (.pointer (some ⟨gC,0,none⟩)):=cell_row (hx.out.st.chg.at Hc.out (Hbox.out _ Hbase.out.2.2.1 Hne.out.2.2.2.2 (fun e => HgC.out.2.2.2.2.1 e.symm))) 0
     refine wpOp_plain rfl rfl ?_
     go_simp
     exact ⟨⟨by simp [hsz.out],hx.out.same (by decide) (by decide)⟩,upd z 5 (.pointer (some ⟨gC,0,none⟩)),(by unfold Hid; simp [upd]),hz.next apx hsz.out 1 (by decide) _ (fun _ h => Option.some.inj h),hp2.keep (by decide),hp8.keep (by decide)⟩
   · have e1:z 5 = .pointer (some ⟨gC,0,none⟩):=hz 1 _ (hw 1 (by kernel_rfl)) rfl
     refine wpOp_plain rfl rfl ?_
     go_simp
     go_at_call 47
     refine (Hop.out wx (hx.out.low hu (not_listed (fun hl => hcl 3 2 (hcl 4 3 (hcl 8 4 hl (by kernel_rfl)) (by kernel_rfl)) (by kernel_rfl)) hu))).mono ?_
     rintro e w' ⟨rfl,hd,hch⟩
     exact ⟨⟨by simp [hsz.out],hx.out.callX (by rw [hsz.out]; decide) (by decide) HX.out hch⟩,upd z 6 (.tuple #[.int .u32 (P:Nat),.int .i64 x]),(by unfold Hid; simp [upd,e1]),hz.next apx hsz.out 2 (by decide) _ (fun _ h => Option.some.inj h),Whn.done (hd),Whn.never (by decide) (fun hl => hcl 8 2 hl (by kernel_rfl)) hu⟩
   · have e2:z 6 = .tuple #[.int .u32 (P:Nat),.int .i64 x]:=hz 2 _ (hw 2 (by kernel_rfl)) rfl
     refine wpOp_plain rfl rfl ?_
     go_simp
     exact ⟨⟨by simp [hsz.out],hx.out.same (by decide) (by decide)⟩,upd z 3 (.tuple #[.int .u32 (P:Nat),.int .i64 x]),(by unfold Hid; simp [upd,e2]),hz.next apx hsz.out 3 (by decide) _ (fun _ h => Option.some.inj h),hp2.keep (by decide),hp8.keep (by decide)⟩
   · have e3:z 3 = .tuple #[.int .u32 (P:Nat),.int .i64 x]:=hz 3 _ (hw 3 (by kernel_rfl)) rfl
     refine wpOp_plain rfl rfl ?_
     go_simp
     exact ⟨⟨by simp [hsz.out],hx.out.same (by decide) (by decide)⟩,upd z 7 (.int .u32 (P:Nat)),(by unfold Hid; simp [upd,e3]),hz.next apx hsz.out 4 (by decide) _ (fun _ h => Option.some.inj h),hp2.keep (by decide),hp8.keep (by decide)⟩
   · have e3:z 3 = .tuple #[.int .u32 (P:Nat),.int .i64 x]:=hz 3 _ (hw 3 (by kernel_rfl)) rfl
     refine wpOp_plain rfl rfl ?_
     go_simp
     exact ⟨⟨by simp [hsz.out],hx.out.same (by decide) (by decide)⟩,upd z 8 (.int .i64 x),(by unfold Hid; simp [upd,e3]),hz.next apx hsz.out 5 (by decide) _ (fun _ h => Option.some.inj h),hp2.keep (by decide),hp8.keep (by decide)⟩
   · have e0:z 4 = .pointer (some ⟨gS,0,none⟩):=hz 0 _ (hw 0 (by kernel_rfl)) rfl
     refine wpOp_plain rfl rfl ?_
     go_simp
     exact ⟨⟨by simp [hsz.out],hx.out.same (by decide) (by decide)⟩,upd z 9 (.pointer (some ⟨gS,0,none⟩)),(by unfold Hid; simp [upd,e0]),hz.next apx hsz.out 6 (by decide) _ (fun _ h => Option.some.inj h),hp2.keep (by decide),hp8.keep (by decide)⟩
   · have e6:z 9 = .pointer (some ⟨gS,0,none⟩):=hz 6 _ (hw 6 (by kernel_rfl)) rfl
     refine wpOp_plain rfl rfl ?_
     go_simp
     exact ⟨⟨by simp [hsz.out],hx.out.same (by decide) (by decide)⟩,upd z 10 (.pointer (some ⟨gS,36,none⟩)),(by unfold Hid; simp [upd,e6]),hz.next apx hsz.out 7 (by decide) _ (fun _ h => Option.some.inj h),hp2.keep (by decide),hp8.keep (by decide)⟩
   · have e4:z 7 = .int .u32 (P:Nat):=hz 4 _ (hw 4 (by kernel_rfl)) rfl
     have e7:z 10 = .pointer (some ⟨gS,36,none⟩):=hz 7 _ (hw 7 (by kernel_rfl)) rfl
     have crow:=hx.out.st.row hu
     have cz:wx.cell? ⟨gS,36,none⟩ = some (.int .u32 (ep:Nat)):=(cell_row crow 36).trans H36.out
     have fz:wx.frozen? ⟨gS,36,none⟩ = false:=free_row crow 36
     refine wpOp_plain rfl rfl ?_
     go_simp
     exact ⟨⟨by simp [hsz.out],hx.out.store (by rw [hsz.out]; decide)⟩,upd z 1008 (undef),(by unfold Hid; simp [upd,e4,e7]),hz.next apx hsz.out 8 (by decide) _ (fun _ h => by cases h),(hp2.keep (by decide)).map (fun h => Dsk.chg h ((Chg.refl [gS] _).setCell (by simp) _) (by simp; exact fun e => Hkn.out.2.2.2 (by rw [← e]; simp [DK.bl])) (by simp; exact fun e => Hkn.out.2.2.2 (by rw [← e]; simp [DK.bl]))),Whn.done ((show RowAt _ _ _ _ _ from by unfold RowAt; rw [← HSet.out]; exact heap_setCell_same _ _ _ _ _ _ crow))⟩
   · have e5:z 8 = .int .i64 x:=hz 5 _ (hw 5 (by kernel_rfl)) rfl
     refine wpOp_plain rfl rfl ?_
     go_simp
     exact ⟨⟨by simp [hsz.out],hx.out.same (by decide) (by decide)⟩,upd z 2 (.int .i64 x),(by unfold Hid; simp [upd,e5]),hz.next apx hsz.out 9 (by decide) _ (fun _ h => Option.some.inj h),hp2.keep (by decide),hp8.keep (by decide)⟩
 · exact ⟨⟨rfl,RSp.start Hrow.out⟩,fun xx => (#[.pointer (some ⟨bc,0,none⟩),.pointer (some ⟨bs,0,none⟩),.int .i64 0,undef,undef,undef,undef,undef,undef,undef,undef,undef]:Array Value).getD xx undef,rfl,Holding.start,Whn.none (by decide),Whn.none (by decide)⟩
end
end Go.Proofs.YteeghgjkjicjoaaGreatDoor.Sgm
