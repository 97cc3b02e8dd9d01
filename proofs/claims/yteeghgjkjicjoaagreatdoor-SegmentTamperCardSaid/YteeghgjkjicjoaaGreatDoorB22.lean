/- Texts of ours, merged. -/
import Derived.Test.YteeghgjkjicjoaaGreatDoorB21
namespace Go.Proofs.YteeghgjkjicjoaaGreatDoor.Sgm
open Go.RowKit Dsk Slt Epo Cod
def vD (D:DS):Nat:=lead 1 (regL D 0 1024)
def opnR (D:DS) (k C:List Int) (cs:List (List Int)):Option (List (List Int)):=opensL k C (vD D) 0 1 (cs.map textC)
def opnX (D:DS) (k C:List Int) (cs:List (List Int)) (e:Bool):Int:=if xs0 D ≠ 0 then xs0 D else if xs1 e ≠ 0 then xs1 e else if xs2 (opnR D k C cs) ≠ 0 then xs2 (opnR D k C cs) else nxtE D (vD D)
def opnD (D:DS) (k C:List Int) (cs:List (List Int)) (e:Bool):DS:=if xs0 D ≠ 0 then D else if xs1 e ≠ 0 then D else if xs2 (opnR D k C cs) ≠ 0 then D else nxtD D (vD D)
set_option maxRecDepth 100000 in
theorem built_lit (K:DK) (a0 a1 a2 a3 a4 a5 a6 a7 a8 a9 a10 a11 a12 a13 a14 a15 a16 a17 a18 a19 a20 a21 a22 a23 a24 a25 a26 a27 a28 a29 a30 a31:Int) (A:Option Addr) (n c:Nat):Tryz.prog.built 88 [(1,.pointer (some ⟨K.g,0,none⟩)),(3,.agg (u8s [a0,a1,a2,a3,a4,a5,a6,a7,a8,a9,a10,a11,a12,a13,a14,a15,a16,a17,a18,a19,a20,a21,a22,a23,a24,a25,a26,a27,a28,a29,a30,a31])),(4,.slice A n c)] = some (rowG none K none [a0,a1,a2,a3,a4,a5,a6,a7,a8,a9,a10,a11,a12,a13,a14,a15,a16,a17,a18,a19,a20,a21,a22,a23,a24,a25,a26,a27,a28,a29,a30,a31] (.slice A n c) 0 (.slice none 0 0) false):=by kernel_rfl
theorem built_seg (K:DK) (key:List Int) (hk:key.length = 32) (A:Option Addr) (n c:Nat):Tryz.prog.built 88 [(1,.pointer (some ⟨K.g,0,none⟩)),(3,.agg (u8s key)),(4,.slice A n c)] = some (rowG none K none key (.slice A n c) 0 (.slice none 0 0) false):=by
 match key,hk with
 | [a0,a1,a2,a3,a4,a5,a6,a7,a8,a9,a10,a11,a12,a13,a14,a15,a16,a17,a18,a19,a20,a21,a22,a23,a24,a25,a26,a27,a28,a29,a30,a31],_ => exact built_lit K a0 a1 a2 a3 a4 a5 a6 a7 a8 a9 a10 a11 a12 a13 a14 a15 a16 a17 a18 a19 a20 a21 a22 a23 a24 a25 a26 a27 a28 a29 a30 a31 A n c
def BuP (K:DK) (key C:List Int) (B:Nat) (v:Value) (w:World):Prop:=∃ A c,v = .agg (rowG none K none key (.slice A C.length c) 0 (.slice none 0 0) false) ∧ NewB B C (.slice A C.length c) w
def BxP (K:DK) (key C:List Int) (B:Nat) (v:Value) (w:World):Prop:=∃ gS A c,v = .pointer (some ⟨gS,0,none⟩) ∧ B ≤ gS ∧ w.heap[gS]? = some (.cells (rowG none K none key (.slice A C.length c) 0 (.slice none 0 0) false) 88 (0,0)) ∧ NewB B C (.slice A C.length c) w
def AlP (B:Nat) (v:Value) (w:World):Prop:=∃ n,v = .pointer (some ⟨n,0,none⟩) ∧ B ≤ n ∧ w.heap[n]? = some (.cells #[.pointer none] 42 (0,0))
theorem BuP.later {K:DK} {key C:List Int} {B:Nat} {v:Value} {w w':World} (h:BuP K key C B v w) (hb:Below w.heap.size w w'):BuP K key C B v w':=by
 obtain ⟨A,c,e,h⟩:=h; exact ⟨A,c,e,h.later hb⟩
theorem BxP.later {K:DK} {key C:List Int} {B:Nat} {v:Value} {w w':World} (h:BxP K key C B v w) (hb:Below w.heap.size w w'):BxP K key C B v w':=by
 obtain ⟨g,A,c,e,h0,h1,h⟩:=h; exact ⟨g,A,c,e,h0,(hb.block _ (Array.getElem?_eq_some_iff.1 h1).1).trans h1,h.later hb⟩
theorem AlP.later {B:Nat} {v:Value} {w w':World} (h:AlP B v w) (hb:Below w.heap.size w w'):AlP B v w':=by
 obtain ⟨n,e,h0,h1⟩:=h; exact ⟨n,e,h0,(hb.block _ (Array.getElem?_eq_some_iff.1 h1).1).trans h1⟩
def FnP (K:DK) (key C:List Int) (B:Nat) (z:Value) (_v:Value) (w:World):Prop:=∃ gS bs A c,z = .pointer (some ⟨bs,0,none⟩) ∧ B ≤ gS ∧ B ≤ bs ∧ bs ≠ gS ∧ w.heap[gS]? = some (.cells (rowG none K none key (.slice A C.length c) 0 (.slice none 0 0) false) 88 (0,0)) ∧ w.heap[bs]? = some (.cells #[.pointer (some ⟨gS,0,none⟩)] 42 (0,0)) ∧ Byt w A c C ∧ ∀ a,A = some a → B ≤ a.block ∧ a.block < w.heap.size ∧ a.block ≠ gS ∧ a.block ≠ bs
theorem FnP.later {K:DK} {key C:List Int} {B:Nat} {z v:Value} {w w':World} (h:FnP K key C B z v w) (hb:Below w.heap.size w w'):FnP K key C B z v w':=by
 obtain ⟨gS,bs,A,c,e,h1,h2,h3,h4,h5,h6,h7⟩:=h
 exact ⟨gS,bs,A,c,e,h1,h2,h3,(hb.block _ (Array.getElem?_eq_some_iff.1 h4).1).trans h4,(hb.block _ (Array.getElem?_eq_some_iff.1 h5).1).trans h5,h6.below hb (Nat.le_refl _),fun a ha => ⟨(h7 a ha).1,Nat.lt_of_lt_of_le (h7 a ha).2.1 hb.size,(h7 a ha).2.2⟩⟩
theorem own_ty {w:World} {B n:Nat} {t:TypeId} {v:Value} {L:List Value} (h:w.ownsRow B t 1 v n L) (q:Nat) (hq:v.ownBlock = some q):∃ cur,w.heap[q]? = some (.cells cur t (0,0)):=by
 rcases h.2 with ⟨rfl,_⟩ | ⟨g,cap,cur,rfl,_,hh,_⟩
 · cases hq
 · cases hq; exact ⟨cur,hh⟩
theorem fn_new {K:DK} {key C:List Int} {B gS n:Nat} {A:Option Addr} {c:Nat} {v:Value} {w:World} (hg:B ≤ gS) (hr:w.heap[gS]? = some (.cells (rowG none K none key (.slice A C.length c) 0 (.slice none 0 0) false) 88 (0,0))) (hN:NewB B C (.slice A C.length c) w) (hn:B ≤ n) (ha:w.heap[n]? = some (.cells #[.pointer none] 42 (0,0))) :
 FnP K key C B (.pointer (some ⟨n,0,none⟩)) v (w.setCell ⟨n,0,none⟩ (.pointer (some ⟨gS,0,none⟩))):=by
 have hc:Chg [n] w (w.setCell ⟨n,0,none⟩ (.pointer (some ⟨gS,0,none⟩))):=(Chg.refl [n] w).setCell (by simp) _
 have hne:n ≠ gS:=by
  intro e; subst e
  rw [hr] at ha
  injection ha with ha
  injection ha with _ ha
  exact absurd ha (by decide)
 have hA:∀ a,A = some a → B ≤ a.block ∧ a.block < w.heap.size ∧ a.block ≠ gS ∧ a.block ≠ n:=by
  intro a ea
  subst ea
  have hl:=hN.lt a.block rfl
  obtain ⟨cur,hcur⟩:=own_ty hN a.block rfl
  refine ⟨hl.1,hl.2,fun e => ?_,fun e => ?_⟩
  · rw [e,hr] at hcur
    injection hcur with hcur
    injection hcur with _ hcur
    exact absurd hcur (by decide)
  · rw [e,ha] at hcur
    injection hcur with hcur
    injection hcur with _ hcur
    exact absurd hcur (by decide)
 obtain ⟨A',c',e',hB⟩:=NewB.sl hN
 cases e'
 exact ⟨gS,n,A,c,rfl,hg,hn,hne,hc.at hr (by simp; exact fun e => hne e.symm),heap_setCell_same _ _ _ _ _ _ ha,hB.chg hc (fun a ea => by simp; exact (hA a ea).2.2.2),fun a ea => ⟨(hA a ea).1,Nat.lt_of_lt_of_le (hA a ea).2.1 hc.size,(hA a ea).2.2⟩⟩
def stepF:Nat → Nat:=fun i => [39, 41, 43, 46].getD i 0
def ptrV (b:Nat):Value:=.pointer (some ⟨b,0,none⟩)
def stepC (bd bs bc:Nat):Nat → Array Value:=fun i => [#[ptrV bd,ptrV bc],#[ptrV bd,ptrV bs],#[ptrV bs,ptrV bc],#[ptrV bc,ptrV bs]].getD i #[]
def stepsV (bd bs bc:Nat):Array Value:=#[.func (.func 39) #[] #[ptrV bd,ptrV bc],.func (.func 41) #[] #[ptrV bd,ptrV bs],.func (.func 43) #[] #[ptrV bs,ptrV bc],.func (.func 46) #[] #[ptrV bc,ptrV bs]]
theorem step_enter:∀ i,i < 4 → ∀ x w,(callFunc (stepF i) x).run Tryz.prog w = .ok (.enter (stepF i) x) w:=by
 intro i hi x w
 obtain rfl | rfl | rfl | rfl:i = 0 ∨ i = 1 ∨ i = 2 ∨ i = 3:=by omega
 · exact enter_of Tryz.func39 (by kernel_rfl) rfl x w
 · exact enter_of Tryz.func41 (by kernel_rfl) rfl x w
 · exact enter_of Tryz.func43 (by kernel_rfl) rfl x w
 · exact enter_of Tryz.func46 (by kernel_rfl) rfl x w
section
variable {w0 w4:World} {K:DK} {bd bs bc gS gF:Nat} {key:List Int} {A:Option Addr} {c:Nat} {C:List Int} {D:DS} {cs:List (List Int)} {Rr:List Int} {e:Bool}
structure O0 (w0 w4:World) (K:DK) (bd bs bc gS gF:Nat) (key:List Int) (A:Option Addr) (c:Nat) (C:List Int) (D:DS) (lg cp:Option Addr) (ep:Nat) (tv:Value) (W:World):Prop where
 ob:OB w0 W K bd bs bc gS lg cp key A c C ep tv D
 fs:W.heap[gF]? = some (.cells (stepsV bd bs bc) 78 (0,0))
 sz:w4.heap.size ≤ W.heap.size
structure C1 (K:DK) (B:Nat) (D:DS) (gC:Nat) (W:World):Prop where
 off:D.off = false
 cnt:Cnt (regL D 0 1024) (vD D)
 ct:Ct W K gC ⟨0,1024,vD D⟩
 new:B ≤ gC
structure L2 (K:DK) (B gC:Nat) (D:DS) (cs:List (List Int)) (J:LK) (W:World):Prop where
 lg:Lg W K J (logS D cs)
 bl:∀ q ∈ J.bl,B ≤ q ∧ gC < q
 tx:∀ q ∈ J.tx,B ≤ q ∧ gC < q
theorem jbl_lt {w:World} {K:DK} {J:LK} {S:LS} (h:Lg w K J S):∀ q ∈ J.bl,q < w.heap.size:=by
 intro q hq
 simp only [LK.bl,List.mem_cons,Option.mem_toList] at hq
 rcases hq with rfl | hq
 · exact h.glt
 · exact (h.own.lt q hq).2
def T3 (B gC:Nat) (J:LK) (tv:Value) (ts:List Value) (T:List (List Int)) (W:World):Prop:=∃ B2,B ≤ B2 ∧ gC < B2 ∧ (∀ q ∈ J.bl,q < B2) ∧ (∀ q ∈ J.tx,q < B2) ∧ NewT B2 tv ts T W
def OI (w0 w4:World) (K:DK) (bd bs bc gS gF:Nat) (key:List Int) (A:Option Addr) (c:Nat) (C:List Int) (D:DS) (cs:List (List Int)) (e:Bool):Nat → World → Prop
 | 0,W => O0 w0 w4 K bd bs bc gS gF key A c C D none none 0 (.slice none 0 0) W
 | 1,W => xs0 D = 0 ∧ ∃ gC,O0 w0 w4 K bd bs bc gS gF key A c C D none (some ⟨gC,0,none⟩) 0 (.slice none 0 0) W ∧ C1 K w4.heap.size D gC W
 | 2,W => xs0 D = 0 ∧ xs1 e = 0 ∧ ∃ gC J,O0 w0 w4 K bd bs bc gS gF key A c C D (some ⟨J.g,0,none⟩) (some ⟨gC,0,none⟩) 0 (.slice none 0 0) W ∧ C1 K w4.heap.size D gC W ∧ L2 K w4.heap.size gC D cs J W
 | 3,W => xs0 D = 0 ∧ xs1 e = 0 ∧ ∃ gC J T ts tv,opnR D key C cs = some T ∧ O0 w0 w4 K bd bs bc gS gF key A c C D (some ⟨J.g,0,none⟩) (some ⟨gC,0,none⟩) 0 tv W ∧ C1 K w4.heap.size D gC W ∧ L2 K w4.heap.size gC D cs J W ∧ T3 w4.heap.size gC J tv ts T W
 | _,W => xs0 D = 0 ∧ xs1 e = 0 ∧ nxtE D (vD D) = 0 ∧ ∃ gC J T ts tv,opnR D key C cs = some T ∧ O0 w0 w4 K bd bs bc gS gF key A c C (nxtD D (vD D)) (some ⟨J.g,0,none⟩) (some ⟨gC,0,none⟩) (nxtP D (vD D)) tv W ∧ L2 K w4.heap.size gC D cs J W ∧ T3 w4.heap.size gC J tv ts T W
def OQ (w0:World) (K:DK) (key C:List Int) (D:DS) (cs:List (List Int)) (e:Bool) (x:Int) (W:World):Prop:=x = opnX D key C cs e ∧ Dsk W K (opnD D key C cs e) ∧ Chg K.bl w0 W
structure OH (w0 w4:World) (K:DK) (bd bs bc gS gF:Nat) (key:List Int) (A:Option Addr) (C:List Int) (D:DS) (cs:List (List Int)) (Rr:List Int) (e:Bool):Prop where
 n9:9 ≤ D.secs
 wr:D.writes ≤ 1152921504606846976
 rd:Reads (logL D) cs Rr e
 txs:∀ t ∈ cs.map textC,t.length ≤ 200000
 key:key.length = 32 ∧ InB key
 cin:InB C ∧ C.length ≤ 1000
 laid:Seal.SLaid w0
 ktab:∀ q ∈ K.bl,q ∉ Tab
 lt4:bd < w4.heap.size ∧ bs < w4.heap.size ∧ bc < w4.heap.size ∧ gS < w4.heap.size ∧ gF < w4.heap.size ∧ ∀ a,A = some a → a.block < w4.heap.size
 gf:gF ≠ bc ∧ gF ≠ gS ∧ w0.heap.size ≤ gF
 le4:w0.heap.size ≤ w4.heap.size
 w128:D.data.length = D.secs * 128
theorem opn_x0 (h:xs0 D ≠ 0):opnX D key C cs e = xs0 D ∧ opnD D key C cs e = D:=by
 unfold opnX opnD; rw [if_pos h,if_pos h]; exact ⟨rfl,rfl⟩
theorem opn_x1 (h0:xs0 D = 0) (h:xs1 e ≠ 0):opnX D key C cs e = xs1 e ∧ opnD D key C cs e = D:=by
 unfold opnX opnD; rw [if_neg (not_not_intro h0),if_neg (not_not_intro h0),if_pos h,if_pos h]; exact ⟨rfl,rfl⟩
theorem opn_x2 (h0:xs0 D = 0) (h1:xs1 e = 0) (h:xs2 (opnR D key C cs) ≠ 0):opnX D key C cs e = xs2 (opnR D key C cs) ∧ opnD D key C cs e = D:=by
 unfold opnX opnD; rw [if_neg (not_not_intro h0),if_neg (not_not_intro h0),if_neg (not_not_intro h1),if_neg (not_not_intro h1),if_pos h,if_pos h]; exact ⟨rfl,rfl⟩
theorem opn_x3 (h0:xs0 D = 0) (h1:xs1 e = 0) (h:xs2 (opnR D key C cs) = 0):opnX D key C cs e = nxtE D (vD D) ∧ opnD D key C cs e = nxtD D (vD D):=by
 unfold opnX opnD; rw [if_neg (not_not_intro h0),if_neg (not_not_intro h0),if_neg (not_not_intro h1),if_neg (not_not_intro h1),if_neg (not_not_intro h),if_neg (not_not_intro h)]; exact ⟨rfl,rfl⟩
theorem vD_le (h:9 ≤ D.secs) (hw:D.data.length = D.secs * 128):vD D ≤ 1024:=by
 have:=lead_le 1 (regL D 0 1024)
 rw [Epo.reg_len (by omega)] at this
 exact this
theorem fs_chg {X:List Nat} {W W':World} {FS:Array Value} {T:TypeId} (h:W.heap[gF]? = some (.cells FS T (0,0))) (hc:Chg X W W') (hX:gF ∉ X):W'.heap[gF]? = some (.cells FS T (0,0)):=hc.at h hX
variable (H:OH w0 w4 K bd bs bc gS gF key A C D cs Rr e)
include H
theorem step0 {W:World} (h:OI w0 w4 K bd bs bc gS gF key A c C D cs e 0 W):Calls Tryz.prog (stepF 0) (stepC bd bs bc 0) W (StepQ (OI w0 w4 K bd bs bc gS gF key A c C D cs e 1) (OQ w0 K key C D cs e)):=by
 have h:O0 w0 w4 K bd bs bc gS gF key A c C D none none 0 (.slice none 0 0) W:=h
 refine (open1_any h.ob H.n9).mono ?_
 rintro ee W' ⟨rfl,cp,ob,hw,hc⟩
 refine ⟨_,rfl,?_⟩
 by_cases hx:xs0 D = 0
 · obtain ⟨gC,v,rfl,h1,h2,h3,h4⟩:=hw hx
   have hv:vD D = v:=h2.lead1
   exact .inl ⟨hx,hx,gC,⟨ob,fs_chg h.fs hc (by simp; exact H.gf.1),Nat.le_trans h.sz hc.size⟩,h1,by rw [hv]; exact h2,by rw [hv]; exact h3,Nat.le_trans h.sz h4⟩
 · obtain ⟨e1,e2⟩:=opn_x0 (key:=key) (C:=C) (cs:=cs) (e:=e) hx
   exact .inr ⟨hx,e1.symm,by rw [e2]; exact ob.dsk,ob.low⟩
theorem step1 {W:World} (h:OI w0 w4 K bd bs bc gS gF key A c C D cs e 1 W):Calls Tryz.prog (stepF 1) (stepC bd bs bc 1) W (StepQ (OI w0 w4 K bd bs bc gS gF key A c C D cs e 2) (OQ w0 K key C D cs e)):=by
 obtain ⟨h0,gC,ho,h1⟩:=h
 refine (open2_any ho.ob H.n9 h1.off H.rd).mono ?_
 rintro ee W' ⟨rfl,lp,ob,hw,hc⟩
 refine ⟨_,rfl,?_⟩
 by_cases hx:xs1 e = 0
 · obtain ⟨J,rfl,hl,hb,ht⟩:=hw hx
   have hgl:=h1.ct.lt
   have hgS:=H.lt4.2.2.2.1
   have:=h1.new
   exact .inl ⟨hx,h0,hx,gC,J,⟨ob,fs_chg ho.fs hc (by simp; exact H.gf.2.1),Nat.le_trans ho.sz hc.size⟩,⟨h1.off,h1.cnt,h1.ct.chg hc (by simp; omega),h1.new⟩,hl,fun q hq => ⟨Nat.le_trans ho.sz (hb q hq),Nat.lt_of_lt_of_le hgl (hb q hq)⟩,fun q hq => ⟨Nat.le_trans ho.sz (ht q hq),Nat.lt_of_lt_of_le hgl (ht q hq)⟩⟩
 · obtain ⟨e1,e2⟩:=opn_x1 (key:=key) (C:=C) (cs:=cs) h0 hx
   exact .inr ⟨hx,e1.symm,by rw [e2]; exact ob.dsk,ob.low⟩
theorem step2 {W:World} (h:OI w0 w4 K bd bs bc gS gF key A c C D cs e 2 W):Calls Tryz.prog (stepF 2) (stepC bd bs bc 2) W (StepQ (OI w0 w4 K bd bs bc gS gF key A c C D cs e 3) (OQ w0 K key C D cs e)):=by
 obtain ⟨h0,h1,gC,J,ho,hC,hL⟩:=h
 have hgS:=H.lt4.2.2.2.1
 have hnew:=hC.new
 have hjn:(∀ q ∈ J.bl,q ≠ gS) ∧ ∀ q ∈ J.tx,q ≠ gS:=⟨fun q hq => by have:=(hL.bl q hq).1; omega,fun q hq => by have:=(hL.tx q hq).1; omega⟩
 have hW:D.data.length = D.secs * 128:=ho.ob.dsk.ok.whole128
 have htab:gS ∉ Tab:=fun hm => by have:=tab_lt H.laid _ hm; have:=ho.ob.base.2.2.2; omega
 refine (open3_any ho.ob hL.lg hjn hC.ct (by omega) (vD_le H.n9 hW) H.key.1 H.key.2 H.cin.1 H.cin.2 H.txs (slaid_chg H.laid ho.ob.low H.ktab) htab).mono ?_
 rintro ee W' ⟨rfl,tv,ob,hw,hc⟩
 refine ⟨_,rfl,?_⟩
 have hR:opensL key C (vD D) 0 1 (logS D cs).texts = opnR D key C cs:=rfl
 rw [hR] at hw ⊢
 cases hr:opnR D key C cs with
 | none =>
   have hx:xs2 (opnR D key C cs) ≠ 0:=by rw [hr]; decide
   obtain ⟨e1,e2⟩:=opn_x2 h0 h1 hx
   rw [hr] at e1
   exact .inr ⟨by decide,e1.symm,by rw [e2]; exact ob.dsk,ob.low⟩
 | some T =>
   rw [hr] at hw
   obtain ⟨ts,hT⟩:=hw
   have hgl:=hC.ct.lt
   exact .inl ⟨rfl,h0,h1,gC,J,T,ts,tv,hr,⟨ob,fs_chg ho.fs hc (by simp; exact H.gf.2.1),Nat.le_trans ho.sz hc.size⟩,⟨hC.off,hC.cnt,hC.ct.chg hc (by simp; omega),hC.new⟩,
    ⟨hL.lg.chg hc (fun q hq => by simp; exact hjn.1 q hq) (fun q hq => by simp; exact hjn.2 q hq),hL.bl,hL.tx⟩,W.heap.size,ho.sz,hgl,jbl_lt hL.lg,hL.lg.tlt,hT⟩
theorem step3 {W:World} (h:OI w0 w4 K bd bs bc gS gF key A c C D cs e 3 W):Calls Tryz.prog (stepF 3) (stepC bd bs bc 3) W (StepQ (OI w0 w4 K bd bs bc gS gF key A c C D cs e 4) (OQ w0 K key C D cs e)):=by
 obtain ⟨h0,h1,gC,J,T,ts,tv,hr,ho,hC,hL,B2,hB2,hgB,hjb,hjt,hT⟩:=h
 obtain ⟨l1,l2,l3,l4,l5,l6⟩:=H.lt4
 have hnew:=hC.new
 have hlow:=ho.ob.low.size
 have hW:D.data.length = D.secs * 128:=ho.ob.dsk.ok.whole128
 have hb:=ho.ob.base
 refine (open4_any ho.ob hC.ct ⟨by omega,by omega,by omega,by omega,by omega,fun a ha => by have:=l6 a ha; omega⟩ (vD_le H.n9 hW) H.n9 hC.off H.wr H.key.1).mono ?_
 rintro ee W' ⟨rfl,ob,hc⟩
 refine ⟨_,rfl,?_⟩
 have hx2:xs2 (opnR D key C cs) = 0:=by rw [hr]; rfl
 obtain ⟨e1,e2⟩:=opn_x3 h0 h1 hx2
 by_cases hx:nxtE D (vD D) = 0
 · have hnot:∀ q,w4.heap.size ≤ q → gC < q → q ∉ gS :: gC :: K.bl:=fun q h2 h3 hm => by
    rcases List.mem_cons.1 hm with e | hm
    · omega
    rcases List.mem_cons.1 hm with e | hm
    · omega
    · have:=ho.ob.kin _ hm; omega
   refine .inl ⟨hx,h0,h1,hx,gC,J,T,ts,tv,hr,⟨ob,fs_chg ho.fs hc (fun hm => ?_),Nat.le_trans ho.sz hc.size⟩,⟨hL.lg.chg hc (fun q hq => hnot q (hL.bl q hq).1 (hL.bl q hq).2) (fun q hq => hnot q (hL.tx q hq).1 (hL.tx q hq).2),hL.bl,hL.tx⟩,B2,hB2,hgB,hjb,hjt,?_⟩
   · rcases List.mem_cons.1 hm with e | hm
     · exact H.gf.2.1 e
     rcases List.mem_cons.1 hm with e | hm
     · omega
     · have:=ho.ob.kin _ hm; have:=H.gf.2.2; omega
   · refine NewT.chg hT hc (fun q hm => ?_)
     rcases List.mem_cons.1 hm with e | hm
     · omega
     rcases List.mem_cons.1 hm with e | hm
     · omega
     · have:=ho.ob.kin _ hm; omega
 · exact .inr ⟨hx,e1.symm,by rw [e2]; exact ob.dsk,ob.low⟩
theorem steps_any {W:World} (h:OI w0 w4 K bd bs bc gS gF key A c C D cs e 0 W):Calls Tryz.prog 38 #[.slice (some ⟨gF,0,none⟩) 4 4] W (StepQ (OI w0 w4 K bd bs bc gS gF key A c C D cs e 4) (OQ w0 K key C D cs e)):=by
 refine first_any (m:=4) (by decide) stepF step_enter (stepC bd bs bc) (OI w0 w4 K bd bs bc gS gF key A c C D cs e) (OQ w0 K key C D cs e) ?_ ?_ W h
 · intro i W hi hI
   have hfs:W.heap[gF]? = some (.cells (stepsV bd bs bc) 78 (0,0)):=by
    obtain rfl | rfl | rfl | rfl:i = 0 ∨ i = 1 ∨ i = 2 ∨ i = 3:=by omega
    · exact O0.fs hI
    · exact hI.2.choose_spec.1.fs
    · exact hI.2.2.choose_spec.choose_spec.1.fs
    · exact hI.2.2.choose_spec.choose_spec.choose_spec.choose_spec.choose_spec.2.1.fs
   rw [cell_row hfs]
   obtain rfl | rfl | rfl | rfl:i = 0 ∨ i = 1 ∨ i = 2 ∨ i = 3:=by omega
   all_goals rfl
 · intro i W hi hI
   obtain rfl | rfl | rfl | rfl:i = 0 ∨ i = 1 ∨ i = 2 ∨ i = 3:=by omega
   · exact step0 H hI
   · exact step1 H hI
   · exact step2 H hI
   · exact step3 H hI
end
end Go.Proofs.YteeghgjkjicjoaaGreatDoor.Sgm
namespace Go.Proofs.YteeghgjkjicjoaaGreatDoor.Sgm
open Go.RowKit Dsk Slt Epo Cod
theorem wp_buildV {o:Oper} {a:Act} {w:World} {K:Act → World → Prop} {Q:Exit → Act → World → Prop} (t:TypeId) (parts:Array (Nat × Operand)) (ho:o.op = .build t parts) (cells:Array Value)
 (hf:Tryz.prog.built t (parts.map fun (i,x) => (i,a.eval x)).toList = some cells) (h:K (a.put o.dst (.agg cells)) w):o.wp Tryz.prog a w K Q :=
 wp_build t parts ho (by rw [hf]; rfl) (by rw [hf]; exact h)
structure SgNew (w0 w:World) (K:DK) (J:LK) (G:GK) (S:LS) (V:GV):Prop where
 sg:Sg w K J G S V
 jn:∀ q ∈ J.bl,w0.heap.size ≤ q
 jt:∀ q ∈ J.tx,w0.heap.size ≤ q
 gn:∀ q ∈ G.bl,w0.heap.size ≤ q
 gt:∀ q ∈ G.tx,w0.heap.size ≤ q
def SgW (w0:World) (K:DK) (key C:List Int) (D:DS) (cs:List (List Int)) (e:Bool) (p:Option Addr) (w:World):Prop :=
 if opnX D key C cs e = 0 then ∃ J G T,p = some ⟨G.g,0,none⟩ ∧ opnR D key C cs = some T ∧ SgNew w0 w K J G (logS D cs) ⟨key,C,nxtP D (vD D),T,false⟩ else p = none
theorem sg_of {w0 w4 W:World} {K:DK} {bd bs bc gS gF:Nat} {key:List Int} {A:Option Addr} {c:Nat} {C:List Int} {D:DS} {cs:List (List Int)} {Rr:List Int} {e:Bool} (H:OH w0 w4 K bd bs bc gS gF key A C D cs Rr e)
 (h:OI w0 w4 K bd bs bc gS gF key A c C D cs e 4 W):opnX D key C cs e = 0 ∧ ∃ J G T,G.g = gS ∧ opnR D key C cs = some T ∧ Dsk (W.setCell ⟨gS,0,none⟩ (.pointer (some ⟨gS,0,none⟩))) K (opnD D key C cs e) ∧ Chg K.bl w0 (W.setCell ⟨gS,0,none⟩ (.pointer (some ⟨gS,0,none⟩))) ∧ SgNew w0 (W.setCell ⟨gS,0,none⟩ (.pointer (some ⟨gS,0,none⟩))) K J G (logS D cs) ⟨key,C,nxtP D (vD D),T,false⟩:=by
 obtain ⟨h0,h1,hx,gC,J,T,ts,tv,hr,ho,hL,B2,hB2,hgB,hjb,hjt,hT⟩:=h
 obtain ⟨l1,l2,l3,l4,l5,l6⟩:=H.lt4
 have hlow:=ho.ob.low.size
 have hb:=ho.ob.base
 have hx2:xs2 (opnR D key C cs) = 0:=by rw [hr]; rfl
 obtain ⟨e1,e2⟩:=opn_x3 (key:=key) (C:=C) (cs:=cs) h0 h1 hx2
 have hc:Chg [gS] W (W.setCell ⟨gS,0,none⟩ (.pointer (some ⟨gS,0,none⟩))):=(Chg.refl [gS] W).setCell (by simp) _
 have hX:∀ q ∈ [gS],w0.heap.size ≤ q:=by simp; exact hb.2.2.2
 have hjS:∀ q ∈ J.bl,q ∉ [gS]:=fun q hq => by simp; have:=(hL.bl q hq).1; omega
 have hjT:∀ q ∈ J.tx,q ∉ [gS]:=fun q hq => by simp; have:=(hL.tx q hq).1; omega
 refine ⟨by rw [e1]; exact hx,J,⟨gS,tv,ts,A,c⟩,T,rfl,hr,by rw [e2]; exact ho.ob.dskc hc hX,ho.ob.lowc hc hX,?_⟩
 have htb:∀ q,tv.ownBlock = some q → B2 ≤ q:=fun q hq => (hT.own.lt q hq).1
 have hK:∀ q,w0.heap.size ≤ q → q ∉ K.bl:=fun q hq hm => by have:=ho.ob.kin q hm; omega
 have hbl:∀ q ∈ (⟨gS,tv,ts,A,c⟩:GK).bl,q = gS ∨ (B2 ≤ q ∧ tv.ownBlock = some q):=fun q hq => by
  simp only [GK.bl,List.mem_cons,Option.mem_toList] at hq
  exact hq.imp id (fun h => ⟨htb q h,h⟩)
 have htx:∀ q ∈ (⟨gS,tv,ts,A,c⟩:GK).tx,(∃ a,A = some a ∧ a.block = q) ∨ (B2 ≤ q ∧ q < W.heap.size ∧ tv.ownBlock ≠ some q):=fun q hq => by
  simp only [GK.tx,List.mem_append] at hq
  rcases hq with hq | hq
  · left
    cases A with
    | none => cases hq
    | some a => exact ⟨a,rfl,by simpa [eq_comm] using hq⟩
  · exact .inr (hT.new q hq)
 have hlow':=H.le4
 have hT':=NewT.chg hT hc (by simp; omega)
 have hsz:=hc.size
 refine ⟨⟨?_,hL.lg.chg hc hjS hjT,⟨own_lower hT'.own (Nat.zero_le _),hT'.txt⟩,fun q hq => ?_,ho.ob.ctx.chg hc (fun a ha => by simp; exact (ho.ob.ctxn a ha).2.2.2.2),H.key.1,H.key.2,H.cin.1,H.cin.2,?_,?_,?_,?_,hT.inb⟩,fun q hq => Nat.le_trans hlow' (hL.bl q hq).1,fun q hq => Nat.le_trans hlow' (hL.tx q hq).1,?_,?_⟩
 · rw [← rowG_set0 (self:=none)]
   exact heap_setCell_same _ _ _ _ _ _ ho.ob.r
 · have:=htb q hq
   show q ≠ gS
   omega
 · show nxtP D (vD D) < 4294967296
   have:=vD_le H.n9 H.w128
   unfold nxtP
   split
   · decide
   · split <;> omega
 · intro q hq
   rcases htx q hq with ⟨a,ha,rfl⟩ | ⟨_,h3,_⟩
   · exact Nat.lt_of_lt_of_le (ho.ob.ctxl a ha) hsz
   · exact Nat.lt_of_lt_of_le h3 hsz
 · intro q hq
   rcases htx q hq with ⟨a,ha,rfl⟩ | ⟨h2,_,h4⟩
   · have hn:=ho.ob.ctxn a ha
     have hl:=l6 a ha
     refine ⟨hK _ hn.1,fun hm => by have:=(hL.bl _ hm).1; omega,fun hm => ?_⟩
     rcases hbl _ hm with e | ⟨e,_⟩
     · exact hn.2.2.2.2 e
     · omega
   · refine ⟨hK q (by omega),fun hm => by have:=hjb q hm; omega,fun hm => ?_⟩
     rcases hbl _ hm with e | ⟨_,e⟩
     · omega
     · exact h4 e
 · intro q hq
   rcases hbl q hq with rfl | ⟨h2,_⟩
   · exact ⟨hK _ hb.2.2.2,fun hm => hjS _ hm (by simp),fun hm => hjT _ hm (by simp)⟩
   · exact ⟨hK q (by omega),fun hm => by have:=hjb q hm; omega,fun hm => by have:=hjt q hm; omega⟩
 · intro q hq
   rcases hbl q hq with rfl | ⟨h2,_⟩
   · exact hb.2.2.2
   · omega
 · intro q hq
   rcases htx q hq with ⟨a,ha,rfl⟩ | ⟨h2,_,_⟩
   · exact (ho.ob.ctxn a ha).1
   · omega
theorem start_any {w w1 wx:World} {K:DK} {key:List Int} {C:List Int} {D:DS} {cs:List (List Int)} {Rr:List Int} {e:Bool} {gS bs:Nat} {A:Option Addr} {c:Nat} (h3:w.heap.size < w1.heap.size) (HL3:Below w.heap.size w w1) (HT1:w1.heap[w.heap.size]? = some (.cells #[.pointer (some ⟨K.g,0,none⟩)] 32 (0,0))) (HX:Below w1.heap.size w1 wx)
 (HF:w1.heap.size ≤ gS ∧ w1.heap.size ≤ bs ∧ bs ≠ gS ∧ wx.heap[gS]? = some (.cells (rowG none K none key (.slice A C.length c) 0 (.slice none 0 0) false) 88 (0,0)) ∧ wx.heap[bs]? = some (.cells #[.pointer (some ⟨gS,0,none⟩)] 42 (0,0)) ∧ Byt wx A c C ∧ ∀ a,A = some a → w1.heap.size ≤ a.block ∧ a.block < wx.heap.size ∧ a.block ≠ gS ∧ a.block ≠ bs)
 (hd:Dsk w K D) (h9:9 ≤ D.secs) (hw:D.writes ≤ 1152921504606846976) (hk:key.length = 32) (hkb:InB key) (hC:InB C ∧ C.length ≤ 1000) (hr:Reads (logL D) cs Rr e) (ht:∀ t ∈ cs.map textC,t.length ≤ 200000) (hLd:Seal.SLaid w) (hkt:∀ q ∈ K.bl,q ∉ Tab) (hkl:∀ q ∈ K.bl,q < w.heap.size) (w4:World) (h4:w4 = (wx.alloc (.cells #[.pointer none] 89)).alloc (.cells (stepsV w.heap.size bs wx.heap.size) 78)) :
 OH w w4 K w.heap.size bs wx.heap.size gS (wx.heap.size + 1) key A C D cs Rr e ∧ OI w w4 K w.heap.size bs wx.heap.size gS (wx.heap.size + 1) key A c C D cs e 0 w4:=by
 obtain ⟨f1,f2,f3,f4,f5,f6,f7⟩:=HF
 have hx1:=HX.size
 have g1:=(Array.getElem?_eq_some_iff.1 f4).1
 have g2:=(Array.getElem?_eq_some_iff.1 f5).1
 have hb:Below wx.heap.size wx w4:=by rw [h4]; exact ((Below.refl _ _).alloc (Nat.le_refl _) _).alloc (by rw [World.size_alloc]; omega) _
 have hs4:w4.heap.size = wx.heap.size + 2:=by rw [h4,World.size_alloc,World.size_alloc]
 obtain ⟨n1,n2⟩:=two_new wx (.cells #[.pointer none] 89) (.cells (stepsV w.heap.size bs wx.heap.size) 78)
 rw [← h4] at n1 n2
 have hlow:Below w.heap.size w wx:=HL3.trans (HX.mono (by omega))
 have hl4:Below w.heap.size w w4:=hlow.trans (hb.mono hlow.size)
 refine ⟨⟨h9,hw,hr,ht,⟨hk,hkb⟩,hC,hLd,hkt,⟨by omega,by omega,by omega,by omega,by omega,fun a ha => by have:=f7 a ha; omega⟩,⟨by omega,by omega,by omega⟩,by omega,hd.ok.whole128⟩,?_⟩
 show O0 w w4 K w.heap.size bs wx.heap.size gS (wx.heap.size + 1) key A c C D none none 0 (.slice none 0 0) w4
 refine ⟨⟨(hb.block _ (by omega)).trans ((HX.block _ h3).trans HT1),(hb.block _ g2).trans f5,n1,(hb.block _ g1).trans f4,hd.later hl4,Chg.of_below hl4,f6.below hb (Nat.le_refl _),⟨by omega,by omega,by omega,by omega⟩,⟨by omega,by omega,by omega,f3,by omega⟩,fun a ha => ?_,fun a ha => by have:=f7 a ha; omega,hkl⟩,n2,Nat.le_refl _⟩
 have:=f7 a ha
 exact ⟨by omega,by omega,this.2.2.2,by omega,this.2.2.1⟩
set_option maxRecDepth 100000 in
set_option maxHeartbeats 4000000 in
theorem open_any {w:World} {K:DK} {D:DS} (hd:Dsk w K D) (h9:9 ≤ D.secs) (hw:D.writes ≤ 1152921504606846976) (key:List Int) (hk:key.length = 32) (hkb:InB key) (s:ByteArray) (hs:s.size ≤ 100) (lv:Int) (cp:Nat) {cs:List (List Int)} {Rr:List Int} {e:Bool} (hr:Reads (logL D) cs Rr e) (ht:∀ t ∈ cs.map textC,t.length ≤ 200000) (hLd:Seal.SLaid w) (hkt:∀ q ∈ K.bl,q ∉ Tab) (hkl:∀ q ∈ K.bl,q < w.heap.size) :
 Calls Tryz.prog 17 #[.pointer (some ⟨K.g,0,none⟩),.agg (u8s key),.string s,.agg #[.int .i64 lv,.int .u64 (cp:Nat)]] w fun ee w' => ∃ p,ee = .returned (.tuple #[.pointer p,.int .i64 (opnX D key (ctxL s lv cp) cs e)]) ∧ Dsk w' K (opnD D key (ctxL s lv cp) cs e) ∧ Chg K.bl w w' ∧ SgW w K key (ctxL s lv cp) D cs e p w':=by
 obtain ⟨C,hC⟩:∃ C,C = ctxL s lv cp:=⟨_,rfl⟩
 have Hctx:Hid (∀ W,Calls Tryz.prog 37 #[.string s,.agg #[.int .i64 lv,.int .u64 (cp:Nat)]] W fun e w' => ∃ v,e = .returned v ∧ NewB W.heap.size C v w' ∧ Below W.heap.size W w'):=fun W => by rw [hC]; exact contextOf_any s lv cp hs W
 have HC:Hid (InB C ∧ C.length ≤ 1000):=⟨by rw [hC]; exact ctxL_in s lv cp hs,by rw [hC]; exact ctxL_len hs lv cp⟩
 rw [← hC]
 have Hbu:=Lib.hid (built_seg K key hk)
 have Hd:=Lib.hid hd
 have H9:=Lib.hid (And.intro h9 hw)
 have Hk:Hid (key.length = 32 ∧ InB key):=⟨hk,hkb⟩
 have Hr:=Lib.hid hr
 have Ht:=Lib.hid ht
 have HLd:=Lib.hid hLd
 have Hkt:=Lib.hid hkt
 have Hkl:=Lib.hid hkl
 have hl3:=below3 w (.cells #[.pointer (some ⟨K.g,0,none⟩)] 32) (.cells (u8s key) 24) (.cells #[.int .i64 lv,.int .u64 (cp:Nat)] 27)
 obtain ⟨t1,t2,t3⟩:=three_new w (.cells #[.pointer (some ⟨K.g,0,none⟩)] 32) (.cells (u8s key) 24) (.cells #[.int .i64 lv,.int .u64 (cp:Nat)] 27)
 have HL3:=Lib.hid hl3
 have HT1:=Lib.hid t1
 have HK5:=Lib.hid t2
 have HL7:=Lib.hid t3
 have HD4:=Lib.hid (cell_row t1 0)
 have HsK:Hid ((Tryz.prog.info? 24).map (·.size) = some (u8s key).size):=by show _ = _; rw [u8s_size,hk]; exact Seal.infoH
 have HsL:=Lib.hid info_lab
 clear hC hd h9 hw hk hkb hs hr ht hLd hkt hkl hl3 t1 t2 t3
 go_enter Tryz.func17,Tryz.ntmps17
 go_upto_region 1 with (fail)
 generalize World.alloc (World.alloc (World.alloc _ _) _) _ = w1 at HL3 HT1 HK5 HL7 HD4 ⊢
 have apx:apartB [13,14,15,16,17,18,19,10,1008] = true:=by decide
 refine wp_region_any (by kernel_rfl) ?_
 change wpAny _ _ _ _ _ _ _ (World.drew _)
 refine wpAny_inv2 (fun ll aa wx => Hid (ll.size = 9 ∧ Below w1.heap.size w1 wx) ∧ ∃ (z:Nat → Value),Hid (aa = ⟨#[.pointer (some ⟨K.g,0,none⟩),.agg (u8s key),.string s,.agg #[.int .i64 lv,.int .u64 (cp:Nat)],.pointer (some ⟨w.heap.size,0,none⟩),.pointer (some ⟨w.heap.size + 1,0,none⟩),undef,.pointer (some ⟨w.heap.size + 1 + 1,0,none⟩),.pointer none,.int .i64 0,z 10,undef,undef,z 13,z 14,z 15,z 16,z 17,z 18,z 19,undef,undef,undef,undef,undef,undef,undef,undef,undef,undef,undef,undef,undef,undef],[]⟩) ∧ Holding [13,14,15,16,17,18,19,10,1008] [some (.pointer (some ⟨K.g,0,none⟩)),some (.agg (u8s key)),some (.string s),some (.agg #[.int .i64 lv,.int .u64 (cp:Nat)]),none,none,none,none,none] ll z ∧ Whu ll 4 8 (NewB w1.heap.size C) (z 17) wx ∧ Whu ll 5 8 (BuP K key C w1.heap.size) (z 18) wx ∧ Whu ll 6 8 (BxP K key C w1.heap.size) (z 19) wx ∧ Whu ll 7 8 (AlP w1.heap.size) (z 10) wx ∧ Whn ll 8 (FnP K key C w1.heap.size (z 10)) (z 1008) wx) ?_ (by kernel_rfl) ?_ ?_ _ rfl _ _ ?_
 · rintro ll aa wx ⟨hI,_⟩
   exact hI.out.1
 · rintro ll aa wx ⟨hI,z,ha,hz,hp4,hp5,hp6,hp7,hp8⟩ hall
   have hx:=Lib.hid hI.out.2
   have e0:z 13 = .pointer (some ⟨K.g,0,none⟩):=hz 0 _ (hall 0 (by decide)) rfl
   have e1:z 14 = .agg (u8s key):=hz 1 _ (hall 1 (by decide)) rfl
   have e2:z 15 = .string s:=hz 2 _ (hall 2 (by decide)) rfl
   have e3:z 16 = .agg #[.int .i64 lv,.int .u64 (cp:Nat)]:=hz 3 _ (hall 3 (by decide)) rfl
   have p8:=hp8.get (hall 8 (by decide))
   clear hall hz hI hp4 hp5 hp6 hp7 hp8
   obtain rfl:=ha.out
   clear ha
   clear apx
   obtain ⟨gS,bs,A,c,e10,hgS,hbs,hne,hrS,hrb,hctx,hAn⟩:=p8
   have HX:=Lib.hid hx.out
   have HF:=Lib.hid (And.intro hgS (And.intro hbs (And.intro hne (And.intro hrS (And.intro hrb (And.intro hctx hAn))))))
   simp only [e10]
   clear e0 e1 e2 e3 hx hgS hbs hne hrS hrb hctx hAn e10
   go_upto_region 3 with (fail)
   have h13:w.heap.size < w1.heap.size:=(Array.getElem?_eq_some_iff.1 HT1.out).1
   obtain ⟨W4,hW4⟩:∃ W4,W4 = (wx.alloc (.cells #[.pointer none] 89)).alloc (.cells (stepsV w.heap.size bs wx.heap.size) 78):=⟨_,rfl⟩
   have Hst:=Lib.hid (start_any (gS:=gS) h13 HL3.out HT1.out HX.out HF.out Hd.out H9.out.1 H9.out.2 Hk.out.1 Hk.out.2 HC.out Hr.out Ht.out HLd.out Hkt.out Hkl.out W4 hW4)
   unfold stepsV ptrV at hW4
   have HW4:=Lib.hid hW4
   clear hW4
   clear h13 HF HX HL3 HT1 HK5 HL7 HD4 HsK HsL Hbu Hctx
   go_upto_region 4 with (go_at_call 38; rw [← HW4.out]; refine (steps_any Hst.out.1 Hst.out.2).mono ?_; rintro ee w5 ⟨x,rfl,hx⟩; have Hx:=Lib.hid hx; clear hx)
   by_cases hx0:x = 0
   · subst hx0
     have hI:OI w W4 K w.heap.size bs wx.heap.size gS (wx.heap.size + 1) key A c C D cs e 4 w5:=by
      rcases Hx.out with h | h
      · exact h.2
      · exact absurd rfl h.1
     obtain ⟨hX0,J,G,T,hG,hT,hD,hch,hSg⟩:=sg_of Hst.out.1 hI
     have ho:=hI.2.2.2.choose_spec.choose_spec.choose_spec.choose_spec.choose_spec.2.1.ob
     have c0:=cell_row ho.s 0
     have cS:=(cell_row ho.r 0).trans (rowG_at Hk.out.1).1
     have fS:=free_row ho.r 0
     have hne:=ho.ne.2.2.2.1
     have c1:(w5.setCell ⟨gS,0,none⟩ (.pointer (some ⟨gS,0,none⟩))).cell? ⟨bs,0,none⟩ = some (.pointer (some ⟨gS,0,none⟩)):=by
      rw [World.cell?_setCell_other w5 ⟨gS,0,none⟩ ⟨bs,0,none⟩ _ (fun h0 => hne (by injection h0 with h0; exact h0.symm))]
      exact c0
     have HF:=Lib.hid (And.intro hX0 (And.intro hT (And.intro hD (And.intro hch hSg))))
     have HG:=Lib.hid hG
     clear hI hX0 hT hD hch hSg hG ho hne Hx Hst
     go_wp2
     go_ret2
     obtain ⟨hX0,hT,hD,hch,hSg⟩:=HF.out
     refine ⟨some ⟨gS,0,none⟩,by rw [hX0]; rfl,hD,hch,?_⟩
     unfold SgW
     rw [if_pos hX0]
     exact ⟨J,G,T,by rw [HG.out],hT,hSg⟩
   · have hq:OQ w K key C D cs e x w5:=by
      rcases Hx.out with h | h
      · exact absurd h.1 hx0
      · exact h.2
     have HQ:=Lib.hid hq
     have HX0:=Lib.hid hx0
     have hxb:(x == 0) = false:=by simpa using hx0
     clear hq hx0 Hx Hst
     go_wp2
     go_ret2
     obtain ⟨h1,h2,h3⟩:=HQ.out
     refine ⟨none,by rw [h1]; rfl,h2,h3,?_⟩
     unfold SgW
     rw [if_neg (by rw [← h1]; exact HX0.out)]
 · rintro ll aa wx i ⟨hI,z,ha,hz,hp4,hp5,hp6,hp7,hp8⟩ hcl hi hu hw
   obtain rfl:=ha.out
   have hsz:=Lib.hid hI.out.1
   have hx:=Lib.hid hI.out.2
   clear ha hI
   have hin:i < 9:=hi
   obtain rfl | rfl | rfl | rfl | rfl | rfl | rfl | rfl | rfl:i = 0 ∨ i = 1 ∨ i = 2 ∨ i = 3 ∨ i = 4 ∨ i = 5 ∨ i = 6 ∨ i = 7 ∨ i = 8:=by omega
   · have cl:wx.cell? ⟨w.heap.size,0,none⟩ = some (.pointer (some ⟨K.g,0,none⟩)):=(hx.out.cell (p:=⟨w.heap.size,0,none⟩) (World.block_lt_of_cell? _ _ HD4.out)).trans HD4.out
     refine wpOp_plain rfl rfl ?_
     go_simp
     exact ⟨⟨by simp [hsz.out],hx.out⟩,upd z 13 (.pointer (some ⟨K.g,0,none⟩)),(by unfold Hid; simp [upd]),hz.next apx hsz.out 0 (by decide) _ (fun _ h => Option.some.inj h),hp4.keep (by decide),hp5.keep (by decide),hp6.keep (by decide),hp7.keep (by decide),hp8.keep (by decide)⟩
   · have cl:=(hx.out.block _ (Array.getElem?_eq_some_iff.1 HK5.out).1).trans HK5.out
     refine wpOp_plain rfl rfl (wp_load_row 24 (.tmp 5) rfl (w.heap.size + 1) rfl 24 (u8s key) (0,0) _ cl Tryz.underlying24 rfl HsK.out ?_)
     go_simp
     exact ⟨⟨by simp [hsz.out],hx.out⟩,upd z 14 (.agg (u8s key)),(by unfold Hid; simp [upd]),hz.next apx hsz.out 1 (by decide) _ (fun _ h => Option.some.inj h),hp4.keep (by decide),hp5.keep (by decide),hp6.keep (by decide),hp7.keep (by decide),hp8.keep (by decide)⟩
   · refine wpOp_plain rfl rfl ?_
     go_simp
     exact ⟨⟨by simp [hsz.out],hx.out⟩,upd z 15 (.string s),(by unfold Hid; simp [upd]),hz.next apx hsz.out 2 (by decide) _ (fun _ h => Option.some.inj h),hp4.keep (by decide),hp5.keep (by decide),hp6.keep (by decide),hp7.keep (by decide),hp8.keep (by decide)⟩
   · have cl:=(hx.out.block _ (Array.getElem?_eq_some_iff.1 HL7.out).1).trans HL7.out
     refine wpOp_plain rfl rfl (wp_load_row 27 (.tmp 7) rfl (w.heap.size + 1 + 1) rfl 27 #[.int .i64 lv,.int .u64 (cp:Nat)] (0,0) _ cl Tryz.underlying27 rfl HsL.out ?_)
     go_simp
     exact ⟨⟨by simp [hsz.out],hx.out⟩,upd z 16 (.agg #[.int .i64 lv,.int .u64 (cp:Nat)]),(by unfold Hid; simp [upd]),hz.next apx hsz.out 3 (by decide) _ (fun _ h => Option.some.inj h),hp4.keep (by decide),hp5.keep (by decide),hp6.keep (by decide),hp7.keep (by decide),hp8.keep (by decide)⟩
   · have e2:z 15 = .string s:=hz 2 _ (hw 2 (by kernel_rfl)) rfl
     have e3:z 16 = .agg #[.int .i64 lv,.int .u64 (cp:Nat)]:=hz 3 _ (hw 3 (by kernel_rfl)) rfl
     refine wpOp_plain rfl rfl ?_
     go_simp
     go_at_call 37
     refine (Hctx.out wx).mono ?_
     rintro e w8 ⟨vr,rfl,ho,low⟩
     exact ⟨⟨by simp [hsz.out],hx.out.trans (low.mono hx.out.size)⟩,upd z 17 (vr),(by unfold Hid; simp [upd,e2,e3]),hz.next apx hsz.out 4 (by decide) _ (fun _ h => by cases h),Whu.done (NewB.base ho hx.out.size),(hp5.keep (by decide)).map (fun h => h.later low),(hp6.keep (by decide)).map (fun h => h.later low),(hp7.keep (by decide)).map (fun h => h.later low),(hp8.keep (by decide)).map (fun h => h.later low)⟩
   · have e0:z 13 = .pointer (some ⟨K.g,0,none⟩):=hz 0 _ (hw 0 (by kernel_rfl)) rfl
     have e1:z 14 = .agg (u8s key):=hz 1 _ (hw 1 (by kernel_rfl)) rfl
     have p4:=hp4 (hw 4 (by kernel_rfl)) (not_listed (fun hl => hcl 6 5 (hcl 8 6 hl (by kernel_rfl)) (by kernel_rfl)) hu)
     obtain ⟨A9,c9,e9⟩:=own_nilK p4
     rw [e9] at p4
     refine wpOp_plain rfl rfl (wp_buildV 88 #[(1,.tmp 13),(3,.tmp 14),(4,.tmp 17)] rfl _ (by simp only [List.map_toArray,List.map_cons,List.map_nil]; show Tryz.prog.built _ [(1,z 13),(3,z 14),(4,z 17)] = _; rw [e0,e1,e9]; exact Hbu.out A9 C.length c9) ?_)
     go_simp
     exact ⟨⟨by simp [hsz.out],hx.out⟩,upd z 18 (.agg (rowG none K none key (.slice A9 C.length c9) 0 (.slice none 0 0) false)),(by unfold Hid; simp [upd,e0,e1,e9]),hz.next apx hsz.out 5 (by decide) _ (fun _ h => by cases h),hp4.keep (by decide),Whu.done (⟨A9,c9,rfl,p4⟩),hp6.keep (by decide),hp7.keep (by decide),hp8.keep (by decide)⟩
   · obtain ⟨A9,c9,e9,p5⟩:=hp5 (hw 5 (by kernel_rfl)) (not_listed (fun hl => hcl 8 6 hl (by kernel_rfl)) hu)
     have lown:Below wx.heap.size wx (wx.alloc (.cells (rowG none K none key (.slice A9 C.length c9) 0 (.slice none 0 0) false) 88)):=(Below.refl _ _).alloc (Nat.le_refl _) _
     refine wpOp_plain rfl rfl ?_
     simp only [e9]
     go_simp
     exact ⟨⟨by simp [hsz.out],hx.out.trans (lown.mono hx.out.size)⟩,upd z 19 (.pointer (some ⟨wx.heap.size,0,none⟩)),(by unfold Hid; simp [upd,e9]),hz.next apx hsz.out 6 (by decide) _ (fun _ h => by cases h),(hp4.keep (by decide)).map (fun h => h.later lown),(hp5.keep (by decide)).map (fun h => h.later lown),Whu.done (⟨wx.heap.size,A9,c9,rfl,hx.out.size,Go.heap_alloc_new wx _,p5.later lown⟩),(hp7.keep (by decide)).map (fun h => h.later lown),(hp8.keep (by decide)).map (fun h => h.later lown)⟩
   · have lown:Below wx.heap.size wx (wx.alloc (.cells #[.pointer none] 42)):=(Below.refl _ _).alloc (Nat.le_refl _) _
     refine wpOp_plain rfl rfl ?_
     go_simp
     exact ⟨⟨by simp [hsz.out],hx.out.trans (lown.mono hx.out.size)⟩,upd z 10 (.pointer (some ⟨wx.heap.size,0,none⟩)),(by unfold Hid; simp [upd]),hz.next apx hsz.out 7 (by decide) _ (fun _ h => by cases h),(hp4.keep (by decide)).map (fun h => h.later lown),(hp5.keep (by decide)).map (fun h => h.later lown),(hp6.keep (by decide)).map (fun h => h.later lown),Whu.done (⟨wx.heap.size,rfl,hx.out.size,Go.heap_alloc_new wx _⟩),Whn.never (by decide) (fun hl => hcl 8 7 hl (by kernel_rfl)) hu⟩
   · obtain ⟨gS,A9,c9,e6,hg6,hr6,hN6⟩:=hp6 (hw 6 (by kernel_rfl)) hu
     obtain ⟨n7,e7,hn7,hr7⟩:=hp7 (hw 7 (by kernel_rfl)) hu
     have cz:wx.cell? ⟨n7,0,none⟩ = some (.pointer none):=cell_row hr7 0
     have fz:=free_row hr7 0
     refine wpOp_plain rfl rfl ?_
     simp only [e6,e7]
     go_simp
     exact ⟨⟨by simp [hsz.out],hx.out.setCell (p:=⟨n7,0,none⟩) hn7 _⟩,upd z 1008 (undef),(by unfold Hid; simp [upd,e6,e7]),hz.next apx hsz.out 8 (by decide) _ (fun _ h => by cases h),Whu.past (by rw [hsz.out]; decide),Whu.past (by rw [hsz.out]; decide),Whu.past (by rw [hsz.out]; decide),Whu.past (by rw [hsz.out]; decide),Whn.done ((show FnP K key C w1.heap.size (z 10) _ _ from by rw [e7]; exact fn_new hg6 hr6 hN6 hn7 hr7))⟩
 · exact ⟨⟨rfl,(Below.refl _ _).drew⟩,fun xx => (#[.pointer (some ⟨K.g,0,none⟩),.agg (u8s key),.string s,.agg #[.int .i64 lv,.int .u64 (cp:Nat)],.pointer (some ⟨w.heap.size,0,none⟩),.pointer (some ⟨w.heap.size + 1,0,none⟩),undef,.pointer (some ⟨w.heap.size + 1 + 1,0,none⟩),.pointer none,.int .i64 0,undef,undef,undef,undef,undef,undef,undef,undef,undef,undef,undef,undef,undef,undef,undef,undef,undef,undef,undef,undef,undef,undef,undef,undef]:Array Value).getD xx undef,rfl,Holding.start,Whu.none (by decide),Whu.none (by decide),Whu.none (by decide),Whu.none (by decide),Whn.none (by decide)⟩
end Go.Proofs.YteeghgjkjicjoaaGreatDoor.Sgm
