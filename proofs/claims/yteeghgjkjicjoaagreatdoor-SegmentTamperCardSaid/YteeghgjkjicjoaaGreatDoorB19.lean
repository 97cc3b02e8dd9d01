/- Texts of ours, merged. -/
import Derived.Test.YteeghgjkjicjoaaGreatDoorB17
import Derived.Test.YteeghgjkjicjoaaGreatDoorB18
namespace Go.Proofs.YteeghgjkjicjoaaGreatDoor.Sgm
open Go.RowKit Dsk Slt Epo
theorem infoP3:(Tryz.prog.info? 106).map (·.size) = some 3:=by kernel_rfl
theorem place_one (A:Option Addr) (n c i ep:Nat):(#[.slice A n c,.int .u64 (i:Nat),.int .u32 (ep:Nat)]:Array Value).all (·.oneCell') = true:=by
 rw [Array.all_eq_true_iff_forall_mem]
 intro v hv
 simp only [List.mem_toArray,List.mem_cons,List.mem_nil_iff,or_false] at hv
 rcases hv with rfl | rfl | rfl <;> rfl
set_option maxRecDepth 100000 in
set_option maxHeartbeats 1000000 in
theorem place_any {w:World} {g ep i n c:Nat} {A:Option Addr} (hc:w.cell? ⟨g,35,none⟩ = some (.slice A n c)) (he:w.cell? ⟨g,36,none⟩ = some (.int .u32 (ep:Nat))) (hi:i ≤ 100000) :
 Calls Tryz.prog 57 #[.pointer (some ⟨g,0,none⟩),.int .i64 (i:Nat)] w fun e w' => e = .returned (.agg #[.slice A n c,.int .u64 (i:Nat),.int .u32 (ep:Nat)]) ∧ Below w.heap.size w w':=by
 have hg:=World.block_lt_of_cell? _ _ hc
 have hiI:(i:Int) ≤ 100000:=by omega
 have hwi:IntKind.u64.wrap (i:Int) = i:=by simp [IntKind.wrap,IntKind.bits,IntKind.signed]; omega
 have HP:=Lib.hid (place_one A n c i ep)
 have Hi3:Hid ((Tryz.prog.info? 106).map (·.size) = some (#[.slice A n c,.int .u64 (i:Nat),.int .u32 (ep:Nat)]:Array Value).size):=infoP3
 obtain ⟨o,ho⟩:∃ o:Obj,o = .cells #[.slice none 0 0,.int .u64 0,.int .u32 0] 106 := ⟨_,rfl⟩
 have hb:Below w.heap.size w (w.alloc o):=(Below.refl _ _).alloc (Nat.le_refl _) _
 have c35:=(hb.cell (p:=⟨g,35,none⟩) hg).trans hc
 have c36:=(hb.cell (p:=⟨g,36,none⟩) hg).trans he
 have hr:=Go.heap_alloc_new w o
 have Hb:=Lib.hid hb
 have Hr:=Lib.hid hr
 clear hc he hi hb hr hg
 go_enter Tryz.func57,Tryz.ntmps57
 go_upto_region 1 with (fail)
 rw [← ho]
 generalize w.alloc o = w0 at c35 c36 Hb Hr ⊢
 subst ho
 go_still_tail 10,(by kernel_rfl)
 change wpList _ _ _ _ _ w0.drew
 have Hb2:Hid (Below w.heap.size w w0.drew):=Hb.out.drew
 have Hr2:Hid (w0.drew.heap[w.heap.size]? = some (.cells #[.slice none 0 0,.int .u64 0,.int .u32 0] 106 (0,0))):=Hr.out
 clear c35 c36 Hb Hr
 generalize w0.drew = w1 at Hb2 Hr2 ⊢
 go_wp2_with (refine wpList_store_row rfl 106 (.tmp 4) (.tmp 15) rfl w.heap.size #[.slice A n c,.int .u64 (i:Nat),.int .u32 (ep:Nat)] (by rfl) (by rfl) 106 _ Hr2.out Hi3.out (by rfl) HP.out ?_)
 exact bodyPost_ret (v:=.agg #[.slice A n c,.int .u64 (i:Nat),.int .u32 (ep:Nat)]) (results_cell_row rfl _ _ w.heap.size 106 _ (0,0) _ rfl (setRow_heap _ _ _ _ _ _ Hr2.out) Tryz.underlying106 rfl infoP3) rfl ⟨rfl,below_setRow Hb2.out (Nat.le_refl _) _⟩
theorem openL_some {k C s:List Int} {i:Nat} {x:List Int × Nat} (h:Seal.openL k C i s = some x) (hs:InB s):InB x.1 ∧ x.1.length ≤ 131068 ∧ x.2 < 4294967296:=by
 have hb4:=Seal.be4_in hs
 unfold Seal.openL at h
 split at h
 · split at h
   · obtain ⟨P,hP⟩:∃ P,P = Seal.bodyL k C i (Seal.be4 s).toNat ((s.drop 4).take (s.length - 36)):=⟨_,rfl⟩
     rw [← hP] at h
     have hPi:InB P:=by rw [hP]; exact Seal.bodyL_in ((hs.drop 4).take _)
     cases hu:Seal.unpad P with
     | none => rw [hu] at h; cases h
     | some L =>
       rw [hu] at h
       cases h
       obtain ⟨h1,h2,_⟩:=Seal.pad_unpad hPi hu
       refine ⟨?_,h2,by show (Seal.be4 s).toNat < _; omega⟩
       have h3:L = (P.drop 4).take L.length:=by rw [h1,Seal.pad_drop4,List.take_append_of_le_length (Nat.le_refl _),List.take_length]
       show InB L
       rw [h3]
       exact (hPi.drop 4).take _
   · cases h
 · cases h
structure NewT (B:Nat) (v:Value) (ts:List Value) (T:List (List Int)) (w:World):Prop where
 own:w.ownsRow B 38 1 v T.length ts
 txt:∀ i,i < T.length → SlB (T.getD i []) (ts.getD i undef) w
 new:∀ q ∈ ts.flatMap (fun v => v.ownBlock.toList),B ≤ q ∧ q < w.heap.size ∧ v.ownBlock ≠ some q
 inb:∀ t ∈ T,InB t ∧ t.length ≤ 131068
def OpndQ (B:Nat) (r:Option (List (List Int))) (e:Ending) (w':World):Prop:=match r with
 | none => e = .returned (.tuple #[.slice none 0 0,.int .i64 9])
 | some T => ∃ v ts,e = .returned (.tuple #[v,.int .i64 0]) ∧ NewT B v ts T w'
theorem NewT.len {B:Nat} {v:Value} {ts:List Value} {T:List (List Int)} {w:World} (h:NewT B v ts T w):ts.length = T.length:=by have:=h.own.1; omega
theorem NewT.later {B:Nat} {v:Value} {ts:List Value} {T:List (List Int)} {w w':World} (h:NewT B v ts T w) (hb:Below w.heap.size w w'):NewT B v ts T w' :=
 ⟨own_stays h.own hb,fun i hi => (h.txt i hi).later hb,fun q hq => ⟨(h.new q hq).1,Nat.lt_of_lt_of_le (h.new q hq).2.1 hb.size,(h.new q hq).2.2⟩,h.inb⟩
theorem NewT.base {B B':Nat} {v:Value} {ts:List Value} {T:List (List Int)} {w:World} (h:NewT B v ts T w) (hB:B' ≤ B):NewT B' v ts T w :=
 ⟨own_lower h.own hB,h.txt,fun q hq => ⟨Nat.le_trans hB (h.new q hq).1,(h.new q hq).2⟩,h.inb⟩
theorem NewT.more {B:Nat} {v z y:Value} {ts:List Value} {T:List (List Int)} {t:List Int} {w w':World} (h:NewT B v ts T w) (hg:w.grownBy w' v.ownBlock) (ho:w'.ownsRow B 38 1 z (T.length + 1) (ts ++ [y])) (hz:z.ownBlock = v.ownBlock ∨ z.ownBlock = some w.heap.size)
 (hy:Seal.SlN B t y w) (hyv:∀ q,y.ownBlock = some q → v.ownBlock ≠ some q) (_hB:B ≤ w.heap.size) (ht:InB t ∧ t.length ≤ 131068):NewT B z (ts ++ [y]) (T ++ [t]) w':=by
 have hc:=chg_grown hg
 have hne:∀ q ∈ (ts ++ [y]).flatMap (fun v => v.ownBlock.toList),B ≤ q ∧ q < w.heap.size ∧ v.ownBlock ≠ some q:=by
  intro q hq
  rw [List.flatMap_append,List.mem_append] at hq
  rcases hq with hq | hq
  · exact h.new q hq
  · simp at hq
    exact ⟨(hy.2 q hq).1,(hy.2 q hq).2,hyv q hq⟩
 have hkeep:∀ (L:List Int) (u:Value),SlB L u w → (∀ q,u.ownBlock = some q → v.ownBlock ≠ some q) → SlB L u w':=fun L u hs hq => hs.chg hc (fun q hu => by simp; intro e; exact hq q hu e)
 refine ⟨by rw [List.length_append]; exact ho,?_,?_,?_⟩
 · intro i hi
   simp only [List.length_append,List.length_cons,List.length_nil] at hi
   by_cases e:i < T.length
   · have h1:(T ++ [t]).getD i [] = T.getD i []:=by simp [List.getD_eq_getElem?_getD,List.getElem?_append_left e]
     have h2:(ts ++ [y]).getD i undef = ts.getD i undef:=by simp [List.getD_eq_getElem?_getD,List.getElem?_append_left (show i < ts.length by rw [h.len]; exact e)]
     rw [h1,h2]
     refine hkeep _ _ (h.txt i e) (fun q hq => ?_)
     obtain ⟨A,c,e2,_⟩:=h.txt i e
     rw [e2] at hq
     cases A with
     | none => cases hq
     | some a =>
       have:a.block = q:=by simpa [Value.ownBlock] using hq
       subst this
       exact (h.new _ (ts_mem e2 (by rw [h.len]; exact e))).2.2
   · obtain rfl:i = T.length:=by omega
     have h1:(T ++ [t]).getD T.length [] = t:=by simp [List.getD_eq_getElem?_getD]
     have h2:(ts ++ [y]).getD T.length undef = y:=by rw [← h.len]; simp [List.getD_eq_getElem?_getD]
     rw [h1,h2]
     exact hkeep _ _ hy.1 hyv
 · intro q hq
   obtain ⟨a,b,c⟩:=hne q hq
   refine ⟨a,Nat.lt_of_lt_of_le b hc.size,?_⟩
   rcases hz with e | e
   · rw [e]; exact c
   · rw [e]; intro e2; cases e2; omega
 · intro x hx
   rcases List.mem_append.1 hx with hx | hx
   · exact h.inb x hx
   · simp at hx; subst hx; exact ht
theorem wpList_app_sl {w:World} {ops:Array Oper} {rest:List Oper} {o:Oper} {a:Act} {Q:Exit → Act → World → Prop} (hgd:o.guard = none) (s y:Operand)
 (ho:o.op = .call { callee:=.builtin .append,args:=#[s,y],argTypes:=#[51, 51] }) (base:Nat) (v:Value) (n:Nat) (xs:List Value) (x:Value) (hx1:x.oneCell' = true) (hs:a.eval s = v) (hown:w.ownsRow base 38 1 v n xs)
 (g:Nat) (hy:a.eval y = .slice (some ⟨g,0,none⟩) 1 1) (hg:w.heap[g]? = some (.cells #[x] 38 (0,0))) (h63:n ≤ 100000) (hbase:base ≤ w.heap.size)
 (h:∀ v' w',w'.ownsRow base 38 1 v' (n + 1) (xs ++ [x]) → w.grownBy w' v.ownBlock → (v'.ownBlock = v.ownBlock ∨ v'.ownBlock = some w.heap.size) → wpList Tryz.prog ops Q rest (a.put o.dst v') w'):wpList Tryz.prog ops Q (o :: rest) a w :=
 wpList_plain hgd fun _ hK => wp_app_sl s y ho base v n xs x hx1 hs hown g hy hg h63 hbase (fun v' w' h1 h2 h3 => hK _ _ (h v' w' h1 h2 h3))
def toldX (r:Option (List Int × Nat)):Nat:=match r with | none => 0 | some x => x.2
def toldE (r:Option (List Int × Nat)):Int:=match r with | none => 9 | some _ => 0
def OpV (B:Nat) (r:Option (List Int × Nat)) (v:Value) (w:World):Prop:=match r with | none => v = .slice none 0 0 | some x => Seal.SlN B x.1 v w
theorem OpV.later {B:Nat} {r:Option (List Int × Nat)} {v:Value} {w w':World} (h:OpV B r v w) (hb:Below w.heap.size w w'):OpV B r v w':=by
 cases r with
 | none => exact h
 | some x => exact Seal.SlN.later h hb
def OpT (B:Nat) (r:Option (List Int × Nat)) (u:Value) (w:World):Prop:=∃ v,u = .tuple #[v,.int .u32 (toldX r:Nat),.int .i64 (toldE r)] ∧ OpV B r v w
theorem OpT.later {B:Nat} {r:Option (List Int × Nat)} {v:Value} {w w':World} (h:OpT B r v w) (hb:Below w.heap.size w w'):OpT B r v w':=by
 obtain ⟨u,e,h⟩:=h
 exact ⟨u,e,h.later hb⟩
theorem opt_of {B B':Nat} {r:Option (List Int × Nat)} {e:Ending} {w:World} (h:Seal.OpenN B r e w) (hB:B' ≤ B):∃ u,e = .returned u ∧ OpT B' r u w:=by
 cases r with
 | none => exact ⟨_,h,_,rfl,rfl⟩
 | some x =>
   obtain ⟨v,rfl,hv⟩:=h
   exact ⟨_,rfl,_,rfl,hv.base hB⟩
theorem opens_none {k C:List Int} {most i least:Nat} {s:List Int} {r:List (List Int)} (h:Seal.openL k C i s = none):opensL k C most i least (s :: r) = none:=by
 unfold opensL; rw [h]
theorem opens_bad {k C:List Int} {most i least:Nat} {s:List Int} {r:List (List Int)} {x:List Int × Nat} (h:Seal.openL k C i s = some x) (hb:x.2 < least ∨ most < x.2):opensL k C most i least (s :: r) = none:=by
 unfold opensL; rw [h]; simp only [if_pos hb]
theorem opens_next {k C:List Int} {most i least:Nat} {s:List Int} {r:List (List Int)} {x:List Int × Nat} (h:Seal.openL k C i s = some x) (hb:¬ (x.2 < least ∨ most < x.2)) (T:List (List Int)):(opensL k C most i least (s :: r)).map (T ++ ·) = (opensL k C most (i + 1) x.2 r).map ((T ++ [x.1]) ++ ·):=by
 have e:opensL k C most i least (s :: r) = (opensL k C most (i + 1) x.2 r).map (x.1 :: ·):=by
  conv => lhs; unfold opensL
  rw [h]; simp only [if_neg hb]
 rw [e]
 cases opensL k C most (i + 1) x.2 r with
 | none => rfl
 | some T' => simp
theorem drop_at {α:Type} {L:List (List α)} {i:Nat} (h:i < L.length):L.drop i = L.getD i [] :: L.drop (i + 1):=by
 rw [List.drop_eq_getElem_cons h]
 simp [List.getD_eq_getElem?_getD,h]
set_option maxRecDepth 100000 in
set_option maxHeartbeats 4000000 in
theorem opened_any {w:World} {K:DK} {J:LK} {S:LS} (hl:Lg w K J S) {g ep n c most:Nat} {self:Option Addr} {key C:List Int} {A:Option Addr} {tv:Value} {lost:Bool} {T0:TypeId}
 (hrow:w.heap[g]? = some (.cells (rowG self K (some ⟨J.g,0,none⟩) key (.slice A n c) ep tv lost) T0 (0,0))) (hk:key.length = 32) (hkb:InB key) (hC:C.length = n) (hCb:InB C) (hn:n ≤ 1000) (hB:Byt w A c C)
 (hmost:most < 4294967296) (hS:∀ t ∈ S.texts,t.length ≤ 200000) (hLd:Seal.SLaid w) :
 Calls Tryz.prog 44 #[.pointer (some ⟨g,0,none⟩),.int .u32 (most:Nat)] w fun e w' => OpndQ w.heap.size (opensL key C most 0 1 S.texts) e w' ∧ Below w.heap.size w w':=by
 have hgl:g < w.heap.size:=(Array.getElem?_eq_some_iff.1 hrow).1
 obtain ⟨_,_,r2,r35,r36,_,_⟩:=rowG_at (self:=self) (K:=K) (lg:=some ⟨J.g,0,none⟩) (cx:=.slice A n c) (ep:=ep) (tv:=tv) (lost:=lost) hk
 have c2:=(cell_row hrow 2).trans r2
 have c35:=(cell_row hrow 35).trans r35
 have c36:=(cell_row hrow 36).trans r36
 have ckey:=rowG_key hrow
 obtain ⟨R,hR⟩:∃ R,R = opensL key C most 0 1 S.texts:=⟨_,rfl⟩
 rw [← hR]
 have hN:S.texts.length ≤ 16384:=by have:=hl.cnt; have:=hl.fit; have:=hl.end_; omega
 have hin:=hl.inb
 have Hall:=Lib.hid (all_any hl)
 obtain ⟨L,hL⟩:∃ L,L = S.texts:=⟨_,rfl⟩
 rw [← hL] at Hall hR hN hin hS
 obtain ⟨N,hNe⟩:∃ N,L.length = N:=⟨_,rfl⟩
 rw [hNe] at Hall hN
 have HNe:=Lib.hid hNe
 have HRe:Hid (R = (opensL key C most 0 1 (L.drop 0)).map ([] ++ ·)):=by
  show _ = _
  rw [hR,List.drop_zero]
  cases opensL key C most 0 1 L with
  | none => rfl
  | some T => rfl
 have Hin:=Lib.hid hin
 have HS:=Lib.hid hS
 have HK:Hid (key.length = 32 ∧ InB key):=⟨hk,hkb⟩
 have HC:Hid (C.length = n ∧ InB C ∧ n ≤ 1000):=⟨hC,hCb,hn⟩
 have HB:=Lib.hid hB
 have HLd:=Lib.hid hLd
 have Hc35:=Lib.hid c35
 have Hc36:=Lib.hid c36
 have Hckey:=Lib.hid ckey
 have Hgl:=Lib.hid hgl
 have Hi32:Hid ((Tryz.prog.info? 24).map (·.size) = some (vals key).length):=by show _ = _; rw [vals_length,hk]; exact Seal.infoH
 have hNI:(N:Int) ≤ 16384:=by omega
 have HMo:=Lib.hid hmost
 clear hl hrow hk hkb hC hCb hn hB hmost hS hLd hR hL hNe hin hN c35 c36 ckey r2 r35 r36 hgl
 go_enter Tryz.func44,Tryz.ntmps44
 go_upto_region 4 with (go_at_call 78; refine Hall.out.mono ?_; rintro e w1 ⟨gr,rfl,hr1,hb1⟩; have Hr1:=Lib.hid hr1; have Hb1:=Lib.hid hb1; clear hr1 hb1)
 clear Hall c2
 have hnew0:NewT w1.heap.size (.slice none 0 0) [] [] w1:=⟨World.ownsRow_nil w1 w1.heap.size 38 1,fun i hi => absurd hi (Nat.not_lt_zero _),fun q hq => by simp at hq,fun t ht => by simp at ht⟩
 have Hnew0:=Lib.hid hnew0
 clear hnew0
 go_loopw [6,7,19] (fun tv lv xv wr => ∃ (i least:Nat) (ts:List Value) (T:List (List Int)),i ≤ N ∧ xv = .int .i64 (i:Nat) ∧ lv = .int .u32 (least:Nat) ∧ Hid (NewT w1.heap.size tv ts T wr ∧ T.length = i ∧ least < 4294967296) ∧ Hid (R = (opensL key C most i least (L.drop i)).map (T ++ ·)) ∧ Hid (Below w1.heap.size w1 wr)) (fun _ _ xv _ => N - (intOf xv).toNat)
 case atStart => exact ⟨0,1,[],[],Nat.zero_le _,rfl,rfl,⟨Hnew0.out,rfl,by decide⟩,HRe.out,Below.refl _ _⟩
 case round =>
  clear Hnew0 HRe
  obtain ⟨i,least,ts,T,hi,rfl,rfl,hT,hRi,low⟩:=hrel
  by_cases hlt:i < N
  · have hltI:(i:Int) < (N:Int):=by omega
    obtain ⟨⟨CR,hCR,hCs,hCi⟩,hge⟩:=Hr1.out
    obtain ⟨y,hy,hsl,_⟩:=hCi i hlt
    obtain ⟨A2,q2,rfl,hb2⟩:=hsl
    obtain ⟨s,hs⟩:∃ s,s = L.getD i []:=⟨_,rfl⟩
    rw [← hs] at hb2 hy
    have hsm:s ∈ L:=by rw [hs,List.getD_eq_getElem?_getD,List.getElem?_eq_getElem (by rw [HNe.out]; exact hlt),Option.getD_some]; exact List.getElem_mem _
    have hgr:gr < w1.heap.size:=(Array.getElem?_eq_some_iff.1 hCR).1
    have hce:=(low.out.cell (p:=⟨gr,i,none⟩) hgr).trans ((cell_row hCR i).trans hy)
    obtain ⟨m,hm⟩:∃ m,s.length = m:=⟨_,rfl⟩
    rw [hm] at hce
    have Hs:Hid (s.length = m ∧ InB s ∧ m ≤ 200000):=⟨hm,(Hin.out s hsm).1,by rw [← hm]; exact HS.out s hsm⟩
    have Hb2:=Lib.hid (hb2.below low.out (Nat.le_refl _))
    have hlw:Below w.heap.size w wr:=Hb1.out.trans (low.out.mono Hb1.out.size)
    have Hlw:=Lib.hid hlw
    have Hd35:=Lib.hid ((hlw.cell (p:=⟨g,35,none⟩) Hgl.out).trans Hc35.out)
    have Hd36:=Lib.hid ((hlw.cell (p:=⟨g,36,none⟩) Hgl.out).trans Hc36.out)
    have Hdkey:Hid (wr.rangeAt g 3 (vals key)):=fun j u hu => (hlw.cell (p:=⟨g,3 + j,none⟩) Hgl.out).trans (Hckey.out j u hu)
    have HBr:=Lib.hid (HB.out.below hlw (Nat.le_refl _))
    have HLr:=Lib.hid (HLd.out.later hlw)
    obtain ⟨r,hr⟩:∃ r,Seal.openL key C i s = r:=⟨_,rfl⟩
    have Hr:=Lib.hid hr
    have Hse:Hid (L.drop i = s :: L.drop (i + 1)):=by show _ = _; rw [drop_at (by rw [HNe.out]; exact hlt),← hs]
    have hi16:i ≤ 16384:=by omega
    have Hi16:=Lib.hid hi16
    have Hsm:=Lib.hid ((Hin.out s hsm).1)
    clear hCR hCs hCi hge hy hb2 hs hsm hgr hm hlw hr hi16 hlt
    go_upto_region 6 with (fail)
    have apx:apartB [25,26,27,28,29,30,31,32,33,24,34,35,36,10,11,12] = true:=by decide
    refine wp_region_any (by kernel_rfl) ?_
    change wpAny _ _ _ _ _ _ _ (World.drew _)
    refine wpAny_inv (fun ll aa wx => Hid (ll.size = 16 ∧ Below wr.heap.size wr wx) ∧ ∃ (z:Nat → Value),Hid (aa = ⟨#[.pointer (some ⟨g,0,none⟩),.int .u32 (most:Nat),undef,undef,u4,u5,u6,.int .u32 (least:Nat),.int .i64 (i:Nat),.slice A2 m q2,z 10,z 11,z 12,.pointer (some ⟨g,0,none⟩),.pointer (some ⟨g,0,none⟩),.pointer (some ⟨g,2,none⟩),.pointer (some ⟨J.g,0,none⟩),.slice (some ⟨gr,0,none⟩) N N,.int .i64 (N:Nat),.int .i64 (i:Nat),.bool true,.int .i64 (i:Nat),.pointer (some ⟨gr,i,none⟩),.slice A2 m q2,z 24,z 25,z 26,z 27,z 28,z 29,z 30,z 31,z 32,z 33,z 34,z 35,z 36,u37,u38,u39,u40,u41,u42,u43,u44,u45,u46,u47,u48,u49,u50,u51,u52,u53,u54,undef],[]⟩) ∧ Holding [25,26,27,28,29,30,31,32,33,24,34,35,36,10,11,12] [some (.pointer (some ⟨g,0,none⟩)),some (.pointer (some ⟨g,0,none⟩)),some (.pointer (some ⟨g,3,none⟩)),some (.agg (vals key).toArray),some (.pointer (some ⟨g,0,none⟩)),some (.int .i64 (i:Nat)),some (.agg #[.slice A n c,.int .u64 (i:Nat),.int .u32 (ep:Nat)]),some (.slice A2 m q2),none,none,none,some (.int .u32 (toldX r:Nat)),some (.int .i64 (toldE r)),none,some (.int .u32 (toldX r:Nat)),some (.int .i64 (toldE r))] ll z ∧ Whn ll 8 (OpT wr.heap.size r) (z 33) wx ∧ Whn ll 9 (OpT wr.heap.size r) (z 24) wx ∧ Whn ll 10 (OpV wr.heap.size r) (z 34) wx ∧ Whn ll 13 (OpV wr.heap.size r) (z 10) wx) ?_ (by kernel_rfl) ?_ ?_ _ _ _ _ (unlisted_none _) ?_
    · rintro ll aa wx ⟨hI,_⟩
      exact hI.out.1
    · rintro ll aa wx ⟨hI,z,ha,hz,hp8,hp9,hp10,hp13⟩ hall
      have hx:=Lib.hid hI.out.2
      have e0:z 25 = .pointer (some ⟨g,0,none⟩):=hz 0 _ (hall 0 (by decide)) rfl
      have e1:z 26 = .pointer (some ⟨g,0,none⟩):=hz 1 _ (hall 1 (by decide)) rfl
      have e2:z 27 = .pointer (some ⟨g,3,none⟩):=hz 2 _ (hall 2 (by decide)) rfl
      have e3:z 28 = .agg (vals key).toArray:=hz 3 _ (hall 3 (by decide)) rfl
      have e4:z 29 = .pointer (some ⟨g,0,none⟩):=hz 4 _ (hall 4 (by decide)) rfl
      have e5:z 30 = .int .i64 (i:Nat):=hz 5 _ (hall 5 (by decide)) rfl
      have e6:z 31 = .agg #[.slice A n c,.int .u64 (i:Nat),.int .u32 (ep:Nat)]:=hz 6 _ (hall 6 (by decide)) rfl
      have e7:z 32 = .slice A2 m q2:=hz 7 _ (hall 7 (by decide)) rfl
      have e11:z 35 = .int .u32 (toldX r:Nat):=hz 11 _ (hall 11 (by decide)) rfl
      have e12:z 36 = .int .i64 (toldE r):=hz 12 _ (hall 12 (by decide)) rfl
      have e14:z 11 = .int .u32 (toldX r:Nat):=hz 14 _ (hall 14 (by decide)) rfl
      have e15:z 12 = .int .i64 (toldE r):=hz 15 _ (hall 15 (by decide)) rfl
      have p8:=hp8.get (hall 8 (by decide))
      have p9:=hp9.get (hall 9 (by decide))
      have p10:=hp10.get (hall 10 (by decide))
      have p13:=hp13.get (hall 13 (by decide))
      clear hall hz hI hp8 hp9 hp10 hp13
      obtain rfl:=ha.out
      clear ha
      clear apx
      have HX:=Lib.hid hx.out
      have HV:=Lib.hid p13
      simp only [e14,e15]
      clear e0 e1 e2 e3 e4 e5 e6 e7 e11 e12 e14 e15 hx p8 p9 p10 p13
      have hlx:Below w.heap.size w wx:=Hlw.out.trans (HX.out.mono Hlw.out.size)
      have Hlx:=Lib.hid hlx
      clear hlx
      rcases r with _ | x
      · have hn:R = none:=by rw [hRi.out,Hse.out,opens_none Hr.out]; rfl
        have Hn:=Lib.hid hn
        clear hn
        simp only [toldX,toldE]
        go_wp2
        go_ret2
        exact ⟨by rw [Hn.out]; rfl,Hlx.out⟩
      · obtain ⟨hx1,hx2,hx3⟩:=openL_some Hr.out Hsm.out
        obtain ⟨X,e⟩:=x
        have HXin:Hid (InB X ∧ X.length ≤ 131068):=⟨hx1,hx2⟩
        have HeE:Hid (e < 4294967296):=hx3
        simp only [toldX,toldE]
        clear hx1 hx2 hx3
        by_cases hbad:e < least ∨ most < e
        · have hn:R = none:=by rw [hRi.out,Hse.out,opens_bad Hr.out hbad]; rfl
          have Hn:=Lib.hid hn
          clear hn
          by_cases hlo:e < least
          · have hloI:(e:Int) < (least:Int):=by omega
            clear hbad hlo
            go_wp2
            go_ret2
            exact ⟨by rw [Hn.out]; rfl,Hlx.out⟩
          · have hloI:¬ (e:Int) < (least:Int):=by omega
            have hhiI:(most:Int) < (e:Int):=by omega
            clear hbad hlo
            go_wp2
            go_ret2
            exact ⟨by rw [Hn.out]; rfl,Hlx.out⟩
        · have hloI:¬ (e:Int) < (least:Int):=by omega
          have hhiI:¬ (most:Int) < (e:Int):=by omega
          have Hnx:Hid (R = (opensL key C most (i + 1) e (L.drop (i + 1))).map ((T ++ [X]) ++ ·)):=by
           show _ = _
           rw [hRi.out,Hse.out]
           exact opens_next Hr.out hbad T
          have hV:Seal.SlN wr.heap.size X (z 10) wx:=HV.out
          obtain ⟨⟨A7,c7,e7,b7⟩,hq7⟩:=id hV
          have HVn:=Lib.hid hV
          have HqV:Hid (∀ q,(z 10).ownBlock = some q → u6.ownBlock ≠ some q):=fun q hq hu => by
           have h1:=(hq7 q hq).1
           have h2:=(hT.out.1.own.lt q hu).2
           omega
          have HT:=Lib.hid (hT.out.1.later HX.out)
          have HTl:=Lib.hid hT.out.2.1
          obtain ⟨lX,hlX⟩:∃ lX,lX = X.length:=⟨_,rfl⟩
          rw [← hlX] at e7
          rw [e7] at HVn HqV
          simp only [e7]
          obtain ⟨y,hy⟩:∃ y:Value,y = .slice A7 lX c7:=⟨_,rfl⟩
          rw [← hy] at HVn HqV
          have hy1:y.oneCell' = true:=by rw [hy]; rfl
          have Hy1:=Lib.hid hy1
          have Hye:=Lib.hid hy
          clear hy hlX
          clear hbad hV b7 hq7 e7 hy1 HV hT hRi
          go_wp2_with (at_builtin; refine wpList_app_sl rfl (.tmp 49) (.tmp 51) rfl w1.heap.size _ T.length ts y Hy1.out rfl (own_stays HT.out.own ((Below.refl _ _).alloc (Nat.le_refl _) _)) wx.heap.size rfl (by rw [Hye.out]; exact Go.heap_alloc_new wx _) (by rw [HTl.out]; have:=Hi16.out; omega) (by rw [World.size_alloc]; have:=low.out.size; have:=HX.out.size; omega) ?_; intro v9 w9 own9 grow9 blk9; have Hnew9:=Lib.hid ((HT.out.later ((Below.refl _ _).alloc (Nat.le_refl _) _)).more grow9 own9 blk9 ((HVn.out.base low.out.size).later ((Below.refl _ _).alloc (Nat.le_refl _) _)) HqV.out (by rw [World.size_alloc]; have:=low.out.size; have:=HX.out.size; omega) HXin.out); have Hlow9:=Lib.hid ((((low.out.trans (HX.out.mono low.out.size)).alloc (by have:=low.out.size; have:=HX.out.size; omega) _)).grown grow9 (by rw [World.size_alloc]; have:=low.out.size; have:=HX.out.size; omega) (fun k hk => (HT.out.own.lt k hk).1)); clear own9 grow9 blk9)
          exact ⟨⟨i + 1,e,ts ++ [y],T ++ [X],by omega,by go_num,rfl,⟨Hnew9.out,by rw [List.length_append,HTl.out]; rfl,HeE.out⟩,Hnx.out,Hlow9.out⟩,by simp [intOf]; omega⟩
    · rintro ll aa wx i ⟨hI,z,ha,hz,hp8,hp9,hp10,hp13⟩ hi hu hw
      obtain rfl:=ha.out
      have hsz:=Lib.hid hI.out.1
      have hx:=Lib.hid hI.out.2
      clear ha hI
      have hin:i < 16:=hi
      obtain rfl | rfl | rfl | rfl | rfl | rfl | rfl | rfl | rfl | rfl | rfl | rfl | rfl | rfl | rfl | rfl:i = 0 ∨ i = 1 ∨ i = 2 ∨ i = 3 ∨ i = 4 ∨ i = 5 ∨ i = 6 ∨ i = 7 ∨ i = 8 ∨ i = 9 ∨ i = 10 ∨ i = 11 ∨ i = 12 ∨ i = 13 ∨ i = 14 ∨ i = 15:=by omega
      · refine wpOp_plain rfl rfl ?_
        go_simp
        exact ⟨⟨by simp [hsz.out],hx.out⟩,upd z 25 (.pointer (some ⟨g,0,none⟩)),(by unfold Hid; simp [upd]),hz.next apx hsz.out 0 (by decide) _ (fun _ h => Option.some.inj h),hp8.keep (by decide),hp9.keep (by decide),hp10.keep (by decide),hp13.keep (by decide)⟩
      · have e0:z 25 = .pointer (some ⟨g,0,none⟩):=hz 0 _ (hw 0 (by kernel_rfl)) rfl
        refine wpOp_plain rfl rfl ?_
        go_simp
        exact ⟨⟨by simp [hsz.out],hx.out⟩,upd z 26 (.pointer (some ⟨g,0,none⟩)),(by unfold Hid; simp [upd,e0]),hz.next apx hsz.out 1 (by decide) _ (fun _ h => Option.some.inj h),hp8.keep (by decide),hp9.keep (by decide),hp10.keep (by decide),hp13.keep (by decide)⟩
      · have e1:z 26 = .pointer (some ⟨g,0,none⟩):=hz 1 _ (hw 1 (by kernel_rfl)) rfl
        refine wpOp_plain rfl rfl ?_
        go_simp
        exact ⟨⟨by simp [hsz.out],hx.out⟩,upd z 27 (.pointer (some ⟨g,3,none⟩)),(by unfold Hid; simp [upd,e1]),hz.next apx hsz.out 2 (by decide) _ (fun _ h => Option.some.inj h),hp8.keep (by decide),hp9.keep (by decide),hp10.keep (by decide),hp13.keep (by decide)⟩
      · have e2:z 27 = .pointer (some ⟨g,3,none⟩):=hz 2 _ (hw 2 (by kernel_rfl)) rfl
        have hrg:wx.rangeAt g 3 (vals key):=fun j u hu => (hx.out.cell (p:=⟨g,3 + j,none⟩) (World.block_lt_of_cell? _ _ (Hdkey.out j u hu))).trans (Hdkey.out j u hu)
        refine wpOp_plain rfl rfl (wp_load_mid 24 (.tmp 27) rfl g 3 e2 (vals key) _ hrg Tryz.underlying24 rfl Hi32.out ?_)
        go_simp
        exact ⟨⟨by simp [hsz.out],hx.out⟩,upd z 28 (.agg (vals key).toArray),(by unfold Hid; simp [upd,e2]),hz.next apx hsz.out 3 (by decide) _ (fun _ h => Option.some.inj h),hp8.keep (by decide),hp9.keep (by decide),hp10.keep (by decide),hp13.keep (by decide)⟩
      · refine wpOp_plain rfl rfl ?_
        go_simp
        exact ⟨⟨by simp [hsz.out],hx.out⟩,upd z 29 (.pointer (some ⟨g,0,none⟩)),(by unfold Hid; simp [upd]),hz.next apx hsz.out 4 (by decide) _ (fun _ h => Option.some.inj h),hp8.keep (by decide),hp9.keep (by decide),hp10.keep (by decide),hp13.keep (by decide)⟩
      · refine wpOp_plain rfl rfl ?_
        go_simp
        exact ⟨⟨by simp [hsz.out],hx.out⟩,upd z 30 (.int .i64 (i:Nat)),(by unfold Hid; simp [upd]),hz.next apx hsz.out 5 (by decide) _ (fun _ h => Option.some.inj h),hp8.keep (by decide),hp9.keep (by decide),hp10.keep (by decide),hp13.keep (by decide)⟩
      · have e4:z 29 = .pointer (some ⟨g,0,none⟩):=hz 4 _ (hw 4 (by kernel_rfl)) rfl
        have e5:z 30 = .int .i64 (i:Nat):=hz 5 _ (hw 5 (by kernel_rfl)) rfl
        refine wpOp_plain rfl rfl ?_
        go_simp
        go_at_call 57
        refine (place_any (w:=wx) ((hx.out.cell (p:=⟨g,35,none⟩) (World.block_lt_of_cell? _ _ Hd35.out)).trans Hd35.out) ((hx.out.cell (p:=⟨g,36,none⟩) (World.block_lt_of_cell? _ _ Hd36.out)).trans Hd36.out) (Nat.le_trans Hi16.out (by decide))).mono ?_
        rintro e w8 ⟨rfl,low⟩
        exact ⟨⟨by simp [hsz.out],hx.out.trans (low.mono hx.out.size)⟩,upd z 31 (.agg #[.slice A n c,.int .u64 (i:Nat),.int .u32 (ep:Nat)]),(by unfold Hid; simp [upd,e4,e5]),hz.next apx hsz.out 6 (by decide) _ (fun _ h => Option.some.inj h),(hp8.keep (by decide)).map (fun h => h.later low),(hp9.keep (by decide)).map (fun h => h.later low),(hp10.keep (by decide)).map (fun h => h.later low),(hp13.keep (by decide)).map (fun h => h.later low)⟩
      · refine wpOp_plain rfl rfl ?_
        go_simp
        exact ⟨⟨by simp [hsz.out],hx.out⟩,upd z 32 (.slice A2 m q2),(by unfold Hid; simp [upd]),hz.next apx hsz.out 7 (by decide) _ (fun _ h => Option.some.inj h),hp8.keep (by decide),hp9.keep (by decide),hp10.keep (by decide),hp13.keep (by decide)⟩
      · have e3:z 28 = .agg (vals key).toArray:=hz 3 _ (hw 3 (by kernel_rfl)) rfl
        have e6:z 31 = .agg #[.slice A n c,.int .u64 (i:Nat),.int .u32 (ep:Nat)]:=hz 6 _ (hw 6 (by kernel_rfl)) rfl
        have e7:z 32 = .slice A2 m q2:=hz 7 _ (hw 7 (by kernel_rfl)) rfl
        refine wpOp_plain rfl rfl ?_
        go_simp
        go_at_call 79
        refine (Seal.open_new key C s i ep A A2 n c m q2 wx HK.out.1 HK.out.2 HC.out.1 HC.out.2.1 HC.out.2.2 Hs.out.1 Hs.out.2.1 Hs.out.2.2 (Nat.lt_of_le_of_lt Hi16.out (by decide)) (HBr.out.below hx.out (Nat.le_refl _)) (Hb2.out.below hx.out (Nat.le_refl _)) (HLr.out.later hx.out)).mono ?_
        rintro e w8 ⟨he8,low⟩
        rw [Hr.out] at he8
        obtain ⟨vr,rfl,hvr⟩:=opt_of he8 hx.out.size
        exact ⟨⟨by simp [hsz.out],hx.out.trans (low.mono hx.out.size)⟩,upd z 33 (vr),(by unfold Hid; simp [upd,e3,e6,e7]),hz.next apx hsz.out 8 (by decide) _ (fun _ h => by cases h),Whn.done (hvr),(hp9.keep (by decide)).map (fun h => h.later low),(hp10.keep (by decide)).map (fun h => h.later low),(hp13.keep (by decide)).map (fun h => h.later low)⟩
      · have p8:=hp8.get (hw 8 (by kernel_rfl))
        refine wpOp_plain rfl rfl ?_
        go_simp
        exact ⟨⟨by simp [hsz.out],hx.out⟩,upd z 24 (z 33),(by unfold Hid; simp [upd]),hz.next apx hsz.out 9 (by decide) _ (fun _ h => by cases h),hp8.keep (by decide),Whn.done (p8),hp10.keep (by decide),hp13.keep (by decide)⟩
      · have p9:=hp9.get (hw 9 (by kernel_rfl))
        obtain ⟨v9,e9,h9⟩:=p9
        refine wpOp_plain rfl rfl ?_
        simp only [e9]
        go_simp
        exact ⟨⟨by simp [hsz.out],hx.out⟩,upd z 34 (v9),(by unfold Hid; simp [upd,e9]),hz.next apx hsz.out 10 (by decide) _ (fun _ h => by cases h),hp8.keep (by decide),hp9.keep (by decide),Whn.done (h9),hp13.keep (by decide)⟩
      · have p9:=hp9.get (hw 9 (by kernel_rfl))
        obtain ⟨v9,e9,h9⟩:=p9
        refine wpOp_plain rfl rfl ?_
        simp only [e9]
        go_simp
        exact ⟨⟨by simp [hsz.out],hx.out⟩,upd z 35 (.int .u32 (toldX r:Nat)),(by unfold Hid; simp [upd,e9]),hz.next apx hsz.out 11 (by decide) _ (fun _ h => Option.some.inj h),hp8.keep (by decide),hp9.keep (by decide),hp10.keep (by decide),hp13.keep (by decide)⟩
      · have p9:=hp9.get (hw 9 (by kernel_rfl))
        obtain ⟨v9,e9,h9⟩:=p9
        refine wpOp_plain rfl rfl ?_
        simp only [e9]
        go_simp
        exact ⟨⟨by simp [hsz.out],hx.out⟩,upd z 36 (.int .i64 (toldE r)),(by unfold Hid; simp [upd,e9]),hz.next apx hsz.out 12 (by decide) _ (fun _ h => Option.some.inj h),hp8.keep (by decide),hp9.keep (by decide),hp10.keep (by decide),hp13.keep (by decide)⟩
      · have p10:=hp10.get (hw 10 (by kernel_rfl))
        refine wpOp_plain rfl rfl ?_
        go_simp
        exact ⟨⟨by simp [hsz.out],hx.out⟩,upd z 10 (z 34),(by unfold Hid; simp [upd]),hz.next apx hsz.out 13 (by decide) _ (fun _ h => by cases h),hp8.keep (by decide),hp9.keep (by decide),hp10.keep (by decide),Whn.done (p10)⟩
      · have e11:z 35 = .int .u32 (toldX r:Nat):=hz 11 _ (hw 11 (by kernel_rfl)) rfl
        refine wpOp_plain rfl rfl ?_
        go_simp
        exact ⟨⟨by simp [hsz.out],hx.out⟩,upd z 11 (.int .u32 (toldX r:Nat)),(by unfold Hid; simp [upd,e11]),hz.next apx hsz.out 14 (by decide) _ (fun _ h => Option.some.inj h),hp8.keep (by decide),hp9.keep (by decide),hp10.keep (by decide),hp13.keep (by decide)⟩
      · have e12:z 36 = .int .i64 (toldE r):=hz 12 _ (hw 12 (by kernel_rfl)) rfl
        refine wpOp_plain rfl rfl ?_
        go_simp
        exact ⟨⟨by simp [hsz.out],hx.out⟩,upd z 12 (.int .i64 (toldE r)),(by unfold Hid; simp [upd,e12]),hz.next apx hsz.out 15 (by decide) _ (fun _ h => Option.some.inj h),hp8.keep (by decide),hp9.keep (by decide),hp10.keep (by decide),hp13.keep (by decide)⟩
    · exact ⟨⟨rfl,(Below.refl _ _).drew⟩,fun xx => (#[.pointer (some ⟨g,0,none⟩),.int .u32 (most:Nat),undef,undef,u4,u5,u6,.int .u32 (least:Nat),.int .i64 (i:Nat),.slice A2 m q2,u10,u11,u12,.pointer (some ⟨g,0,none⟩),.pointer (some ⟨g,0,none⟩),.pointer (some ⟨g,2,none⟩),.pointer (some ⟨J.g,0,none⟩),.slice (some ⟨gr,0,none⟩) N N,.int .i64 (N:Nat),.int .i64 (i:Nat),.bool true,.int .i64 (i:Nat),.pointer (some ⟨gr,i,none⟩),.slice A2 m q2,u24,u25,u26,u27,u28,u29,u30,u31,u32,u33,u34,u35,u36,u37,u38,u39,u40,u41,u42,u43,u44,u45,u46,u47,u48,u49,u50,u51,u52,u53,u54,undef]:Array Value).getD xx undef,(by rfl),Holding.start,Whn.none (by decide),Whn.none (by decide),Whn.none (by decide),Whn.none (by decide)⟩
  · obtain rfl:i = N:=by omega
    have hltI:¬ (i:Int) < (i:Int):=by omega
    have hR2:=hRi.out
    rw [List.drop_of_length_le (by rw [HNe.out]; exact Nat.le_refl _)] at hR2
    have hR3:R = some T:=by rw [hR2]; show some (T ++ []) = _; rw [List.append_nil]
    have HR3:=Lib.hid hR3
    have Hlw:=Lib.hid (Hb1.out.trans (low.out.mono Hb1.out.size))
    have HT:=Lib.hid (hT.out.1.base Hb1.out.size)
    clear hR2 hR3 hT hRi low hi Hr1
    go_wp2
    go_ret2
    refine ⟨?_,Hlw.out⟩
    rw [HR3.out]
    exact ⟨_,ts,rfl,HT.out⟩
end Go.Proofs.YteeghgjkjicjoaaGreatDoor.Sgm
namespace Go.Proofs.YteeghgjkjicjoaaGreatDoor.Cod
open Go.RowKit
def encF:Nat → Nat → List Int
 | 0,n => [(n:Int)]
 | k + 1,n => if n < 128 then [(n:Int)] else ((128 + n % 128:Nat):Int) :: encF k (n / 128)
def encN (n:Nat):List Int:=encF 9 n
theorem encF_pos (k n:Nat):0 < (encF k n).length:=by
 cases k with
 | zero => simp [encF]
 | succ k => unfold encF; split <;> simp
theorem encF_le (k n:Nat):(encF k n).length ≤ k + 1:=by
 induction k generalizing n with
 | zero => simp [encF]
 | succ k ih => unfold encF; split <;> simp; exact ih _
theorem encN_pos (n:Nat):0 < (encN n).length:=encF_pos 9 n
theorem encN_le (n:Nat):(encN n).length ≤ 10:=encF_le 9 n
theorem pow_lt {n k:Nat} (h:n < 128 ^ (k + 1)):n / 128 < 128 ^ k:=by
 rw [Nat.pow_succ] at h
 exact Nat.div_lt_of_lt_mul (by rw [Nat.mul_comm]; exact h)
theorem encF_mem {k n:Nat} (h:n < 128 ^ (k + 1)):∀ x ∈ encF k n,0 ≤ x ∧ x < 256:=by
 induction k generalizing n with
 | zero => simp [encF]; simp at h; omega
 | succ k ih =>
   unfold encF
   split
   · simp; omega
   · intro x hx
     rcases List.mem_cons.1 hx with rfl | hx
     · omega
     · exact ih (pow_lt h) x hx
theorem inB_mem {L:List Int} (h:∀ x ∈ L,0 ≤ x ∧ x < 256):InB L:=by
 intro j
 by_cases hj:j < L.length
 · have e:L.getD j 0 = L[j]:=by simp [List.getD_eq_getElem?_getD,hj]
   rw [e]; exact h _ (List.getElem_mem hj)
 · rw [getD_out _ _ (by omega)]; omega
theorem lt70 {n:Nat} (h:n < 18446744073709551616):n < 128 ^ (9 + 1):=Nat.lt_trans h (by decide)
theorem encN_in {n:Nat} (h:n < 18446744073709551616):InB (encN n):=inB_mem (encF_mem (lt70 h))
def compL (c:Nat):List Int:=[((c / 72057594037927936 % 256:Nat):Int),((c / 281474976710656 % 256:Nat):Int),((c / 1099511627776 % 256:Nat):Int),((c / 4294967296 % 256:Nat):Int),((c / 16777216 % 256:Nat):Int),((c / 65536 % 256:Nat):Int),((c / 256 % 256:Nat):Int),((c % 256:Nat):Int)]
theorem compL_length (c:Nat):(compL c).length = 8:=rfl
theorem compL_in (c:Nat):InB (compL c):=inB_mem (by intro x hx; simp [compL] at hx; omega)
theorem small {c:Nat} (h:c < 18446744073709551616):c / 256 / 256 / 256 / 256 / 256 / 256 / 256 < 256:=by
 simp only [Nat.div_div_eq_div_mul]
 exact Nat.div_lt_of_lt_mul h
theorem info8:(Tryz.prog.info? 5).map (fun i => (i.zero,i.size,i.bytes)) = some (some (.int .u8 0),1,1):=by kernel_rfl
structure Part where
 A:Option Addr
 c:Nat
 M:List Int
def Part.val (p:Part):Value:=.slice p.A p.M.length p.c
def catP (ps:List Part):List Int:=ps.flatMap (·.M)
theorem catP_snoc (ps:List Part) (j:Nat) (h:j < ps.length):catP (ps.take (j + 1)) = catP (ps.take j) ++ ps[j].M:=by
 unfold catP
 rw [List.take_succ_eq_append_getElem h,List.flatMap_append]
 simp
theorem catP_le (ps:List Part) (j:Nat):(catP (ps.take j)).length ≤ (catP ps).length:=by
 have:catP ps = catP (ps.take j) ++ (ps.drop j).flatMap (·.M):=by
  unfold catP
  rw [← List.flatMap_append,List.take_append_drop]
 rw [this,List.length_append]
 omega
set_option maxRecDepth 100000 in
set_option maxHeartbeats 1000000 in
theorem grow_any (n:Nat) (h0:0 < n) (h1:n ≤ 100000) (w:World) :
 Calls Tryz.prog 120 #[.slice none 0 0,.int .i64 (n:Int)] w fun e' w' => ∃ c C,e' = .returned (.slice (some ⟨w.heap.size,0,none⟩) 0 c) ∧ n ≤ c ∧ c ≤ maxLen ∧ C.size = c ∧ w'.heap[w.heap.size]? = some (.cells C 5 (0,0)) ∧ Below w.heap.size w w':=by
 obtain ⟨i0,hi0,hz00,hz10,hz20⟩:=info_parts info8
 have hi:=Lib.hid hi0
 have hz0:=Lib.hid hz00
 have hz1:=Lib.hid hz10
 have hz2:=Lib.hid hz20
 have hpos:(0:Int) < n:=by omega
 clear hi0 hz00 hz10 hz20
 go_enter Tryz.func120,Tryz.ntmps120
 go_wp2_with (at_builtin; refine Lib.wpList_append_run _ rfl (.tmp 20) (.tmp 21) 38 3 rfl _ _ rfl rfl _ _ (Lib.run_append_nil_zeros w 38 3 38 5 i0 (.int .u8 0) .i64 .i64 Tryz.underlying38 Tryz.underlying3 hi.out hz0.out n h0 (by rw [hz1.out]; decide) (by omega) (by rw [hz2.out]; omega)) ?_; generalize hc:grownCap w n 0 5 = c; have Hc:=Lib.hid hc; clear hc)
 go_ret
 have h2:=grownCap_ge w n 0 5
 have h3:=grownCap_le_maxLen w n 0 5 (by unfold maxLen; omega)
 rw [Hc.out] at h2 h3
 refine ⟨c,_,rfl,h2,h3,?_,Go.heap_alloc_new w.drew _,((Below.refl _ _).drew).alloc (Nat.le_refl _) _⟩
 simp [Builtin.zeroCells]
 omega
structure CInv (B c:Nat) (L:List Int) (w wr:World):Prop where
 own:wr.ownsRow B 5 1 (.slice (some ⟨B,0,none⟩) L.length c) L.length (vals L)
 low:Below B w wr
set_option maxRecDepth 100000 in
set_option maxHeartbeats 1000000 in
theorem concat_any (ps:List Part) (gs m:Nat) (w:World) (hm:ps.length = m) (hm5:m ≤ 1000) (hp:0 < (catP ps).length) (hle:(catP ps).length ≤ 50000)
 (hgs:∀ j (h:j < ps.length),w.cell? ⟨gs,j,none⟩ = some (ps[j].val)) (hb:∀ j (h:j < ps.length),Byt w (ps[j]).A (ps[j]).c (ps[j]).M) :
 Calls Tryz.prog 99 #[.slice (some ⟨gs,0,none⟩) m m] w fun e' w' => ∃ c,e' = .returned (.slice (some ⟨w.heap.size,0,none⟩) (catP ps).length c) ∧ w'.ownsRow w.heap.size 5 1 (.slice (some ⟨w.heap.size,0,none⟩) (catP ps).length c) (catP ps).length (vals (catP ps)) ∧ Below w.heap.size w w':=by
 have HB:=Lib.hid hb
 have HG:=Lib.hid hgs
 have HM:=Lib.hid hm
 obtain ⟨n,hn⟩:∃ n,n = (catP ps).length:=⟨_,rfl⟩
 rw [← hn] at hp hle ⊢
 have HN:=Lib.hid hn
 clear hb hgs hm hn
 go_enter Tryz.func99,Tryz.ntmps99
 go_wp2
 go_loop [3,11] (fun s i => ∃ k:Nat,k ≤ m ∧ i = .int .i64 (k:Nat) ∧ s = .int .i64 ((catP (ps.take k)).length:Nat)) (fun _ i => m - (intOf i).toNat)
 case atStart => exact ⟨0,Nat.zero_le _,rfl,rfl⟩
 case round =>
  obtain ⟨k,hk,rfl,rfl⟩:=hrel
  by_cases hlt:k < m
  · have hlk:k < ps.length:=by have:=HM.out; omega
    have hc:=HG.out k hlk
    have hsn:=catP_snoc ps k hlk
    have hl1:=catP_le ps (k + 1)
    rw [hsn,List.length_append] at hl1
    obtain ⟨p,hp⟩:∃ p,p = ps[k]:=⟨_,rfl⟩
    rw [← hp] at hc hsn hl1
    obtain ⟨pA,pc,pM⟩:=p
    unfold Part.val at hc
    simp only at hc hsn hl1
    obtain ⟨x,hx⟩:∃ x,x = (catP (ps.take k)).length:=⟨_,rfl⟩
    obtain ⟨y,hy⟩:∃ y,y = pM.length:=⟨_,rfl⟩
    rw [← hx,← hy] at hl1
    rw [← hy] at hc
    rw [← hx]
    have Hx:=Lib.hid hx
    have Hy:=Lib.hid hy
    have Hsn:=Lib.hid hsn
    have hxy:x + y ≤ 50000:=by have:=HN.out; omega
    have hlt':(k:Int) < (m:Int):=by omega
    clear hp hx hy hsn hl1
    go_wp2
    go_round
    case rel => exact ⟨k + 1,by omega,by go_num,by rw [Hsn.out,List.length_append,← Hx.out,← Hy.out]; go_num⟩
    case measure => simp [intOf]; omega
  · have hkm:k = m:=by omega
    have e:(catP (ps.take k)).length = n:=by rw [hkm,← HM.out,List.take_length]; exact HN.out.symm
    rw [e]
    have hlt':¬ (k:Int) < (m:Int):=by omega
    have Hg:=Lib.hid (grow_any n hp (by omega) w)
    clear e hkm hlt
    go_wp2_with (go_at_call 120; refine Hg.out.mono ?_; rintro e w1 ⟨c,C,rfl,hc1,hc2,hC,hr,hlow⟩; have HC:=Lib.hid hC; have Hr:=Lib.hid hr; clear hC hr)
    obtain ⟨i0,hi0,hz00,hz10,hz20⟩:=info_parts info8
    have hi:=Lib.hid hi0
    have hz1:=Lib.hid hz10
    clear hi0 hz00 hz10 hz20
    go_loopw [6,27] (fun v i wr => ∃ k:Nat,k ≤ m ∧ i = .int .i64 (k:Nat) ∧ v = .slice (some ⟨w.heap.size,0,none⟩) (catP (ps.take k)).length c ∧ CInv w.heap.size c (catP (ps.take k)) w wr) (fun _ i _ => m - (intOf i).toNat)
    case atStart => exact ⟨0,Nat.zero_le _,rfl,rfl,⟨⟨by simp [vals,catP],.inr ⟨_,c,C,rfl,Nat.le_refl _,Hr.out,Nat.zero_le _,hc2,by rw [HC.out]; omega,by simp [vals,catP]⟩⟩,hlow⟩⟩
    case round =>
     clear Hr HC hlow
     obtain ⟨j,hj,rfl,rfl,hinv⟩:=hrel
     by_cases hltj:j < m
     · have hlk:j < ps.length:=by have:=HM.out; omega
       have hc:=HG.out j hlk
       have hby:=HB.out j hlk
       have hsn:=catP_snoc ps j hlk
       have hl1:=catP_le ps (j + 1)
       rw [hsn,List.length_append] at hl1
       obtain ⟨p,hp⟩:∃ p,p = ps[j]:=⟨_,rfl⟩
       rw [← hp] at hc hsn hl1 hby
       obtain ⟨pA,pc,pM⟩:=p
       unfold Part.val at hc
       simp only at hc hsn hl1 hby
       obtain ⟨X,hX⟩:∃ X,X = catP (ps.take j):=⟨_,rfl⟩
       rw [← hX] at hl1 hsn hinv
       rw [← hX]
       obtain ⟨x,hx⟩:∃ x,x = X.length:=⟨_,rfl⟩
       obtain ⟨y,hy⟩:∃ y,y = pM.length:=⟨_,rfl⟩
       have hown:=hinv.own
       have hlw:=hinv.low
       rw [← hx] at hown
       rw [← hx,← hy] at hl1
       rw [← hy] at hc
       rw [← hx]
       have hxy:x + y ≤ n:=by have:=HN.out; omega
       have hgs:gs < w.heap.size:=World.block_lt_of_cell? w _ hc
       have e0:wr.cell? ⟨gs,j,none⟩ = some (.slice pA y pc):=(hlw.cell (p:=⟨gs,j,none⟩) hgs).trans hc
       have Hx:=Lib.hid hx
       have Hy:=Lib.hid hy
       have Hsn:=Lib.hid hsn
       have Hby:=Lib.hid hby
       have Hown:=Lib.hid hown
       have Hlw:=Lib.hid hlw
       have hsz:=hlw.size
       have hlt'':(j:Int) < (m:Int):=by omega
       clear hp hx hy hsn hl1 hby hown hlw hc hX hinv
       go_wp2_with (at_builtin; refine wpList_append_fits_any _ rfl (.tmp 31) (.tmp 32) 38 rfl w.heap.size 5 i0 1 Tryz.underlying38 hi.out hz1.out w.heap.size x c (vals X) rfl Hown.out pA y pc (vals pM) rfl (by rw [vals_length,Hy.out]; omega) (fun h => ⟨by have:=Hby.out.1; have:=Hby.out.2.1 h; have:=Hy.out; omega,Hby.out.2.1 h⟩) (fun ad h => Hby.out.cells (fun p hp => Hlw.out.cell hp) ad h) (vals_one _) (by omega) ?_; intro w2 hown2 hgrow2; have low2:=Lib.hid (Hlw.out.grown hgrow2 (by omega) (fun k hk => by cases hk; exact Nat.le_refl _)); have Hown2:=Lib.hid hown2; clear hown2 hgrow2)
       go_roundw
       case rel => exact ⟨j + 1,by omega,by go_num,by rw [Hsn.out,List.length_append,← Hx.out,← Hy.out],⟨by have:=Hown2.out; rw [Hsn.out,List.length_append,← Hx.out,← Hy.out]; simpa [vals] using this,low2.out⟩⟩
       case measure => simp [intOf]; omega
     · have hjm:j = m:=by omega
       have e:catP (ps.take j) = catP ps:=by rw [hjm,← HM.out,List.take_length]
       rw [e] at hinv ⊢
       rw [← HN.out]
       have hlt'':¬ (j:Int) < (m:Int):=by omega
       have Hinv:=Lib.hid hinv
       clear e hjm hltj hinv
       go_wp2
       go_ret
       exact ⟨c,rfl,by have:=Hinv.out.own; rwa [← HN.out] at this,Hinv.out.low⟩
theorem vals8_one (x:Int):∀ u ∈ [Value.int .u8 x],u.oneCell' = true:=by
 intro u hu
 simp at hu
 subst hu
 rfl
theorem more8 (L:List Int) (x:Int):vals L ++ [.int .u8 x] = vals (L ++ [x]):=by simp [vals]
theorem own_byt {w:World} {base n:Nat} {v:Value} {L:List Int} (h:w.ownsRow base 5 1 v n (vals L)):∃ A c,v = .slice A n c ∧ L.length = n ∧ Byt w A c L:=by
 have hlen:L.length = n:=by have:=h.1; rw [vals_length] at this; omega
 rcases h.2 with ⟨rfl,hx⟩ | ⟨g,cap,cur,rfl,_,hh,hcap,_,hs,ht⟩
 · subst hx
   obtain rfl:L = []:=List.eq_nil_of_length_eq_zero hlen
   exact ⟨none,0,rfl,rfl,Nat.le_refl _,fun _ => rfl,fun h => absurd h (Nat.lt_irrefl 0)⟩
 · refine ⟨_,_,rfl,hlen,by omega,(fun h => by cases h),fun _ => ⟨g,0,rfl,(Array.getElem?_eq_some_iff.1 hh).1,fun j hj => ?_⟩⟩
   rw [Nat.zero_add,cell_row hh]
   have h2:cur[j]? = cur.toList[j]?:=by simp
   have h3:(cur.toList.take (n * 1))[j]? = cur.toList[j]?:=by rw [List.getElem?_take,if_pos (by omega)]
   rw [h2,← h3,ht]
   simp [vals,hj]
set_option maxRecDepth 100000 in
set_option maxHeartbeats 1000000 in
theorem digits_any (n:Nat) (hn:n < 18446744073709551616) (w:World) :
 Calls Tryz.prog 100 #[.int .u64 (n:Nat)] w fun e w' => ∃ v,e = .returned v ∧ w'.ownsRow w.heap.size 5 1 v (encN n).length (vals (encN n)) ∧ Below w.heap.size w w':=by
 obtain ⟨i0,hi0,hz00,hz10,hz20⟩:=info_parts info8
 have hi:=Lib.hid hi0
 have hz0:=Lib.hid hz00
 have hz1:=Lib.hid hz10
 have hz2:=Lib.hid hz20
 have H70:=Lib.hid (lt70 hn)
 clear hi0 hz00 hz10 hz20 hn
 go_enter Tryz.func100,Tryz.ntmps100
 go_wp2
 go_loopw [0,3] (fun x v wr => ∃ (m k:Nat) (P:List Int),x = .int .u64 (m:Nat) ∧ Hid (encN n = P ++ encF k m) ∧ Hid (m < 128 ^ (k + 1)) ∧ P.length + k ≤ 9 ∧ Hid (wr.ownsRow w.heap.size 5 1 v P.length (vals P)) ∧ Hid (Below w.heap.size w wr)) (fun x _ _ => (intOf x).toNat)
 case atStart => exact ⟨n,9,[],rfl,rfl,H70.out,by simp,World.ownsRow_nil _ _ _ _,Below.refl _ _⟩
 case round =>
  obtain ⟨m,k,P,rfl,he,hm,hk,own,low⟩:=hrel
  obtain ⟨p,hp⟩:∃ p,p = P.length:=⟨_,rfl⟩
  rw [← hp] at own hk
  have Hp:=Lib.hid hp
  have hsz:=low.out.size
  clear hp H70
  by_cases hlt:m < 128
  · have hlt':(m:Int) < 128:=by omega
    have hge:¬ (128:Int) ≤ (m:Int):=by omega
    go_wp2_with (at_builtin; refine wpList_append_own_at _ rfl (.tmp 15) (.tmp 18) 38 rfl w.heap.size 5 i0 (.int .u8 0) 1 1 Tryz.underlying38 hi.out hz0.out hz1.out hz2.out rfl (by decide) u3 p (vals P) rfl (own.out.alloc _) ⟨wr.heap.size,0,none⟩ 1 1 [.int .u8 (m:Nat)] rfl rfl (cell_one_new _ _ _) (vals8_one _) (by unfold maxLen; omega) (by omega) (by rw [World.size_alloc]; omega) ?_; intro v2 w2 hown2 hgrow2 _ _; have Hown2:=Lib.hid hown2; have Hgrow2:=Lib.hid hgrow2; clear hown2 hgrow2)
    go_ret
    have e:encN n = P ++ [(m:Int)]:=by
     rw [he.out]
     cases k with
     | zero => rfl
     | succ k => unfold encF; rw [if_pos hlt]
    refine ⟨_,rfl,?_,(low.out.alloc hsz _).grown Hgrow2.out (by rw [World.size_alloc]; omega) (fun k hk => (own.out.lt k hk).1)⟩
    have:=Hown2.out
    rw [more8] at this
    rw [e,List.length_append,← Hp.out]
    exact this
  · have hlt':(128:Int) ≤ (m:Int):=by omega
    have hr0:0 ≤ (m:Int) % 128:=by omega
    have hr1:(m:Int) % 128 < 128:=by omega
    go_wp2_with (at_builtin; refine wpList_append_own_at _ rfl (.tmp 6) (.tmp 11) 38 rfl w.heap.size 5 i0 (.int .u8 0) 1 1 Tryz.underlying38 hi.out hz0.out hz1.out hz2.out rfl (by decide) u3 p (vals P) rfl (own.out.alloc _) ⟨wr.heap.size,0,none⟩ 1 1 [.int .u8 ((m:Int) % 128 + 128)] rfl rfl (cell_one_new _ _ _) (vals8_one _) (by unfold maxLen; omega) (by omega) (by rw [World.size_alloc]; omega) ?_; intro v2 w2 hown2 hgrow2 _ _; have Hown2:=Lib.hid hown2; have Hgrow2:=Lib.hid hgrow2; clear hown2 hgrow2)
    go_roundw
    case rel =>
     cases k with
     | zero => have:=hm.out; simp at this; omega
     | succ k =>
       refine ⟨m / 128,k,P ++ [((128 + m % 128:Nat):Int)],by simp,?_,pow_lt hm.out,by rw [List.length_append,← Hp.out]; simp; omega,?_,(low.out.alloc hsz _).grown Hgrow2.out (by rw [World.size_alloc]; omega) (fun k hk => (own.out.lt k hk).1)⟩
       · show encN n = _
         rw [he.out]
         conv => lhs; unfold encF
         rw [if_neg hlt]
         simp
       · have:=Hown2.out
         rw [more8] at this
         rw [List.length_append,← Hp.out]
         have e:((128 + m % 128:Nat):Int) = (m:Int) % 128 + 128:=by omega
         rw [e]
         exact this
    case measure => simp [intOf]; omega
end Go.Proofs.YteeghgjkjicjoaaGreatDoor.Cod
