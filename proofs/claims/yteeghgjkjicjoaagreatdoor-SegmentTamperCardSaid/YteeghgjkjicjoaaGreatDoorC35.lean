/- Texts of ours, merged. -/
import Derived.Test.YteeghgjkjicjoaaGreatDoorC34
set_option maxRecDepth 100000
set_option maxHeartbeats 16000000
namespace Go.Proofs.YteeghgjkjicjoaaGreatDoor.Slt
open Go.RowKit Dsk
theorem taken_any (n:Nat) (hn:n <= 262144) (w:World):Calls Tryz.prog 71 #[.int .i64 n] w fun e w' => e = .returned (.int .i64 (tk n:Nat)) /\ w = w':=by
 have hfit:=tk_fit n
 have htk:tk n <= 2100:=by unfold tk; omega
 have hmin:∀ k:Nat,1 <= k -> k < tk n -> k * 128 < n + 5:=fun k h1 h2 => by unfold tk at h2; omega
 have hpos:=tk_pos n
 have Hfit:=lhd hfit
 have Hmin:=lhd hmin
 have Htk:=lhd htk
 obtain ⟨T,hT⟩:∃ T,T = tk n:=⟨_,rfl⟩
 rw [<- hT] at Hfit Hmin Htk hpos ⊢
 clear hfit hmin htk hT
 go_enter Tryz.func71,Tryz.ntmps71
 go_wp2
 go_loopw [3] (fun v wr => ∃ k:Nat,1 <= k /\ k <= T /\ v = .int .i64 k /\ wr = w) (fun v _ => T - (intOf v).toNat)
 case atStart => exact ⟨1,Nat.le_refl _,hpos,rfl,by first | rfl | trivial⟩
 case round =>
  obtain ⟨k,h1,hk,rfl,rfl⟩:=hrel
  have hk2:(k:Int) <= 2100:=by have:=Htk.out; omega
  by_cases hlt:k < T
  . have hltI:(128:Int) * (k:Int) < (n:Int) + 5:=by have:=Hmin.out k h1 hlt; omega
    go_wp2
    exact ⟨⟨k + 1,by omega,by omega,by go_num,trivial⟩,by simp [intOf]; omega⟩
  . obtain rfl:k = T:=by omega
    have hltI:¬ (128:Int) * (k:Int) < (n:Int) + 5:=by have:=Hfit.out; omega
    go_wp2
    go_ret
    exact ⟨rfl,rfl⟩
def rowRL (M:MK) (J:LK) (S:LS):Array Value:=#[M.ptr,.int .i64 S.from_,.int .i64 S.secs,J.v,.int .i64 S.used,.bool S.lost]
structure RL (w:World) (M:MK) (J:LK) (S:LS):Prop where
 row:w.heap[J.g]? = some (.cells (rowRL M J S) 83 (0,0))
 own:w.ownsRow 0 38 1 J.v S.texts.length J.ts
 gv:∀ q,J.v.ownBlock = some q -> q ≠ J.g
 txt:∀ i,i < S.texts.length -> SlB (S.texts.getD i []) (J.ts.getD i undef) w
 tlt:∀ q ∈ J.tx,q < w.heap.size
 tap:∀ q ∈ J.tx,q ∉ M.bl /\ q ∉ J.bl
 kap:∀ q ∈ J.bl,q ∉ M.bl
 inb:∀ t ∈ S.texts,InB t /\ t.length <= 262144
 fit:S.used <= S.secs
 end_:S.from_ + S.secs <= 16384
 cnt:S.texts.length <= S.used
theorem RL.glt {w:World} {M:MK} {J:LK} {S:LS} (h:RL w M J S):J.g < w.heap.size:=(Array.getElem?_eq_some_iff.1 h.row).1
theorem RL.len {w:World} {M:MK} {J:LK} {S:LS} (h:RL w M J S):J.ts.length = S.texts.length:=by have:=h.own.1; omega
theorem RL.chg {T:List Nat} {w w':World} {M:MK} {J:LK} {S:LS} (h:RL w M J S) (hc:Chg T w w') (h1:∀ q ∈ J.bl,q ∉ T) (h2:∀ q ∈ J.tx,q ∉ T):RL w' M J S where
 row:=hc.at h.row (h1 _ (by simp [LK.bl]))
 own:=own_chg h.own hc (fun q hq => h1 q (by simp [LK.bl,hq]))
 gv:=h.gv
 txt i hi:=by
  obtain ⟨A,c,e,hB⟩:=h.txt i hi
  refine ⟨A,c,e,hB.chg hc (fun a ha => h2 _ (mem_tx (by rw [e,ha]) (by rw [h.len]; exact hi)))⟩
 tlt q hq:=Nat.lt_of_lt_of_le (h.tlt q hq) hc.size
 tap:=h.tap
 kap:=h.kap
 inb:=h.inb
 fit:=h.fit
 end_:=h.end_
 cnt:=h.cnt
theorem RL.later {w w':World} {M:MK} {J:LK} {S:LS} (h:RL w M J S) (hb:Below w.heap.size w w'):RL w' M J S :=
 h.chg (T:=[]) (Chg.of_below hb) (by simp) (by simp)
theorem RL.cells {w:World} {M:MK} {J:LK} {S:LS} (h:RL w M J S):w.cell? ⟨J.g,0,none⟩ = some (.pointer (some ⟨M.g,0,none⟩)) /\ w.cell? ⟨J.g,1,none⟩ = some (.int .i64 S.from_) /\ w.cell? ⟨J.g,2,none⟩ = some (.int .i64 S.secs) /\ w.cell? ⟨J.g,3,none⟩ = some J.v /\ w.cell? ⟨J.g,4,none⟩ = some (.int .i64 S.used) /\ w.cell? ⟨J.g,5,none⟩ = some (.bool S.lost):=by
 refine ⟨?_,?_,?_,?_,?_,?_⟩ <;> rw [cell_row h.row] <;> rfl
end Go.Proofs.YteeghgjkjicjoaaGreatDoor.Slt
namespace Go.Proofs.YteeghgjkjicjoaaGreatDoor.Slt
open Go.RowKit Dsk
section
variable {w:World} {M:MK} {D:DS} {J:LK} {S:LS}
end
end Go.Proofs.YteeghgjkjicjoaaGreatDoor.Slt
namespace Go.Proofs.YteeghgjkjicjoaaGreatDoor.Slt
open Go.RowKit Dsk
theorem RL.gtx {w:World} {M:MK} {J:LK} {S:LS} (h:RL w M J S):J.g ∉ J.tx:=fun hm => (h.tap _ hm).2 (by simp [LK.bl])
structure RKept (M:MK) (J:LK) (S:LS) (t:List Int) (w:World) (J':LK) (w':World):Prop where
 g:J'.g = J.g
 rl:RL w' M J' { S with used:=S.used + tk t.length,texts:=S.texts ++ [t] }
 chg:Chg J.bl w w'
 bl:∀ q ∈ J'.bl,q ∈ J.bl \/ w.heap.size <= q
 tx:∀ q ∈ J'.tx,q ∈ J.tx \/ w.heap.size <= q
theorem rkept_of {w w':World} {M:MK} {J:LK} {S:LS} {t:List Int} {y z:Value} (h:RL w M J S) (hK:∀ q ∈ M.bl,q < w.heap.size) (ht:InB t) (hl:t.length <= 262144) (hf:S.used + tk t.length <= S.secs)
 (hr:w'.heap[J.g]? = some (.cells (rowRL M ⟨J.g,z,J.ts ++ [y]⟩ { S with used:=S.used + tk t.length,texts:=S.texts ++ [t] }) 83 (0,0))) (ho:OX S.texts.length J.ts J.v w.heap.size y z w') (hy:YX t w.heap.size y w') (hc:Chg J.bl w w'):RKept M J S t w ⟨J.g,z,J.ts ++ [y]⟩ w':=by
 have hbl:∀ q ∈ (⟨J.g,z,J.ts ++ [y]⟩:LK).bl,q ∈ J.bl \/ w.heap.size <= q:=by
  intro q hq
  simp only [LK.bl,List.mem_cons,Option.mem_toList] at hq ⊢
  rcases hq with rfl | hq
  . exact .inl (.inl rfl)
  . rcases ho.blk with e | ⟨q',e,hq',_⟩
    . rw [e] at hq; exact .inl (.inr hq)
    . rw [e] at hq; cases hq; exact .inr hq'
 have htx:∀ q ∈ (⟨J.g,z,J.ts ++ [y]⟩:LK).tx,q ∈ J.tx \/ (y.ownBlock = some q):=by
  intro q hq
  simp only [LK.tx,List.flatMap_append,List.mem_append,List.flatMap_cons,List.flatMap_nil,List.append_nil,Option.mem_toList] at hq ⊢
  exact hq
 have hbw:∀ q ∈ J.bl,q < w.heap.size:=by
  intro q hq
  simp only [LK.bl,List.mem_cons,Option.mem_toList] at hq
  rcases hq with rfl | hq
  . exact h.glt
  . exact (h.own.lt q hq).2
 have hz:z.ownBlock ≠ some J.g:=ho.ne (fun e => h.gv _ e rfl) h.glt
 have h1:=h.cnt
 have h2:=tk_pos t.length
 refine ⟨rfl,⟨hr,by rw [List.length_append]; exact ho.own,fun q hq e => hz (by rw [<- e]; exact hq),?_,?_,?_,?_,?_,hf,h.end_,by simp only [List.length_append,List.length_cons,List.length_nil]; omega⟩,hc,hbl,fun q hq => (htx q hq).imp id (fun e => (hy.own q e).1)⟩
 . intro i hi
   simp only [List.length_append,List.length_cons,List.length_nil] at hi
   by_cases e:i < S.texts.length
   . have h1:(S.texts ++ [t]).getD i [] = S.texts.getD i []:=by simp [List.getD_eq_getElem?_getD,List.getElem?_append_left e]
     have h2:(J.ts ++ [y]).getD i undef = J.ts.getD i undef:=by simp [List.getD_eq_getElem?_getD,List.getElem?_append_left (show i < J.ts.length by rw [h.len]; exact e)]
     simp only [h1,h2]
     obtain ⟨A,c,e1,hB⟩:=h.txt i e
     exact ⟨A,c,e1,hB.chg hc (fun a ha => (h.tap _ (mem_tx (by rw [e1,ha]) (by rw [h.len]; exact e))).2)⟩
   . obtain rfl:i = S.texts.length:=by omega
     have h1:(S.texts ++ [t]).getD S.texts.length [] = t:=by simp [List.getD_eq_getElem?_getD]
     have h2:(J.ts ++ [y]).getD S.texts.length undef = y:=by rw [<- h.len]; simp [List.getD_eq_getElem?_getD]
     simp only [h1,h2]
     exact hy.sl
 . intro q hq
   rcases htx q hq with a | a
   . exact Nat.lt_of_lt_of_le (h.tlt q a) hc.size
   . exact (hy.own q a).2
 . intro q hq
   rcases htx q hq with a | a
   . refine ⟨(h.tap q a).1,fun hm => ?_⟩
     rcases hbl q hm with b | b
     . exact (h.tap q a).2 b
     . have:=h.tlt q a; omega
   . have hge:=(hy.own q a).1
     refine ⟨fun hm => by have:=hK q hm; omega,fun hm => ?_⟩
     simp only [LK.bl,List.mem_cons,Option.mem_toList] at hm
     rcases hm with rfl | hm
     . have:=h.glt; omega
     . rcases ho.blk with e | ⟨q',e,_,hn⟩
       . rw [e] at hm; have:=(h.own.lt q hm).2; omega
       . rw [e] at hm; cases hm; exact hn q a rfl
 . intro q hq hm
   rcases hbl q hq with b | b
   . exact h.kap q b hm
   . have:=hK q hm; omega
 . intro x hx
   rcases List.mem_append.1 hx with a | a
   . exact h.inb x a
   . simp at a; subst a; exact ⟨ht,hl⟩
def nvB (B:List Int):Nat -> Int
 | 0 => 0
 | 1 => 0
 | k + 2 => 256 * nvB B (k + 1) + B.getD (k + 1) 0
theorem nvB_next (B:List Int) (k:Nat) (h:1 <= k):nvB B (k + 1) = 256 * nvB B k + B.getD k 0:=by
 obtain ⟨j,rfl⟩:∃ j,k = j + 1:=⟨k - 1,by omega⟩
 rfl
theorem nvB_five {B:List Int} (h:InB B):nvB B 5 = (lenB B:Nat):=by
 have h1:=h 1
 have h2:=h 2
 have h3:=h 3
 have h4:=h 4
 show 256 * (256 * (256 * (256 * 0 + B.getD 1 0) + B.getD 2 0) + B.getD 3 0) + B.getD 4 0 = _
 unfold lenB
 omega
theorem nvB_bound {B:List Int} (h:InB B) (k:Nat) (hk:k <= 5):0 <= nvB B k /\ nvB B k <= 4294967295:=by
 have h1:=h 1
 have h2:=h 2
 have h3:=h 3
 have h4:=h 4
 match k,hk with
 | 0,_ => show (0:Int) <= 0 /\ (0:Int) <= 4294967295; omega
 | 1,_ => show (0:Int) <= 0 /\ (0:Int) <= 4294967295; omega
 | 2,_ => show 0 <= 256 * 0 + B.getD 1 0 /\ 256 * 0 + B.getD 1 0 <= _; omega
 | 3,_ => show 0 <= 256 * (256 * 0 + B.getD 1 0) + B.getD 2 0 /\ 256 * (256 * 0 + B.getD 1 0) + B.getD 2 0 <= _; omega
 | 4,_ => show 0 <= 256 * (256 * (256 * 0 + B.getD 1 0) + B.getD 2 0) + B.getD 3 0 /\ 256 * (256 * (256 * 0 + B.getD 1 0) + B.getD 2 0) + B.getD 3 0 <= _; omega
 | 5,_ => show 0 <= 256 * (256 * (256 * (256 * 0 + B.getD 1 0) + B.getD 2 0) + B.getD 3 0) + B.getD 4 0 /\ 256 * (256 * (256 * (256 * 0 + B.getD 1 0) + B.getD 2 0) + B.getD 3 0) + B.getD 4 0 <= _; omega
theorem drop_end {L R:List Int} {cs:List (List Int)} {e:Bool} (hr:Reads L cs R e):L.drop (posC cs cs.length) = R:=by
 unfold posC
 rw [List.take_length,hr.eq,List.drop_left]
structure StepG (b u n:Nat) (X c:List Int):Prop where
 one:X.getD 0 0 = 1
 len:lenB X = n
 most:n <= 262144
 fits:tk n <= b - u
 good:Good c
 lenC:lenB c = n
 get:∀ j,j < c.length -> X.getD j 0 = c.getD j 0
theorem step_good {L R:List Int} {cs:List (List Int)} {e:Bool} (hr:Reads L cs R e) {b i u:Nat} (hn:L.length = b * 128) (hu:u * 128 = posC cs i) (hi:i < cs.length):u < b /\ StepG b u (lenB (cs.getD i [])) (L.drop (posC cs i)) (cs.getD i []):=by
 have hg:=hr.good _ (getD_mem hi)
 have hd:=drop_cons hr hi
 have hl:=hg.len
 have hlen:=congrArg List.length hd
 rw [List.length_drop,List.length_append,hn] at hlen
 have hp:=tk_pos (lenB (cs.getD i []))
 have hc:=hg.2.2
 refine ⟨by omega,?_,?_,hg.2.1,by omega,hg,rfl,fun j hj => ?_⟩
 . rw [hd,getD_append_lt (by omega)]; exact hg.1
 . rw [hd]; exact lenB_app (by omega) _
 . rw [hd,getD_append_lt hj]
theorem step_end {L R:List Int} {cs:List (List Int)} {e:Bool} (hr:Reads L cs R e) {b u:Nat} (hn:L.length = b * 128) (hu:u * 128 = posC cs cs.length):(L.drop (posC cs cs.length)).length = (b - u) * 128 /\ (u = b -> e = false) /\ (u < b -> e = false -> (L.drop (posC cs cs.length)).getD 0 0 = 0) /\ (e = true -> (L.drop (posC cs cs.length)).getD 0 0 ≠ 0 /\ ¬ ((L.drop (posC cs cs.length)).getD 0 0 = 1 /\ lenB (L.drop (posC cs cs.length)) <= 262144 /\ tk (lenB (L.drop (posC cs cs.length))) <= b - u)):=by
 have hl:(L.drop (posC cs cs.length)).length = (b - u) * 128:=by rw [List.length_drop,hn,<- hu]; omega
 refine ⟨hl,fun h => ?_,fun h1 h2 => ?_,fun h => ?_⟩
 . cases e with
   | false => rfl
   | true =>
     have ht:BadB R:=hr.tail
     have:=drop_end hr
     rw [this] at hl
     exact absurd (List.eq_nil_of_length_eq_zero (by rw [hl]; omega)) ht.1
 . subst h2
   have ht:Done R:=hr.tail
   rw [drop_end hr] at hl ⊢
   rcases ht with h | h
   . rw [h] at hl; simp at hl; omega
   . exact h
 . subst h
   have ht:BadB R:=hr.tail
   rw [drop_end hr] at hl ⊢
   exact ⟨ht.2.1,fun h => ht.2.2 ⟨h.1,h.2.1,by rw [hl]; have:=h.2.2; omega⟩⟩
structure RB (w:World) (M:MK) (D:DS) (c:Nat):Prop where
 s0:w.cell? ⟨M.g,0,none⟩ = some (.slice (some ⟨M.b,0,none⟩) D.data.length c)
 s1:w.cell? ⟨M.g,1,none⟩ = some (.bool D.off)
 cap:D.data.length <= c
 body:∀ j,j < D.data.length -> w.cell? ⟨M.b,j,none⟩ = some (.int .u8 (D.data.getD j 0))
 glt:M.g < w.heap.size
 blt:M.b < w.heap.size
theorem RB.later {w w':World} {M:MK} {D:DS} {c:Nat} (h:RB w M D c) (hb:Below w.heap.size w w'):RB w' M D c :=
 ⟨(hb.cell (p:=⟨M.g,0,none⟩) h.glt).trans h.s0,(hb.cell (p:=⟨M.g,1,none⟩) h.glt).trans h.s1,h.cap,fun j hj => (hb.cell (p:=⟨M.b,j,none⟩) h.blt).trans (h.body j hj),Nat.lt_of_lt_of_le h.glt hb.size,Nat.lt_of_lt_of_le h.blt hb.size⟩
def RelC (q:Nat) (S:List Nat) (W:World) (ll:Array Bool) (wx:World):Prop:=Chg S W wx /\ (ll.getD q false = false -> Below W.heap.size W wx)
theorem setC_false {l:Array Bool} {i j:Nat} (h:(l.setIfInBounds i true).getD j false = false):l.getD j false = false:=by
 cases e:l.getD j false with
 | false => rfl
 | true => rw [getD_set_true e] at h; cases h
theorem RelC.start {q:Nat} {S:List Nat} {W:World} {ll:Array Bool}:RelC q S W ll W.drew:=⟨Chg.of_below (Below.refl _ _).drew,fun _ => (Below.refl _ _).drew⟩
theorem RelC.same {q i:Nat} {S:List Nat} {W wx:World} {ll:Array Bool} (h:RelC q S W ll wx):RelC q S W (ll.setIfInBounds i true) wx:=⟨h.1,fun hl => h.2 (setC_false hl)⟩
theorem RelC.wr {q:Nat} {S:List Nat} {W wx w':World} {ll:Array Bool} (h:RelC q S W ll wx) (k:Chg S wx w') (hq:q < ll.size):RelC q S W (ll.setIfInBounds q true) w' :=
 ⟨h.1.trans k,fun hl => by simp [hq] at hl⟩
theorem RelC.cell {q:Nat} {S:List Nat} {W wx:World} {ll:Array Bool} (h:RelC q S W ll wx) {p:Addr} {v:Value} (hc:W.cell? p = some v) (hp:p.block ∉ S):wx.cell? p = some v :=
 (World.cell?_of_block (h.1.block p.block (World.block_lt_of_cell? W p hc) hp)).trans hc
theorem info_slz9:(Tryz.prog.info? 38).map (fun i => (i.zero,i.size,i.bytes)) = some (some (.slice none 0 0),1,24):=by kernel_rfl
theorem wpList_append_one {w:World} {ops:Array Oper} {rest:List Oper} {o:Oper} {a:Act} {Q:Exit -> Act -> World -> Prop} (hgd:o.guard = none) (s x:Operand)
 (ho:o.op = .call { callee:=.builtin .append,args:=#[s,x],argTypes:=#[51, 51] }) (base:Nat) (v y:Value) (n N:Nat) (ts:List Value) (hs:a.eval s = v) (hown:w.ownsRow base 38 1 v n ts)
 (hx:a.eval x = .slice (some ⟨N,0,none⟩) 1 1) (hN:w.heap[N]? = some (.cells #[y] 38 (0,0))) (hy1:y.oneCell' = true) (h63:n <= 1000000) (hbase:base <= w.heap.size)
 (h:∀ v' w',w'.ownsRow base 38 1 v' (n + 1) (ts ++ [y]) -> w.grownBy w' v.ownBlock -> (v'.ownBlock = v.ownBlock \/ v'.ownBlock = some w.heap.size) -> wpList Tryz.prog ops Q rest (a.put o.dst v') w'):wpList Tryz.prog ops Q (o :: rest) a w:=by
 obtain ⟨i0,hi0,hz00,hz10,hz20⟩:=info_parts info_slz9
 refine wpList_append_own_at _ hgd s x 51 ho base 38 i0 (.slice none 0 0) 1 24 Tryz.underlying51 hi0 hz00 hz10 hz20 rfl (by decide) v n ts hs hown ⟨N,0,none⟩ 1 1 [y] hx rfl
  (fun j u hu => ?_) (fun u hu => ?_) (by unfold maxLen; omega) (by omega) hbase ?_
 . rw [Addr.add_mid,Nat.zero_add,cell_row hN]
   simpa using hu
 . simp only [List.mem_cons,List.mem_nil_iff,or_false] at hu
   subst hu; exact hy1
 . intro v' w' hown' hgrow _ hblk
   exact h v' w' hown' hgrow hblk
def ROpenB (w:World) (M:MK) (a b:Nat) (cs:List (List Int)) (e:Bool) (v:Ending) (w':World):Prop :=
 (e = true /\ v = .returned (.tuple #[.pointer none,.int .i64 9])) \/
 (e = false /\ ∃ J:LK,v = .returned (.tuple #[.pointer (some ⟨J.g,0,none⟩),.int .i64 0]) /\ RL w' M J ⟨a,b,useR cs (List.range cs.length),cs.map textC,false⟩ /\ (∀ q ∈ J.bl,w.heap.size <= q) /\ (∀ q ∈ J.tx,w.heap.size <= q))
theorem own_oxB {n:Nat} {ts:List Value} {u y z:Value} {B g:Nat} {w w':World} (h:OX n ts u B y z w) (hc:Chg [g] w w') (hz:z.ownBlock ≠ some g):OX n ts u B y z w' :=
 ⟨own_chg h.own hc (fun q hq => by simp; rintro rfl; exact hz hq),h.blk,h.one⟩
def usedAtB (G:Nat) (w:World):Nat:=match w.cell? ⟨G,4,none⟩ with | some (.int _ u) => u.toNat | _ => 0
structure ROb (w wr:World) (M:MK) (a b:Nat) (cs:List (List Int)) (G i:Nat):Prop where
 rl:∃ J:LK,J.g = G /\ RL wr M J ⟨a,b,useR cs (List.range i),txtR cs (List.range i),false⟩ /\ (∀ q ∈ J.bl,w.heap.size <= q) /\ (∀ q ∈ J.tx,w.heap.size <= q)
 low:Below w.heap.size w wr
theorem bopen_walk {w:World} {M:MK} {D:DS} {C:Nat} (hd:RB w M D C) (hok:D.Ok) (a b:Nat) (hab:a + b <= D.secs) (hb1:1 <= b) (ho:D.off = false) {L R:List Int} {cs:List (List Int)} {e:Bool} (hL:L = (D.data.drop (a * 128)).take (b * 128)) (hr:Reads L cs R e) :
 Calls Tryz.prog 34 #[.pointer (some ⟨M.g,0,none⟩),.int .i64 a,.int .i64 b] w fun v w' => ROpenB w M a b cs e v w' /\ Below w.heap.size w w':=by
 have hw128:=hok.whole128
 have hmost:=hok.most
 have hn:L.length = b * 128:=by rw [hL,List.length_take,List.length_drop]; omega
 have hget:∀ j,j < b * 128 -> L.getD j 0 = D.data.getD (a * 128 + j) 0:=fun j hj => by rw [hL,getD_take' hj,getD_drop']
 have hin:InB L:=by rw [hL]; exact (hok.inb.drop _).take _
 have c0:=hd.s0
 have c1:=hd.s1
 have hcap:=hd.cap
 rw [ho] at c1
 have Hd:=lhd hd
 have Hr:=lhd hr
 have Hn:=lhd hn
 have Hget:=lhd hget
 have Hin:=lhd hin
 obtain ⟨s,hs⟩:∃ s,s = D.secs:=⟨_,rfl⟩
 have Hs:=lhd hs
 obtain ⟨N,hN⟩:∃ N,N = D.data.length:=⟨_,rfl⟩
 have HN:=lhd hN
 rw [<- hs] at hab hmost hw128
 rw [<- hN] at c0 hw128 hcap
 have h1:¬ (a:Int) < 0:=by omega
 have h2:¬ (b:Int) < 1:=by omega
 have h3:¬ (N:Int) < 128 * ((a:Int) + (b:Int)):=by omega
 have hw1:IntKind.i64.wrap ((a:Int) + (b:Int)) = (a:Int) + (b:Int):=by rw [IntKind.wrap_i64]; omega
 have hw2:IntKind.i64.wrap (128 * ((a:Int) + (b:Int))) = 128 * ((a:Int) + (b:Int)):=by rw [IntKind.wrap_i64]; omega
 clear hd hr hn hget hin hs hN hok ho hL
 go_enter Tryz.func34,Tryz.ntmps34
 go_upto_region 1 with (fail)
 go_cut [30] from 13 to 30 (fun s30 wx => wx = w /\ s30 = .bool false)
 case first =>
  go_wp2
  go_meet
  exact ⟨rfl,by congr 1; exact decide_eq_false (by omega)⟩
 case rest =>
  obtain ⟨hwc,rfl⟩:=hcut
  subst hwc
  rename World => w
  go_upto_region 3 with (fail)
  go_cut [34] from 31 to 34 (fun s34 wx => wx = w /\ s34 = .bool false)
  case first =>
   go_wp2
   go_meet
   exact ⟨rfl,rfl⟩
  case rest =>
   obtain ⟨hwc,rfl⟩:=hcut
   subst hwc
   rename World => w
   go_upto_region 6 with (fail)
   have hG0:=Go.heap_alloc_new w (.cells #[.pointer (some ⟨M.g,0,none⟩),.int .i64 a,.int .i64 b,.slice none 0 0,.int .i64 0,.bool false] 83)
   have hbG:Below w.heap.size w (w.alloc (.cells #[.pointer (some ⟨M.g,0,none⟩),.int .i64 a,.int .i64 b,.slice none 0 0,.int .i64 0,.bool false] 83)):=(Below.refl _ _).alloc (Nat.le_refl _) _
   obtain ⟨w0,hw0⟩:∃ w0,w0 = w.alloc (.cells #[.pointer (some ⟨M.g,0,none⟩),.int .i64 a,.int .i64 b,.slice none 0 0,.int .i64 0,.bool false] 83):=⟨_,rfl⟩
   obtain ⟨G,hG⟩:∃ G,G = w.heap.size:=⟨_,rfl⟩
   rw [<- hw0] at hG0 hbG ⊢
   have HM:Hid (∀ q ∈ M.bl,q < w.heap.size):=fun q hq => by
    simp [MK.bl] at hq
    rcases hq with rfl | rfl
    . exact Hd.out.glt
    . exact Hd.out.blt
   have hRO:ROb w w0 M a b cs G 0:=by
    refine ⟨⟨⟨G,.slice none 0 0,[]⟩,rfl,?_,?_,?_⟩,hbG⟩
    . exact ⟨by rw [hG]; exact hG0,World.ownsRow_nil _ _ _ _,(fun q h => by cases h),(fun i hi => absurd hi (Nat.not_lt_zero _)),(fun q h => by simp [LK.tx] at h),(fun q h => by simp [LK.tx] at h),(fun q hq hm => by simp [LK.bl,Value.ownBlock] at hq; have:=HM.out q hm; omega),(fun t ht => by simp [txtR] at ht),Nat.zero_le _,(by show a + b <= 16384; omega),Nat.le_refl _⟩
    . intro q hq; simp [LK.bl,Value.ownBlock] at hq; omega
    . intro q hq; simp [LK.tx] at hq
   have HRO:=lhd hRO
   have HG:=lhd hG
   rw [<- hG]
   clear hG0 hbG hw0 hRO hG h1 h2 h3 hw1 hw2 c0 c1
   go_loopw [10] (fun _ wr => ∃ i:Nat,i <= cs.length /\ Hid (ROb w wr M a b cs G i)) (fun _ wr => b - usedAtB G wr)
   case atStart => exact ⟨0,Nat.zero_le _,HRO.out⟩
   case round =>
    obtain ⟨i,hi,hro⟩:=hrel
    clear HRO
    obtain ⟨J,hJG,hrl,hJb,hJt⟩:=hro.out.rl
    have Hlow:=lhd hro.out.low
    have hus:=useR_range Hr.out.good i hi
    obtain ⟨u,hu⟩:∃ u,u = useR cs (List.range i):=⟨_,rfl⟩
    rw [<- hu] at hus hrl
    have Hu:=lhd hu
    have c4:=hrl.cells.2.2.2.2.1
    rw [hJG] at c4
    have hfit:=hrl.fit
    have Hrl:=lhd hrl
    have HJG:=lhd hJG
    have HJb:=lhd hJb
    have HJt:=lhd hJt
    have Hus:=lhd hus
    have Hd2:=lhd (Hd.out.later Hlow.out)
    have c0:wr.cell? ⟨M.g,0,none⟩ = some (.slice (some ⟨M.b,0,none⟩) N C):=by
     rw [HN.out]
     exact Hd2.out.s0
    have humes:usedAtB G wr = u:=by unfold usedAtB; rw [c4]; rfl
    have Humes:=lhd humes
    clear hro hrl hJG hJb hJt hus hu humes
    simp only at hfit
    by_cases hub:u < b
    . have hubI:(u:Int) < (b:Int):=by omega
      have hw3:IntKind.i64.wrap ((a:Int) + (u:Int)) = (a:Int) + (u:Int):=by rw [IntKind.wrap_i64]; omega
      have hw4:IntKind.i64.wrap (128 * ((a:Int) + (u:Int))) = 128 * ((a:Int) + (u:Int)):=by rw [IntKind.wrap_i64]; omega
      go_upto_region 7 with (fail)
      go_quiet (fail)
      have Low1:=lhd (Below.drewN (Below.refl wr.heap.size wr) nq)
      have Hrl1:=lhd (Hrl.out.later Low1.out)
      have Hd1:=lhd (Hd2.out.later Low1.out)
      obtain ⟨X,hX⟩:∃ X,X = L.drop (posC cs i):=⟨_,rfl⟩
      obtain ⟨q,hq⟩:∃ q,q = 128 * (a + u):=⟨_,rfl⟩
      obtain ⟨r,hrr⟩:∃ r,r = s * 128 - q:=⟨_,rfl⟩
      obtain ⟨rc,hrc⟩:∃ rc,rc = C - q:=⟨_,rfl⟩
      rw [<- hq,<- hrr,<- hrc]
      have hcell:∀ j,j < (b - u) * 128 -> (wr.drewN nq).cell? ⟨M.b,q + j,none⟩ = some (.int .u8 (X.getD j 0)):=fun j hj => by
       rw [Hd1.out.body _ (by rw [<- HN.out]; omega),hX,<- Hus.out,getD_drop',Hget.out _ (by omega),hq,show a * 128 + (u * 128 + j) = 128 * (a + u) + j by omega]
      have hXi:InB X:=by rw [hX]; exact Hin.out.drop _
      have k4:(wr.drewN nq).cell? ⟨G,4,none⟩ = some (.int .i64 u):=c4
      have Hlow1:=lhd (Hlow.out.trans (Low1.out.mono Hlow.out.size))
      have Hcell:=lhd hcell
      have HXi:=lhd hXi
      have HX:=lhd hX
      have Hq:=lhd hq
      have hr5:(b - u) * 128 <= r:=by omega
      have hr6:r <= 2097152:=by omega
      have hr7:r <= rc:=by omega
      have k0:=hcell 0 (by omega)
      rw [Nat.add_zero] at k0
      clear hcell hXi hX hq hrr hrc c0 c4 hw3 hw4 Low1 Hd2 Hrl
      generalize wr.drewN nq = wa at Hrl1 Hd1 Hcell k4 Hlow1 k0 ⊢
      by_cases hic:i < cs.length
      . obtain ⟨_,hst⟩:=step_good Hr.out Hn.out Hus.out hic
        rw [<- HX.out] at hst
        obtain ⟨n,hnn⟩:∃ n,n = lenB (cs.getD i []):=⟨_,rfl⟩
        obtain ⟨cc,hcc⟩:∃ cc,cc = cs.getD i []:=⟨_,rfl⟩
        rw [<- hnn,<- hcc] at hst
        have hone:=hst.one
        rw [hone] at k0
        have hmn:=hst.most
        have Hst:=lhd hst
        have Hcc:=lhd hcc
        clear hst hone hnn hcc
        go_upto_region 11 with (fail)
        go_loopw [10,11] (fun v10 v11 wx => ∃ k:Nat,1 <= k /\ k <= 5 /\ v11 = .int .i64 k /\ v10 = .int .i64 (nvB X k) /\ wx = wa) (fun _ v _ => 5 - (intOf v).toNat)
        case atStart => exact ⟨1,Nat.le_refl _,by decide,rfl,rfl,rfl⟩
        case round =>
         obtain ⟨k,hk1,hk5,rfl,rfl,rfl⟩:=hrel
         by_cases hk4:k <= 4
         . have hkI:(k:Int) <= 4:=by omega
           have hb1:=nvB_bound HXi.out k hk5
           have hnx:=nvB_next X k hk1
           have hyb:=HXi.out k
           have hck:=Hcell.out k (by omega)
           obtain ⟨y,hy⟩:∃ y,y = X.getD k 0:=⟨_,rfl⟩
           obtain ⟨v,hv⟩:∃ v,v = nvB X k:=⟨_,rfl⟩
           rw [<- hv] at hb1 hnx ⊢
           rw [<- hy] at hnx hyb hck
           have Hnx:=lhd hnx
           have hkr:k < r:=by omega
           obtain ⟨hb2,hb3⟩:=hb1
           obtain ⟨hy2,hy3⟩:=hyb
           clear hnx hy hv
           go_wp2
           exact ⟨⟨k + 1,by omega,by omega,by go_num,by rw [Hnx.out],trivial⟩,by simp [intOf] <;> omega⟩
         . obtain rfl:k = 5:=by omega
           have hkI:¬ ((5:Nat):Int) <= 4:=by omega
           rw [nvB_five HXi.out]
           clear hk1 hk5 hk4
           rw [Hst.out.len]
           have hfitI:¬ ((b:Int) - (u:Int)) < ((tk n:Nat):Int):=by have:=Hst.out.fits; omega
           have hnI:¬ (262144:Int) < (n:Int):=by omega
           have hw5:IntKind.i64.wrap ((b:Int) - (u:Int)) = (b:Int) - (u:Int):=by rw [IntKind.wrap_i64]; omega
           have hrp:0 < r:=by omega
           have hrpI:(0:Int) < (r:Int):=by omega
           have hw6:IntKind.i64.wrap ((u:Int) + ((tk n:Nat):Int)) = (u:Int) + ((tk n:Nat):Int):=by have:=Hst.out.fits; rw [IntKind.wrap_i64]; omega
           go_upto_region 14 with (fail)
           go_big_quiet ((go_at_call 71; refine Calls.quiet_of_same ((taken_any n hmn _).mono (fun e w' h => ⟨h.1,h.2.symm⟩))))
           go_upto_region 17 with (fail)
           have Low7:=lhd (Below.drewN (Below.refl wr.heap.size wr) nq)
           have Hrl7:=lhd (Hrl1.out.later Low7.out)
           have hnr:5 + n <= r:=by have:=Hst.out.fits; have:=tk_fit n; omega
           have hnrI:(5:Int) + (n:Int) <= (r:Int):=by omega
           have htl:(textC cc).length = n:=by rw [textC_len Hst.out.good]; exact Hst.out.lenC
           have hBt:Byt (wr.drewN nq) (some ⟨M.b,q + 5,none⟩) (rc - 5) (textC cc):=by
            refine ⟨by rw [htl]; omega,(fun h => by cases h),fun _ => ⟨M.b,q + 5,rfl,Nat.lt_of_lt_of_le Hd1.out.blt Low7.out.size,fun j hj => ?_⟩⟩
            rw [htl] at hj
            have hcl:=Hst.out.good.2.2
            rw [Hst.out.lenC] at hcl
            have hfi:=tk_fit n
            have hft:=Hst.out.fits
            have hkk:=Hcell.out (5 + j) (by omega)
            rw [Hst.out.get (5 + j) (by omega)] at hkk
            have htx:(textC cc).getD j 0 = cc.getD (5 + j) 0:=by
             unfold textC
             rw [getD_take' (by rw [Hst.out.lenC]; exact hj),getD_drop']
            rw [htx,Nat.add_assoc]
            exact hkk
           have HBt:=lhd hBt
           have Htl:=lhd htl
           have Hlow7:=lhd (Hlow1.out.trans (Low7.out.mono Hlow1.out.size))
           clear hBt htl k4 k0 Hcell Hrl1 Low7 Hd1
           generalize wr.drewN nq = wb at Hrl7 HBt Hlow7 ⊢
           go_upto_region 18 with (at_builtin; refine wpList_append_any rfl (.tmp 93) (.tmp 97) rfl wb.heap.size (.slice none 0 0) 0 [] rfl (World.ownsRow_nil _ _ _ _) (some ⟨M.b,q + 5,none⟩) n (rc - 5) (textC cc) (by conv => { lhs; whnf }; rw [Nat.add_sub_cancel_left]) Htl.out HBt.out (by omega) (Nat.le_refl _) ?_; intro v8 w8 hown8 hlow8; rw [List.nil_append,Nat.zero_add] at hown8; obtain ⟨A8,c8,hv8⟩:=own_nilK hown8; subst hv8; have Own8:=lhd hown8; have Low8:=lhd (hlow8 _ _ (Below.refl wb.heap.size wb) (Nat.le_refl _)); clear hown8 hlow8)
           have hJG:=HJG.out
           subst hJG
           have HY8:Hid (YX (textC cc) wb.heap.size (.slice A8 n c8) w8):=.new (by rw [Htl.out]; exact Own8.out) (by have h:=own_sl Own8.out Htl.out; exact h)
           have hl8:=Hrl7.out.later Low8.out
           have k3:=hl8.cells.2.2.2.1
           have hbN:Below w8.heap.size w8 (w8.alloc (.cells #[.slice A8 n c8] 38)):=(Below.refl _ _).alloc (Nat.le_refl _) _
           have HlN:=lhd (hl8.later hbN)
           have HNN:=lhd (Go.heap_alloc_new w8 (.cells #[.slice A8 n c8] 38))
           have HbN:=lhd hbN
           have HcntI:Hid ((txtR cs (List.range i)).length <= 1000000):=by
            show _ <= _
            have h1:=Hrl7.out.cnt
            have h2:=Hrl7.out.fit
            have h3:=Hrl7.out.end_
            simp only at h1 h2 h3
            omega
           clear hl8 hbN
           go_cut [] from 40 to 118 (fun wx => ∃ z9,OX (txtR cs (List.range i)).length J.ts J.v wb.heap.size (.slice A8 n c8) z9 wx /\ YX (textC cc) wb.heap.size (.slice A8 n c8) wx /\ Chg J.bl wb wx /\ wx.heap[J.g]? = some (.cells ((rowRL M J ⟨a,b,u,txtR cs (List.range i),false⟩).setIfInBounds 3 z9) 83 (0,0)) /\ z9.ownBlock ≠ some J.g)
           case first =>
            go_wp2_with (at_builtin; refine wpList_append_one rfl (.tmp 103) (.tmp 105) rfl 0 J.v (.slice A8 n c8) (txtR cs (List.range i)).length w8.heap.size J.ts rfl HlN.out.own rfl HNN.out rfl HcntI.out (Nat.zero_le _) ?_; intro z9 w9 hown9 hgrow9 hblk9; have hr9:w9.heap[J.g]? = some (.cells (rowRL M J ⟨a,b,u,txtR cs (List.range i),false⟩) 83 (0,0)):=(hgrow9.block _ HlN.out.glt (fun e => HlN.out.gv _ e.symm rfl)).trans HlN.out.row; have HX9:=lhd (OX.new hown9 hblk9 (HY8.out.later HbN.out) (Nat.le_trans Low8.out.size HbN.out.size)); have Hc9:=lhd (((Chg.of_below Low8.out).trans (Chg.of_below HbN.out)).trans (chg_grown hgrow9)); have HY9:=lhd ((HY8.out.later HbN.out).chg (chg_grown hgrow9) (fun q hq => by have:=(Hrl7.out.own.lt q (by simpa using hq)).2; omega)); obtain ⟨A9,q9,hz9⟩:=own_nilK hown9; subst hz9; have Hr9:=lhd hr9; have k9:w9.cell? ⟨J.g,3,none⟩ = some J.v:=cell_row hr9 3; have f9:=free_row hr9 3; clear hown9 hgrow9 hblk9 hr9)
            have hzn:=HX9.out.ne (fun e => Hrl7.out.gv _ e rfl) Hrl7.out.glt
            go_meet
            refine ⟨_,HX9.out.set hzn,HY9.out.chg ((Chg.refl [J.g] _).setCell (p:=⟨J.g,3,none⟩) (by simp) _) (fun q hq => by simp at hq; subst hq; exact Hrl7.out.glt),(Hc9.out.mono (fun q hq => .inl (by simp [LK.bl] at hq ⊢; exact .inr hq))).setCell (p:=⟨J.g,3,none⟩) (by simp [LK.bl]) _,heap_setCell_same _ _ _ _ _ _ Hr9.out,hzn⟩
           case rest =>
            obtain ⟨z9,hX,hY,hC,hR,hzn⟩:=hcut
            have HX10:=lhd hX
            have HY10:=lhd hY
            have Hc10:=lhd hC
            have Hr10:=lhd hR
            have Hzn:=lhd hzn
            have CX4:Hid (wc.cell? ⟨J.g,4,none⟩ = some (.int .i64 u)):=by show _ = _; rw [cell_row hR 4]; rfl
            have CF4:=lhd (free_row hR 4)
            have HjG:Hid (J.g < wc.heap.size):=(Array.getElem?_eq_some_iff.1 hR).1
            clear hX hY hC hR hzn k3 HlN HNN HbN HcntI Own8 Low8 HY8
            go_upto_region 19 with (fail)
            have apx:apartB [109,110,111,112,113,114,115,116,117,118,1010] = true:=by decide
            refine wp_region_any (by kernel_rfl) ?_
            change wpAny _ _ _ _ _ _ _ (World.drew _)
            refine wpAny_inv2 (fun ll aa wx => Hid (ll.size = 11 /\ RelC 10 [J.g] wc ll wx) /\ ∃ (z:Nat -> Value),Hid (aa = ⟨#[.pointer (some ⟨M.g,0,none⟩),.int .i64 (a:Nat),.int .i64 (b:Nat),undef,undef,undef,u6,u7,.pointer (some ⟨J.g,0,none⟩),.slice (some ⟨M.b,q,none⟩) r rc,.int .i64 (n:Nat),.int .i64 5,.slice A8 n c8,u13,u14,u15,u16,u17,u18,u19,u20,u21,u22,u23,u24,u25,u26,u27,u28,u29,.bool false,u31,u32,u33,.bool false,.pointer (some ⟨M.g,0,none⟩),.int .i64 (a:Nat),.int .i64 (b:Nat),.agg #[.pointer (some ⟨M.g,0,none⟩),.int .i64 (a:Nat),.int .i64 (b:Nat),.slice none 0 0,.int .i64 0,.bool false],.pointer (some ⟨J.g,0,none⟩),u40,u41,u42,u43,u44,u45,u46,u47,u48,u49,u50,u51,u52,u53,u54,u55,u56,u57,u58,u59,u60,u61,u62,u63,u64,u65,u66,u67,u68,u69,u70,u71,u72,u73,u74,u75,u76,u77,u78,u79,u80,u81,u82,u83,u84,u85,u86,u87,u88,u89,u90,u91,u92,u93,u94,u95,u96,u97,u98,u99,u100,u101,u102,u103,u104,u105,u106,u107,u108,z 109,z 110,z 111,z 112,z 113,z 114,z 115,z 116,z 117,z 118,undef],[]⟩) /\ Holding [109,110,111,112,113,114,115,116,117,118,1010] [some (.pointer (some ⟨J.g,0,none⟩)),some (.pointer (some ⟨J.g,0,none⟩)),some (.pointer (some ⟨J.g,0,none⟩)),some (.pointer (some ⟨J.g,4,none⟩)),some (.int .i64 (u:Nat)),some (.int .i64 (n:Nat)),some (.int .i64 (tk n:Nat)),some (.int .i64 ((u:Int) + (tk n:Nat))),some (.pointer (some ⟨J.g,0,none⟩)),some (.pointer (some ⟨J.g,4,none⟩)),none] ll z /\ Whn ll 10 (fun _ w => w.heap[J.g]? = some (.cells (((rowRL M J ⟨a,b,u,txtR cs (List.range i),false⟩).setIfInBounds 3 z9).setIfInBounds 4 (.int .i64 ((u:Int) + (tk n:Nat)))) 83 (0,0))) (z 1010) wx) ?_ (by kernel_rfl) ?_ ?_ _ rfl _ _ ?_
            . rintro ll aa wx ⟨hI,_⟩
              exact hI.out.1
            . rintro ll aa wx ⟨hI,z,ha,hz,hp10⟩ hall
              have hx:=lhd hI.out.2
              have e1:z 110 = .pointer (some ⟨J.g,0,none⟩):=hz 1 _ (hall 1 (by decide)) rfl
              have e2:z 111 = .pointer (some ⟨J.g,0,none⟩):=hz 2 _ (hall 2 (by decide)) rfl
              have p10:=hp10.get (hall 10 (by decide))
              clear hall hz hI hp10
              obtain rfl:=ha.out
              clear ha
              clear apx
              clear e1 e2
              have hJc:=lhd hx.out.1
              have hsec:secR cs i = tk n:=by unfold secR; rw [<- Hcc.out,Hst.out.lenC]
              have hS2:u + tk n <= b:=by have:=Hst.out.fits; omega
              have hrk:=rkept_of (w:=wb) (t:=textC cc) (y:=.slice A8 n c8) (z:=z9) Hrl7.out (fun q hq => Nat.lt_of_lt_of_le (HM.out q hq) Hlow7.out.size) (by rw [Hcc.out]; exact text_in Hin.out Hr.out hic) (by rw [Htl.out]; exact hmn) (by rw [Htl.out]; exact hS2)
               (by rw [p10,Htl.out]; simp [rowRL]) (own_oxB HX10.out hJc.out Hzn.out) (HY10.out.chg hJc.out (fun q hq => by simp at hq; subst hq; exact Hrl7.out.glt)) (Hc10.out.trans (hJc.out.mono (fun q hq => .inl (by simp at hq; subst hq; simp [LK.bl]))))
              have e1:useR cs (List.range (i + 1)) = u + tk n:=by rw [List.range_succ,useR_next,hsec,<- Hu.out]
              have e2:txtR cs (List.range (i + 1)) = txtR cs (List.range i) ++ [textC cc]:=by rw [List.range_succ,txtR_next,<- Hcc.out]
              have hrl:RL wx M ⟨J.g,z9,J.ts ++ [.slice A8 n c8]⟩ ⟨a,b,useR cs (List.range (i + 1)),txtR cs (List.range (i + 1)),false⟩:=by
               have h:=hrk.rl
               rw [Htl.out] at h
               rw [e1,e2]
               exact h
              have hme:usedAtB J.g wx = u + tk n:=by
               have h:=hrl.cells.2.2.2.2.1
               simp only [e1] at h
               unfold usedAtB
               rw [h]
               rfl
              have hnew:ROb w wx M a b cs J.g (i + 1):=⟨⟨⟨J.g,z9,J.ts ++ [.slice A8 n c8]⟩,rfl,hrl,fun q hq => (hrk.bl q hq).elim (fun h => HJb.out q h) (fun h => Nat.le_trans Hlow7.out.size h),fun q hq => (hrk.tx q hq).elim (fun h => HJt.out q h) (fun h => Nat.le_trans Hlow7.out.size h)⟩,hrk.chg.below Hlow7.out Hlow7.out.size (fun k hk => HJb.out k hk)⟩
              have Hnew:=lhd hnew
              have Hme:=lhd hme
              clear e1 e2 hrl hme hnew hrk p10
              go_wp2
              exact ⟨⟨i + 1,hic,Hnew.out⟩,by rw [Hme.out,Humes.out]; have:=tk_pos n; omega⟩
            . rintro ll aa wx i ⟨hI,z,ha,hz,hp10⟩ hcl hi hu hw
              obtain rfl:=ha.out
              have hsz:=lhd hI.out.1
              have hx:=lhd hI.out.2
              clear ha hI
              have hin:i < 11:=hi
              obtain rfl | rfl | rfl | rfl | rfl | rfl | rfl | rfl | rfl | rfl | rfl:i = 0 \/ i = 1 \/ i = 2 \/ i = 3 \/ i = 4 \/ i = 5 \/ i = 6 \/ i = 7 \/ i = 8 \/ i = 9 \/ i = 10:=by omega
              . refine wpOp_plain rfl rfl ?_
                go_simp
                exact ⟨⟨by simp [hsz.out],hx.out.same⟩,upd z 109 (.pointer (some ⟨J.g,0,none⟩)),(by unfold Hid; simp [upd]),hz.nx apx hsz.out 0,hp10.kp⟩
              . refine wpOp_plain rfl rfl ?_
                go_simp
                exact ⟨⟨by simp [hsz.out],hx.out.same⟩,upd z 110 (.pointer (some ⟨J.g,0,none⟩)),(by unfold Hid; simp [upd]),hz.nx apx hsz.out 1,hp10.kp⟩
              . have e1:z 110 = .pointer (some ⟨J.g,0,none⟩):=hz 1 _ (hw 1 (by kernel_rfl)) rfl
                refine wpOp_plain rfl rfl ?_
                go_simp
                exact ⟨⟨by simp [hsz.out],hx.out.same⟩,upd z 111 (.pointer (some ⟨J.g,0,none⟩)),(by unfold Hid; simp [upd,e1]),hz.nx apx hsz.out 2,hp10.kp⟩
              . have e2:z 111 = .pointer (some ⟨J.g,0,none⟩):=hz 2 _ (hw 2 (by kernel_rfl)) rfl
                refine wpOp_plain rfl rfl ?_
                go_simp
                exact ⟨⟨by simp [hsz.out],hx.out.same⟩,upd z 112 (.pointer (some ⟨J.g,4,none⟩)),(by unfold Hid; simp [upd,e2]),hz.nx apx hsz.out 3,hp10.kp⟩
              . have e3:z 112 = .pointer (some ⟨J.g,4,none⟩):=hz 3 _ (hw 3 (by kernel_rfl)) rfl
                have n10:ll.getD 10 false = false:=(by cases e:ll.getD 10 false with | false => rfl | true => (have h9:=hcl 10 4 e (by kernel_rfl); rw [h9] at hu; cases hu))
                have cl:=((hx.out.2 n10).cell (p:=⟨J.g,4,none⟩) HjG.out).trans CX4.out
                refine wpOp_plain rfl rfl ?_
                go_simp
                exact ⟨⟨by simp [hsz.out],hx.out.same⟩,upd z 113 (.int .i64 (u:Nat)),(by unfold Hid; simp [upd,e3]),hz.nx apx hsz.out 4,hp10.kp⟩
              . refine wpOp_plain rfl rfl ?_
                go_simp
                exact ⟨⟨by simp [hsz.out],hx.out.same⟩,upd z 114 (.int .i64 (n:Nat)),(by unfold Hid; simp [upd]),hz.nx apx hsz.out 5,hp10.kp⟩
              . have e5:z 114 = .int .i64 (n:Nat):=hz 5 _ (hw 5 (by kernel_rfl)) rfl
                refine wpOp_plain rfl rfl ?_
                go_simp
                go_at_call 71
                refine (taken_any n hmn _).mono ?_
                rintro e w' ⟨rfl,rfl⟩
                exact ⟨⟨by simp [hsz.out],hx.out.same⟩,upd z 115 (.int .i64 (tk n:Nat)),(by unfold Hid; simp [upd,e5]),hz.nx apx hsz.out 6,hp10.kp⟩
              . have e4:z 113 = .int .i64 (u:Nat):=hz 4 _ (hw 4 (by kernel_rfl)) rfl
                have e6:z 115 = .int .i64 (tk n:Nat):=hz 6 _ (hw 6 (by kernel_rfl)) rfl
                have q1:=hw6
                refine wpOp_plain rfl rfl ?_
                go_simp
                exact ⟨⟨by simp [hsz.out],hx.out.same⟩,upd z 116 (.int .i64 ((u:Int) + (tk n:Nat))),(by unfold Hid; simp [upd,e4,e6]),hz.nx apx hsz.out 7,hp10.kp⟩
              . have e0:z 109 = .pointer (some ⟨J.g,0,none⟩):=hz 0 _ (hw 0 (by kernel_rfl)) rfl
                refine wpOp_plain rfl rfl ?_
                go_simp
                exact ⟨⟨by simp [hsz.out],hx.out.same⟩,upd z 117 (.pointer (some ⟨J.g,0,none⟩)),(by unfold Hid; simp [upd,e0]),hz.nx apx hsz.out 8,hp10.kp⟩
              . have e8:z 117 = .pointer (some ⟨J.g,0,none⟩):=hz 8 _ (hw 8 (by kernel_rfl)) rfl
                refine wpOp_plain rfl rfl ?_
                go_simp
                exact ⟨⟨by simp [hsz.out],hx.out.same⟩,upd z 118 (.pointer (some ⟨J.g,4,none⟩)),(by unfold Hid; simp [upd,e8]),hz.nx apx hsz.out 9,hp10.kp⟩
              . have e7:z 116 = .int .i64 ((u:Int) + (tk n:Nat)):=hz 7 _ (hw 7 (by kernel_rfl)) rfl
                have e9:z 118 = .pointer (some ⟨J.g,4,none⟩):=hz 9 _ (hw 9 (by kernel_rfl)) rfl
                have hlo:=hx.out.2 hu
                have cl:=(hlo.cell (p:=⟨J.g,4,none⟩) HjG.out).trans CX4.out
                have hrw:=(hlo.block _ HjG.out).trans Hr10.out
                have cf:=free_row hrw 4
                have hst:(wx.setCell ⟨J.g,4,none⟩ (.int .i64 ((u:Int) + (tk n:Nat)))).heap[J.g]? = some (.cells (((rowRL M J ⟨a,b,u,txtR cs (List.range i),false⟩).setIfInBounds 3 z9).setIfInBounds 4 (.int .i64 ((u:Int) + (tk n:Nat)))) 83 (0,0)):=heap_setCell_same _ _ _ _ _ _ hrw
                refine wpOp_plain rfl rfl ?_
                go_simp
                obtain ⟨vr,hvr⟩:∃ vr,vr = undef:=⟨_,rfl⟩
                exact ⟨⟨by simp [hsz.out],hx.out.wr ((Chg.refl [J.g] wx).setCell (p:=⟨J.g,4,none⟩) (by simp) _) (by rw [hsz.out]; decide)⟩,upd z 1010 (vr),(by unfold Hid; simp [upd,e7,e9]),hz.nn apx hsz.out 10,Whn.done (hst)⟩
            . exact ⟨⟨rfl,RelC.start⟩,fun xx => (#[.pointer (some ⟨M.g,0,none⟩),.int .i64 (a:Nat),.int .i64 (b:Nat),undef,undef,undef,u6,u7,.pointer (some ⟨J.g,0,none⟩),.slice (some ⟨M.b,q,none⟩) r rc,.int .i64 (n:Nat),.int .i64 5,.slice A8 n c8,u13,u14,u15,u16,u17,u18,u19,u20,u21,u22,u23,u24,u25,u26,u27,u28,u29,.bool false,u31,u32,u33,.bool false,.pointer (some ⟨M.g,0,none⟩),.int .i64 (a:Nat),.int .i64 (b:Nat),.agg #[.pointer (some ⟨M.g,0,none⟩),.int .i64 (a:Nat),.int .i64 (b:Nat),.slice none 0 0,.int .i64 0,.bool false],.pointer (some ⟨J.g,0,none⟩),u40,u41,u42,u43,u44,u45,u46,u47,u48,u49,u50,u51,u52,u53,u54,u55,u56,u57,u58,u59,u60,u61,u62,u63,u64,u65,u66,u67,u68,u69,u70,u71,u72,u73,u74,u75,u76,u77,u78,u79,u80,u81,u82,u83,u84,u85,u86,u87,u88,u89,u90,u91,u92,u93,u94,u95,u96,u97,u98,u99,u100,u101,u102,u103,u104,u105,u106,u107,u108,u109,u110,u111,u112,u113,u114,u115,u116,u117,u118,undef]:Array Value).getD xx undef,rfl,Holding.start,Whn.none (by decide)⟩
      . obtain rfl:i = cs.length:=by omega
        obtain ⟨hXl,hE1,hE2,hE3⟩:=step_end Hr.out Hn.out Hus.out
        rw [<- HX.out] at hXl hE2 hE3
        cases e with
        | false =>
          have hz:=hE2 hub rfl
          rw [hz] at k0
          clear hE1 hE2 hE3 hz hXl
          go_upto_region 20 with (fail)
          go_wp2
          go_ret2
          exact ⟨.inr ⟨rfl,J,by rw [HJG.out]; rfl,by have h:=Hrl1.out; rw [txtR_all,Hu.out] at h; exact h,HJb.out,HJt.out⟩,Hlow1.out⟩
        | true =>
          obtain ⟨hn0,hbad⟩:=hE3 rfl
          clear hE1 hE2 hE3 hXl
          obtain ⟨x0,hx0⟩:∃ x0,x0 = X.getD 0 0:=⟨_,rfl⟩
          rw [<- hx0] at k0 hn0 hbad
          have Hbad:=lhd hbad
          have hx00:(x0 == 0) = false:=beq_eq_false_iff_ne.2 hn0
          clear hbad hn0 hx0
          go_upto_region 11 with (fail)
          go_loopw [10,11] (fun v10 v11 wx => ∃ k:Nat,1 <= k /\ k <= 5 /\ v11 = .int .i64 k /\ v10 = .int .i64 (nvB X k) /\ wx = wa) (fun _ v _ => 5 - (intOf v).toNat)
          case atStart => exact ⟨1,Nat.le_refl _,by decide,rfl,rfl,rfl⟩
          case round =>
           obtain ⟨k,hk1,hk5,rfl,rfl,rfl⟩:=hrel
           by_cases hk4:k <= 4
           . have hkI:(k:Int) <= 4:=by omega
             have hb1:=nvB_bound HXi.out k hk5
             have hnx:=nvB_next X k hk1
             have hyb:=HXi.out k
             have hck:=Hcell.out k (by omega)
             obtain ⟨y,hy⟩:∃ y,y = X.getD k 0:=⟨_,rfl⟩
             obtain ⟨v,hv⟩:∃ v,v = nvB X k:=⟨_,rfl⟩
             rw [<- hv] at hb1 hnx ⊢
             rw [<- hy] at hnx hyb hck
             have Hnx:=lhd hnx
             have hkr:k < r:=by omega
             obtain ⟨hb2,hb3⟩:=hb1
             obtain ⟨hy2,hy3⟩:=hyb
             clear hnx hy hv
             go_wp2
             exact ⟨⟨k + 1,by omega,by omega,by go_num,by rw [Hnx.out],trivial⟩,by simp [intOf] <;> omega⟩
           . obtain rfl:k = 5:=by omega
             have hkI:¬ ((5:Nat):Int) <= 4:=by omega
             rw [nvB_five HXi.out]
             clear hk1 hk5 hk4
             have hle:lenB X <= 4294967295:=by have:=nvB_bound HXi.out 5 (Nat.le_refl _); rw [nvB_five HXi.out] at this; omega
             obtain ⟨n,hnn⟩:∃ n,n = lenB X:=⟨_,rfl⟩
             have Hbad2:=Hbad.out
             rw [<- hnn] at hle Hbad2 ⊢
             clear hnn
             have hrp:0 < r:=by omega
             have hrpI:(0:Int) < (r:Int):=by omega
             have hw5:IntKind.i64.wrap ((b:Int) - (u:Int)) = (b:Int) - (u:Int):=by rw [IntKind.wrap_i64]; omega
             by_cases x1:x0 = 1
             . by_cases x2:n <= 262144
               . have hfitI:((b:Int) - (u:Int)) < ((tk n:Nat):Int):=by
                  have:¬ tk n <= b - u:=fun h => Hbad2 ⟨x1,x2,h⟩
                  omega
                 have hnI:¬ (262144:Int) < (n:Int):=by omega
                 subst x1
                 clear Hbad2 hx00
                 go_upto_region 14 with (fail)
                 go_big_quiet ((go_at_call 71; refine Calls.quiet_of_same ((taken_any n x2 _).mono (fun e w' h => ⟨h.1,h.2.symm⟩))))
                 go_wp2
                 go_ret2
                 exact ⟨.inl ⟨rfl,rfl⟩,Below.drewN Hlow1.out _⟩
               . have hnI:(262144:Int) < (n:Int):=by omega
                 subst x1
                 clear Hbad2 hx00
                 go_upto_region 14 with (fail)
                 go_big_quiet (fail)
                 go_wp2
                 go_ret2
                 exact ⟨.inl ⟨rfl,rfl⟩,Below.drewN Hlow1.out _⟩
             . have x3:(x0 == 1) = false:=beq_eq_false_iff_ne.2 x1
               have x4:(x0 != 1) = true:=by simp [bne,x3]
               have x5:decide (x0 = 1) = false:=decide_eq_false x1
               clear Hbad2
               go_upto_region 14 with (fail)
               go_big_quiet (fail)
               go_wp2
               go_ret2
               exact ⟨.inl ⟨rfl,rfl⟩,Below.drewN Hlow1.out _⟩
    . have hue:u = b:=by omega
      have hubI:¬ (u:Int) < (b:Int):=by omega
      have hic:¬ i < cs.length:=fun h => by have:=(step_good Hr.out Hn.out Hus.out h).1; omega
      obtain rfl:i = cs.length:=by omega
      obtain ⟨_,hE1,_,_⟩:=step_end Hr.out Hn.out Hus.out
      obtain rfl:e = false:=hE1 hue
      clear hE1 hic hue
      go_upto_region 20 with (fail)
      go_wp2
      go_ret2
      exact ⟨.inr ⟨rfl,J,by rw [HJG.out]; rfl,by have h:=Hrl.out; rw [txtR_all,Hu.out] at h; exact h,HJb.out,HJt.out⟩,Hlow.out⟩
end Go.Proofs.YteeghgjkjicjoaaGreatDoor.Slt
