/- Texts of ours, merged. -/
import Derived.Test.YteeghgjkjicjoaaGreatDoorC35
import Derived.Lib.AppendStr
set_option maxRecDepth 100000
set_option maxHeartbeats 16000000
namespace Go.Proofs.YteeghgjkjicjoaaGreatDoor.Slt
open Go.RowKit Dsk
theorem rl_tx {w:World} {M:MK} {J:LK} {S:LS} (h:RL w M J S):∃ A c,J.v = .slice A S.texts.length c /\ TxAt w A S.texts:=by
 have hl:=h.len
 obtain ⟨_,ho⟩:=h.own
 rcases ho with ⟨hv,h0⟩ | ⟨g,cap,cur,hv,_,hg,hn,_,hcs,ht⟩
 . exact ⟨none,0,by rw [h0]; exact hv,⟨fun i hi => by omega⟩⟩
 . refine ⟨_,cap,hv,⟨fun i hi => ?_⟩⟩
   obtain ⟨A,c,hA,hB⟩:=h.txt i hi
   refine ⟨g,0,A,c,rfl,(Array.getElem?_eq_some_iff.1 hg).1,?_,hB,(h.inb _ (by rw [List.getD_eq_getElem?_getD,List.getElem?_eq_getElem hi]; exact List.getElem_mem hi)).1⟩
   rw [Nat.zero_add,cell_row hg,<- hA,<- ht,List.getD_eq_getElem?_getD]
   have:i < cur.size:=by omega
   simp [hi,this]
def SlotsR (cs:List (List Int)) (e:Bool) (v:Ending) (w':World):Prop :=
 (e = true /\ v = .returned (.slice none 0 0)) \/ (e = false /\ ∃ A c,v = .returned (.slice A cs.length c) /\ TxAt w' A (cs.map textC))
theorem slots_of {w:World} {D:DS} (hok:D.Ok) (h9:9 <= D.secs) (g n c:Nat) (hn:D.data.length = n) (hB:Byt w (some ⟨g,0,none⟩) c D.data) {R:List Int} {cs:List (List Int)} {e:Bool} (hr:Reads ((D.data.drop (8 * 128)).take ((D.secs - 8) * 128)) cs R e) :
 Calls Tryz.prog 14 #[.slice (some ⟨g,0,none⟩) n c] w fun v w' => SlotsR cs e v w' /\ Below w.heap.size w w':=by
 have hw:=hok.whole128
 have hmost:=hok.most
 obtain ⟨s,hs⟩:∃ s,s = D.secs:=⟨_,rfl⟩
 rw [<- hs] at hw h9 hmost hr
 have e1:(n:Int) / 128 = (s:Int):=by omega
 have hq:(n:Int).tdiv 128 = (s:Int):=by rw [Int.tdiv_eq_ediv_of_nonneg (by omega)]; exact e1
 have e2:IntKind.i64.wrap (s:Int) = (s:Int):=by rw [IntKind.wrap_i64]; omega
 have e3:IntKind.i64.wrap ((s:Int) - 8) = ((s - 8:Nat):Int):=by rw [IntKind.wrap_i64]; omega
 obtain ⟨w1,hw1⟩:∃ w1,w1 = w.alloc (.cells #[.slice (some ⟨g,0,none⟩) n c,.bool false,.bool false,.int .i64 0,.int .u8 0,.int .u8 0,.int .u8 0,.int .u8 0,.int .u8 0,.int .u8 0,.int .u8 0,.int .u8 0,.int .u8 0,.int .u8 0,.int .u8 0,.int .u8 0,.int .u8 0,.int .u8 0,.int .u8 0,.int .u8 0] 41):=⟨_,rfl⟩
 have hrow:w1.heap[w.heap.size]? = some (.cells #[.slice (some ⟨g,0,none⟩) n c,.bool false,.bool false,.int .i64 0,.int .u8 0,.int .u8 0,.int .u8 0,.int .u8 0,.int .u8 0,.int .u8 0,.int .u8 0,.int .u8 0,.int .u8 0,.int .u8 0,.int .u8 0,.int .u8 0,.int .u8 0,.int .u8 0,.int .u8 0,.int .u8 0] 41 (0,0)):=by rw [hw1]; exact Go.heap_alloc_new w _
 have hb1:Below w.heap.size w w1:=by rw [hw1]; exact (Below.refl _ _).alloc (Nat.le_refl _) _
 have hlt:w.heap.size < w1.heap.size:=(Array.getElem?_eq_some_iff.1 hrow).1
 obtain ⟨g2,off2,hA,hgl,hcell⟩:=hB.2.2 (by omega)
 obtain ⟨rfl,rfl⟩:g = g2 /\ 0 = off2:=by injection hA with hA; injection hA with h1 h2 _; exact ⟨h1,h2⟩
 have hRB:RB w1 ⟨w.heap.size,g⟩ { D with off:=false } c:=by
  refine ⟨by rw [cell_row hrow]; simp [hn],by rw [cell_row hrow]; rfl,hB.1,fun j hj => ?_,hlt,Nat.lt_of_lt_of_le hgl hb1.size⟩
  have h:=hcell j hj
  rw [Nat.zero_add] at h
  exact (hb1.cell (p:=⟨g,j,none⟩) hgl).trans h
 have hok2:DS.Ok { D with off:=false }:=by
  exact ⟨hok.inb,hok.whole128,hok.one,hok.most,hok.mlen,hok.minb,hok.wh,hok.wr⟩
 have hOp:=lhd (bopen_walk hRB hok2 8 (s - 8) (by show 8 + (s - 8) <= D.secs; omega) (by omega) rfl rfl hr)
 have Hb1:=lhd hb1
 have Hw1:=lhd hw1
 clear hw hmost hs hr e1 hrow hb1 hlt hA hcell hRB hok2 hB hok hw1
 cases e with
 | true =>
   go_enter Tryz.func14,Tryz.ntmps14
   go_wp2_with (go_at_call 34; rw [<- Hw1.out]; refine hOp.out.mono ?_; rintro e' w2 ⟨ho,low⟩; have Low:=lhd low; rcases ho with ⟨_,rfl⟩ | ⟨h,_⟩; case inr => cases h)
   go_ret
   exact ⟨.inl ⟨rfl,rfl⟩,Hb1.out.trans (Low.out.mono Hb1.out.size)⟩
 | false =>
   go_enter Tryz.func14,Tryz.ntmps14
   go_wp2_with (go_at_call 34; rw [<- Hw1.out]; refine hOp.out.mono ?_; rintro e' w2 ⟨ho,low⟩; have Low:=lhd low; rcases ho with ⟨h,_⟩ | ⟨_,J,rfl,hrl,_⟩; (case inl => cases h); obtain ⟨A,cc,hv,htx⟩:=rl_tx hrl; have k3:=hrl.cells.2.2.2.1; rw [hv] at k3; have Htx:=lhd htx; clear hrl htx hv low)
   go_ret
   refine ⟨.inr ⟨rfl,A,cc,by simp,?_⟩,Hb1.out.trans (Low.out.mono Hb1.out.size)⟩
   exact Htx.out
end Go.Proofs.YteeghgjkjicjoaaGreatDoor.Slt
namespace Go.Proofs.YteeghgjkjicjoaaGreatDoor.Cod
open Go.RowKit Str
def rtextL (s:ByteArray):List Int:=encN s.size ++ bOf s
def rlabelL (lv:Int) (cp:Nat):List Int:=encN (uN lv) ++ compL cp
theorem own_one (w:World) (x:Int):NewB w.heap.size [x] (.slice (some ⟨w.heap.size,0,none⟩) 1 1) (w.alloc (.cells #[.int .u8 x] 5)) :=
 ⟨rfl,.inr ⟨_,1,#[.int .u8 x],rfl,Nat.le_refl _,Go.heap_alloc_new w _,Nat.le_refl _,by unfold maxLen; decide,rfl,rfl⟩⟩
theorem encF_more {k n:Nat} (h:¬ n < 128):encF (k + 1) n = ((128 + n % 128:Nat):Int) :: encF k (n / 128):=by
 conv => lhs; unfold encF
 rw [if_neg h]
theorem rnum_any (k:Nat):∀ (n:Nat) (_:n < 128 ^ (k + 1)) (_:k <= 9) (_:n < 18446744073709551616) (w:World),
 Calls Tryz.prog 83 #[.int .u64 (n:Nat)] w fun e w' => ∃ v,e = .returned v /\ NewB w.heap.size (encF k n) v w' /\ Below w.heap.size w w':=by
 induction k with
 | zero =>
   intro n hn _ _ w
   have hn':(n:Int) < 128:=by simp at hn; omega
   have ho:=lhd (own_one w n)
   clear hn
   go_enter Tryz.func83,Tryz.ntmps83
   go_wp2
   go_ret
   exact ⟨_,rfl,ho.out,(Below.refl _ _).alloc (Nat.le_refl _) _⟩
 | succ k ih =>
   intro n hn hk h64 w
   by_cases hlt:n < 128
   . have hn':(n:Int) < 128:=by omega
     have ho:=lhd (own_one w n)
     have he:Hid (encF (k + 1) n = [(n:Int)]):=by show _ = _; unfold encF; rw [if_pos hlt]
     clear hn hlt ih h64
     go_enter Tryz.func83,Tryz.ntmps83
     go_wp2
     go_ret
     exact ⟨_,rfl,by rw [he.out]; exact ho.out,(Below.refl _ _).alloc (Nat.le_refl _) _⟩
   . have hn':¬ (n:Int) < 128:=by omega
     have ih2:Hid (∀ W,Calls Tryz.prog 83 #[.int .u64 ((n:Int) / 128)] W fun e w' => ∃ v,e = .returned v /\ NewB W.heap.size (encF k (n / 128)) v w' /\ Below W.heap.size W w'):=fun W => by
      have h:=ih (n / 128) (pow_lt hn) (by omega) (by omega) W
      rw [Int.natCast_ediv] at h
      exact h
     have he:=lhd (encF_more (k:=k) hlt)
     have hwq:IntKind.u64.wrap ((n:Int) / 128) = (n:Int) / 128:=IntWalk.u64_in _ (by omega)
     have hr0:0 <= (n:Int) % 128:=by omega
     have hr1:(n:Int) % 128 < 128:=by omega
     obtain ⟨x,hx⟩:∃ x,x = 128 + (n:Int) % 128:=⟨_,rfl⟩
     have hel:=lhd (encF_le k (n / 128))
     have hone:=lhd (byt_rowT (Go.heap_alloc_new w (.cells (u8s [x]) 5)) (n:=1) rfl)
     have Hx:=lhd hx
     rw [hx] at hone
     clear hn hlt ih hx h64
     go_enter Tryz.func83,Tryz.ntmps83
     go_wp2_with (first
      | (go_at_call 83; refine (ih2.out _).mono ?_; rintro e w3 ⟨v3,rfl,own3,low3⟩; obtain ⟨A3,c3,rfl,b3⟩:=own3.sl; have Own2:=lhd (own_keep Own1.out low3); have B3:=lhd b3; have Low3:=lhd (Low1.out.trans (low3.mono Low1.out.size)); clear own3 low3 b3)
      | (at_builtin; refine wpList_append_any rfl (.tmp 16) (.tmp 19) rfl w.heap.size v1 1 [128 + (n:Int) % 128] rfl Own2.out A3 (encF k (n / 128)).length c3 (encF k (n / 128)) rfl rfl B3.out (by have:=hel.out; omega) Low3.out.size ?_; intro v4 w4 own4 hlow4; have Own4:=lhd own4; have Low4:=lhd (hlow4 _ _ Low3.out (Nat.le_refl _)); clear own4 hlow4)
      | (at_builtin; refine wpList_append_any rfl (.tmp 9) (.tmp 14) rfl w.heap.size (.slice none 0 0) 0 [] rfl (World.ownsRow_nil _ _ _ _) (some ⟨w.heap.size,0,none⟩) 1 1 [128 + (n:Int) % 128] rfl rfl hone.out (by omega) (by rw [World.size_alloc]; omega) ?_; intro v1 w1 own1 hlow1; have Own1:=lhd own1; have Low1:=lhd (hlow1 _ _ ((Below.refl w.heap.size w).alloc (Nat.le_refl _) _) (Nat.le_refl _)); clear own1 hlow1))
     go_ret
     refine ⟨_,rfl,?_,Low4.out⟩
     have h:=Own4.out
     unfold NewB
     rw [he.out,List.length_cons,Nat.add_comm,show ((128 + n % 128:Nat):Int) = 128 + (n:Int) % 128 by omega]
     exact h
theorem rnum (n:Nat) (hn:n < 18446744073709551616) (w:World) :
 Calls Tryz.prog 83 #[.int .u64 (n:Nat)] w fun e w' => ∃ v,e = .returned v /\ NewB w.heap.size (encN n) v w' /\ Below w.heap.size w w':=rnum_any 9 n (lt70 hn) (by decide) hn w
theorem strCells_vals (s:ByteArray):Lib.strCells s = vals (bOf s):=by simp [Lib.strCells,vals,bOf]
theorem wp_app {o:Oper} {a:Act} {K:Act -> World -> Prop} {Q:Exit -> Act -> World -> Prop} {w:World} (s x:Operand)
 (ho:o.op = .call { callee:=.builtin .append,args:=#[s,x],argTypes:=#[38, 38] }) (base:Nat) (v:Value) (n:Nat) (L:List Int) (hs:a.eval s = v) (hown:w.ownsRow base 5 1 v n (vals L))
 (vx:Value) (M:List Int) (hx:a.eval x = vx) (hB:SlB M vx w) (hM:0 < M.length) (h63:n + M.length <= 100000) (hbase:base <= w.heap.size)
 (h:∀ v' w',w'.ownsRow base 5 1 v' (n + M.length) (vals (L ++ M)) -> w.grownBy w' v.ownBlock -> K (a.put o.dst v') w'):o.wp Tryz.prog a w K Q:=by
 obtain ⟨i0,hi0,hz00,hz10,hz20⟩:=info_parts info8z
 obtain ⟨A,c,rfl,b⟩:=hB
 obtain ⟨g,off,rfl,hg,hc⟩:=b.2.2 hM
 refine wp_append_own _ s x 38 ho base 5 i0 (.int .u8 0) 1 1 Tryz.underlying38 hi0 hz00 hz10 hz20 rfl (by decide) v n (vals L) hs hown ⟨g,off,none⟩ M.length c (vals M) hx (by rw [vals_length]; omega)
  (b.cells (fun _ _ => rfl) _ rfl) (vals_one _) (by unfold maxLen; omega) (by omega) hbase ?_
 intro v' w' hown' hgrow _
 rw [vals_app] at hown'
 exact h v' w' hown' hgrow
theorem rtext (s:ByteArray) (hs:s.size <= 5000) (w:World) :
 Calls Tryz.prog 50 #[.string s] w fun e w' => ∃ v,e = .returned v /\ NewB w.heap.size (rtextL s) v w' /\ Below w.heap.size w w':=by
 obtain ⟨i0,hi0,hz00,hz10,hz20⟩:=info_parts info8z
 have hi:=lhd hi0
 have hz0:=lhd hz00
 have hz1:=lhd hz10
 have hz2:=lhd hz20
 have hsI:(s.size:Int) <= 5000:=by omega
 have hel:=lhd (encN_le s.size)
 clear hi0 hz00 hz10 hz20
 go_enter Tryz.func50,Tryz.ntmps50
 go_wp2_with (first
  | (go_at_call 83; refine (rnum s.size (by omega) w).mono ?_; rintro e w1 ⟨v1,rfl,own1,low1⟩; have Own1:=lhd own1; have Low1:=lhd low1; clear own1 low1)
  | (at_builtin; refine Lib.wpList_append_own_string _ rfl (.tmp 6) (.tmp 7) 38 9 rfl w.heap.size 5 i0 Tryz.underlying38 Tryz.underlying9 hi.out hz0.out hz1.out hz2.out v1 (encN s.size).length (vals (encN s.size)) rfl Own1.out s rfl (by unfold maxLen; have:=hel.out; omega) (by have:=hel.out; omega) Low1.out.size ?_; intro v2 w2 own2 hgrow _; have Own2:=lhd own2; have Low2:=lhd (Low1.out.grown hgrow Low1.out.size (fun k hk => (Own1.out.lt k hk).1)); clear own2 hgrow))
 go_ret
 refine ⟨_,rfl,?_,Low2.out⟩
 have h:=Own2.out
 rw [strCells_vals,vals_app] at h
 unfold NewB rtextL
 rw [List.length_append,bOf_length]
 exact h
theorem compL_drop (c k:Nat) (h:k < 8):(compL c).drop (7 - k) = ((c / 256 ^ k % 256:Nat):Int) :: (compL c).drop (8 - k):=by
 obtain rfl | rfl | rfl | rfl | rfl | rfl | rfl | rfl:k = 0 \/ k = 1 \/ k = 2 \/ k = 3 \/ k = 4 \/ k = 5 \/ k = 6 \/ k = 7:=by omega
 all_goals simp [compL]
theorem rlabel (lv:Int) (c:Nat) (hc:c < 18446744073709551616) (w:World) :
 Calls Tryz.prog 51 #[.agg #[.int .i64 lv,.int .u64 (c:Nat)]] w fun e w' => ∃ v,e = .returned v /\ NewB w.heap.size (rlabelL lv c) v w' /\ Below w.heap.size w w':=by
 have hrow:=Go.heap_alloc_new w (.cells #[.int .i64 lv,.int .u64 (c:Nat)] 27)
 have d1:=cell_row hrow 1
 simp only [List.getElem?_toArray,List.getElem?_cons_zero,List.getElem?_cons_succ] at d1
 have Hrow:=lhd hrow
 have hlow:=lhd ((Below.refl w.heap.size w).alloc (Nat.le_refl _) (.cells #[.int .i64 lv,.int .u64 (c:Nat)] 27))
 have HC:=lhd hc
 clear hrow hc
 go_enter Tryz.func51,Tryz.ntmps51
 go_wp2
 clear d1
 go_loopw [3,4,5] (fun v x i wr => ∃ k m:Nat,k <= 8 /\ i = .int .i64 (k:Nat) /\ x = .int .u64 (m:Nat) /\ Hid (m = c / 256 ^ k) /\ Hid (wr.ownsRow (w.heap.size + 1) 5 1 v k (vals ((compL c).drop (8 - k)))) /\ Hid (Below w.heap.size w wr) /\ Hid (wr.heap[w.heap.size]? = some (.cells #[.int .i64 lv,.int .u64 (c:Nat)] 27 (0,0)))) (fun _ _ i _ => 8 - (intOf i).toNat)
 case atStart => exact ⟨0,c,by omega,rfl,rfl,by show _ = _; simp,World.ownsRow_nil _ _ _ _,hlow.out,Hrow.out⟩
 case round =>
  obtain ⟨k,m,hk,rfl,rfl,hm,own,low,row⟩:=hrel
  by_cases hlt:k < 8
  . have hlt':(k:Int) < 8:=by omega
    have hm6:m < 18446744073709551616:=by rw [hm.out]; exact Nat.lt_of_le_of_lt (Nat.div_le_self _ _) HC.out
    have hwq:IntKind.u64.wrap ((m:Int) / 256) = (m:Int) / 256:=IntWalk.u64_in _ (by omega)
    have hr0:0 <= (m:Int) % 256:=by omega
    have hr1:(m:Int) % 256 < 256:=by omega
    have hdr:=compL_drop c k hlt
    rw [<- hm.out] at hdr
    have Hdr:=lhd hdr
    have hsz:=low.out.size
    have hg:w.heap.size < wr.heap.size:=(Array.getElem?_eq_some_iff.1 row.out).1
    have hone:=lhd (byt_rowT (Go.heap_alloc_new wr (.cells (u8s [(m:Int) % 256]) 5)) (n:=1) rfl)
    obtain ⟨A3,c3,hv3,hl3,b3⟩:=own_byt own.out
    have B3:=lhd b3
    have Hl3:=lhd hl3
    subst hv3
    have Hm6:=lhd hm6
    clear hm6 hdr b3 hl3
    go_wp2_with (first
     | (at_builtin; refine wpList_append_any rfl (.tmp 19) (.tmp 20) rfl wr.heap.size v1 1 [(m:Int) % 256] rfl Own1.out A3 k c3 ((compL c).drop (8 - k)) rfl Hl3.out (B3.out.below Low1.out (Nat.le_refl _)) (by omega) Low1.out.size ?_; intro v2 w2 own2 hlow2; have Own2:=lhd own2; have Low2:=lhd (hlow2 _ _ Low1.out (Nat.le_refl _)); clear own2 hlow2)
     | (at_builtin; refine wpList_append_any rfl (.tmp 13) (.tmp 17) rfl wr.heap.size (.slice none 0 0) 0 [] rfl (World.ownsRow_nil _ _ _ _) (some ⟨wr.heap.size,0,none⟩) 1 1 [(m:Int) % 256] rfl rfl hone.out (by omega) (by rw [World.size_alloc]; omega) ?_; intro v1 w1 own1 hlow1; have Own1:=lhd own1; have Low1:=lhd (hlow1 _ _ ((Below.refl wr.heap.size wr).alloc (Nat.le_refl _) _) (Nat.le_refl _)); clear own1 hlow1))
    go_roundw
    case rel =>
     refine ⟨k + 1,m / 256,by omega,by go_num,by simp,?_,?_,low.out.trans (Low2.out.mono hsz),(Low2.out.block _ hg).trans row.out⟩
     . show _ = _
       rw [hm.out,Nat.div_div_eq_div_mul,<- Nat.pow_succ]
     . have h:=own_base Own2.out (B':=w.heap.size + 1) (by omega)
       show World.ownsRow _ _ _ _ _ _ _
       rw [show 8 - (k + 1) = 7 - k by omega,Hdr.out,Nat.add_comm k 1,show ((m % 256:Nat):Int) = (m:Int) % 256 by omega]
       exact h
    case measure => simp [intOf]; omega
  . have hk8:k = 8:=by omega
    subst hk8
    have hlt':¬ (8:Int) < 8:=by omega
    have d0:=cell_row row.out 0
    simp only [List.getElem?_toArray,List.getElem?_cons_zero] at d0
    have hwr:IntKind.u64.wrap lv = (uN lv:Nat):=wrap_uN lv
    obtain ⟨A3,c3,hv3,hl3,b3⟩:=own_byt own.out
    have B3:=lhd b3
    subst hv3
    have hel:=lhd (encN_le (uN lv))
    have hsz:=low.out.size
    clear hlt b3 hl3 hm
    go_wp2_with (first
     | (go_at_call 83; refine (rnum (uN lv) (uN_lt lv) wr).mono ?_; rintro e w1 ⟨v1,rfl,own1,low1⟩; have Own1:=lhd own1; have Low1:=lhd low1; clear own1 low1)
     | (at_builtin; refine wpList_append_any rfl (.tmp 27) (.tmp 28) rfl wr.heap.size v1 (encN (uN lv)).length (encN (uN lv)) rfl Own1.out A3 8 c3 (compL c) rfl rfl (B3.out.below Low1.out (Nat.le_refl _)) (by have:=hel.out; omega) Low1.out.size ?_; intro v2 w2 own2 hlow2; have Own2:=lhd own2; have Low2:=lhd (hlow2 _ _ Low1.out (Nat.le_refl _)); clear own2 hlow2))
    go_ret
    refine ⟨_,rfl,?_,low.out.trans (Low2.out.mono hsz)⟩
    have h:=own_base Own2.out hsz
    unfold NewB rlabelL
    rw [List.length_append,compL_length]
    exact h
end Go.Proofs.YteeghgjkjicjoaaGreatDoor.Cod
namespace Go.Proofs.YteeghgjkjicjoaaGreatDoor.Sgm
open Go.RowKit Str Cod
theorem ctx_eq {s:ByteArray} {lv:Int} {cp:Nat}:rtextL s ++ rlabelL lv cp = ctxL s lv cp:=by simp [rtextL,rlabelL,ctxL]
theorem rcontext (s:ByteArray) (lv:Int) (cp:Nat) (hs:s.size <= 100) (hcp:cp < 18446744073709551616) (w:World):Calls Tryz.prog 21 #[.string s,.agg #[.int .i64 lv,.int .u64 (cp:Nat)]] w fun e w' => ∃ v,e = .returned v /\ NewB w.heap.size (ctxL s lv cp) v w' /\ Below w.heap.size w w':=by
 have Hs:Hid (s.size <= 100):=hs
 have Hcp:Hid (cp < 18446744073709551616):=hcp
 have hl:Below w.heap.size w (w.alloc (.cells #[.int .i64 lv,.int .u64 (cp:Nat)] 27)):=(Below.refl _ _).alloc (Nat.le_refl _) _
 have Hl:=lhd hl
 have HL0:=lhd (Go.heap_alloc_new w (.cells #[.int .i64 lv,.int .u64 (cp:Nat)] 27))
 have HsL:=lhd info_lab
 have HTp:Hid (0 < (rlabelL lv cp).length):=by show _ < _; unfold rlabelL; rw [List.length_append,compL_length]; omega
 have HTl:Hid ((rtextL s).length + (rlabelL lv cp).length <= 100000):=by
  show _ <= _
  have:=ctxL_len hs lv cp
  rw [<- ctx_eq,List.length_append] at this
  omega
 clear hs hcp hl
 go_enter Tryz.func21,Tryz.ntmps21
 go_upto_region 1 with (fail)
 generalize w.alloc _ = w1 at Hl HL0 ⊢
 have apx:apartB [5,6,7,8,9,4] = true:=by decide
 refine wp_region_any (by kernel_rfl) ?_
 change wpAny _ _ _ _ _ _ _ (World.drew _)
 refine wpAny_inv2 (fun ll aa wx => Hid (ll.size = 6 /\ Below w1.heap.size w1 wx) /\ ∃ (z:Nat -> Value),Hid (aa = ⟨#[.string s,.agg #[.int .i64 lv,.int .u64 (cp:Nat)],undef,.pointer (some ⟨w.heap.size,0,none⟩),z 4,z 5,z 6,z 7,z 8,z 9],[]⟩) /\ Holding [5,6,7,8,9,4] [some (.string s),none,some (.agg #[.int .i64 lv,.int .u64 (cp:Nat)]),none,none,none] ll z /\ Whu ll 1 4 (NewB w1.heap.size (rtextL s)) (z 6) wx /\ Whu ll 3 4 (SlB (rlabelL lv cp)) (z 8) wx /\ Whn ll 4 (NewB w1.heap.size (rtextL s ++ rlabelL lv cp)) (z 9) wx /\ Whn ll 5 (NewB w1.heap.size (rtextL s ++ rlabelL lv cp)) (z 4) wx) ?_ (by kernel_rfl) ?_ ?_ _ rfl _ _ ?_
 . rintro ll aa wx ⟨hI,_⟩
   exact hI.out.1
 . rintro ll aa wx ⟨hI,z,ha,hz,hp1,hp3,hp4,hp5⟩ hall
   have hx:=lhd hI.out.2
   have p4:=hp4.get (hall 4 (by decide))
   have p5:=hp5.get (hall 5 (by decide))
   clear hall hz hI hp1 hp3 hp4 hp5
   obtain rfl:=ha.out
   clear ha
   clear apx
   have HX:=lhd hx.out
   have P5:=lhd p5
   clear hx p4 p5
   go_wp2
   go_ret
   exact ⟨_,rfl,by rw [<- ctx_eq]; exact P5.out.base Hl.out.size,Hl.out.trans (HX.out.mono Hl.out.size)⟩
 . rintro ll aa wx i ⟨hI,z,ha,hz,hp1,hp3,hp4,hp5⟩ hcl hi hu hw
   obtain rfl:=ha.out
   have hsz:=lhd hI.out.1
   have hx:=lhd hI.out.2
   clear ha hI
   have hin:i < 6:=hi
   obtain rfl | rfl | rfl | rfl | rfl | rfl:i = 0 \/ i = 1 \/ i = 2 \/ i = 3 \/ i = 4 \/ i = 5:=by omega
   . refine wpOp_plain rfl rfl ?_
     go_simp
     exact ⟨⟨by simp [hsz.out],hx.out⟩,upd z 5 (.string s),(by unfold Hid; simp [upd]),hz.nx apx hsz.out 0,hp1.kp,hp3.kp,hp4.kp,hp5.kp⟩
   . have e0:z 5 = .string s:=hz 0 _ (hw 0 (by kernel_rfl)) rfl
     refine wpOp_plain rfl rfl ?_
     go_simp
     go_at_call 50
     refine (rtext s (Nat.le_trans Hs.out (by decide)) wx).mono ?_
     rintro e w8 ⟨vr,rfl,ho,low⟩
     exact ⟨⟨by simp [hsz.out],hx.out.trans (low.mono hx.out.size)⟩,upd z 6 (vr),(by unfold Hid; simp [upd,e0]),hz.nn apx hsz.out 1,Whu.done (NewB.base ho hx.out.size),hp3.kp.map (fun h => h.later low),hp4.kp.map (fun h => h.later low),hp5.kp.map (fun h => h.later low)⟩
   . have cl:=(hx.out.block _ (Array.getElem?_eq_some_iff.1 HL0.out).1).trans HL0.out
     refine wpOp_plain rfl rfl (wp_load_row 27 (.tmp 3) rfl (w.heap.size) rfl 27 #[.int .i64 lv,.int .u64 (cp:Nat)] (0,0) _ cl Tryz.underlying27 rfl HsL.out ?_)
     go_simp
     exact ⟨⟨by simp [hsz.out],hx.out⟩,upd z 7 (.agg #[.int .i64 lv,.int .u64 (cp:Nat)]),(by unfold Hid; simp [upd]),hz.nx apx hsz.out 2,hp1.kp,hp3.kp,hp4.kp,hp5.kp⟩
   . have e2:z 7 = .agg #[.int .i64 lv,.int .u64 (cp:Nat)]:=hz 2 _ (hw 2 (by kernel_rfl)) rfl
     refine wpOp_plain rfl rfl ?_
     go_simp
     go_at_call 51
     refine (rlabel lv cp Hcp.out wx).mono ?_
     rintro e w8 ⟨vr,rfl,ho,low⟩
     exact ⟨⟨by simp [hsz.out],hx.out.trans (low.mono hx.out.size)⟩,upd z 8 (vr),(by unfold Hid; simp [upd,e2]),hz.nn apx hsz.out 3,hp1.kp.map (fun h => h.later low),Whu.done (NewB.sl ho),hp4.kp.map (fun h => h.later low),hp5.kp.map (fun h => h.later low)⟩
   . have p1:=hp1.get (hw 1 (by kernel_rfl)) hu
     have p3:=hp3.get (hw 3 (by kernel_rfl)) hu
     refine wpOp_plain rfl rfl (wp_app (.tmp 6) (.tmp 8) rfl w1.heap.size (z 6) (rtextL s).length (rtextL s) rfl p1 (z 8) (rlabelL lv cp) rfl p3 HTp.out HTl.out hx.out.size ?_)
     intro vr w' own gr
     have low2:=lhd (hx.out.grown gr hx.out.size (fun k hk => (p1.lt k hk).1))
     go_simp
     exact ⟨⟨by simp [hsz.out],low2.out⟩,upd z 9 (vr),(by unfold Hid; simp [upd]),hz.nn apx hsz.out 4,Whu.past (by rw [hsz.out]; decide),Whu.past (by rw [hsz.out]; decide),Whn.done (by have h9:=own; rw [<- List.length_append] at h9; exact h9),Whn.never (by decide) (fun hl => hcl 5 4 hl (by kernel_rfl)) hu⟩
   . have p4:=hp4.get (hw 4 (by kernel_rfl))
     refine wpOp_plain rfl rfl ?_
     go_simp
     exact ⟨⟨by simp [hsz.out],hx.out⟩,upd z 4 (z 9),(by unfold Hid; simp [upd]),hz.nn apx hsz.out 5,hp1.kp,hp3.kp,hp4.kp,Whn.done (p4)⟩
 . exact ⟨⟨rfl,(Below.refl _ _).drew⟩,fun xx => (#[.string s,.agg #[.int .i64 lv,.int .u64 (cp:Nat)],undef,.pointer (some ⟨w.heap.size,0,none⟩),.slice none 0 0,undef,undef,undef,undef,undef]:Array Value).getD xx undef,rfl,Holding.start,Whu.none (by decide),Whu.none (by decide),Whn.none (by decide),Whn.none (by decide)⟩
end Go.Proofs.YteeghgjkjicjoaaGreatDoor.Sgm
namespace Go.Proofs.YteeghgjkjicjoaaGreatDoor.Sgm
open Go.RowKit Dsk Slt Epo
def kSeven:List Int:=7 :: List.replicate 31 0
theorem kSeven_in:InB kSeven:=inB_of (by decide)
theorem key_lit7:Value.agg (u8s kSeven) = .agg #[.int .u8 7,.int .u8 0,.int .u8 0,.int .u8 0,.int .u8 0,.int .u8 0,.int .u8 0,.int .u8 0,.int .u8 0,.int .u8 0,.int .u8 0,.int .u8 0,.int .u8 0,.int .u8 0,.int .u8 0,.int .u8 0,.int .u8 0,.int .u8 0,.int .u8 0,.int .u8 0,.int .u8 0,.int .u8 0,.int .u8 0,.int .u8 0,.int .u8 0,.int .u8 0,.int .u8 0,.int .u8 0,.int .u8 0,.int .u8 0,.int .u8 0,.int .u8 0]:=rfl
end Go.Proofs.YteeghgjkjicjoaaGreatDoor.Sgm
