import Derived.Test.YteeghgjkjicjoaaGreatDoorC36
import Derived.Test.YteeghgjkjicjoaaGreatDoorC37
set_option maxRecDepth 100000
set_option maxHeartbeats 16000000
namespace Go.Proofs.YteeghgjkjicjoaaGreatDoor.Slt
open Go.RowKit Dsk
structure TxN (w:World) (B:Nat) (A:Option Addr) (L:List (List Int)):Prop where
 at_:∀ i,i < L.length -> ∃ g off D c,A = some ⟨g,off,none⟩ /\ B <= g /\ g < w.heap.size /\ w.cell? ⟨g,off + i,none⟩ = some (.slice D (L.getD i []).length c) /\ Byt w D c (L.getD i []) /\ (∀ a,D = some a -> B <= a.block) /\ InB (L.getD i [])
theorem TxN.tx {w:World} {B:Nat} {A:Option Addr} {L:List (List Int)} (h:TxN w B A L):TxAt w A L:=⟨fun i hi => by
 obtain ⟨g,off,D,c,e,_,hg,hc,hB,_,hin⟩:=h.at_ i hi
 exact ⟨g,off,D,c,e,hg,hc,hB,hin⟩⟩
theorem TxN.chg {w w':World} {X:List Nat} {B:Nat} {A:Option Addr} {L:List (List Int)} (h:TxN w B A L) (hc:Chg X w w') (hX:∀ q ∈ X,q < B):TxN w' B A L:=⟨fun i hi => by
 obtain ⟨g,off,D,c,e,hg0,hg,hcell,hB,hD,hin⟩:=h.at_ i hi
 refine ⟨g,off,D,c,e,hg0,Nat.lt_of_lt_of_le hg hc.size,(World.cell?_of_block (hc.block _ hg (fun hm => by have:=hX g hm; omega))).trans hcell,hB.chg hc (fun a ha hm => by have:=hX _ hm; have:=hD a ha; omega),hD,hin⟩⟩
theorem rl_txN {w:World} {M:MK} {J:LK} {S:LS} (h:RL w M J S) {B:Nat} (hb:∀ q ∈ J.bl,B <= q) (ht:∀ q ∈ J.tx,B <= q):∃ A c,J.v = .slice A S.texts.length c /\ TxN w B A S.texts:=by
 have hl:=h.len
 have hbv:∀ q,J.v.ownBlock = some q -> B <= q:=fun q hq => hb q (by simp [LK.bl,hq])
 obtain ⟨_,ho⟩:=h.own
 rcases ho with ⟨hv,h0⟩ | ⟨g,cap,cur,hv,_,hg,hn,_,hcs,htk⟩
 . exact ⟨none,0,by rw [h0]; exact hv,⟨fun i hi => by omega⟩⟩
 . refine ⟨_,cap,hv,⟨fun i hi => ?_⟩⟩
   obtain ⟨A,c,hA,hB⟩:=h.txt i hi
   refine ⟨g,0,A,c,rfl,hbv g (by rw [hv]; rfl),(Array.getElem?_eq_some_iff.1 hg).1,?_,hB,fun a ha => ht _ (mem_tx (by rw [hA,ha]) (by rw [hl]; exact hi)),(h.inb _ (by rw [List.getD_eq_getElem?_getD,List.getElem?_eq_getElem hi]; exact List.getElem_mem hi)).1⟩
   rw [Nat.zero_add,cell_row hg,<- hA,<- htk,List.getD_eq_getElem?_getD]
   have:i < cur.size:=by omega
   simp [hi,this]
def SlotsN (B:Nat) (cs:List (List Int)) (e:Bool) (v:Ending) (w':World):Prop :=
 (e = true /\ v = .returned (.slice none 0 0)) \/ (e = false /\ ∃ A c,v = .returned (.slice A cs.length c) /\ TxN w' B A (cs.map textC))
theorem slots_of2 {w:World} {D:DS} (hok:D.Ok) (h9:9 <= D.secs) (g n c:Nat) (hn:D.data.length = n) (hB:Byt w (some ⟨g,0,none⟩) c D.data) {R:List Int} {cs:List (List Int)} {e:Bool} (hr:Reads ((D.data.drop (8 * 128)).take ((D.secs - 8) * 128)) cs R e) :
 Calls Tryz.prog 14 #[.slice (some ⟨g,0,none⟩) n c] w fun v w' => SlotsN w.heap.size cs e v w' /\ Below w.heap.size w w':=by
 have hw:=hok.whole128
 have hmost:=hok.most
 obtain ⟨s,hs⟩:∃ s,s = D.secs:=⟨_,rfl⟩
 rw [<- hs] at hw h9 hmost hr
 have e1:(n:Int) / 128 = (s:Int):=by omega
 have hq:(n:Int).tdiv 128 = (s:Int):=by rw [Int.tdiv_eq_ediv_of_nonneg (by omega)]; exact e1
 have e2:IntKind.i64.wrap (s:Int) = (s:Int):=by rw [IntKind.wrap_i64]; omega
 have e3:IntKind.i64.wrap ((s:Int) - 8) = ((s - 8:Nat):Int):=by rw [IntKind.wrap_i64]; omega
 obtain ⟨w1,hw1⟩:∃ w1,w1 = w.alloc (.cells #[.slice (some ⟨g,0,none⟩) n c,.bool false,.bool false,.int .i64 0,.int .u8 0,.int .u8 0,.int .u8 0,.int .u8 0,.int .u8 0,.int .u8 0,.int .u8 0,.int .u8 0,.int .u8 0,.int .u8 0,.int .u8 0,.int .u8 0,.int .u8 0,.int .u8 0,.int .u8 0,.int .u8 0] 41):=⟨_,rfl⟩
 have hrow:w1.heap[w.heap.size]? = some (.cells #[.slice (some ⟨g,0,none⟩) n c,.bool false,.bool false,.int .i64 0,.int .u8 0,.int .u8 0,.int .u8 0,.int .u8 0,.int .u8 0,.int .u8 0,.int .u8 0,.int .u8 0,.int .u8 0,.int .u8 0,.int .u8 0,.int .u8 0,.int .u8 0,.int .u8 0,.int .u8 0,.int .u8 0] 41 (0,0)):=by rw [hw1]; exact Go.heap_alloc_new w _
 have hb1:Below w.heap.size w w1:=by rw [hw1]; exact (Below.refl _ _).alloc (Nat.le_refl _) _
 have hlt:w.heap.size < w1.heap.size:=(Array.getElem?_eq_some_iff.1 hrow).1
 obtain ⟨g2,off2,hA,hgl,hcell⟩:=hB.2.2 (by omega)
 obtain ⟨rfl,rfl⟩:g = g2 /\ 0 = off2:=by injection hA with hA; injection hA with h1 h2 _; exact ⟨h1,h2⟩
 have hRB:RB w1 ⟨w.heap.size,g⟩ { D with off:=false } c:=by
  refine ⟨by rw [cell_row hrow]; simp [hn],by rw [cell_row hrow]; rfl,hB.1,fun j hj => ?_,hlt,Nat.lt_of_lt_of_le hgl hb1.size⟩
  have h:=hcell j hj
  rw [Nat.zero_add] at h
  exact (hb1.cell (p:=⟨g,j,none⟩) hgl).trans h
 have hok2:DS.Ok { D with off:=false }:=by
  exact ⟨hok.inb,hok.whole128,hok.one,hok.most,hok.mlen,hok.minb,hok.wh,hok.wr⟩
 have hOp:=lhd (bopen_walk hRB hok2 8 (s - 8) (by show 8 + (s - 8) <= D.secs; omega) (by omega) rfl rfl hr)
 have Hb1:=lhd hb1
 have Hw1:=lhd hw1
 clear hw hmost hs hr e1 hrow hb1 hlt hA hcell hRB hok2 hB hok hw1
 cases e with
 | true =>
   go_enter Tryz.func14,Tryz.ntmps14
   go_wp2_with (go_at_call 34; rw [<- Hw1.out]; refine hOp.out.mono ?_; rintro e' w2 ⟨ho,low⟩; have Low:=lhd low; rcases ho with ⟨_,rfl⟩ | ⟨h,_⟩; case inr => cases h)
   go_ret
   exact ⟨.inl ⟨rfl,rfl⟩,Hb1.out.trans (Low.out.mono Hb1.out.size)⟩
 | false =>
   go_enter Tryz.func14,Tryz.ntmps14
   go_wp2_with (go_at_call 34; rw [<- Hw1.out]; refine hOp.out.mono ?_; rintro e' w2 ⟨ho,low⟩; have Low:=lhd low; rcases ho with ⟨h,_⟩ | ⟨_,J,rfl,hrl,hjb,hjt⟩; (case inl => cases h); obtain ⟨A,cc,hv,htx⟩:=rl_txN hrl (B:=w.heap.size) (fun q hq => Nat.le_trans Hb1.out.size (hjb q hq)) (fun q hq => Nat.le_trans Hb1.out.size (hjt q hq)); have k3:=hrl.cells.2.2.2.1; rw [hv] at k3; have Htx:=lhd htx; clear hrl htx hv low hjb hjt)
   go_ret
   refine ⟨.inr ⟨rfl,A,cc,by simp,?_⟩,Hb1.out.trans (Low.out.mono Hb1.out.size)⟩
   exact Htx.out
end Go.Proofs.YteeghgjkjicjoaaGreatDoor.Slt
