/- Texts of ours, merged. -/
import Derived.Test.YteeghgjkjicjoaaGreatDoorB11
import Derived.Deep.CutBlock
import Derived.Great.BuildSlice
namespace Go.Proofs.YteeghgjkjicjoaaGreatDoor.Dsk
open Go.RowKit
def DK.cutp (K:DK):Value:=.pointer (some ⟨K.g,4,none⟩)
theorem due_any {w:World} {K:DK} {D:DS} (h:Dsk w K D):Calls Tryz.prog 147 #[K.cutp] w fun e w' => e = .returned (.bool D.due) ∧ w = w':=by
 obtain ⟨_,_,_,_,c4,c5,_⟩:=row0 h.row
 unfold DK.cutp DS.due
 obtain ⟨l,hl⟩:∃ l,l = D.laid:=⟨_,rfl⟩
 obtain ⟨k,hk⟩:∃ k,k = D.whole:=⟨_,rfl⟩
 rw [← hl] at c4 ⊢
 rw [← hk] at c5 ⊢
 clear h hl hk
 cases l
 · go_enter Tryz.func147,Tryz.ntmps147
   go_wp2
   go_ret
   exact ⟨rfl,rfl⟩
 · by_cases e:k = 0
   · subst e
     go_enter Tryz.func147,Tryz.ntmps147
     go_wp2
     go_ret
     exact ⟨rfl,rfl⟩
   · rw [show (true && decide (k = 0)) = (k == 0) by rfl]
     go_enter Tryz.func147,Tryz.ntmps147
     go_wp2
     go_ret
     exact ⟨rfl,rfl⟩
theorem chg_one (w:World) (g off:Nat) (u:Value):Chg [g] w (w.setCell ⟨g,off,none⟩ u):=(Chg.refl [g] w).setCell (p:=⟨g,off,none⟩) (List.mem_singleton.2 rfl) u
theorem Dsk.setWhole {w:World} {K:DK} {D:DS} (h:Dsk w K D) (k:Int) (h0:0 ≤ k) (h1:k ≤ 9223372036854775807):Dsk (w.setCell ⟨K.g,5,none⟩ (.int .i64 k)) K { D with whole:=k } :=
 ⟨heap_setCell_same _ _ _ _ _ _ h.row,(Below.heap_setCell _ _ _ _ (Ne.symm h.ne)).trans h.body,h.ne,{ h.ok with wh:=⟨h0,h1⟩ }⟩
theorem Dsk.setWrites {w:World} {K:DK} {D:DS} (h:Dsk w K D) (k:Int) (h0:0 ≤ k):Dsk (w.setCell ⟨K.g,2,none⟩ (.int .i64 k)) K { D with writes:=k } :=
 ⟨heap_setCell_same _ _ _ _ _ _ h.row,(Below.heap_setCell _ _ _ _ (Ne.symm h.ne)).trans h.body,h.ne,{ h.ok with wr:=h0 }⟩
theorem Dsk.setOff {w:World} {K:DK} {D:DS} (h:Dsk w K D) (b:Bool):Dsk (w.setCell ⟨K.g,3,none⟩ (.bool b)) K { D with off:=b } :=
 ⟨heap_setCell_same _ _ _ _ _ _ h.row,(Below.heap_setCell _ _ _ _ (Ne.symm h.ne)).trans h.body,h.ne,{ h.ok with }⟩
theorem row_len {K:DK} {n:Nat} {wr:Int} {off l:Bool} {k:Int} {m:List Int} (hm:m.length = 16):(rowC K n wr off (cutC l k m)).size = 22:=by
 simp [rowC,cutC,vals,hm]
theorem Dsk.there {w:World} {K:DK} {D:DS} (h:Dsk w K D):w.there K.g 4 18:=fun j hj => by
 refine ⟨?_,free_row h.row _⟩
 rw [cell_row h.row,Array.getElem?_eq_getElem (by rw [row_len h.ok.mlen]; omega)]
 rfl
theorem Dsk.setCut {w:World} {K:DK} {D:DS} (h:Dsk w K D) (l:Bool) (k:Int) (m:List Int) (hm:m.length = 16) (hb:InB m) (h0:0 ≤ k) (h1:k ≤ 9223372036854775807):Dsk (w.setCells K.g 4 (cutC l k m)) K { D with laid:=l,whole:=k,mask:=m }:=by
 have hl:(cutC l k m).length = 18:=by simp [cutC,vals,hm]
 refine ⟨?_,((Chg.refl [K.g] w).setCells (List.mem_singleton.2 rfl) _ _).at h.body (by simpa using Ne.symm h.ne),h.ne,{ h.ok with mlen:=hm,minb:=hb,wh:=⟨h0,h1⟩ }⟩
 rw [heap_setCells _ _ _ _ h.row (by rw [row_len h.ok.mlen,hl]; omega)]
 congr 2
 have h2:(cutC D.laid D.whole D.mask).length = 18:=by simp [cutC,vals,h.ok.mlen]
 simp only [rowC,splice,hl]
 simp [h2]
theorem count_any {w:World} {K:DK} {D:DS} (h:Dsk w K D) (hd:D.due = false):Calls Tryz.prog 149 #[K.cutp] w fun e w' => e = .returned (.tuple #[]) ∧ Dsk w' K { D with whole:=if D.laid then D.whole - 1 else D.whole } ∧ Chg [K.g] w w':=by
 obtain ⟨_,_,_,_,c4,c5,_⟩:=row0 h.row
 have f5:=free_row h.row 5
 have hw:=h.ok.wh
 have H:=Lib.hid h
 have hs:=fun (h1:D.whole ≠ 0) => Lib.hid (h.setWhole (D.whole - 1) (by omega) (by omega))
 unfold DK.cutp
 obtain ⟨data,writes,off,laid,whole,mask⟩:=D
 simp only at c4 c5 hw hs ⊢
 cases laid
 · clear h hd hw hs
   go_enter Tryz.func149,Tryz.ntmps149
   go_wp2
   refine bodyPost_end (results_none rfl _ _ _) rfl ?_
   exact ⟨rfl,H.out,Chg.refl _ _⟩
 · have hne:whole ≠ 0:=by
    intro h0
    simp [DS.due,h0] at hd
   have HS:=hs hne
   clear h hd hs
   go_enter Tryz.func149,Tryz.ntmps149
   go_wp2
   refine bodyPost_end (results_none rfl _ _ _) rfl ?_
   exact ⟨rfl,HS.out,chg_one _ _ _ _⟩
structure TInv (w:World) (K:DK) (D:DS) (at_ k:Nat) (b:List Int) (wr:World):Prop where
 body:wr.heap[K.h]? = some (.cells (splice (vals D.data ++ K.sp) (at_ * 128) (vals ((tornL D.mask (secL D.data at_) b).take k))).toArray 5 (0,0))
 chg:Chg [K.h] w wr
set_option maxRecDepth 100000 in
set_option maxHeartbeats 1000000 in
theorem tear_any {w:World} {K:DK} {D:DS} (h:Dsk w K D) (at_:Nat) (hat:at_ < D.secs) (c1 c2:Nat) (A:Option Addr) (b:List Int) (hb:b.length = 128) (hB:Byt w A c2 b) (hA:∀ a,A = some a → a.block ∉ K.bl) :
 Calls Tryz.prog 148 #[K.cutp,.slice (some ⟨K.h,at_ * 128,none⟩) 128 c1,.slice A 128 c2] w fun e w' => e = .returned (.tuple #[]) ∧ TInv w K D at_ 128 b w':=by
 obtain ⟨_,_,_,_,_,_,cm⟩:=row0 h.row
 obtain ⟨gb,ob,rfl,hgb,hcb⟩:=hB.2.2 (by omega)
 have hAb:=hA _ rfl
 unfold DK.cutp
 go_enter Tryz.func148,Tryz.ntmps148
 go_wp2
 go_loopw [9] (fun i wr => ∃ k:Nat,k ≤ 128 ∧ i = .int .i64 k ∧ TInv w K D at_ k b wr) (fun i _ => 128 - (intOf i).toNat)
 case atStart => exact ⟨0,Nat.zero_le _,rfl,⟨by rw [h.body]; simp [splice,vals],Chg.refl _ _⟩⟩
 case round =>
  obtain ⟨k,hk,rfl,hinv⟩:=hrel
  by_cases hlt:k < 128
  · have hw:=h.ok.whole128
    have hgh:K.g ∉ [K.h]:=by simpa using h.ne
    have hbh:gb ∉ [K.h]:=fun hm => hAb (List.mem_cons_of_mem _ hm)
    have cm1:wr.cell? ⟨K.g,6 + k / 8,none⟩ = some (.int .u8 (D.mask.getD (k / 8) 0)):=(World.cell?_of_block (hinv.chg.block K.g h.glt hgh)).trans (cm (k / 8) (by rw [h.ok.mlen]; omega))
    have cb1:wr.cell? ⟨gb,ob + k,none⟩ = some (.int .u8 (b.getD k 0)):=(World.cell?_of_block (hinv.chg.block gb hgb hbh)).trans (hcb k (by omega))
    have lT:(tornL D.mask (secL D.data at_) b).length = 128:=torn_len _ _ _
    have lL:(vals D.data ++ K.sp).length = D.data.length + K.sp.length:=by rw [List.length_append,vals_length]
    have lk:(vals ((tornL D.mask (secL D.data at_) b).take k)).length = k:=by rw [vals_length,List.length_take,lT]; omega
    have old:(vals D.data ++ K.sp)[at_ * 128 + k]? = some (.int .u8 (D.data.getD (at_ * 128 + k) 0)):=by
     rw [List.getElem?_append_left (by rw [vals_length]; omega)]
     simp [vals,show at_ * 128 + k < D.data.length by omega]
    have ch1:wr.cell? ⟨K.h,at_ * 128 + k,none⟩ = some (.int .u8 (D.data.getD (at_ * 128 + k) 0)):=by
     rw [cell_row hinv.body,List.getElem?_toArray,splice_get _ _ _ (by omega),if_neg (by omega),if_neg (by omega),old]
    have fh1:wr.frozen? ⟨K.h,at_ * 128 + k,none⟩ = false:=free_row hinv.body _
    have hT:=torn_get D.mask (secL D.data at_) b k hlt
    rw [secL_get _ _ _ hlt] at hT
    have Hbit:bitM D.mask k = bitX (D.mask.getD (k / 8) 0) (k % 8):=rfl
    have Hat:=Lib.hid (show at_ * 128 ≤ 2097152 by have:=h.ok.most; omega)
    obtain ⟨x,hx⟩:∃ x,x = D.mask.getD (k / 8) 0:=⟨_,rfl⟩
    rw [← hx] at cm1 Hbit
    have hx0:0 ≤ x ∧ x < 256:=by rw [hx]; exact h.ok.minb _
    obtain ⟨y,hy⟩:∃ y,y = b.getD k 0:=⟨_,rfl⟩
    rw [← hy] at cb1 hT
    obtain ⟨z,hz⟩:∃ z,z = D.data.getD (at_ * 128 + k) 0:=⟨_,rfl⟩
    rw [← hz] at ch1 old hT
    have hnext:(∀ v:Int,v = (tornL D.mask (secL D.data at_) b).getD k 0 → TInv w K D at_ (k + 1) b (wr.setCell ⟨K.h,at_ * 128 + k,none⟩ (.int .u8 v))):=fun v hv => ⟨by
     have:=heap_setCell_same wr K.h (at_ * 128 + k) _ _ (.int .u8 v) hinv.body
     rwa [splice_more _ _ _ _ _ (by omega) (by omega) hv] at this,hinv.chg.setCell (p:=⟨K.h,at_ * 128 + k,none⟩) (List.mem_singleton.2 rfl) _⟩
    have hstay:z = (tornL D.mask (secL D.data at_) b).getD k 0 → TInv w K D at_ (k + 1) b wr:=fun hv => ⟨by
     rw [← splice_same _ _ _ _ (by omega) (by omega) (by rw [old,hv])]; exact hinv.body,hinv.chg⟩
    have Hn:=Lib.hid hnext
    have Hs:=Lib.hid hstay
    have HT:=Lib.hid hT
    have hlt':(k:Int) < 128:=by omega
    clear hw hgh hbh lT lL lk old hT hx hy hz hnext hstay cm hcb hB hA hAb
    cases hbit:bitX x (k % 8)
    · rw [Hbit,hbit,if_neg (by decide)] at HT
      have hb2:(bits .and .u8 (x / 2 ^ (k % 8)) 1 == 1) = false:=hbit
      clear Hbit hbit
      go_wp2
      go_roundw
      case rel => exact ⟨k + 1,by omega,by go_num,Hs.out HT.out.symm⟩
      case measure => simp [intOf]; omega
    · rw [Hbit,hbit,if_pos rfl] at HT
      have hb2:(bits .and .u8 (x / 2 ^ (k % 8)) 1 == 1) = true:=hbit
      clear Hbit hbit
      go_wp2
      go_roundw
      case rel => exact ⟨k + 1,by omega,by go_num,Hn.out y HT.out.symm⟩
      case measure => simp [intOf]; omega
  · go_wp2
    refine bodyPost_end (results_none rfl _ _ _) rfl ?_
    obtain rfl:k = 128:=by omega
    exact ⟨rfl,hinv⟩
end Go.Proofs.YteeghgjkjicjoaaGreatDoor.Dsk
namespace Go.Proofs.YteeghgjkjicjoaaGreatDoor
open Go.RowKit
def valsK (k:IntKind) (L:List Int):List Value:=L.map (Value.int k)
theorem one_oneK (k:IntKind) (x:Int):∀ u ∈ [Value.int k x],u.oneCell' = true:=by
 intro u hu
 simp at hu
 subst hu
 rfl
theorem moreK (k:IntKind) (L:List Int) (x:Int):valsK k L ++ [.int k x] = valsK k (L ++ [x]):=by simp [valsK]
theorem take_getD {L:List Int} {j:Nat} (h:j < L.length):L.take j ++ [L.getD j 0] = L.take (j + 1):=by
 have e:L.getD j 0 = L[j]:=by simp [List.getD_eq_getElem?_getD,h]
 rw [e,List.take_succ_eq_append_getElem h]
def RowK (k:IntKind) (w:World) (g:Nat) (L:List Int):Prop:=g < w.heap.size ∧ ∀ j,j < L.length → w.cell? ⟨g,j,none⟩ = some (.int k (L.getD j 0))
theorem RowK.below {k:IntKind} {w w':World} {g B:Nat} {L:List Int} (h:RowK k w g L) (hb:Below B w w') (hB:g < B):RowK k w' g L :=
 ⟨Nat.lt_of_lt_of_le h.1 hb.size,fun j hj => (World.cell?_of_block (hb.block _ hB)).trans (h.2 j hj)⟩
theorem RowK.later {k:IntKind} {w w':World} {g:Nat} {L:List Int} (h:RowK k w g L) (hb:Below w.heap.size w w'):RowK k w' g L:=h.below hb h.1
theorem own_rowK {k:IntKind} {w:World} {base n:Nat} {t:TypeId} {v:Value} {L:List Int} (h:w.ownsRow base t 1 v n (valsK k L)) (hl:L.length = n) (h0:0 < n):∃ g c,v = .slice (some ⟨g,0,none⟩) n c ∧ n ≤ c ∧ base ≤ g ∧ RowK k w g L:=by
 obtain ⟨_,h⟩:=h
 rcases h with ⟨_,h⟩ | ⟨g,cap,cur,hv,hb,hh,hcap,_,hs,ht⟩
 · omega
 · refine ⟨g,cap,hv,hcap,hb,(Array.getElem?_eq_some_iff.1 hh).1,fun j hj => ?_⟩
   rw [cell_row hh]
   have h2:cur[j]? = cur.toList[j]?:=by simp
   have h3:(cur.toList.take (n * 1))[j]? = cur.toList[j]?:=by rw [List.getElem?_take,if_pos (by omega)]
   rw [h2,← h3,ht]
   simp [valsK,show j < L.length by omega]
theorem own_nilK {w:World} {base:Nat} {t:TypeId} {v:Value} {L:List Value} {n:Nat} (h:w.ownsRow base t 1 v n L):∃ A c,v = .slice A n c:=by
 obtain ⟨_,h⟩:=h
 rcases h with ⟨h,h0⟩ | ⟨g,cap,cur,hv,_⟩
 · subst h0; exact ⟨none,0,h⟩
 · exact ⟨_,cap,hv⟩
theorem RowK.byt {w:World} {g c:Nat} {L:List Int} (h:RowK .u8 w g L) (hc:L.length ≤ c):Byt w (some ⟨g,0,none⟩) c L :=
 ⟨hc,(fun h => by cases h),fun _ => ⟨g,0,rfl,h.1,fun j hj => by rw [Nat.zero_add]; exact h.2 j hj⟩⟩
theorem own_stays {w w':World} {base n s:Nat} {t:TypeId} {v:Value} {L:List Value} (h:w.ownsRow base t s v n L) (hb:Below w.heap.size w w'):w'.ownsRow base t s v n L:=by
 obtain ⟨h1,h⟩:=h
 refine ⟨h1,?_⟩
 rcases h with h | ⟨g,cap,cur,h1,h2,h3,h4,h5,h6,h7⟩
 · exact .inl h
 · exact .inr ⟨g,cap,cur,h1,h2,(hb.block _ (Array.getElem?_eq_some_iff.1 h3).1).trans h3,h4,h5,h6,h7⟩
theorem partsK {P:Program} {t:TypeId} {z:Value} {s b:Nat} (h:(P.info? t).map (fun i => (i.zero,i.size,i.bytes)) = some (some z,s,b)):∃ i,P.info? t = some i ∧ i.zero = some z ∧ i.size = s ∧ i.bytes = b:=by
 cases hq:P.info? t with
 | none => rw [hq] at h; cases h
 | some i =>
   rw [hq] at h
   simp at h
   exact ⟨i,rfl,h.1,h.2.1,h.2.2⟩
theorem own_alloc {w:World} {base n s:Nat} {t:TypeId} {v:Value} {L:List Value} (h:w.ownsRow base t s v n L) (o:Obj):(w.alloc o).ownsRow base t s v n L :=
 own_stays h ((Below.refl w.heap.size w).alloc (Nat.le_refl _) o)
structure Grew (k:IntKind) (base:Nat) (e:TypeId) (n:Nat) (L:List Int) (y:Int) (wr:World) (v v':Value) (w':World):Prop where
 own:w'.ownsRow base e 1 v' (n + 1) (valsK k (L ++ [y]))
 low:∀ B u,Below B u wr → B ≤ base → Below B u w'
 keep:∀ q b,wr.heap[q]? = some b → v.ownBlock ≠ some q → w'.heap[q]? = some b
 size:wr.heap.size ≤ w'.heap.size
theorem wpList_append_mine {P:Program} {k:IntKind} {wr:World} {ops:Array Oper} {rest:List Oper} {o:Oper} {a:Act} {Q:Exit → Act → World → Prop} (hgd:o.guard = none) (s x:Operand) (t:TypeId)
 (ho:o.op = .call { callee:=.builtin .append,args:=#[s,x],argTypes:=#[t,t] }) (base:Nat) (e:TypeId) (i:TypeInfo) (z:Value) (bytes:Nat) (ht:P.underlying t = some (.slice e)) (hi:P.info? e = some i) (hz:i.zero = some z)
 (hsize:i.size = 1) (hby:i.bytes = bytes) (hzs:z.cells.size = 1) (hb8:bytes ≤ 8) (v:Value) (n:Nat) (L:List Int) (y:Int) (hs:a.eval s = v) (hown:wr.ownsRow base e 1 v n (valsK k L)) (hx:a.eval x = .slice (some ⟨wr.heap.size,0,none⟩) 1 1)
 (hn:n ≤ 100000) (hbase:base ≤ wr.heap.size) (h:∀ v' w',Grew k base e n L y wr v v' w' → wpList P ops Q rest (a.put o.dst v') w'):wpList P ops Q (o :: rest) a (wr.alloc (.cells #[.int k y] e)):=by
 have hsz:(wr.alloc (.cells #[.int k y] e)).heap.size = wr.heap.size + 1:=by rw [World.size_alloc]
 have hge:∀ q,v.ownBlock = some q → base ≤ q:=fun q hq => (hown.lt q hq).1
 have hlt:∀ q,v.ownBlock = some q → q < wr.heap.size:=fun q hq => (hown.lt q hq).2
 refine wpList_append_own_at _ hgd s x t ho base e i z 1 bytes ht hi hz hsize hby hzs (by decide) v n (valsK k L) hs (own_alloc hown _) ⟨wr.heap.size,0,none⟩ 1 1 [.int k y] hx rfl (cell_one_new _ _ _) (one_oneK k y) (by unfold maxLen; omega) (by have:(n + 1) * bytes ≤ (n + 1) * 8:=Nat.mul_le_mul_left _ hb8; omega) (by omega) ?_
 intro v' w' hown' hgrow _ _
 rw [moreK] at hown'
 have hs2:=hgrow.size
 exact h v' w' ⟨hown',fun B u hb hB => (hb.alloc (Nat.le_trans hB hbase) _).grown hgrow (by omega) (fun q hq => Nat.le_trans hB (hge q hq)),fun q b hq hne => by
  have hq2:=(Array.getElem?_eq_some_iff.1 hq).1
  rw [hgrow.block q (by omega) (fun e => hne (by rw [e]))]
  exact (Go.heap_alloc_old _ _ hq2).trans hq,by omega⟩
theorem own_bytK {w:World} {base n:Nat} {t:TypeId} {v:Value} {L:List Int} (h:w.ownsRow base t 1 v n (valsK .u8 L)) (hl:L.length = n):∃ A c,v = .slice A n c ∧ Byt w A c L:=by
 by_cases h0:0 < n
 · obtain ⟨g,c,hv,hc,_,hr⟩:=own_rowK h hl h0
   exact ⟨_,c,hv,by omega,(fun h => by cases h),fun _ => ⟨g,0,rfl,hr.1,fun j hj => by rw [Nat.zero_add]; exact hr.2 j hj⟩⟩
 · obtain rfl:n = 0:=by omega
   obtain rfl:L = []:=List.eq_nil_of_length_eq_zero hl
   obtain ⟨_,h⟩:=h
   rcases h with ⟨h,_⟩ | ⟨g,cap,cur,hv,_⟩
   · exact ⟨none,0,h,Nat.le_refl _,fun _ => rfl,fun h => absurd h (Nat.lt_irrefl 0)⟩
   · exact ⟨_,cap,hv,Nat.zero_le _,(fun h => by cases h),fun h => absurd h (Nat.lt_irrefl 0)⟩
theorem own_lower {w:World} {base b s n:Nat} {t:TypeId} {v:Value} {L:List Value} (h:w.ownsRow base t s v n L) (hb:b ≤ base):w.ownsRow b t s v n L:=by
 obtain ⟨h1,h⟩:=h
 refine ⟨h1,?_⟩
 rcases h with h | ⟨g,cap,cur,h1,h2,h3⟩
 · exact .inl h
 · exact .inr ⟨g,cap,cur,h1,by omega,h3⟩
end Go.Proofs.YteeghgjkjicjoaaGreatDoor
namespace Go.Proofs.YteeghgjkjicjoaaGreatDoor.Dsk
open Go.RowKit
set_option maxHeartbeats 1000000 in
theorem clone_own {L:List Int} {g off c n:Nat} {w:World} (hB:Byt w (some ⟨g,off,none⟩) c L) (hn:L.length = n) (hle:n ≤ 4294967296) :
 Calls Tryz.prog 35 #[.slice (some ⟨g,off,none⟩) n c] w fun e w' => ∃ v',e = .returned v' ∧ w'.ownsRow w.heap.size 5 1 v' n (vals L) ∧ Below w.heap.size w w':=by
 have HB:=Lib.hid hB
 have Hn:=Lib.hid hn
 have Hle:=Lib.hid hle
 have hmade:=World.ownsRow_made w (base:=w.heap.size) (e := 5) (size:=1) #[] 0 (Nat.le_refl _) (Nat.zero_le _) rfl
 have Hmade:=Lib.hid hmade
 have hne:=fun (w:World) => Lib.run_eql_slice_nil w 38 5 (some ⟨g,off,none⟩) n c 0 0 Tryz.underlying38
 clear hB hn hmade hle
 go_enter Tryz.func35,Tryz.ntmps35
 go_wp2_with (at_builtin; refine wpList_append_any rfl (.tmp 5) (.tmp 6) rfl w.heap.size _ 0 [] rfl Hmade.out (some ⟨g,off,none⟩) n c L rfl Hn.out (HB.out.alloc _) (by have:=Hle.out; omega) (by rw [World.size_alloc]; omega) ?_; intro v1 w1 hown1 hlow1; have Hown1:=Lib.hid hown1; have Hlow1:=Lib.hid hlow1; clear hown1 hlow1)
 go_ret
 have ho:=Hown1.out
 rw [List.nil_append,Nat.zero_add] at ho
 exact ⟨_,rfl,ho,Hlow1.out _ _ ((Below.refl _ _).alloc (Nat.le_refl _) _) (Nat.le_refl _)⟩
theorem own_sl {w:World} {base n:Nat} {v:Value} {L:List Int} (h:w.ownsRow base 5 1 v n (vals L)) (hl:L.length = n):SlB L v w:=by
 obtain ⟨A,c,hv,hb⟩:=own_bytK h hl
 exact ⟨A,c,by rw [hl]; exact hv,hb⟩
theorem Dsk.byt {w:World} {K:DK} {D:DS} (h:Dsk w K D):Byt w (some ⟨K.h,0,none⟩) (D.data.length + K.sp.length) D.data :=
 ⟨by omega,(fun h => by cases h),fun _ => ⟨K.h,0,rfl,h.hlt,fun j hj => by rw [Nat.zero_add]; exact body_cell h.body j hj⟩⟩
theorem DS.Ok.len {D:DS} (h:D.Ok):D.data.length ≤ 2097152:=by have:=h.whole128; have:=h.most; omega
set_option maxHeartbeats 1000000 in
theorem bytes_any {w:World} {K:DK} {D:DS} (h:Dsk w K D):Calls Tryz.prog 15 #[K.ptr] w fun e w' => ∃ v',e = .returned v' ∧ w'.ownsRow w.heap.size 5 1 v' D.data.length (vals D.data) ∧ Below w.heap.size w w':=by
 have Hm:=Lib.hid (made_any h)
 obtain ⟨_,c1,_⟩:=row0 h.row
 have Hc:=Lib.hid (clone_own h.byt rfl (Nat.le_trans h.ok.len (by decide)))
 unfold DK.ptr at *
 clear h
 go_enter Tryz.func15,Tryz.ntmps15
 go_wp2_with (first
  | (go_at_call 33; refine Hm.out.mono ?_; rintro e w' ⟨rfl,rfl⟩)
  | (go_at_call 35; refine Hc.out.mono ?_; rintro e w1 ⟨v1,rfl,ho,hb⟩; have Ho:=Lib.hid ho; have Hb:=Lib.hid hb; clear ho hb))
 go_ret
 exact ⟨_,rfl,Ho.out,Hb.out⟩
theorem within_of {a b s:Nat} (h:a + b ≤ s):withinI a b s = true:=by
 simp [withinI]; omega
set_option maxHeartbeats 1000000 in
theorem read_own {w:World} {K:DK} {D:DS} (h:Dsk w K D) (a b:Nat) (hab:a + b ≤ D.secs) (ho:D.off = false):Calls Tryz.prog 74 #[K.ptr,.int .i64 a,.int .i64 b] w fun e w' => ∃ v',e = .returned (.tuple #[v',.int .i64 0]) ∧ Below w.heap.size w w' ∧ w'.ownsRow w.heap.size 5 1 v' (b * 128) (vals ((D.data.drop (a * 128)).take (b * 128))):=by
 have hm:=h.ok.most
 have Hs:=Lib.hid (sectors_count h)
 have Hw:=Lib.hid (within_any a b D.secs w (by omega) (by omega) (by omega))
 have Hr:=Lib.hid (refuses_any h (withinI a b D.secs))
 rw [within_of hab] at Hw Hr
 rw [show refE D true = 0 by simp [refE,ho]] at Hr
 have Hx:=Lib.hid (sectors_any h a b hab)
 have hcap:a * 128 + b * 128 ≤ D.data.length:=by have:=h.ok.whole128; omega
 have hle:=h.ok.len
 have Hc:Hid (Calls Tryz.prog 35 #[secV K a b (D.data.length + K.sp.length)] w fun e w' => ∃ v',e = .returned v' ∧ w'.ownsRow w.heap.size 5 1 v' (b * 128) (vals ((D.data.drop (a * 128)).take (b * 128))) ∧ Below w.heap.size w w'):=by
  unfold secV
  by_cases e:D.data.length + K.sp.length = a * 128
  · rw [if_pos e]
    refine clone_own ⟨by simp; omega,(fun h => by cases h),fun hl => ?_⟩ (by simp; omega) (by omega)
    simp at hl; omega
  · rw [if_neg e]
    refine clone_own ⟨by simp; omega,(fun h => by cases h),fun hl => ⟨K.h,a * 128,rfl,h.hlt,fun j hj => ?_⟩⟩ (by simp; omega) (by omega)
    rw [List.length_take,List.length_drop] at hj
    rw [body_cell h.body _ (by omega)]
    simp [List.getD_eq_getElem?_getD,show j < b * 128 by omega]
 have hl:((D.data.drop (a * 128)).take (b * 128)).length = b * 128:=by simp; omega
 obtain ⟨V,hV⟩:∃ V,V = secV K a b (D.data.length + K.sp.length):=⟨_,rfl⟩
 rw [← hV] at Hx Hc
 obtain ⟨R,hR⟩:∃ R,R = (D.data.drop (a * 128)).take (b * 128):=⟨_,rfl⟩
 rw [← hR] at Hc hl ⊢
 have Hl:=Lib.hid hl
 obtain ⟨s,hs⟩:∃ s,s = D.secs:=⟨_,rfl⟩
 rw [← hs] at Hs Hw hm hab
 unfold DK.ptr at *
 clear h hs ho hV hR hl hcap hle
 go_enter Tryz.func74,Tryz.ntmps74
 go_wp2_with (first
  | (go_at_call 13; refine Hs.out.mono ?_; rintro e w' ⟨rfl,rfl⟩)
  | (go_at_call 36; refine Hw.out.mono ?_; rintro e w' ⟨rfl,rfl⟩)
  | (go_at_call 70; refine Hr.out.mono ?_; rintro e w' ⟨rfl,rfl⟩)
  | (go_at_call 101; refine Hx.out.mono ?_; rintro e w' ⟨rfl,rfl⟩)
  | (go_at_call 35; refine Hc.out.mono ?_; rintro e w1 ⟨v1,rfl,ho,hb⟩; have Ho:=Lib.hid ho; have Hb:=Lib.hid hb; clear ho hb))
 go_ret2
 exact ⟨_,rfl,Hb.out,Ho.out⟩
set_option maxHeartbeats 1000000 in
theorem read_no {w:World} {K:DK} {D:DS} (h:Dsk w K D) (k n:Int) (hk:k ≤ 9223372036854775807) (e0:refE D (withinI k n D.secs) ≠ 0):Calls Tryz.prog 74 #[K.ptr,.int .i64 k,.int .i64 n] w fun e w' => e = .returned (.tuple #[.slice none 0 0,.int .i64 (refE D (withinI k n D.secs))]) ∧ w = w':=by
 have Hs:=Lib.hid (sectors_count h)
 have Hw:=Lib.hid (within_any k n D.secs w hk (by omega) (by have:=h.ok.most; omega))
 have Hr:=Lib.hid (refuses_any h (withinI k n D.secs))
 obtain ⟨s,hs⟩:∃ s,s = D.secs:=⟨_,rfl⟩
 rw [← hs] at Hs Hw Hr e0 ⊢
 obtain ⟨W,hW⟩:∃ W,W = withinI k n s:=⟨_,rfl⟩
 rw [← hW] at Hw Hr e0 ⊢
 obtain ⟨E,hE⟩:∃ E,E = refE D W:=⟨_,rfl⟩
 rw [← hE] at Hr e0 ⊢
 unfold DK.ptr at *
 clear h hs hW hE hk
 go_enter Tryz.func74,Tryz.ntmps74
 go_wp2_with (first
  | (go_at_call 13; refine Hs.out.mono ?_; rintro e w' ⟨rfl,rfl⟩)
  | (go_at_call 36; refine Hw.out.mono ?_; rintro e w' ⟨rfl,rfl⟩)
  | (go_at_call 70; refine Hr.out.mono ?_; rintro e w' ⟨rfl,rfl⟩))
 go_ret2
 exact ⟨rfl,rfl⟩
theorem info46:(Tryz.prog.info? 68).map (·.size) = some 18:=by kernel_rfl
theorem built_zero:Tryz.prog.built 68 [] = some (cutC false 0 z16).toArray:=by kernel_rfl
theorem cutC_one (l:Bool) (k:Int) (m:List Int):(cutC l k m).toArray.all (·.oneCell') = true:=by
 apply all_oneCell_toArray
 intro v hv
 simp only [cutC,List.mem_cons] at hv
 rcases hv with rfl | rfl | hv
 · rfl
 · rfl
 · exact vals_one _ v hv
theorem cutC_len (l:Bool) (k:Int) (m:List Int) (hm:m.length = 16):(cutC l k m).length = 18:=by simp [cutC,vals,hm]
theorem inb16:InB z16:=by
 intro j
 simp only [z16,List.getD_eq_getElem?_getD,List.getElem?_replicate]
 split <;> simp
theorem chg_setRow {S:List Nat} {g:Nat} (w:World) (C:Array Value) (hg:g ∈ S):Chg S w (w.setRow g C) :=
 ⟨rfl,rfl,rfl,by simp [World.setRow],fun k _ hS => setRow_other w g k C (fun e => hS (by rw [e]; exact hg))⟩
theorem infoB1:(Tryz.prog.info? 5).map (·.size) = some 1:=by kernel_rfl
theorem wpList_copy_chg {w:World} {ops:Array Oper} {rest:List Oper} {o:Oper} {a:Act} {Q:Exit → Act → World → Prop} (hgd:o.guard = none) (d s:Operand)
 (ho:o.op = .call { callee:=.builtin .copy,args:=#[d,s],argTypes:=#[38, 38] })
 (dp:Option Addr) (dLen dCap:Nat) (A:Option Addr) (m c:Nat) (b:List Int) (hd:a.eval d = .slice dp dLen dCap) (hs:a.eval s = .slice A m c) (hm:b.length = m) (hB:Byt w A c b) (hmd:m ≤ dLen)
 (g off:Nat) (cur:List Value) (hg:w.heap[g]? = some (.cells cur.toArray 5 (0,0))) (hdp:0 < m → dp = some ⟨g,off,none⟩) (hfit:off + m ≤ cur.length)
 (h:∀ w',w'.heap[g]? = some (.cells (splice cur off (vals b)).toArray 5 (0,0)) → Chg [g] w w' → wpList Tryz.prog ops Q rest (a.put o.dst (goInt m)) w') :
 wpList Tryz.prog ops Q (o :: rest) a w:=by
 by_cases h0:m = 0
 · subst h0
   obtain rfl:b = []:=List.eq_nil_of_length_eq_zero hm
   refine wpList_copy_nothing hgd d s 38 38 ho 5 Tryz.underlying38 infoB1 dp A dLen dCap 0 c hd hs (by simp) ?_
   exact h w (by simpa [splice,vals] using hg) (Chg.refl _ _)
 · have hdp':=hdp (by omega)
   subst hdp'
   obtain ⟨gb,ob,rfl,hgb,hc⟩:=hB.2.2 (by omega)
   have hv:(vals b).length = m:=by rw [vals_length,hm]
   refine wpList_copy_own hgd d s 38 38 ho 5 Tryz.underlying38 infoB1 g off dLen dCap ⟨gb,ob,none⟩ m c hd hs cur.toArray 5 hg (vals b) (by rw [hv]; exact (Nat.min_eq_left hmd).symm)
    (fun j v hj => by obtain ⟨hj',rfl⟩:=vals_get hj; rw [Addr.add_mid]; exact hc j hj') (by rw [hv]; simpa using hfit) (vals_one _) ?_
   rw [hv]
   refine h _ ?_ (chg_setRow _ _ (List.mem_singleton.2 rfl))
   rw [setRow_heap w g _ _ _ _ hg]
   simp [splice,hv]
theorem splice_vals (d b:List Int) (sp:List Value) (o:Nat) (h:o + b.length ≤ d.length):splice (vals d ++ sp) o (vals b) = vals (splice d o b) ++ sp:=by
 unfold splice
 rw [vals_length,List.take_append_of_le_length (by rw [vals_length]; omega),List.drop_append_of_le_length (by rw [vals_length]; omega)]
 simp [vals]
theorem inB_splice {d b:List Int} {o:Nat} (hd:InB d) (hb:InB b):InB (splice d o b):=(hd.take o).append (hb.append (hd.drop _))
theorem inB_torn {m o b:List Int} (ho:InB o) (hb:InB b):InB (tornL m o b):=by
 intro j
 by_cases h:j < 128
 · rw [torn_get _ _ _ _ h]
   split
   · exact hb j
   · exact ho j
 · rw [getD_out _ _ (by rw [torn_len]; omega)]; omega
theorem DS.Ok.data {D:DS} (h:D.Ok) (b:List Int) (o:Nat) (hb:InB b) (ho:o + b.length ≤ D.data.length):({ D with data:=splice D.data o b }:DS).Ok:=by
 have hl:(splice D.data o b).length = D.data.length:=splice_len _ _ _ ho
 have hs:({ D with data:=splice D.data o b }:DS).secs = D.secs:=by simp [DS.secs,hl]
 exact ⟨inB_splice h.inb hb,by rw [hs]; exact hl.trans h.whole128,by rw [hs]; exact h.one,by rw [hs]; exact h.most,h.mlen,h.minb,h.wh,h.wr⟩
theorem Dsk.setData {w w':World} {K:DK} {D:DS} (h:Dsk w K D) (b:List Int) (o:Nat) (hb:InB b) (ho:o + b.length ≤ D.data.length) (hh:w'.heap[K.h]? = some (.cells (splice (vals D.data ++ K.sp) o (vals b)).toArray 5 (0,0))) (hc:Chg [K.h] w w'):Dsk w' K { D with data:=splice D.data o b }:=by
 refine ⟨?_,?_,h.ne,h.ok.data b o hb ho⟩
 · have:=hc.at h.row (by simpa using h.ne)
   rw [this]
   simp only [splice_len D.data o b ho]
 · rw [hh,splice_vals _ _ _ _ ho]
theorem chg_bl {K:DK} {w w':World} (h:Chg [K.h] w w'):Chg K.bl w w':=h.mono (fun k hk => .inl (by simp at hk; subst hk; simp [DK.bl]))
theorem chg_blg {K:DK} {w w':World} (h:Chg [K.g] w w'):Chg K.bl w w':=h.mono (fun k hk => .inl (by simp at hk; subst hk; simp [DK.bl]))
set_option maxRecDepth 100000 in
set_option maxHeartbeats 1000000 in
theorem writeSector_any {w:World} {K:DK} {D:DS} (h:Dsk w K D) (k:Nat) (hk:k < D.secs) (A:Option Addr) (c:Nat) (b:List Int) (hl:b.length = 128) (hi:InB b) (hB:Byt w A c b) (hA:∀ a,A = some a → a.block ∉ K.bl) (hw:D.writes ≤ 4611686018427387904) :
 Calls Tryz.prog 135 #[K.ptr,.int .i64 k,.slice A 128 c] w fun e w' => e = .returned (.tuple #[]) ∧ Dsk w' K (stepD D k b) ∧ Chg K.bl w w':=by
 obtain ⟨_,_,c2,_⟩:=row0 h.row
 have f2:=free_row h.row 2
 have hwr:=h.ok.wr
 have h1:=h.setWrites (D.writes + 1) (by omega)
 have g1:Chg K.bl w (w.setCell ⟨K.g,2,none⟩ (.int .i64 (D.writes + 1))):=chg_blg (chg_one _ _ _ _)
 have hB1:Byt (w.setCell ⟨K.g,2,none⟩ (.int .i64 (D.writes + 1))) A c b:=hB.chg g1 hA
 obtain ⟨w1,hw1⟩:∃ w1,w1 = w.setCell ⟨K.g,2,none⟩ (.int .i64 (D.writes + 1)):=⟨_,rfl⟩
 rw [← hw1] at h1 g1 hB1
 obtain ⟨x,hx⟩:∃ x,x = D.writes:=⟨_,rfl⟩
 rw [← hx] at c2 hwr hw hw1
 have hcap:¬ D.data.length + K.sp.length = k * 128:=by have:=h.ok.whole128; omega
 have hfit:k * 128 + 128 ≤ D.data.length:=by have:=h.ok.whole128; omega
 have hsec:=sectors_any h1 k 1 (Nat.succ_le_of_lt hk)
 simp only [secV,if_neg hcap,Nat.one_mul] at hsec
 have Hs:=Lib.hid hsec
 have Hd:=Lib.hid (due_any h1)
 obtain ⟨C,hC⟩:∃ C,C = D.data.length + K.sp.length - k * 128:=⟨_,rfl⟩
 rw [← hC] at Hs
 have hdue:({ D with writes:=D.writes + 1 }:DS).due = D.due:=rfl
 rw [hdue] at Hd
 have H1:=Lib.hid h1
 have G1:=Lib.hid g1
 have HW1:=Lib.hid hw1
 have HB1:=Lib.hid hB1
 have HL:=Lib.hid hl
 have HI:=Lib.hid hi
 have HF:=Lib.hid hfit
 cases e:D.due
 · rw [e] at Hd
   have hst:stepD D k b = { D with data:=splice D.data (k * 128) b,writes:=D.writes + 1,whole:=if D.laid then D.whole - 1 else D.whole }:=by
    unfold stepD; rw [if_neg (by rw [e]; decide)]
   rw [hst]
   have Hcnt:Hid (∀ w2,Dsk w2 K { D with data:=splice D.data (k * 128) b,writes:=D.writes + 1 } → Calls Tryz.prog 149 #[K.cutp] w2 fun e w' => e = .returned (.tuple #[]) ∧ Dsk w' K { D with data:=splice D.data (k * 128) b,writes:=D.writes + 1,whole:=if D.laid then D.whole - 1 else D.whole } ∧ Chg [K.g] w2 w') :=
    fun w2 h2 => count_any h2 e
   obtain ⟨D2,hD2⟩:∃ D2,D2 = ({ D with data:=splice D.data (k * 128) b,writes:=D.writes + 1,whole:=if D.laid then D.whole - 1 else D.whole }:DS):=⟨_,rfl⟩
   rw [← hD2] at Hcnt ⊢
   unfold DK.ptr DK.cutp at *
   clear h h1 g1 hB hB1 hA hl hi hfit hcap hsec hst hdue hw1 hx hC e hD2
   go_enter Tryz.func135,Tryz.ntmps135
   go_wp2_with (first
    | (go_at_call 101; rw [← HW1.out]; refine Hs.out.mono ?_; rintro e w' ⟨rfl,rfl⟩)
    | (go_at_call 147; refine Hd.out.mono ?_; rintro e w' ⟨rfl,rfl⟩)
    | (refine wpList_copy_chg rfl (.tmp 34) (.tmp 35) rfl _ 128 _ A 128 c b (by rfl) (by rfl) HL.out HB1.out (Nat.le_refl _) K.h (k * 128) _ H1.out.body (fun _ => rfl) (by rw [List.length_append,vals_length]; exact Nat.le_trans HF.out (Nat.le_add_right _ _)) ?_; intro w2 hh2 hc2; have H2:=Lib.hid (H1.out.setData b (k * 128) HI.out (by rw [HL.out]; exact HF.out) hh2 hc2); have G2:=Lib.hid (G1.out.trans (chg_bl hc2)); clear hh2 hc2)
    | (go_at_call 149; refine (Hcnt.out _ H2.out).mono ?_; rintro e w3 ⟨rfl,h3,hc3⟩; have H3:=Lib.hid h3; have G3:=Lib.hid (G2.out.trans (chg_blg hc3)); clear h3 hc3))
   refine bodyPost_end (results_none rfl _ _ _) rfl ?_
   exact ⟨rfl,H3.out,G3.out⟩
 · rw [e] at Hd
   have hst:stepD D k b = { data:=splice D.data (k * 128) (tornL D.mask (secL D.data k) b),writes:=D.writes + 1,off:=true,laid:=false,whole:=0,mask:=z16 }:=by
    unfold stepD; rw [if_pos e]
   rw [hst]
   have Ht:=Lib.hid (tear_any h1 k hk C c A b hl hB1 hA)
   unfold DK.ptr DK.cutp at *
   have hin:=Lib.hid h.ok.inb
   clear h h1 g1 hB hB1 hA hl hi hfit hcap hsec hst hdue hw1 hx hC e
   go_enter Tryz.func135,Tryz.ntmps135
   go_upto_region 4 with (first
    | (go_at_call 101; rw [← HW1.out]; refine Hs.out.mono ?_; rintro e w' ⟨rfl,rfl⟩)
    | (go_at_call 147; refine Hd.out.mono ?_; rintro e w' ⟨rfl,rfl⟩)
    | (go_at_call 148; refine Ht.out.mono ?_; rintro e w2 ⟨rfl,hT⟩; have HT:=Lib.hid hT; clear hT))
   have hT:=HT.out
   have tl:(tornL D.mask (secL D.data k) b).length = 128:=torn_len _ _ _
   have h2:=H1.out.setData (tornL D.mask (secL D.data k) b) (k * 128) (inB_torn ((hin.out.drop _).take _) HI.out) (by rw [tl]; exact HF.out) (by have:=hT.body; simp only [List.take_of_length_le (Nat.le_of_eq tl)] at this; exact this) hT.chg
   have g2:=G1.out.trans (chg_bl hT.chg)
   obtain ⟨_,_,_,c3,_⟩:=row0 h2.row
   have f3:=free_row h2.row 3
   have H2:=Lib.hid h2
   have G2:=Lib.hid g2
   clear hT HT tl h2 g2
   refine wp_region_lit ?_
   refine wpList_plain rfl (fun K hK => ?_)
   go_simp
   refine hK _ _ ?_
   clear hK
   clear K
   refine wpList_plain rfl (fun K hK => ?_)
   go_simp
   refine hK _ _ ?_
   clear hK
   clear K
   refine wpList_buildTo rfl 68 #[] rfl (some 29) rfl (cutC false 0 z16).toArray (by simp only [List.map_toArray,List.map_nil]; exact built_zero) ?_
   refine wpList_plain rfl (fun K hK => ?_)
   go_simp
   refine hK _ _ ?_
   clear hK
   clear K
   refine wpList_plain rfl (fun K hK => ?_)
   go_simp
   refine hK _ _ ?_
   clear hK
   clear K
   refine wpList_plain rfl (fun K hK => ?_)
   go_simp
   refine hK _ _ ?_
   clear hK
   clear K
   refine wpList_plain rfl (fun K hK => ?_)
   go_simp
   refine hK _ _ ?_
   clear hK
   clear K
   refine wpList_plain rfl (fun K hK => ?_)
   go_simp
   refine hK _ _ ?_
   clear hK
   clear K
   have h3:=H2.out.setOff true
   refine wpList_store_mid rfl 68 (.tmp 33) (.tmp 29) rfl K.g 4 (cutC false 0 z16).toArray rfl rfl (by rw [List.size_toArray,cutC_len _ _ _ rfl]; exact h3.there) (by rw [List.size_toArray,cutC_len _ _ _ rfl]; exact info46) (cutC_one _ _ _) ?_
   refine wpList_nil ?_
   go_simp
   try go_wp2
   refine bodyPost_ret (results_none rfl _ _ _) rfl ?_
   exact ⟨rfl,h3.setCut false 0 z16 rfl inb16 (by decide) (by decide),(G2.out.setCell (p:=⟨K.g,3,none⟩) (by simp [DK.bl]) _).setCells (by simp [DK.bl]) _ _⟩
theorem step_len (D:DS) (k:Nat) (b:List Int) (hk:k * 128 + 128 ≤ D.data.length) (hl:b.length = 128):(stepD D k b).data.length = D.data.length:=by
 unfold stepD
 split
 · exact splice_len _ _ _ (by rw [torn_len]; exact hk)
 · exact splice_len _ _ _ (by rw [hl]; exact hk)
theorem step_secs (D:DS) (k:Nat) (b:List Int) (hk:k * 128 + 128 ≤ D.data.length) (hl:b.length = 128):(stepD D k b).secs = D.secs:=by
 simp only [DS.secs,step_len D k b hk hl]
theorem step_writes (D:DS) (k:Nat) (b:List Int):(stepD D k b).writes = D.writes + 1:=by
 unfold stepD; split <;> rfl
theorem run_on {D:DS} {k i n:Nat} {b:List Int} (h:(stepD D (k + i) (secL b i)).off = false):runD D k b i (n + 1) = runD (stepD D (k + i) (secL b i)) k b (i + 1) n:=by
 rw [runD,if_neg (by rw [h]; decide)]
theorem run_off {D:DS} {k i n:Nat} {b:List Int} (h:(stepD D (k + i) (secL b i)).off = true):runD D k b i (n + 1) = (stepD D (k + i) (secL b i),12):=by
 rw [runD,if_pos h]
theorem secL_in {b:List Int} (h:InB b) (i:Nat):InB (secL b i):=(h.drop _).take _
theorem secL_byt {w:World} {gb ob c i:Nat} {b:List Int} (hB:Byt w (some ⟨gb,ob,none⟩) c b) (hi:i * 128 + 128 ≤ b.length):Byt w (some ⟨gb,ob + i * 128,none⟩) (c - i * 128) (secL b i):=by
 obtain ⟨h1,_,h3⟩:=hB
 obtain ⟨g',o',e,hg,hc⟩:=h3 (by omega)
 cases e
 refine ⟨by rw [secL_len _ _ hi]; omega,(fun h => by cases h),fun _ => ⟨gb,ob + i * 128,rfl,hg,fun j hj => ?_⟩⟩
 rw [secL_len _ _ hi] at hj
 rw [secL_get _ _ _ hj,Nat.add_assoc]
 exact hc _ (by omega)
structure WInv (w:World) (K:DK) (D:DS) (k n:Nat) (b:List Int) (i:Nat) (Di:DS) (wr:World):Prop where
 dsk:Dsk wr K Di
 chg:Chg K.bl w wr
 run:runD D k b 0 n = runD Di k b i (n - i)
 off:Di.off = false
 secs:Di.secs = D.secs
 writes:Di.writes = D.writes + i
set_option maxRecDepth 100000 in
set_option maxHeartbeats 1000000 in
theorem write_ok {w:World} {K:DK} {D:DS} (h:Dsk w K D) (k n m:Nat) (hk:k + n ≤ D.secs) (ho:D.off = false) (A:Option Addr) (c:Nat) (b:List Int) (hm:m = n * 128) (hl:b.length = m) (hi:InB b) (hB:Byt w A c b) (hA:∀ a,A = some a → a.block ∉ K.bl) (hw:D.writes ≤ 1152921504606846976) :
 Calls Tryz.prog 118 #[K.ptr,.int .i64 k,.slice A m c] w fun e w' => e = .returned (.int .i64 (runD D k b 0 n).2) ∧ Dsk w' K (runD D k b 0 n).1 ∧ Chg K.bl w w':=by
 have hmost:=h.ok.most
 have Hs:=Lib.hid (sectors_count h)
 have Hw:=Lib.hid (within_any k n D.secs w (by omega) (by omega) (by omega))
 have Hr:=Lib.hid (refuses_any h true)
 rw [within_of hk] at Hw
 rw [show refE D true = 0 by simp [refE,ho]] at Hr
 have hi0:WInv w K D k n b 0 D w:=⟨h,Chg.refl _ _,rfl,ho,rfl,by simp⟩
 have H0:=Lib.hid hi0
 have HB:=Lib.hid hB
 have HA:=Lib.hid hA
 have HI:=Lib.hid hi
 have HL:=Lib.hid hl
 have hc0:=hB.1
 have hcm:m ≤ c:=by omega
 obtain ⟨S,hS⟩:∃ S,S = D.secs:=⟨_,rfl⟩
 have hwr:=h.ok.wr
 rw [← hS] at Hs Hw hmost hk
 have HS:=Lib.hid hS
 have Hwr:=Lib.hid hwr
 have HWW:=Lib.hid hw
 obtain ⟨T,hT⟩:∃ T,T = runD D k b 0 n:=⟨_,rfl⟩
 rw [← hT]
 have HT:=Lib.hid hT
 unfold DK.ptr at *
 clear h ho hi0 hB hA hi hl hS hT hw hwr hc0
 by_cases hn:n = 0
 · subst hn
   subst hm
   go_enter Tryz.func118,Tryz.ntmps118
   go_wp2_with (first
    | (go_at_call 13; refine Hs.out.mono ?_; rintro e w' ⟨rfl,rfl⟩)
    | (go_at_call 36; refine Hw.out.mono ?_; rintro e w' ⟨rfl,rfl⟩)
    | (go_at_call 70; refine Hr.out.mono ?_; rintro e w' ⟨rfl,rfl⟩))
   go_loopw [30] (fun v wr => v = .int .i64 0 ∧ wr = w) (fun _ _ => 0)
   case atStart => exact ⟨rfl,rfl⟩
   case round =>
    obtain ⟨rfl,rfl⟩:=hrel
    go_wp2
    go_ret
    have e:=HT.out
    rw [runD] at e
    rw [e]
    exact ⟨rfl,H0.out.dsk,Chg.refl _ _⟩
 · obtain ⟨gb,ob,rfl,hgb,_⟩:=HB.out.2.2 (by rw [HL.out]; omega)
   have hnA:=HA.out _ rfl
   have HnA:=Lib.hid hnA
   have Hgb:=Lib.hid hgb
   have hn16:n ≤ 16384:=by omega
   clear hnA hgb
   go_enter Tryz.func118,Tryz.ntmps118
   go_wp2_with (first
    | (go_at_call 13; refine Hs.out.mono ?_; rintro e w' ⟨rfl,rfl⟩)
    | (go_at_call 36; refine Hw.out.mono ?_; rintro e w' ⟨rfl,rfl⟩)
    | (go_at_call 70; refine Hr.out.mono ?_; rintro e w' ⟨rfl,rfl⟩))
   go_loopw [30] (fun v wr => ∃ i:Nat,i ≤ n ∧ v = .int .i64 i ∧ ∃ Di,WInv w K D k n b i Di wr) (fun v _ => n - (intOf v).toNat)
   case atStart => exact ⟨0,Nat.zero_le _,rfl,D,H0.out⟩
   case round =>
    obtain ⟨i,hin,rfl,Di,hinv⟩:=hrel
    by_cases hlt:i < n
    · have hB1:Byt wr (some ⟨gb,ob,none⟩) c b:=HB.out.chg hinv.chg HA.out
      have hsl:i * 128 + 128 ≤ b.length:=by rw [HL.out]; omega
      have hs1:=secL_byt hB1 hsl
      have hsecs:=hinv.secs
      have hki:k + i < Di.secs:=by rw [hsecs,← HS.out]; omega
      have hds:=writeSector_any hinv.dsk (k + i) hki (some ⟨gb,ob + i * 128,none⟩) (c - i * 128) (secL b i) (secL_len _ _ hsl) (secL_in HI.out i) hs1 (fun a ha => by cases ha; exact HnA.out) (by rw [hinv.writes]; have:=HWW.out; omega)
      have hfit:(k + i) * 128 + 128 ≤ Di.data.length:=by rw [hinv.dsk.ok.whole128]; omega
      have Hds:=Lib.hid hds
      have Hinv:=Lib.hid hinv
      have Hfit:=Lib.hid hfit
      have Hsl:=Lib.hid hsl
      clear hB1 hsl hs1 hsecs hki hds hfit hinv
      cases eo:(stepD Di (k + i) (secL b i)).off
      · have Heo:=Lib.hid eo
        clear eo
        go_wp2_with (go_at_call 135; rw [show (i + 1) * 128 - i * 128 = 128 by omega]; refine Hds.out.mono ?_; rintro e w2 ⟨rfl,hd2,hc2⟩; have c3:=(row0 hd2.row).2.2.2.1; rw [Heo.out] at c3; have Hd2:=Lib.hid hd2; have Hc2:=Lib.hid hc2; clear hd2 hc2)
        go_roundw
        case rel => exact ⟨i + 1,by omega,by go_num,_,⟨Hd2.out,Hinv.out.chg.trans Hc2.out,by rw [Hinv.out.run,show n - i = (n - (i + 1)) + 1 by omega,run_on Heo.out],Heo.out,(step_secs _ _ _ Hfit.out (secL_len _ _ Hsl.out)).trans Hinv.out.secs,by rw [step_writes,Hinv.out.writes]; omega⟩⟩
        case measure => simp [intOf]; omega
      · have Heo:=Lib.hid eo
        clear eo
        go_wp2_with (go_at_call 135; rw [show (i + 1) * 128 - i * 128 = 128 by omega]; refine Hds.out.mono ?_; rintro e w2 ⟨rfl,hd2,hc2⟩; have c3:=(row0 hd2.row).2.2.2.1; rw [Heo.out] at c3; have Hd2:=Lib.hid hd2; have Hc2:=Lib.hid hc2; clear hd2 hc2)
        go_ret
        have e:=HT.out
        rw [Hinv.out.run,show n - i = (n - (i + 1)) + 1 by omega,run_off Heo.out] at e
        rw [e]
        exact ⟨rfl,Hd2.out,Hinv.out.chg.trans Hc2.out⟩
    · have Hinv:=Lib.hid hinv
      clear hinv
      go_wp2
      go_ret
      have e:=HT.out
      rw [Hinv.out.run,show n - i = 0 by omega,runD] at e
      rw [e]
      exact ⟨rfl,Hinv.out.dsk,Hinv.out.chg⟩
def newD (n:Nat):DS:={ data:=List.replicate (n * 128) 0,writes:=0,off:=false,laid:=false,whole:=0,mask:=z16 }
theorem inb_zeros (n:Nat):InB (List.replicate n 0):=by
 intro j
 simp only [List.getD_eq_getElem?_getD,List.getElem?_replicate]
 split <;> simp
theorem newD_ok (n:Nat) (h1:1 ≤ n) (h2:n ≤ 16384):(newD n).Ok:=by
 have hs:(newD n).secs = n:=by simp [newD,DS.secs]
 exact ⟨inb_zeros _,by rw [hs]; simp [newD],by rw [hs]; exact h1,by rw [hs]; exact h2,rfl,inb16,by simp [newD],by simp [newD]⟩
theorem made_zeros (n:Nat):madeCells (Value.cells (.int .u8 0)) n = u8s (List.replicate n 0):=by
 apply Array.ext_getElem?
 intro j
 by_cases h:j < n
 · simp [madeCells,u8s,h,Value.cells,Nat.mod_one]
 · simp [madeCells,u8s,h]
theorem mk_any (n:Nat) (hn:n ≤ 4294967296) (w:World):(Instr.makeSlice 38 (.int .i64 n) (.int .i64 n)).run Tryz.prog w = .ok (.slice (some ⟨w.heap.size,0,none⟩) n n) (w.alloc (.cells (u8s (List.replicate n 0)) 5)):=by
 obtain ⟨i0,hi,hz0,hz1,hz2⟩:=info_parts info8z
 have h:=run_make (P:=Tryz.prog) w 38 5 i0 (.int .u8 0) Tryz.underlying38 hi hz0 .i64 .i64 n n (by omega) (by omega) (by rw [hz2]; omega) (by omega)
 rw [hz1] at h
 rw [h,Int.toNat_natCast,Nat.mul_one,made_zeros]
theorem built_new (g m:Nat):Tryz.prog.built 70 [(1,.slice (some ⟨g,0,none⟩) m m)] = some (.pointer none :: .slice (some ⟨g,0,none⟩) m m :: .int .i64 0 :: .bool false :: cutC false 0 z16).toArray:=by kernel_rfl
set_option maxRecDepth 100000 in
set_option maxHeartbeats 1000000 in
theorem new_ok (n:Nat) (w:World) (h1:1 ≤ n) (h2:n ≤ 16384):Calls Tryz.prog 8 #[.int .i64 n] w fun e w' => ∃ K:DK,e = .returned (.tuple #[K.ptr,.int .i64 0]) ∧ Dsk w' K (newD n) ∧ Below w.heap.size w w' ∧ w.heap.size ≤ K.g ∧ w.heap.size ≤ K.h:=by
 have hmk:=mk_any (n * 128) (by omega)
 rw [show ((n * 128:Nat):Int) = (n:Int) * 128 by omega] at hmk
 have hwr:IntKind.i64.wrap ((n:Int) * 128) = (n:Int) * 128:=by rw [IntKind.wrap_i64]; omega
 obtain ⟨m,hm⟩:∃ m,m = n * 128:=⟨_,rfl⟩
 rw [← hm] at hmk
 have Hm:=Lib.hid hm
 clear hm
 go_enter Tryz.func8,Tryz.ntmps8
 go_upto_region 3 with (fail)
 refine wp_region_lit ?_
 refine wpList_plain rfl (fun K hK => ?_)
 go_simp
 refine hK _ _ ?_
 clear hK
 clear K
 refine wpList_plain rfl (fun K hK => ?_)
 go_simp
 refine hK _ _ ?_
 clear hK
 clear K
 refine wpList_plain rfl (fun K hK => ?_)
 go_simp
 refine hK _ _ ?_
 clear hK
 clear K
 refine wpList_buildTo rfl 70 #[(1,.tmp 13)] rfl (some 14) rfl (.pointer none :: .slice (some ⟨w.heap.size,0,none⟩) m m :: .int .i64 0 :: .bool false :: cutC false 0 z16).toArray (by simp only [List.map_toArray,List.map_cons,List.map_nil]; exact built_new _ _) ?_
 refine wpList_plain rfl (fun K hK => ?_)
 go_simp
 refine hK _ _ ?_
 clear hK
 clear K
 refine wpList_plain rfl (fun K hK => ?_)
 go_simp
 refine hK _ _ ?_
 clear hK
 clear K
 refine wpList_nil ?_
 go_simp
 have h2n:=two_new w (.cells (u8s (List.replicate m 0)) 5) (.cells (.pointer none :: .slice (some ⟨w.heap.size,0,none⟩) m m :: .int .i64 0 :: .bool false :: cutC false 0 z16).toArray 70)
 have hlow:Below w.heap.size w ((w.alloc (.cells (u8s (List.replicate m 0)) 5)).alloc (.cells (.pointer none :: .slice (some ⟨w.heap.size,0,none⟩) m m :: .int .i64 0 :: .bool false :: cutC false 0 z16).toArray 70)):=((Below.refl _ _).alloc (Nat.le_refl _) _).alloc (by simp) _
 obtain ⟨w2,hw2⟩:∃ w2,w2 = (w.alloc (.cells (u8s (List.replicate m 0)) 5)).alloc (.cells (.pointer none :: .slice (some ⟨w.heap.size,0,none⟩) m m :: .int .i64 0 :: .bool false :: cutC false 0 z16).toArray 70):=⟨_,rfl⟩
 rw [← hw2] at h2n hlow ⊢
 have c0:=cell_row h2n.2 0
 have f0:=free_row h2n.2 0
 rw [show (Value.pointer none :: Value.slice (some ⟨w.heap.size,0,none⟩) m m :: Value.int .i64 0 :: Value.bool false :: cutC false 0 z16).toArray[0]? = some (Value.pointer none) by rfl] at c0
 have H2:=Lib.hid h2n
 have Hlow:=Lib.hid hlow
 clear h2n hlow hw2 hmk hwr
 go_wp2
 go_ret2
 have hd:Dsk (w2.setCell ⟨w.heap.size + 1,0,none⟩ (.pointer (some ⟨w.heap.size + 1,0,none⟩))) ⟨w.heap.size + 1,w.heap.size,[]⟩ (newD n):=by
  have hl:(newD n).data.length = m:=by simp [newD,Hm.out]
  refine ⟨?_,?_,by simp,newD_ok n h1 h2⟩
  · rw [hl]
    exact heap_setCell_same _ _ _ _ _ _ H2.out.2
  · rw [Below.heap_setCell _ _ _ _ (by simp),H2.out.1,Hm.out]
    simp [newD,vals,u8s]
 exact ⟨⟨w.heap.size + 1,w.heap.size,[]⟩,rfl,hd,Hlow.out.setCell (by simp) _,Nat.le_succ _,Nat.le_refl _⟩
theorem own_shape {w:World} {base n:Nat} {v:Value} {L:List Int} (h:w.ownsRow base 5 1 v n (vals L)) (_hl:L.length = n) (h0:0 < n):∃ g sp,v = .slice (some ⟨g,0,none⟩) n (n + sp.length) ∧ base ≤ g ∧ w.heap[g]? = some (.cells (vals L ++ sp).toArray 5 (0,0)):=by
 obtain ⟨_,h⟩:=h
 rcases h with ⟨_,h⟩ | ⟨g,cap,cur,hv,hb,hh,hcap,_,hs,ht⟩
 · omega
 · have e:cur.toList = vals L ++ cur.toList.drop n:=by
    rw [← ht,Nat.mul_one,List.take_append_drop]
   have e2:cap = n + (cur.toList.drop n).length:=by
    rw [List.length_drop,Array.length_toList,hs]; omega
   refine ⟨g,cur.toList.drop n,by rw [hv,← e2],hb,?_⟩
   rw [hh,← e]
end Go.Proofs.YteeghgjkjicjoaaGreatDoor.Dsk
