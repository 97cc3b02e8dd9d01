/- Texts of ours, merged. -/
import Derived.Test.YteeghgjkjicjoaaGreatDoorB13
namespace Go.Proofs.YteeghgjkjicjoaaGreatDoor.Slt
open Go.RowKit Dsk
structure Rows (B:Nat) (L:List (List Int)) (n k:Nat) (g:Nat) (w:World):Prop where
 row:∃ C,w.heap[g]? = some (.cells C 38 (0,0)) ∧ C.size = n ∧ ∀ i,i < k → ∃ v,C[i]? = some v ∧ SlB (L.getD i []) v w ∧ ∀ q,v.ownBlock = some q → B ≤ q ∧ q ≠ g
 ge:B ≤ g
theorem _root_.Go.Proofs.YteeghgjkjicjoaaGreatDoor.SlB.chg {T:List Nat} {w w':World} {L:List Int} {v:Value} (h:SlB L v w) (hc:Chg T w w') (hT:∀ q,v.ownBlock = some q → q ∉ T):SlB L v w':=by
 obtain ⟨A,c,rfl,hB⟩:=h
 exact ⟨A,c,rfl,hB.chg hc (fun a ha => hT _ (by rw [ha]; rfl))⟩
theorem Rows.chg {T:List Nat} {B n k g:Nat} {L:List (List Int)} {w w':World} (h:Rows B L n k g w) (hc:Chg T w w') (hT:∀ q ∈ T,q < B):Rows B L n k g w':=by
 obtain ⟨⟨C,h1,h2,h3⟩,h4⟩:=h
 refine ⟨⟨C,hc.at h1 (fun hm => by have:=hT _ hm; omega),h2,fun i hi => ?_⟩,h4⟩
 obtain ⟨v,a,b,d⟩:=h3 i hi
 exact ⟨v,a,b.chg hc (fun q hq hm => by have:=hT _ hm; have:=d q hq; omega),d⟩
theorem Rows.later {B n k g:Nat} {L:List (List Int)} {w w':World} (h:Rows B L n k g w) (hb:Below w.heap.size w w'):Rows B L n k g w':=h.chg (T:=[]) (Chg.of_below hb) (by simp)
theorem Rows.lt {B n k g:Nat} {L:List (List Int)} {w:World} (h:Rows B L n k g w):g < w.heap.size:=by obtain ⟨⟨C,h1,_⟩,_⟩:=h; exact (Array.getElem?_eq_some_iff.1 h1).1
theorem Rows.next {B n k g:Nat} {L:List (List Int)} {w:World} {v:Value} (h:Rows B L n k g w) (hk:k < n) (hv:SlB (L.getD k []) v w) (ho:∀ q,v.ownBlock = some q → B ≤ q ∧ q ≠ g):Rows B L n (k + 1) g (w.setCell ⟨g,k,none⟩ v):=by
 obtain ⟨⟨C,h1,h2,h3⟩,h4⟩:=h
 have hc:Chg [g] w (w.setCell ⟨g,k,none⟩ v):=(Chg.refl _ _).setCell (by simp) _
 refine ⟨⟨C.setIfInBounds k v,heap_setCell_same _ _ _ _ _ _ h1,by simp [h2],fun i hi => ?_⟩,h4⟩
 rw [Array.getElem?_setIfInBounds]
 by_cases e:k = i
 · subst e
   rw [if_pos rfl,if_pos (by omega)]
   exact ⟨v,rfl,hv.chg hc (fun q hq => by simp; exact (ho q hq).2),ho⟩
 · rw [if_neg e]
   obtain ⟨u,a,b,d⟩:=h3 i (by omega)
   exact ⟨u,a,b.chg hc (fun q hq => by simp; exact (d q hq).2),d⟩
theorem made_slots (n:Nat):∃ C:Array Value,madeCells (Value.cells (.slice none 0 0)) n = C ∧ C.size = n:=⟨_,rfl,by simp [madeCells,Value.cells]⟩
theorem mk_slots (n:Nat) (hn:n ≤ 1000000) (w:World):∃ C:Array Value,C.size = n ∧ (Instr.makeSlice 51 (.int .i64 n) (.int .i64 n)).run Tryz.prog w = .ok (.slice (some ⟨w.heap.size,0,none⟩) n n) (w.alloc (.cells C 38)):=by
 obtain ⟨i0,hi,hz0,hz1,hz2⟩:=info_parts info_slz
 have h:=run_make (P:=Tryz.prog) w 51 38 i0 (.slice none 0 0) Tryz.underlying51 hi hz0 .i64 .i64 n n (by omega) (by omega) (by rw [hz2]; omega) (by omega)
 rw [hz1] at h
 rw [Int.toNat_natCast,Nat.mul_one] at h
 obtain ⟨C,hC,hs⟩:=made_slots n
 rw [hC] at h
 exact ⟨C,hs,h⟩
theorem own_cellS {w:World} {base n:Nat} {A:Option Addr} {c:Nat} {ts:List Value} (h:w.ownsRow base 38 1 (.slice A n c) n ts) (i:Nat) (hi:i < n):∃ g,A = some ⟨g,0,none⟩ ∧ n ≤ c ∧ g < w.heap.size ∧ w.cell? ⟨g,i,none⟩ = some (ts.getD i undef):=by
 rcases h.2 with ⟨_,h0⟩ | ⟨g,cap,cur,hv,_,hh,hcap,_,hs,ht⟩
 · omega
 · cases hv
   refine ⟨g,rfl,hcap,(Array.getElem?_eq_some_iff.1 hh).1,?_⟩
   rw [cell_row hh]
   have h2:cur[i]? = cur.toList[i]?:=by simp
   have h3:(cur.toList.take (n * 1))[i]? = cur.toList[i]?:=by rw [List.getElem?_take,if_pos (by omega)]
   rw [h2,← h3,ht]
   have hl:ts.length = n:=by have:=h.1; omega
   simp [List.getD_eq_getElem?_getD,show i < ts.length by omega]
set_option maxHeartbeats 1000000 in
theorem all_any {w:World} {K:DK} {J:LK} {S:LS} (h:Lg w K J S):Calls Tryz.prog 78 #[J.ptr] w fun e w' => ∃ g,e = .returned (.slice (some ⟨g,0,none⟩) S.texts.length S.texts.length) ∧ Rows w.heap.size S.texts S.texts.length S.texts.length g w' ∧ Below w.heap.size w w':=by
 have Hm:=Lib.hid (lmade_any h)
 obtain ⟨_,_,_,_,_,c5,_⟩:=h.cells
 have hn:S.texts.length ≤ 16384:=by have:=h.cnt; have:=h.fit; have:=h.end_; omega
 have H:=Lib.hid h
 obtain ⟨A,c,hv⟩:=own_nilK h.own
 have hown:=h.own
 rw [hv] at c5 hown
 unfold LK.ptr at *
 obtain ⟨n,hn'⟩:∃ n,n = S.texts.length:=⟨_,rfl⟩
 rw [← hn'] at hn c5 hown ⊢
 have HN:=Lib.hid hn'
 have Hown:=Lib.hid hown
 obtain ⟨Cz,hCz,hmk⟩:=mk_slots n (by omega) w
 have hz:Rows w.heap.size S.texts n 0 w.heap.size (w.alloc (.cells Cz 38)):=⟨⟨Cz,Go.heap_alloc_new _ _,hCz,fun i hi => by omega⟩,Nat.le_refl _⟩
 have hb0:Below w.heap.size w (w.alloc (.cells Cz 38)):=(Below.refl _ _).alloc (Nat.le_refl _) _
 have hgl:=h.glt
 have c52:=(hb0.cell (p:=⟨J.g,5,none⟩) hgl).trans c5
 have Hz:=Lib.hid hz
 have Hb0:=Lib.hid hb0
 clear h hn' hv hown hCz hz hgl hb0
 obtain ⟨w1,hw1⟩:∃ w1,w1 = w.alloc (.cells Cz 38):=⟨_,rfl⟩
 rw [← hw1] at hmk c52 Hz Hb0
 clear hw1
 go_enter Tryz.func78,Tryz.ntmps78
 go_wp2_with (first
  | (go_at_call 91; refine Hm.out.mono ?_; rintro e w' ⟨rfl,rfl⟩))
 go_loopw [20] (fun v wr => ∃ i:Nat,i ≤ n ∧ v = .int .i64 i ∧ Hid (Rows w.heap.size S.texts n i w.heap.size wr ∧ Below w.heap.size w wr)) (fun v _ => n - (intOf v).toNat)
 case atStart => exact ⟨0,Nat.zero_le _,rfl,Hz.out,Hb0.out⟩
 case round =>
  obtain ⟨i,hi,rfl,hr⟩:=hrel
  by_cases hlt:i < n
  · have hltI:(i:Int) < (n:Int):=by omega
    obtain ⟨g,rfl,hcap,hg,hc⟩:=own_cellS Hown.out i hlt
    obtain ⟨A2,c2,e2,hB2⟩:=H.out.txt i (by rw [← HN.out]; exact hlt)
    rw [e2] at hc
    have hcr:=(hr.out.2.cell (p:=⟨g,i,none⟩) hg).trans hc
    have hcl:=clone_sl (L:=S.texts.getD i []) ⟨A2,c2,rfl,hB2.below hr.out.2 (Nat.le_refl _)⟩ (by
     have hm:S.texts.getD i [] ∈ S.texts:=by
      rw [List.getD_eq_getElem?_getD,List.getElem?_eq_getElem (by rw [← HN.out]; exact hlt),Option.getD_some]
      exact List.getElem_mem _
     have:=(H.out.inb _ hm).2
     omega)
    have Hcl:=Lib.hid hcl
    obtain ⟨m2,hm2⟩:∃ m2,m2 = (S.texts.getD i []).length:=⟨_,rfl⟩
    rw [← hm2] at hcr Hcl
    have Hm2:=Lib.hid hm2
    clear hcl hc hB2 hm2 e2
    go_upto_region 7 with (fail)
    have Hr:=Lib.hid (hr.out)
    clear hr
    go_wp2_with (go_at_call 35; refine Hcl.out.mono ?_; rintro e w2 ⟨v2,rfl,ho,hb⟩; obtain ⟨A3,c3,rfl⟩:=own_nilK ho; have Ho:=Lib.hid ho; have Hb:=Lib.hid hb; have hr2:=Hr.out.1.later hb; obtain ⟨⟨C2,hC2,_⟩,_⟩:=id hr2; have f2:=free_row hC2 i; have cc:=cell_row hC2 i; have Hr2:=Lib.hid hr2; clear ho hb hr2 hC2)
    have hlt2:=Hr.out.1.lt
    have ho2:=Ho.out
    rw [Hm2.out] at ho2 ⊢
    refine ⟨⟨i + 1,by omega,by go_num,Hr2.out.next hlt (own_sl ho2 rfl) (fun q hq => by have:=(ho2.lt q hq).1; have:=Hr.out.2.size; omega),(Hr.out.2.trans (Hb.out.mono Hr.out.2.size)).setCell (Nat.le_refl _) _⟩,by simp [intOf]; omega⟩
  · have hltI:¬ (i:Int) < (n:Int):=by omega
    obtain rfl:i = n:=by omega
    go_wp2
    go_ret
    exact ⟨_,rfl,hr.out.1,hr.out.2⟩
end Go.Proofs.YteeghgjkjicjoaaGreatDoor.Slt
namespace Go.Proofs.YteeghgjkjicjoaaGreatDoor.Str
open Go.RowKit
def bOf (s:ByteArray):List Int:=s.data.toList.map fun b => (b.toNat:Int)
theorem bOf_length (s:ByteArray):(bOf s).length = s.size:=by rw [bOf,List.length_map,Array.length_toList]; rfl
theorem bOf_in (s:ByteArray):InB (bOf s):=by
 intro j
 by_cases h:j < (bOf s).length
 · have h':j < s.data.toList.length:=by simpa [bOf] using h
   have e:(bOf s).getD j 0 = ((s.data.toList[j]).toNat:Int):=by simp [bOf,List.getD_eq_getElem?_getD,List.getElem?_map,List.getElem?_eq_getElem h']
   rw [e]
   have:=(s.data.toList[j]).toNat_lt
   omega
 · rw [getD_out _ _ (Nat.le_of_not_lt h)]; omega
theorem run_bytes (w:World) (s:ByteArray):(convert 9 38 (.string s)).run Tryz.prog w = .ok (.slice (some ⟨w.heap.size,0,none⟩) s.size (grownCap w s.size 0 5)) (Lib.bytesWorld w 5 s) :=
 Lib.run_convert_string_bytes w 9 38 5 s Tryz.underlying9 Tryz.underlying38 Tryz.underlying5
theorem conv_any {w:World} {A:Option Addr} {c n:Nat} {L:List Int} (hB:Byt w A c L) (hn:L.length = n):(convert 38 9 (.slice A n c)).run Tryz.prog w = .ok (.string (strOfNums L)) w:=by
 by_cases h0:0 < n
 · obtain ⟨g,off,rfl,_,hc⟩:=hB.2.2 (by omega)
   exact run_convert_bytes_arg w 38 5 Tryz.underlying38 Tryz.underlying5 g off n c L hn (fun i hi => hc i (by omega)) 9 Tryz.underlying9
 · obtain rfl:n = 0:=by omega
   obtain rfl:L = []:=List.eq_nil_of_length_eq_zero hn
   cases A with
   | none => exact run_convert_bytes_nil w 38 5 Tryz.underlying38 Tryz.underlying5 0 c 9 Tryz.underlying9
   | some a =>
     rw [run_convert_bytes_string w 38 9 5 _ 0 c Tryz.underlying38 Tryz.underlying5 Tryz.underlying9]
     simp [Conv.bytesToString,loadCells,loadCellsFrom,strOfNums]
     rfl
theorem byt_rowT {w:World} {g:Nat} {t:TypeId} {l:List Int} {fr:Nat × Nat} (h:w.heap[g]? = some (.cells (u8s l) t fr)) {n:Nat} (hn:l.length = n):Byt w (some ⟨g,0,none⟩) n l :=
 ⟨by omega,(fun h => by cases h),fun _ => ⟨g,0,rfl,(Array.getElem?_eq_some_iff.1 h).1,fun j hj => by rw [Nat.zero_add,cell_row h,u8s_get _ _ hj]⟩⟩
theorem inB_get {L:List Int} (h:InB L):∀ x ∈ L,0 ≤ x ∧ x < 256:=by
 intro x hx
 obtain ⟨j,hj,rfl⟩:=List.getElem_of_mem hx
 have:=h j
 simpa [List.getD_eq_getElem?_getD,hj] using this
theorem bOf_str {L:List Int} (h:InB L):bOf (strOfNums L) = L:=by
 have hm:=inB_get h
 unfold bOf
 rw [strOfNums_data,List.map_map]
 conv => rhs; rw [← List.map_id L]
 refine List.map_congr_left fun x hx => ?_
 have:=hm x hx
 simp
 omega
theorem str_inj {L M:List Int} (h:InB L) (k:InB M) (e:strOfNums L = strOfNums M):L = M:=by
 rw [← bOf_str h,← bOf_str k,e]
theorem toList_inj {s t:ByteArray} (e:s.toList = t.toList):s = t:=by
 rw [ByteArray.toList_eq,ByteArray.toList_eq] at e
 cases s; cases t
 simpa using e
theorem str_ne {L M:List Int} (h:InB L) (k:InB M) (e:L ≠ M):¬ (strOfNums L).toList = (strOfNums M).toList:=fun h' => e (str_inj h k (toList_inj h'))
end Go.Proofs.YteeghgjkjicjoaaGreatDoor.Str
namespace Go.Proofs.YteeghgjkjicjoaaGreatDoor.Slt
open Go.RowKit Dsk
structure TxAt (w:World) (A:Option Addr) (L:List (List Int)):Prop where
 at_:∀ i,i < L.length → ∃ g off B c,A = some ⟨g,off,none⟩ ∧ g < w.heap.size ∧ w.cell? ⟨g,off + i,none⟩ = some (.slice B (L.getD i []).length c) ∧ Byt w B c (L.getD i []) ∧ InB (L.getD i [])
theorem TxAt.later {w w':World} {A:Option Addr} {L:List (List Int)} (h:TxAt w A L) (hb:Below w.heap.size w w'):TxAt w' A L:=⟨fun i hi => by
 obtain ⟨g,off,B,c,e,hg,hc,hB,hin⟩:=h.at_ i hi
 exact ⟨g,off,B,c,e,Nat.lt_of_lt_of_le hg hb.size,(hb.cell (p:=⟨g,off + i,none⟩) hg).trans hc,hB.below hb (Nat.le_refl _),hin⟩⟩
theorem texts_ne {L M:List Int} (hL:InB L) (hM:InB M) (h:L ≠ M):((strOfNums L).toList == (strOfNums M).toList) = false:=by
 rw [beq_eq_false_iff_ne]
 exact Str.str_ne hL hM h
theorem lists_ne {L M:List (List Int)} {i:Nat} (hn:L.getD i [] ≠ M.getD i []):L ≠ M:=fun e => hn (by rw [e])
theorem lists_eq {L M:List (List Int)} (h:L.length = M.length) (hg:∀ i,i < L.length → L.getD i [] = M.getD i []):L = M:=by
 apply List.ext_getElem h
 intro j h1 h2
 have:=hg j h1
 simpa [List.getD_eq_getElem?_getD,h1,h2] using this
end Go.Proofs.YteeghgjkjicjoaaGreatDoor.Slt
namespace Go.Proofs.YteeghgjkjicjoaaGreatDoor.Slt
open Go.ChangeShapes Go.WideShapes Go.ChangeAt Go.RowKit Dsk
structure Tp where
 A:Option Addr
 c:Nat
 M:List Int
def Tp.val (p:Tp):Value:=.slice p.A p.M.length p.c
structure TpsAt (wb:World) (Ap:Option Addr) (ps:List Tp):Prop where
 row:∀ j (h:j < ps.length),∃ g off,Ap = some ⟨g,off,none⟩ ∧ g < wb.heap.size ∧ wb.cell? ⟨g,off + j,none⟩ = some ps[j].val
 byt:∀ j (h:j < ps.length),Byt wb ps[j].A ps[j].c ps[j].M ∧ InB ps[j].M
theorem TpsAt.tx {w:World} {A:Option Addr} {ps:List Tp} (h:TpsAt w A ps):TxAt w A (ps.map (·.M)):=⟨fun i hi => by
 rw [List.length_map] at hi
 obtain ⟨g,off,e,hg,hc⟩:=h.row i hi
 obtain ⟨hB,hin⟩:=h.byt i hi
 have e2:(ps.map (·.M)).getD i [] = ps[i].M:=by simp [List.getD_eq_getElem?_getD,hi]
 exact ⟨g,off,ps[i].A,ps[i].c,e,hg,by rw [e2]; exact hc,by rw [e2]; exact hB,by rw [e2]; exact hin⟩⟩
theorem cellsSl:Tryz.prog.cellsOf 38 = 1:=by kernel_rfl
end Go.Proofs.YteeghgjkjicjoaaGreatDoor.Slt
namespace Go.Proofs.YteeghgjkjicjoaaGreatDoor.Sgm
open Go.ChangeShapes Go.WideShapes Go.ChangeAt Go.RowKit Dsk Slt
theorem wf8 {z:Int} (h:(Lit.int .u8 z).wf = true):0 ≤ z ∧ z ≤ 255:=by simpa [Lit.wf,IntKind.bits,IntKind.signed,IntKind.min,IntKind.max] using h
structure Ac where
 what:Int
 A:Option Addr
 cap:Nat
 L:List Int
 whole:Int
 mask:List Int
 at_:Int
def Ac.c (x:Ac):Array Value:=(Value.int .u8 x.what :: Value.slice x.A x.L.length x.cap :: Value.int .u8 x.whole :: (vals x.mask ++ [Value.int .u32 x.at_])).toArray
theorem cellsU8:Tryz.prog.cellsOf 5 = 1:=by kernel_rfl
theorem cellsInt:Tryz.prog.cellsOf 3 = 1:=by kernel_rfl
theorem cellsU64:Tryz.prog.cellsOf 25 = 1:=by kernel_rfl
theorem cellsStr:Tryz.prog.cellsOf 9 = 1:=by kernel_rfl
theorem cellsLab:Tryz.prog.cellsOf 27 = 2:=by kernel_rfl
theorem cellsWh:Tryz.prog.cellsOf 29 = 4:=by kernel_rfl
def Acts (w:World) (A:Option Addr) (c:Nat) (xs:List Ac):Prop :=
 xs.length ≤ c ∧ (A = none → c = 0) ∧ (0 < xs.length → ∃ b off,A = some ⟨b,off,none⟩ ∧ b < w.heap.size ∧ ∀ i x,xs[i]? = some x → w.rangeAt b (off + i * 20) x.c.toList)
set_option maxRecDepth 100000 in
theorem open_where {H:Type} {enc:TypeId × Value → H} {W:World} {base:Nat} {v:Value} {d:DataW H} {p:List MemPlace} (hv:Value.okWide Tryz.prog W .any base 29 v)
 (h:DataW.Trod enc Tryz.prog W 0 (fun _ => true) true 29 v d p):∃ (s:ByteArray) (lv:Int) (cp:Nat) (sc:Nat),v = .agg #[.string s,.int .i64 lv,.int .u64 (cp:Nat),.int .u8 (sc:Nat)] ∧ s.size ≤ 9223372036854775807 ∧ cp < 18446744073709551616 ∧ sc < 256:=by
 obtain ⟨cs,rfl,hsz⟩:=okWide_struct Tryz.underlying29 hv
 rw [cellsWh] at hsz
 obtain ⟨fuel,hf⟩:=h
 obtain ⟨xs,n,_,_,_,hlen,hff⟩:=DataW.trod_struct Tryz.underlying29 hf
 obtain ⟨y0,y1,y2,rfl⟩:∃ y0 y1 y2,xs = [y0,y1,y2]:=by
  match xs,hlen with
  | [a,b,c],_ => exact ⟨a,b,c,rfl⟩
 obtain ⟨u0,u1,u2,u3,rfl⟩:∃ u0 u1 u2 u3,cs = #[u0,u1,u2,u3]:=by
  match cs,hsz with
  | ⟨[a,b,c,d]⟩,_ => exact ⟨a,b,c,d,rfl⟩
 have q0:DataW.trod enc Tryz.prog W 0 (fun _ => true) true n 9 (List.take (Tryz.prog.cellsOf 9) (List.drop 0 [u0,u1,u2,u3])) = some y0:=hff 0 _ rfl
 have q1:DataW.trod enc Tryz.prog W 0 (fun _ => true) true n 27 (List.take (Tryz.prog.cellsOf 27) (List.drop 1 [u0,u1,u2,u3])) = some y1:=hff 1 _ rfl
 have q2:DataW.trod enc Tryz.prog W 0 (fun _ => true) true n 5 (List.take (Tryz.prog.cellsOf 5) (List.drop 3 [u0,u1,u2,u3])) = some y2:=hff 2 _ rfl
 rw [cellsStr] at q0
 rw [cellsLab] at q1
 rw [cellsU8] at q2
 obtain ⟨s,hs,_,hsl⟩:=DataW.trod_string Tryz.underlying9 q0
 obtain ⟨ys,n2,_,_,_,hlen2,hff2⟩:=DataW.trod_struct Tryz.underlying27 q1
 obtain ⟨z0,z1,rfl⟩:∃ z0 z1,ys = [z0,z1]:=by
  match ys,hlen2 with
  | [a,b],_ => exact ⟨a,b,rfl⟩
 have r0:DataW.trod enc Tryz.prog W 0 (fun _ => true) true n2 3 (List.take (Tryz.prog.cellsOf 3) (List.drop 0 (List.take 2 (List.drop 1 [u0,u1,u2,u3])))) = some z0:=hff2 0 _ rfl
 have r1:DataW.trod enc Tryz.prog W 0 (fun _ => true) true n2 25 (List.take (Tryz.prog.cellsOf 25) (List.drop 1 (List.take 2 (List.drop 1 [u0,u1,u2,u3])))) = some z1:=hff2 1 _ rfl
 rw [cellsInt] at r0
 rw [cellsU64] at r1
 obtain ⟨a,ha,_,haw⟩:=DataW.trod_int Tryz.underlying3 r0
 obtain ⟨b,hb,_,hbw⟩:=DataW.trod_int Tryz.underlying25 r1
 obtain ⟨e,he,_,hew⟩:=DataW.trod_int Tryz.underlying5 q2
 simp only [List.drop_zero,List.take_succ_cons,List.take_zero,List.drop_succ_cons,List.cons.injEq,and_true] at hs ha hb he
 subst hs ha hb he
 have hb2:0 ≤ b ∧ b ≤ 18446744073709551615:=by simpa [Lit.wf,IntKind.bits,IntKind.signed,IntKind.min,IntKind.max] using hbw
 have he2:=wf8 hew
 refine ⟨s,a,b.toNat,e.toNat,?_,hsl,by omega,by omega⟩
 rw [Int.toNat_of_nonneg hb2.1,Int.toNat_of_nonneg he2.1]
end Go.Proofs.YteeghgjkjicjoaaGreatDoor.Sgm
namespace Go.Proofs.YteeghgjkjicjoaaGreatDoor.Sgm
open Go.ChangeShapes Go.WideShapes Go.ChangeAt Go.RowKit Dsk Slt
theorem part_cells9 {H:Type} {enc:TypeId × Value → H} {W:World} {n:Nat} {cs:List Value} {y:DataW H × List MemPlace} (hf:DataW.trod enc Tryz.prog W 0 (fun _ => true) true n 38 cs = some y):∃ p:Tp,cs = [p.val] ∧ p.M.length ≤ maxLen ∧ InB p.M ∧ Byt W p.A p.c p.M:=by
 rcases open_ints Tryz.underlying38 Tryz.underlying5 cells5 hf with ⟨hcs,_⟩ | ⟨a,len,cap,zs,hcs,_,hl,hm,hz,_,hcell,hwz⟩
 · exact ⟨⟨none,0,[]⟩,hcs,Nat.zero_le _,fun j => by simp,Nat.le_refl _,fun _ => rfl,fun h => absurd h (Nat.lt_irrefl 0)⟩
 · simp only [if_true] at hz
   have hlen:(zs.take len).length = len:=by simp; omega
   refine ⟨⟨some a,cap,zs.take len⟩,by rw [hcs]; simp only [Tp.val,hlen],by simp only [hlen]; omega,?_,⟨by simp only [hlen]; exact hl,(fun h => by cases h),(fun h => ?_)⟩⟩
   · intro j
     by_cases hj:j < len
     · have hj':j < zs.length:=by omega
       have e:(zs.take len).getD j 0 = zs[j]:=by simp [List.getD_eq_getElem?_getD,hj,hj']
       have:=hwz zs[j] (List.getElem_mem hj')
       have h2:0 ≤ zs[j] ∧ zs[j] ≤ 255:=by simpa [Lit.wf,IntKind.bits,IntKind.signed,IntKind.min,IntKind.max] using this
       show 0 ≤ (zs.take len).getD j 0 ∧ (zs.take len).getD j 0 < 256
       rw [e]
       omega
     · show 0 ≤ (zs.take len).getD j 0 ∧ (zs.take len).getD j 0 < 256
       rw [List.getD_eq_getElem?_getD,List.getElem?_eq_none (by rw [hlen]; exact Nat.le_of_not_lt hj)]; simp
   · simp only [hlen] at h
     obtain ⟨b,off,spot⟩:=a
     have hspot:spot = none:=by simpa [Addr.add] using World.cell?_spot (hcell 0 (by omega))
     subst hspot
     refine ⟨b,off,rfl,?_,fun j hj => ?_⟩
     · have:=World.block_lt_of_cell? W _ (hcell 0 (by omega))
       simpa [Addr.add] using this
     · simp only [hlen] at hj
       rw [← Addr.add_mid,hcell j (by omega)]
       simp [List.getD_eq_getElem?_getD,hj]
theorem parts_list9 {H:Type} {enc:TypeId × Value → H} {W:World} {n:Nat} {a:Addr}:∀ (len:Nat) (elems:List (DataW H × List MemPlace)),elems.length = len →
 (∀ i,i < len → (W.cells? 0 (a.add (i * 1)) 1).bind (DataW.trod enc Tryz.prog W 0 (fun _ => true) true n 38) = elems[i]?) →
 ∃ xs:List Tp,xs.length = len ∧ (∀ x ∈ xs,x.M.length ≤ maxLen ∧ InB x.M ∧ Byt W x.A x.c x.M) ∧ ∀ i x,xs[i]? = some x → W.cells? 0 (a.add (i * 1)) 1 = some [x.val]:=by
 intro len
 induction len with
 | zero => exact fun _ _ _ => ⟨[],rfl,(fun _ h => by cases h),(fun i x h => by simp at h)⟩
 | succ m ih =>
   intro elems hl h
   obtain ⟨xs,hxl,hok,hx⟩:=ih (elems.take m) (by simp; omega) (fun i hi => by rw [h i (by omega),List.getElem?_take,if_pos hi])
   have hm:=h m (by omega)
   rw [List.getElem?_eq_getElem (by omega:m < elems.length)] at hm
   obtain ⟨cs,hcs,htr⟩:=Option.bind_eq_some_iff.1 hm
   obtain ⟨x,rfl,ok⟩:=part_cells9 htr
   refine ⟨xs ++ [x],by simp [hxl],?_,?_⟩
   · intro y hy
     rcases List.mem_append.1 hy with hy | hy
     · exact hok y hy
     · obtain rfl:=List.mem_singleton.1 hy
       exact ok
   · intro i y hy
     by_cases hi:i < m
     · rw [List.getElem?_append_left (by omega)] at hy
       exact hx i y hy
     · have hlen:=(List.getElem?_eq_some_iff.1 hy).1
       simp only [List.length_append,List.length_singleton] at hlen
       obtain rfl:i = m:=by omega
       rw [List.getElem?_append_right (by omega),hxl,Nat.sub_self] at hy
       obtain rfl:=Option.some.inj hy
       exact hcs
set_option maxRecDepth 100000 in
theorem open_parts9 {H:Type} {enc:TypeId × Value → H} {W:World} {base:Nat} {v:Value} {d:DataW H} {p:List MemPlace} (hv:Value.okWide Tryz.prog W .any base 51 v)
 (h:DataW.Trod enc Tryz.prog W 0 (fun _ => true) true 51 v d p):∃ (A:Option Addr) (c:Nat) (ps:List Tp),v = .slice A ps.length c ∧ TpsAt W A ps ∧ ps.length ≤ c ∧ (A = none → c = 0) ∧ ps.length ≤ maxLen ∧ ∀ x ∈ ps,x.M.length ≤ maxLen:=by
 obtain ⟨a0,len,cap,rfl⟩:=okWide_slice Tryz.underlying51 hv
 obtain ⟨fuel,hf⟩:=h
 rcases DataW.trod_slice Tryz.underlying51 hf with ⟨hcs,_⟩ | ⟨a,len',cap',elems,rest,n,_,hcs,_,_,hl,hm,hz,hel,_,_⟩
 · simp [Value.cells] at hcs
   obtain ⟨rfl,rfl,rfl⟩:=hcs
   exact ⟨none,0,[],rfl,⟨fun j h => absurd h (Nat.not_lt_zero _),fun j h => absurd h (Nat.not_lt_zero _)⟩,Nat.le_refl _,fun _ => rfl,Nat.zero_le _,fun x h => by cases h⟩
 · simp [Value.cells] at hcs
   obtain ⟨rfl,rfl,rfl⟩:=hcs
   rw [cellsSl] at hel
   obtain ⟨xs,hxl,hok,hx⟩:=parts_list9 len elems hz hel
   refine ⟨some a,cap,xs,by rw [hxl],⟨fun j hj => ?_,fun j hj => ⟨(hok _ (List.getElem_mem hj)).2.2,(hok _ (List.getElem_mem hj)).2.1⟩⟩,by rw [hxl]; exact hl,(fun h => by cases h),by rw [hxl]; omega,fun x hx => (hok x hx).1⟩
   have k0:=(World.cells?_some (hx j xs[j] (List.getElem?_eq_getElem hj))).2.2 0 (by omega)
   obtain ⟨b,off,spot⟩:=a
   have k1:W.cell? ((⟨b,off,spot⟩:Addr).add (j * 1)) = some xs[j].val:=by
    have e:((⟨b,off,spot⟩:Addr).add (j * 1)).add 0 = (⟨b,off,spot⟩:Addr).add (j * 1):=by simp [Addr.add]
    rw [e] at k0
    simpa using k0
   have k00:=(World.cells?_some (hx 0 xs[0] (List.getElem?_eq_getElem (by omega)))).2.2 0 (by omega)
   have hspot:spot = none:=by simpa [Addr.add] using World.cell?_spot k00
   subst hspot
   rw [Addr.add_mid,Nat.mul_one] at k1
   exact ⟨b,off,rfl,by have:=World.block_lt_of_cell? W _ k1; simpa using this,k1⟩
end Go.Proofs.YteeghgjkjicjoaaGreatDoor.Sgm
namespace Go.Proofs.YteeghgjkjicjoaaGreatDoor.Epo
open Go.RowKit Dsk
def lead (x:Int):List Int → Nat
 | [] => 0
 | y :: r => if y = x then lead x r + 1 else 0
theorem lead_le (x:Int):∀ L:List Int,lead x L ≤ L.length
 | [] => Nat.le_refl _
 | y :: r => by
   have:=lead_le x r
   unfold lead
   split <;> simp only [List.length_cons] <;> omega
theorem lead_get (x:Int):∀ (L:List Int) (j:Nat),j < lead x L → L.getD j 0 = x
 | [],j,h => absurd h (Nat.not_lt_zero _)
 | y :: r,j,h => by
   unfold lead at h
   by_cases e:y = x
   · rw [if_pos e] at h
     cases j with
     | zero => exact e
     | succ k => exact lead_get x r k (by omega)
   · rw [if_neg e] at h; omega
theorem lead_stop (x:Int):∀ L:List Int,lead x L < L.length → L.getD (lead x L) 0 ≠ x
 | [],h => absurd h (Nat.not_lt_zero _)
 | y :: r,h => by
   unfold lead at h ⊢
   by_cases e:y = x
   · rw [if_pos e] at h ⊢
     exact lead_stop x r (by simpa using h)
   · rw [if_neg e]
     exact e
theorem lead_of {x:Int} {L:List Int} {n:Nat} (hn:n ≤ L.length) (h:∀ j,j < n → L.getD j 0 = x) (hs:n < L.length → L.getD n 0 ≠ x):lead x L = n:=by
 have h1:=lead_le x L
 rcases Nat.lt_trichotomy (lead x L) n with hl | hl | hl
 · exact absurd (h _ hl) (lead_stop x L (by omega))
 · exact hl
 · exact absurd (lead_get x L n hl) (hs (by omega))
structure Cnt (L:List Int) (n:Nat):Prop where
 le:n ≤ L.length
 at_:∀ j,j < L.length → L.getD j 0 = if j < n then 1 else 0
def restL (L:List Int):List Int:=L.drop (lead 1 L)
def tellV (L:List Int):Int:=if lead 0 (restL L) < (restL L).length then 0 else lead 1 L
def tellE (L:List Int):Int:=if lead 0 (restL L) < (restL L).length then 9 else 0
theorem getD_drop'' (L:List Int) (p j:Nat):(L.drop p).getD j 0 = L.getD (p + j) 0:=by
 simp [List.getD_eq_getElem?_getD]
theorem Cnt.lead1 {L:List Int} {n:Nat} (h:Cnt L n):lead 1 L = n :=
 lead_of h.le (fun j hj => by rw [h.at_ j (by have:=h.le; omega),if_pos hj]) (fun hl => by rw [h.at_ n hl,if_neg (Nat.lt_irrefl _)]; decide)
theorem Cnt.lead0 {L:List Int} {n:Nat} (h:Cnt L n):¬ lead 0 (restL L) < (restL L).length:=by
 have hle:=h.le
 have hl:(restL L).length = L.length - n:=by rw [restL,List.length_drop,h.lead1]
 rw [lead_of (n:=(restL L).length) (Nat.le_refl _) (fun j hj => ?_) (fun hh => absurd hh (Nat.lt_irrefl _))]
 · exact Nat.lt_irrefl _
 · rw [restL,getD_drop'',h.lead1,h.at_ _ (by omega),if_neg (by omega)]
theorem Cnt.tv {L:List Int} {n:Nat} (h:Cnt L n):tellV L = n:=by rw [tellV,if_neg h.lead0,h.lead1]
theorem Cnt.te {L:List Int} {n:Nat} (h:Cnt L n):tellE L = 0:=by rw [tellE,if_neg h.lead0]
theorem cnt_of {L:List Int} (h:¬ lead 0 (restL L) < (restL L).length):Cnt L (lead 1 L):=by
 have h1:=lead_le 1 L
 refine ⟨h1,fun j hj => ?_⟩
 by_cases e:j < lead 1 L
 · rw [if_pos e]; exact lead_get 1 L j e
 · rw [if_neg e]
   have hl:(restL L).length = L.length - lead 1 L:=by rw [restL,List.length_drop]
   have:=lead_get 0 (restL L) (j - lead 1 L) (by omega)
   rw [restL,getD_drop'',show lead 1 L + (j - lead 1 L) = j by omega] at this
   exact this
theorem tell_cases (L:List Int):(tellE L = 9 ∧ tellV L = 0) ∨ (tellE L = 0 ∧ Cnt L (lead 1 L) ∧ tellV L = lead 1 L):=by
 by_cases e:lead 0 (restL L) < (restL L).length
 · exact .inl ⟨by rw [tellE,if_pos e],by rw [tellV,if_pos e]⟩
 · exact .inr ⟨by rw [tellE,if_neg e],cnt_of e,by rw [tellV,if_neg e]⟩
def regL (D:DS) (f n:Nat):List Int:=(D.data.drop (f * 128)).take n
def nextB (D:DS) (f v:Nat):List Int:=(secL D.data (f + v / 128)).set (v % 128) 1
def nextD (D:DS) (f v:Nat):DS × Int:=runD D (f + v / 128) (nextB D f v) 0 1
theorem nextD_eq (D:DS) (f v:Nat):nextD D f v = (stepD D (f + v / 128) (secL (nextB D f v) 0),if (stepD D (f + v / 128) (secL (nextB D f v) 0)).off then 12 else 0):=by
 unfold nextD
 rw [runD,Nat.add_zero]
 cases (stepD D (f + v / 128) (secL (nextB D f v) 0)).off <;> rfl
theorem sec0 {b:List Int} (h:b.length = 128):secL b 0 = b:=by
 unfold secL
 rw [Nat.zero_mul,List.drop_zero,List.take_of_length_le (by omega)]
theorem set_getD (L:List Int) (i j:Nat) (y:Int) (hi:i < L.length):(L.set i y).getD j 0 = if j = i then y else L.getD j 0:=by
 rw [List.getD_eq_getElem?_getD,List.getElem?_set]
 by_cases e:i = j
 · subst e
   rw [if_pos rfl,if_pos hi,if_pos rfl]; rfl
 · rw [if_neg e,if_neg (fun h => e h.symm),← List.getD_eq_getElem?_getD]
structure NextQ (D:DS) (f v:Nat) (R:DS × Int):Prop where
 len:R.1.data.length = D.data.length
 wr:R.1.writes = D.writes + 1
 at_:∀ j,R.1.data.getD j 0 = if j = f * 128 + v ∧ (D.due = false ∨ bitM D.mask (v % 128) = true) then 1 else D.data.getD j 0
 yes:D.due = false → R.2 = 0 ∧ R.1.off = false ∧ R.1.laid = D.laid ∧ R.1.whole = (if D.laid then D.whole - 1 else D.whole) ∧ R.1.mask = D.mask
 no:D.due = true → R.2 = 12 ∧ R.1.off = true
theorem next_q (D:DS) (f v:Nat) (ho:D.off = false) (hfit:(f + v / 128) * 128 + 128 ≤ D.data.length):NextQ D f v (nextD D f v):=by
 have hl:(secL D.data (f + v / 128)).length = 128:=secL_len _ _ hfit
 have hB:(nextB D f v).length = 128:=by rw [nextB,List.length_set,hl]
 rw [nextD_eq,sec0 hB]
 have hkv:(f + v / 128) * 128 + v % 128 = f * 128 + v:=by omega
 have hm:v % 128 < 128:=by omega
 have hget:∀ j,j < 128 → (nextB D f v).getD j 0 = if j = v % 128 then 1 else D.data.getD ((f + v / 128) * 128 + j) 0:=fun j hj => by
  rw [nextB,set_getD _ _ _ _ (by omega),secL_get _ _ _ hj]
 obtain ⟨k,hk⟩:∃ k,k = f + v / 128:=⟨_,rfl⟩
 rw [← hk] at hfit hget hkv ⊢
 unfold stepD
 by_cases hd:D.due = true
 · rw [if_pos hd]
   have ht:(tornL D.mask (secL D.data k) (nextB D f v)).length = 128:=torn_len _ _ _
   refine ⟨splice_len _ _ _ (by rw [ht]; exact hfit),rfl,fun j => ?_,(fun h => by rw [hd] at h; cases h),fun _ => ⟨rfl,rfl⟩⟩
   show (splice D.data (k * 128) (tornL D.mask (secL D.data k) (nextB D f v))).getD j 0 = _
   rw [splice_getD _ _ _ (by rw [ht]; exact hfit),ht]
   by_cases h1:j < k * 128
   · rw [if_pos h1,if_neg (fun h => by omega)]
   · rw [if_neg h1]
     by_cases h2:j < k * 128 + 128
     · rw [if_pos h2,torn_get _ _ _ _ (by omega),hget _ (by omega),secL_get _ _ _ (by omega),show k * 128 + (j - k * 128) = j by omega]
       by_cases e:j = f * 128 + v
       · have e2:j - k * 128 = v % 128:=by omega
         rw [e2,if_pos rfl]
         by_cases hb:bitM D.mask (v % 128) = true
         · rw [if_pos hb,if_pos ⟨e,.inr hb⟩]
         · rw [if_neg hb,if_neg (fun h => by rcases h.2 with h | h; rw [hd] at h; cases h; exact hb h)]
       · rw [if_neg (show ¬ j - k * 128 = v % 128 by omega),ite_self,if_neg (fun h => e h.1)]
     · rw [if_neg h2,if_neg (fun h => by omega)]
 · have hd':D.due = false:=by simpa using hd
   rw [if_neg hd]
   refine ⟨splice_len _ _ _ (by rw [hB]; exact hfit),rfl,fun j => ?_,(fun _ => ⟨by simp only [ho]; rfl,ho,rfl,rfl,rfl⟩),fun h => absurd h hd⟩
   show (splice D.data (k * 128) (nextB D f v)).getD j 0 = _
   rw [splice_getD _ _ _ (by rw [hB]; exact hfit),hB]
   by_cases h1:j < k * 128
   · rw [if_pos h1,if_neg (fun h => by omega)]
   · rw [if_neg h1]
     by_cases h2:j < k * 128 + 128
     · rw [if_pos h2,hget _ (by omega),show k * 128 + (j - k * 128) = j by omega]
       by_cases e:j = f * 128 + v
       · rw [if_pos (by omega),if_pos ⟨e,.inl hd'⟩]
       · rw [if_neg (by omega),if_neg (fun h => e h.1)]
     · rw [if_neg h2,if_neg (fun h => by omega)]
theorem reg_len {D:DS} {f n:Nat} (h:f * 128 + n ≤ D.data.length):(regL D f n).length = n:=by
 simp [regL]; omega
theorem reg_get {D:DS} {f n j:Nat} (hj:j < n):(regL D f n).getD j 0 = D.data.getD (f * 128 + j) 0:=by
 simp [regL,List.getD_eq_getElem?_getD,hj]
theorem cnt_reg {D:DS} {f n v:Nat} (h:f * 128 + n ≤ D.data.length):Cnt (regL D f n) v ↔ v ≤ n ∧ ∀ j,j < n → D.data.getD (f * 128 + j) 0 = if j < v then 1 else 0:=by
 constructor
 · rintro ⟨h1,h2⟩
   rw [reg_len h] at h1 h2
   exact ⟨h1,fun j hj => by rw [← h2 j hj,reg_get hj]⟩
 · rintro ⟨h1,h2⟩
   exact ⟨by rw [reg_len h]; exact h1,fun j hj => by rw [reg_len h] at hj; rw [reg_get hj]; exact h2 j hj⟩
theorem NextQ.cnt {D:DS} {f v n:Nat} {R:DS × Int} (q:NextQ D f v R) (hn:f * 128 + n ≤ D.data.length) (hv:v < n) (h:Cnt (regL D f n) v):Cnt (regL R.1 f n) (if D.due = false ∨ bitM D.mask (v % 128) = true then v + 1 else v):=by
 rw [cnt_reg hn] at h
 rw [cnt_reg (by rw [q.len]; exact hn)]
 by_cases hc:D.due = false ∨ bitM D.mask (v % 128) = true
 · rw [if_pos hc]
   refine ⟨hv,fun j hj => ?_⟩
   rw [q.at_,h.2 j hj]
   by_cases e:j = v
   · rw [if_pos ⟨by omega,hc⟩,if_pos (by omega)]
   · rw [if_neg (fun h => e (by omega))]
     by_cases h2:j < v
     · rw [if_pos h2,if_pos (by omega)]
     · rw [if_neg h2,if_neg (by omega)]
 · rw [if_neg hc]
   refine ⟨h.1,fun j hj => ?_⟩
   rw [q.at_,h.2 j hj,if_neg (fun h => hc h.2)]
end Go.Proofs.YteeghgjkjicjoaaGreatDoor.Epo
namespace Go.Proofs.YteeghgjkjicjoaaGreatDoor.Dsk
open Go.RowKit
theorem off_any {w:World} {K:DK} {D:DS} (h:Dsk w K D):Calls Tryz.prog 26 #[K.ptr] w fun e w' => e = .returned (.bool D.off) ∧ w = w':=by
 have Hm:=Lib.hid (made_any h)
 obtain ⟨_,_,_,c3,_⟩:=row0 h.row
 unfold DK.ptr at *
 clear h
 go_enter Tryz.func26,Tryz.ntmps26
 go_wp2_with (go_at_call 33; refine Hm.out.mono ?_; rintro e w' ⟨rfl,rfl⟩)
 go_ret
 exact ⟨rfl,rfl⟩
end Go.Proofs.YteeghgjkjicjoaaGreatDoor.Dsk
namespace Go.Proofs.YteeghgjkjicjoaaGreatDoor.Slt
open Go.RowKit Dsk
structure RunQ (D:DS) (n:Nat) (R:DS × Int):Prop where
 err:R.2 = if R.1.off then 12 else 0
 len:R.1.data.length = D.data.length
 wr:R.1.writes ≤ D.writes + n
theorem RunQ.secs {D:DS} {n:Nat} {R:DS × Int} (h:RunQ D n R):R.1.secs = D.secs:=by simp [DS.secs,h.len]
theorem run_q (k:Nat) (b:List Int):∀ (n i:Nat) (D:DS),D.off = false → (k + i + n) * 128 ≤ D.data.length → (i + n) * 128 ≤ b.length → RunQ D n (runD D k b i n):=by
 intro n
 induction n with
 | zero => intro i D ho _ _; exact ⟨by simp [runD,ho],rfl,by simp [runD]⟩
 | succ n ih =>
   intro i D ho hd hb
   have hl:=step_len D (k + i) (secL b i) (by omega) (secL_len b i (by omega))
   have hw:=step_writes D (k + i) (secL b i)
   cases e:(stepD D (k + i) (secL b i)).off
   · rw [run_on e]
     have h:=ih (i + 1) _ e (by rw [hl]; omega) (by omega)
     exact ⟨h.err,h.len.trans hl,by have:=h.wr; omega⟩
   · rw [run_off e]
     exact ⟨by simp [e],hl,by simp only [hw]; omega⟩
def writD (D:DS) (at_:Nat) (t:List Int) (k:Nat):DS × Int :=
 if (runD D at_ (slotB 0 t k) 0 k).2 = 0 then runD (runD D at_ (slotB 0 t k) 0 k).1 at_ ((slotB 1 t k).take 128) 0 1 else runD D at_ (slotB 0 t k) 0 k
theorem writD_yes {D:DS} {p k:Nat} {t:List Int} (h:(runD D p (slotB 0 t k) 0 k).2 = 0):writD D p t k = runD (runD D p (slotB 0 t k) 0 k).1 p ((slotB 1 t k).take 128) 0 1:=if_pos h
theorem writD_no {D:DS} {p k:Nat} {t:List Int} (h:¬ (runD D p (slotB 0 t k) 0 k).2 = 0):writD D p t k = runD D p (slotB 0 t k) 0 k:=if_neg h
theorem RunQ.on {D:DS} {n:Nat} {R:DS × Int} (h:RunQ D n R) (e:R.2 = 0):R.1.off = false:=by
 have:=h.err
 cases ho:R.1.off
 · rfl
 · rw [ho] at this; rw [this] at e; cases e
theorem take128_len (m:Int) (t:List Int) (k:Nat) (h:t.length + 5 ≤ k * 128):((slotB m t k).take 128).length = 128:=by
 rw [List.length_take,slotB_len _ _ _ h]; omega
theorem writ_q {D:DS} {p k:Nat} {t:List Int} (ho:D.off = false) (hp:(p + k) * 128 ≤ D.data.length) (hk:t.length + 5 ≤ k * 128):RunQ D (k + 1) (writD D p t k):=by
 have hl:=slotB_len 0 t k hk
 have h:=run_q p (slotB 0 t k) k 0 D ho (by omega) (by omega)
 by_cases e:(runD D p (slotB 0 t k) 0 k).2 = 0
 · rw [writD_yes e]
   have h2:=run_q p ((slotB 1 t k).take 128) 1 0 _ (h.on e) (by rw [h.len]; omega) (by rw [take128_len _ _ _ hk]; omega)
   exact ⟨h2.err,h2.len.trans h.len,by have:=h2.wr; have:=h.wr; omega⟩
 · rw [writD_no e]
   exact ⟨h.err,h.len,by have:=h.wr; omega⟩
theorem slotB_mark (t:List Int) (k:Nat):(vals (slotB 0 t k)).toArray.setIfInBounds 0 (.int .u8 1) = (vals (slotB 1 t k)).toArray:=by
 simp [slotB,vals]
theorem row_byt {w:World} {g:Nat} {L:List Int} (h:w.heap[g]? = some (.cells (vals L).toArray 5 (0,0))) (c:Nat) (hc:L.length ≤ c):Byt w (some ⟨g,0,none⟩) c L :=
 ⟨hc,(fun h => by cases h),fun _ => ⟨g,0,rfl,(Array.getElem?_eq_some_iff.1 h).1,fun j hj => by rw [Nat.zero_add,cell_row h]; simp [vals,hj]⟩⟩
theorem run_first {k n F:Nat} (hF:tk n ≤ F) (hk:k = firstK n F):tk n ≤ k ∧ k ≤ F ∧ n + 5 ≤ k * 128:=by
 have h1:=tk_fit n
 subst hk
 unfold firstK
 omega
set_option maxRecDepth 100000 in
set_option maxHeartbeats 2000000 in
theorem lwrite_any {w:World} {K:DK} {D:DS} {J:LK} {S:LS} (hd:Dsk w K D) (h:Lg w K J S) (A:Option Addr) (n c:Nat) (t:List Int) (hl:t.length = n) (hn:n ≤ 262144) (hB:Byt w A c t) (ht:InB t) (hF:S.used + tk n ≤ S.secs) (hend:S.from_ + S.secs ≤ D.secs) (ho:D.off = false) (hw:D.writes ≤ 576460752303423488) :
 Calls Tryz.prog 94 #[J.ptr,.slice A n c] w fun e w' => e = .returned (.int .i64 (writD D (S.from_ + S.used) t (firstK n (S.secs - S.used))).2) ∧ Dsk w' K (writD D (S.from_ + S.used) t (firstK n (S.secs - S.used))).1 ∧ Chg K.bl w w':=by
 have hFs:tk n ≤ S.secs - S.used:=by omega
 have h16:S.secs - S.used ≤ 16384:=by have:=h.end_; omega
 have hfree:=fun (w1:World) (hb:Below w.heap.size w w1) => free_any (w:=w1) (h.later hb)
 obtain ⟨F,hFe⟩:∃ F,F = S.secs - S.used:=⟨_,rfl⟩
 rw [← hFe] at hFs h16 hfree ⊢
 obtain ⟨k,hk⟩:∃ k,k = firstK n F:=⟨_,rfl⟩
 have hslot:=fun (w1:World) (h1:Byt w1 A c t) => slotOf_any (w:=w1) A n c F t hl hn h1 hFs h16
 rw [← hk] at hslot ⊢
 obtain ⟨hk1,hk2,hk3⟩:=run_first hFs hk
 obtain ⟨_,c1,c2,_,c4,_,_⟩:=h.cells
 obtain ⟨p,hp⟩:∃ p,p = S.from_ + S.used:=⟨_,rfl⟩
 have hpI:((p:Nat):Int) = (S.from_:Int) + (S.used:Int):=by omega
 have hpk:p + k ≤ D.secs:=by omega
 have hdl:=hd.ok.whole128
 have hpd:(p + k) * 128 ≤ D.data.length:=by omega
 have hp16:p ≤ 16384:=by have:=h.end_; omega
 rw [← hp]
 have hlb:(slotB 0 t k).length = k * 128:=slotB_len _ _ _ (by omega)
 have hq:=run_q p (slotB 0 t k) k 0 D ho (by omega) (by omega)
 have hgK:∀ q ∈ K.bl,q < w.heap.size:=by
  intro q hq; simp [DK.bl] at hq
  rcases hq with rfl | rfl
  · exact hd.glt
  · exact hd.hlt
 have hJK:J.g ∉ K.bl:=h.kap _ (by simp [LK.bl])
 have hwr1:∀ (w1:World) (g:Nat),Below w.heap.size w w1 → w.heap.size ≤ g → w1.heap[g]? = some (.cells (vals (slotB 0 t k)).toArray 5 (0,0)) → Calls Tryz.prog 118 #[K.ptr,.int .i64 p,.slice (some ⟨g,0,none⟩) (k * 128) (k * 128)] w1 fun e w' => e = .returned (.int .i64 (runD D p (slotB 0 t k) 0 k).2) ∧ Dsk w' K (runD D p (slotB 0 t k) 0 k).1 ∧ Chg K.bl w1 w' :=
  fun w1 g hb hg hr => write_ok (hd.chg (S:=[]) ⟨hb.os,hb.tape,hb.output,hb.size,fun q hq _ => hb.block q hq⟩ (by simp) (by simp)) p k (k * 128) hpk ho _ _ (slotB 0 t k) rfl hlb (slotB_in (by omega) ht) (row_byt hr _ (by rw [hlb]; omega)) (fun a ha hm => by cases ha; have:g < w.heap.size:=hgK _ hm; omega) (by omega)
 obtain ⟨s0,hs0⟩:∃ s0,s0 = S.from_:=⟨_,rfl⟩
 obtain ⟨u0,hu0⟩:∃ u0,u0 = S.used:=⟨_,rfl⟩
 rw [← hs0] at c2 hpI
 rw [← hu0] at c4 hpI
 have hs16:s0 ≤ 16384:=by have:=h.end_; omega
 have hu16:u0 ≤ 16384:=by have:=h.fit; have:=h.end_; omega
 have hkk:k * 128 ≤ 2097152:=by omega
 have hk128:128 ≤ k * 128:=by have:=tk_pos n; omega
 have hk128I:(128:Int) ≤ (k:Int) * 128:=by omega
 have Hfree:=Lib.hid hfree
 have Hslot:=Lib.hid hslot
 have Hwr1:=Lib.hid hwr1
 have HpI:=Lib.hid hpI
 have HB:=Lib.hid hB
 have Hlb:=Lib.hid hlb
 have Hq:=Lib.hid hq
 have Hgl:=Lib.hid h.glt
 have HgK:=Lib.hid hgK
 have HJK:=Lib.hid hJK
 have Hht:=Lib.hid ht
 have Hpk:=Lib.hid hpk
 have Hk3:=Lib.hid hk3
 have Hl:=Lib.hid hl
 have C1:=Lib.hid c1
 have Hww:=Lib.hid hw
 have Hdd:=Lib.hid hdl
 unfold LK.ptr DK.ptr at *
 by_cases e0:(runD D p (slotB 0 t k) 0 k).2 = 0
 · have hz:=hq.on e0
   have hwr2:∀ (w1:World) (g cc:Nat),Dsk w1 K (runD D p (slotB 0 t k) 0 k).1 → w.heap.size ≤ g → w1.heap[g]? = some (.cells (vals (slotB 1 t k)).toArray 5 (0,0)) → 128 ≤ cc → Calls Tryz.prog 118 #[.pointer (some ⟨K.g,0,none⟩),.int .i64 p,.slice (some ⟨g,0,none⟩) 128 cc] w1 fun e w' => e = .returned (.int .i64 (writD D p t k).2) ∧ Dsk w' K (writD D p t k).1 ∧ Chg K.bl w1 w':=by
    intro w1 g cc hd1 hg hr hcc
    rw [writD_yes e0]
    have hb1:Byt w1 (some ⟨g,0,none⟩) cc ((slotB 1 t k).take 128):=by
     refine ⟨by rw [take128_len _ _ _ (by omega)]; exact hcc,(fun h => by cases h),fun _ => ⟨g,0,rfl,(Array.getElem?_eq_some_iff.1 hr).1,fun j hj => ?_⟩⟩
     rw [take128_len _ _ _ (by omega)] at hj
     have hlb1:=slotB_len 1 t k (by omega)
     rw [Nat.zero_add,cell_row hr,getD_take' hj]
     simp [vals,show j < (slotB 1 t k).length by omega]
    exact write_ok hd1 p 1 128 (by rw [hq.secs]; omega) hz _ _ _ rfl (take128_len _ _ _ (by omega)) ((slotB_in (by omega) ht).take _) hb1 (fun a ha hm => by cases ha; have:g < w.heap.size:=hgK _ hm; omega) (by have:=hq.wr; omega)
   have Hwr2:=Lib.hid hwr2
   have E0:=Lib.hid e0
   clear hfree hslot hwr1 hpI hB hlb hq hgK hJK ht hpk hk3 hl c1 hw hdl hd h hF hend ho hwr2 hz e0 hFs h16 hFe hk hk1 hk2 hpd hp hs0 hu0
   have hwr1':=Hwr1.out
   rw [E0.out] at hwr1'
   have Hwr1:=Lib.hid hwr1'
   clear hwr1'
   go_enter Tryz.func94,Tryz.ntmps94
   go_upto_region 1 with (fail)
   go_quiet (fail)
   go_upto_region 6 with (first
    | (go_at_call 93; refine (Hfree.out _ (Below.drewN (Below.refl _ _) nq)).mono ?_; rintro e w1 ⟨rfl,hb1⟩; have Hb1:=Lib.hid ((Below.drewN (Below.refl w.heap.size w) nq).trans hb1); clear hb1)
    | (go_at_call 117; refine (Hslot.out w1 (HB.out.below Hb1.out (Nat.le_refl _))).mono ?_; rintro e w2 ⟨g,rfl,hr2,hg2,hb2⟩; have c12:=((Hb1.out.trans (hb2.mono Hb1.out.size)).cell (p:=⟨J.g,1,none⟩) Hgl.out).trans C1.out; have Hb2:=Lib.hid (Hb1.out.trans (hb2.mono Hb1.out.size)); have Hr2:=Lib.hid hr2; have Hg2:=Lib.hid (Nat.le_trans Hb1.out.size hg2); clear hr2 hg2 hb2)
    | (go_at_call 118; rw [← HpI.out]; refine (Hwr1.out w2 g Hb2.out Hg2.out Hr2.out).mono ?_; rintro e w3 ⟨rfl,hd3,hc3⟩; have Hd3:=Lib.hid hd3; have Hc3:=Lib.hid hc3; clear hd3 hc3))
   have hgn:g ∉ K.bl:=fun hm => by have:g < w.heap.size:=HgK.out _ hm; have:=Hg2.out; omega
   have hr3:=Hc3.out.at Hr2.out hgn
   have c0:w3.cell? ⟨g,0,none⟩ = some (.int .u8 0):=(cell_row hr3 0).trans (by simp [slotB,vals])
   have f0:=free_row hr3 0
   have Hr3:=Lib.hid hr3
   have hlow3:=Hc3.out
   clear hr3
   go_upto_region 7 with (fail)
   have hr4:(w3.setCell ⟨g,0,none⟩ (.int .u8 1)).heap[g]? = some (.cells (vals (slotB 1 t k)).toArray 5 (0,0)):=by
    rw [heap_setCell_same _ _ _ _ _ _ Hr3.out,slotB_mark]
   have hc34:Chg [g] w3 (w3.setCell ⟨g,0,none⟩ (.int .u8 1)):=(Chg.refl _ _).setCell (by simp) _
   have hd4:=(Hd3.out.chg hc34 (fun hm => by simp at hm; exact hgn (by simp [DK.bl,hm])) (fun hm => by simp at hm; exact hgn (by simp [DK.bl,hm]))).later (Below.refl _ _).drew
   have hjg:J.g < w2.heap.size:=Nat.lt_of_lt_of_le Hgl.out Hb2.out.size
   have c14:(w3.setCell ⟨g,0,none⟩ (.int .u8 1)).drew.cell? ⟨J.g,1,none⟩ = some (.pointer (some ⟨K.g,0,none⟩)):=by
    have e1:=World.cell?_of_block (a:=⟨J.g,1,none⟩) (Hc3.out.block J.g hjg HJK.out)
    have e2:=World.cell?_of_block (a:=⟨J.g,1,none⟩) (hc34.block J.g (Nat.lt_of_lt_of_le hjg Hc3.out.size) (fun hm => by simp at hm; have:=Hgl.out; have:=Hg2.out; omega))
    exact (e2.trans e1).trans c12
   have hr4':(w3.setCell ⟨g,0,none⟩ (.int .u8 1)).drew.heap[g]? = some (.cells (vals (slotB 1 t k)).toArray 5 (0,0)):=hr4
   have hch:Chg (g :: K.bl) w2 (w3.setCell ⟨g,0,none⟩ (.int .u8 1)).drew:=((Hc3.out.mono (fun q hq => .inl (by simp [hq]))).trans (hc34.mono (fun q hq => .inl (by simp at hq; simp [hq])))).trans (Chg.of_below (Below.refl _ _).drew)
   have hcw:=Hc3.out
   refine wp_region_still_tail 7 (by kernel_rfl) (by kernel_rfl) ?_
   simp only [List.take_succ_cons,List.take_zero,List.drop_succ_cons,List.drop_zero]
   change wpStill _ _ (w3.setCell ⟨g,0,none⟩ (.int .u8 1)).drew _ _ _
   have Hd5:=Lib.hid hd4
   have Hr5:=Lib.hid hr4'
   have Hch:=Lib.hid hch
   clear hr4 hc34 hd4 hr4' hch c12
   repeat (refine wpStill_step (fun K hK => ?_); go_simp; refine hK _ ?_; clear hK K)
   refine wpStill_nil ?_
   change wpList _ _ _ _ _ (w3.setCell ⟨g,0,none⟩ (.int .u8 1)).drew
   generalize (w3.setCell ⟨g,0,none⟩ (.int .u8 1)).drew = w5 at Hd5 Hr5 Hch c14 ⊢
   go_wp2_with (go_at_call 118; refine (Hwr2.out w5 g (k * 128) Hd5.out Hg2.out Hr5.out hk128).mono ?_; rintro e w6 ⟨rfl,hd6,hc6⟩; have Hd6:=Lib.hid hd6; have Hc6:=Lib.hid hc6; clear hd6 hc6)
   go_ret
   refine ⟨rfl,Hd6.out,?_⟩
   exact (((Chg.of_below Hb2.out).trans Hch.out).mono (fun q hq => by
    rcases List.mem_cons.1 hq with rfl | hq
    · exact .inr Hg2.out
    · exact .inl hq)).trans Hc6.out
 · have E0:=Lib.hid e0
   have hwd:writD D p t k = runD D p (slotB 0 t k) 0 k:=writD_no e0
   rw [hwd]
   obtain ⟨R,hR⟩:∃ R,R = runD D p (slotB 0 t k) 0 k:=⟨_,rfl⟩
   rw [← hR] at Hwr1 E0 ⊢
   obtain ⟨er,her⟩:∃ er,er = R.2:=⟨_,rfl⟩
   rw [← her] at Hwr1 E0 ⊢
   have e12:¬ er = 0:=E0.out
   clear her
   clear hfree hslot hwr1 hpI hB hlb hq hgK hJK ht hpk hk3 hl c1 hw hdl hd h hF hend ho e0 hFs h16 hFe hk hk1 hk2 hpd hp hs0 hu0 hwd hR Hq E0
   go_enter Tryz.func94,Tryz.ntmps94
   go_upto_region 1 with (fail)
   go_quiet (fail)
   go_wp2_with (first
    | (go_at_call 93; refine (Hfree.out _ (Below.drewN (Below.refl _ _) nq)).mono ?_; rintro e w1 ⟨rfl,hb1⟩; have Hb1:=Lib.hid ((Below.drewN (Below.refl w.heap.size w) nq).trans hb1); clear hb1)
    | (go_at_call 117; refine (Hslot.out w1 (HB.out.below Hb1.out (Nat.le_refl _))).mono ?_; rintro e w2 ⟨g,rfl,hr2,hg2,hb2⟩; have c12:=((Hb1.out.trans (hb2.mono Hb1.out.size)).cell (p:=⟨J.g,1,none⟩) Hgl.out).trans C1.out; have Hb2:=Lib.hid (Hb1.out.trans (hb2.mono Hb1.out.size)); have Hr2:=Lib.hid hr2; have Hg2:=Lib.hid (Nat.le_trans Hb1.out.size hg2); clear hr2 hg2 hb2)
    | (go_at_call 118; rw [← HpI.out]; refine (Hwr1.out w2 g Hb2.out Hg2.out Hr2.out).mono ?_; rintro e w3 ⟨rfl,hd3,hc3⟩; have Hd3:=Lib.hid hd3; have Hc3:=Lib.hid hc3; clear hd3 hc3))
   go_ret
   exact ⟨rfl,Hd3.out,(Chg.of_below Hb2.out).trans Hc3.out⟩
end Go.Proofs.YteeghgjkjicjoaaGreatDoor.Slt
