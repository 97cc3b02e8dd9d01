/- Texts of ours, merged. -/
import Derived.Test.YteeghgjkjicjoaaGreatDoorB10
import Derived.WalkSpells
import Derived.Test.YteeghgjkjicjoaaGreatDoorChecked
import Derived.Test.YteeghgjkjicjoaaGreatDoorRows
import Derived.OpenShut
import Derived.Deep.DeepHandedRow
import Derived.Lib.LaidTab
import Derived.ChangeMaps5
import Derived.WideKeyArr2
import Derived.Test.YteeghgjkjicjoaaGreatDoorCards
import Derived.Test.YteeghgjkjicjoaaGreatDoorTie
import Derived.Lib.Builder
import Derived.LaidEqlPtr
namespace Go.Proofs.YteeghgjkjicjoaaGreatDoor.Seal
open Go.RowKit
theorem nz_any (y:Int) (w:World):Calls Tryz.prog 124 #[.int .u8 y] w fun e w' => e = .returned (.bool (decide (y ≠ 0))) ∧ w = w':=by
 by_cases e:y = 0
 · subst e
   go_enter Tryz.func124,Tryz.ntmps124
   go_wp2
   go_ret
   simp
 · have hb:(y == 0) = false:=beq_eq_false_iff_ne.2 e
   rw [decide_eq_true e]
   go_enter Tryz.func124,Tryz.ntmps124
   go_wp2
   go_ret
   simp [e]
def AllZ (L:List Int):Prop:=∀ j,j < L.length → L.getD j 0 = 0
theorem allZ_iff (L:List Int):AllZ L ↔ L = zeros L.length:=by
 constructor
 · intro h
   apply List.ext_getElem (by simp [zeros])
   intro j h1 h2
   have:=h j h1
   simp [List.getD_eq_getElem?_getD,h1] at this
   rw [this]; simp [zeros]
 · intro h j hj
   rw [h]; unfold zeros
   rw [List.getD_eq_getElem?_getD,List.getElem?_replicate]; split <;> simp
set_option maxRecDepth 100000 in
theorem index_any (A:Option Addr) (n c:Nat) (L:List Int) (w:World) (hB:Byt w A c L) (hn:L.length = n) (hmax:n ≤ 4194304) :
 Calls Tryz.prog 139 #[.slice A n c,.func (.func 124) #[] #[]] w fun e w' => (∃ r:Int,e = .returned (.int .i64 r) ∧ ((AllZ L ∧ r = -1) ∨ (¬ AllZ L ∧ 0 ≤ r))) ∧ w = w':=by
 have HB:=Lib.hid hB
 have Hn:=Lib.hid hn
 clear hB hn
 go_enter Tryz.func139,Tryz.ntmps139
 go_upto_region 2 with (fail)
 go_loopw [8] (fun v wr => ∃ k:Nat,k ≤ n ∧ v = .int .i64 k ∧ Hid (∀ j,j < k → L.getD j 0 = 0) ∧ wr = w) (fun v _ => n - (intOf v).toNat)
 case atStart => exact ⟨0,Nat.zero_le _,rfl,(fun j hj => absurd hj (Nat.not_lt_zero _)),rfl⟩
 case round =>
  obtain ⟨k,hk,rfl,hz,rfl⟩:=hrel
  by_cases hlt:k < n
  · have hltI:(k:Int) < (n:Int):=by omega
    obtain ⟨b,off,rfl,hb,hcell⟩:=HB.out.2.2 (by have:=Hn.out; omega)
    have hck:=hcell k (by have:=Hn.out; omega)
    obtain ⟨y,hy⟩:∃ y,y = L.getD k 0:=⟨_,rfl⟩
    rw [← hy] at hck
    have Hy:=Lib.hid hy
    clear hcell hy hb
    by_cases e:y = 0
    · have He:=Lib.hid e
      have Hc:=Lib.hid (nz_any y wr)
      rw [decide_eq_false (by simp [e])] at Hc
      clear e
      go_wp2_with (go_at_call 124; refine Hc.out.mono ?_; rintro e w' ⟨rfl,rfl⟩)
      refine ⟨⟨k + 1,by omega,by go_num,(fun j hj => ?_),trivial⟩,by simp [intOf]; omega⟩
      rcases Nat.lt_or_ge j k with h | h
      · exact hz.out j h
      · obtain rfl:j = k:=by omega
        rw [← Hy.out]; exact He.out
    · have He:=Lib.hid e
      have Hc:=Lib.hid (nz_any y wr)
      rw [decide_eq_true e] at Hc
      clear e
      go_wp2_with (go_at_call 124; refine Hc.out.mono ?_; rintro e w' ⟨rfl,rfl⟩)
      go_ret
      refine ⟨⟨_,rfl,.inr ⟨fun h => He.out (by rw [Hy.out]; exact h k (by have:=Hn.out; omega)),by omega⟩⟩,rfl⟩
  · have hltI:¬ (k:Int) < (n:Int):=by omega
    go_wp2
    go_ret
    refine ⟨⟨_,rfl,.inl ⟨fun j hj => hz.out j (by have:=Hn.out; omega),rfl⟩⟩,rfl⟩
theorem contains_any (A:Option Addr) (n c:Nat) (L:List Int) (w:World) (hB:Byt w A c L) (hn:L.length = n) (hmax:n ≤ 4194304) :
 Calls Tryz.prog 123 #[.slice A n c,.func (.func 124) #[] #[]] w fun e w' => (∃ b:Bool,e = .returned (.bool b) ∧ (b = false ↔ AllZ L)) ∧ w = w':=by
 have H:=Lib.hid (index_any A n c L w hB hn hmax)
 clear hB hn
 go_enter Tryz.func123,Tryz.ntmps123
 go_wp2_with (go_at_call 139; refine H.out.mono ?_; rintro e w' ⟨⟨r,rfl,hr⟩,rfl⟩; have Hr:=Lib.hid hr; clear hr)
 go_ret
 refine ⟨⟨_,rfl,?_⟩,rfl⟩
 rcases Hr.out with ⟨h,rfl⟩ | ⟨h,h0⟩
 · simp [h]
 · simp [h]; omega
theorem contains_no {A:Option Addr} {n c:Nat} {L:List Int} {w:World} (hB:Byt w A c L) (hn:L.length = n) (hmax:n ≤ 4194304) (hz:AllZ L) :
 Calls Tryz.prog 123 #[.slice A n c,.func (.func 124) #[] #[]] w fun e w' => e = .returned (.bool false) ∧ w = w':=by
 refine (contains_any A n c L w hB hn hmax).mono ?_
 rintro e w' ⟨⟨b,rfl,hb⟩,h⟩
 exact ⟨by rw [hb.2 hz],h⟩
theorem contains_yes {A:Option Addr} {n c:Nat} {L:List Int} {w:World} (hB:Byt w A c L) (hn:L.length = n) (hmax:n ≤ 4194304) (hz:¬ AllZ L) :
 Calls Tryz.prog 123 #[.slice A n c,.func (.func 124) #[] #[]] w fun e w' => e = .returned (.bool true) ∧ w = w':=by
 refine (contains_any A n c L w hB hn hmax).mono ?_
 rintro e w' ⟨⟨b,rfl,hb⟩,h⟩
 cases b
 · exact absurd (hb.1 rfl) hz
 · exact ⟨rfl,h⟩
theorem byt_sub {w:World} {g off c:Nat} {S:List Int} (h:Byt w (some ⟨g,off,none⟩) c S) (k l:Nat) (hk:k + l ≤ S.length) (hp:0 < S.length):Byt w (some ⟨g,off + k,none⟩) (c - k) ((S.drop k).take l):=by
 obtain ⟨h1,_,h3⟩:=h
 obtain ⟨g',off',e,hg,hc⟩:=h3 hp
 cases e
 refine ⟨by rw [List.length_take,List.length_drop]; omega,(fun h => by cases h),fun _ => ⟨g,off + k,rfl,hg,fun j hj => ?_⟩⟩
 rw [List.length_take,List.length_drop] at hj
 rw [Nat.add_assoc,hc (k + j) (by omega)]
 simp [List.getD_eq_getElem?_getD,List.getElem?_drop,show j < l by omega]
theorem byt_empty (w:World) (a:Addr) (c:Nat):Byt w (some a) c []:=⟨Nat.zero_le _,(fun h => by cases h),fun h => by simp at h⟩
theorem unpad_no {P:List Int} {N:Nat} (hN:be4 P = N) (h:¬ (bktI N = P.length ∧ AllZ (P.drop (4 + N)))):unpad P = none:=by
 unfold unpad
 rw [if_neg]
 rintro ⟨h1,h2⟩
 rw [hN,Int.toNat_natCast] at h2
 rw [hN] at h1
 exact h ⟨h1,(allZ_iff _).2 (by rw [h2]; simp [zeros])⟩
theorem unpad_yes {P:List Int} {N:Nat} (hN:be4 P = N) (h1:bktI N = P.length) (h2:AllZ (P.drop (4 + N))):unpad P = some ((P.drop 4).take N):=by
 unfold unpad
 rw [hN,Int.toNat_natCast,if_pos]
 refine ⟨h1,?_⟩
 have:=(allZ_iff _).1 h2
 rwa [List.length_drop] at this
def OpenQ (r:Option (List Int × Nat)) (e:Ending) (w':World):Prop:=match r with
 | none => e = .returned (.tuple #[.slice none 0 0,.int .u32 0,.int .i64 9])
 | some x => ∃ v,e = .returned (.tuple #[v,.int .u32 (x.2:Nat),.int .i64 0]) ∧ SlB x.1 v w'
theorem open_bad (k:List Int) (sl:Value) (pos ep0:Nat) (A2:Option Addr) (m c2:Nat) (hm:m ≤ 200000) (hb:¬ isBk ((m:Int) - 36)) (w:World) :
 Calls Tryz.prog 79 #[.agg (u8s k),.agg #[sl,.int .u64 (pos:Nat),.int .u32 (ep0:Nat)],.slice A2 m c2] w fun e w' => e = .returned (.tuple #[.slice none 0 0,.int .u32 0,.int .i64 9]) ∧ Below w.heap.size w w':=by
 obtain ⟨x,hx⟩:∃ x:Int,x = (m:Int) - 36:=⟨_,rfl⟩
 have hx1:(m:Int) - 4 - 32 = x:=by omega
 have hx2:-36 ≤ x:=by omega
 have hx3:x ≤ 200000:=by omega
 have hmI:(m:Int) ≤ 200000:=by omega
 have hb2:Hid (∀ w,Calls Tryz.prog 106 #[.int .i64 x] w fun e w' => e = .returned (.bool false) ∧ w = w'):=fun w => by
  have h:=isBucket_any x hx2 (by omega) w
  rwa [decide_eq_false (by rw [hx]; exact hb)] at h
 have HX:=Lib.hid (below_two w (.cells (u8s k) 24) (.cells #[sl,.int .u64 (pos:Nat),.int .u32 (ep0:Nat)] 106))
 clear hm hx hb
 go_enter Tryz.func79,Tryz.ntmps79
 go_wp2_with (go_at_call 106; refine (hb2.out _).mono ?_; rintro e w' ⟨rfl,rfl⟩)
 go_ret3
 exact ⟨rfl,HX.out⟩
theorem openL_no1 {k C S:List Int} {pos:Nat} (h:¬ isBk ((S.length:Int) - 36)):openL k C pos S = none:=by unfold openL; rw [if_neg h]
theorem openL_no2 {k C S:List Int} {pos q E:Nat} (hq:S.length = 36 + q) (hE:be4 S = E) (h:tagL k C pos E ((S.drop 4).take q) ≠ S.drop (4 + q)):openL k C pos S = none:=by
 unfold openL
 split
 · rw [if_neg]
   rw [hE,Int.toNat_natCast,hq,show 36 + q - 36 = q by omega,show 36 + q - 32 = 4 + q by omega]
   exact h
 · rfl
theorem openL_yes {k C S:List Int} {pos q E:Nat} (hb:isBk ((S.length:Int) - 36)) (hq:S.length = 36 + q) (hE:be4 S = E) (h:tagL k C pos E ((S.drop 4).take q) = S.drop (4 + q)):openL k C pos S = (unpad (bodyL k C pos E ((S.drop 4).take q))).map fun L => (L,E):=by
 unfold openL
 rw [if_pos hb,hE,Int.toNat_natCast,hq,show 36 + q - 36 = q by omega,show 36 + q - 32 = 4 + q by omega,if_pos h]
theorem open_seal (k C L:List Int) (pos ep:Nat) (hL:InB L) (hm:L.length ≤ 131068) (he:ep < 4294967296):openL k C pos (sealL k C pos ep L) = some (L,ep):=by
 obtain ⟨q,hq⟩:∃ q,q = bkt L.length:=⟨_,rfl⟩
 obtain ⟨BB,hBB⟩:∃ BB,BB = bodyL k C pos ep (padL L):=⟨_,rfl⟩
 obtain ⟨TT,hTT⟩:∃ TT,TT = tagL k C pos ep BB:=⟨_,rfl⟩
 have hS:sealL k C pos ep L = numL ep 4 ++ (BB ++ TT):=by rw [hTT,hBB]; unfold sealL; rw [List.append_assoc]
 have hBl:BB.length = q:=by rw [hBB,bodyL_length,padL_length hm,hq]
 have hTl:TT.length = 32:=by rw [hTT]; exact tagL_length _ _ _ _ _
 have hlen:(numL ep 4 ++ (BB ++ TT)).length = 36 + q:=by rw [List.length_append,List.length_append,numL_length,hBl,hTl]; omega
 have hbk:isBk (q:Int):=by rw [hq]; exact bkt_bk hm
 have hd4:(numL ep 4 ++ (BB ++ TT)).drop 4 = BB ++ TT:=by
  rw [List.drop_append_of_le_length (by rw [numL_length]; exact Nat.le_refl _),List.drop_of_length_le (by rw [numL_length]; exact Nat.le_refl _),List.nil_append]
 have hE:be4 (numL ep 4 ++ (BB ++ TT)) = ep:=by
  rw [← be4_take,List.take_append_of_le_length (by rw [numL_length]; exact Nat.le_refl _),List.take_of_length_le (by rw [numL_length]; exact Nat.le_refl _),be4_numL _ he]
 have hB:((numL ep 4 ++ (BB ++ TT)).drop 4).take q = BB:=by
  rw [hd4,List.take_append_of_le_length (by omega),List.take_of_length_le (by omega)]
 have hT:(numL ep 4 ++ (BB ++ TT)).drop (4 + q) = TT:=by
  rw [← List.drop_drop,hd4,List.drop_append_of_le_length (by omega),List.drop_of_length_le (by omega),List.nil_append]
 rw [hS,openL_yes (by rw [hlen,show ((36 + q:Nat):Int) - 36 = q by omega]; exact hbk) hlen hE (by rw [hB,hT,hTT]),hB,hBB]
 have e:bodyL k C pos ep (bodyL k C pos ep (padL L)) = padL L:=Cha.stream_twice _ _ _ _ (padL_in hL)
 rw [e,unpad_pad L hm]
 rfl
end Go.Proofs.YteeghgjkjicjoaaGreatDoor.Seal
namespace Go.Proofs.YteeghgjkjicjoaaGreatDoor
open Go.ChangeShapes Go.WideShapes Go.ChangeAt Go.RowKit
theorem own:ownKnob Tryz.prog.godebug = none:=by kernel_rfl
theorem laidOut:laidOutB Tryz.prog = true:=by kernel_rfl
theorem trodAll_below {H:Type} {enc:TypeId × Value → H} {W W':World} (hb:Below W.heap.size W W'):∀ {ts:List TypeId} {vs:List Value} {ds:List (DataW H)} {ps:List MemPlace},
 (∀ t ∈ ts,Tryz.prog.readableRec t = true ∧ t < Tryz.prog.types.size) → (∀ x ∈ ps,x.block < W.heap.size) → DataW.TrodAll enc Tryz.prog W 0 (fun _ => true) true ts vs ds ps →
 DataW.TrodAll enc Tryz.prog W' 0 (fun b => decide (b < W.heap.size)) true ts vs ds ps
 | [],vs,ds,ps,_,_,h => by
   obtain ⟨rfl,rfl,rfl⟩:=trodAll_nil h
   exact trodAll_mk0
 | t :: ts,vs,ds,ps,ht,hlt,h => by
   obtain ⟨v0,vs0,d0,ds0,p0,q0,rfl,rfl,rfl,h0,r0⟩:=trodAll_cons h
   have h1:=ht t (List.mem_cons_self ..)
   exact trodAll_cons_mk (Below.trod laidOut h1.1 h1.2 h0 hb (fun x hx => hlt x (List.mem_append_left _ hx)))
    (trodAll_below hb (fun t' h' => ht t' (List.mem_cons_of_mem _ h')) (fun x hx => hlt x (List.mem_append_right _ hx)) r0)
theorem law_post {H:Type} {enc:TypeId × Value → H} {f:Func} {s:ChangeSpec} {W W':World} {args:Array Value} {ds gs:List (DataW H)} {before:List MemPlace}
 (hW:DataW.Whole enc Tryz.prog f.params.toList s.vars false W args.toList ds gs before) (hv:s.vars = []) (hr:f.resultTypes = #[4])
 (hp:∀ t ∈ f.params.toList,Tryz.prog.readableRec t = true ∧ t < Tryz.prog.types.size)
 (hs:(s.fn H (ds ++ [])).results = [.lit (.bool true)] ∧ (s.fn H (ds ++ [])).args = ds ∧ (s.fn H (ds ++ [])).vars = []) (hb:Below W.heap.size W W') :
 s.post enc Tryz.prog f false true false false W args (.bool true) W':=by
 have hW':=hW
 obtain ⟨p,q,hA,hV,rfl,_,_⟩:=hW
 rw [hv] at hV
 obtain ⟨rfl,rfl⟩:=trodVars_none hV
 refine ⟨ds,[],p ++ [],[],p,[],hW',?_,?_,?_,hb.frame _,fun h => by cases h⟩
 · rw [hs.1,hr]
   exact trodAll_mk1 (shut_bool Tryz.underlying4 true)
 · rw [hs.2.1]
   exact trodAll_below hb hp (fun x hx => by simpa using hW'.lt x (by simpa using hx)) hA
 · rw [hs.2.2,hv]
   rfl
def fillRow (cs:Array Value):Obj → Obj
 | .cells _ t frozen => .cells cs t frozen
 | o => o
def numIn:Value → Int
 | .int _ q => q
 | _ => 0
theorem mapM_each {α β:Type} (f:α → Option β):∀ (L:List α) (ys:List β),L.mapM f = some ys → ∀ i ∈ L,∃ y,f i = some y
 | [],_,_,_,h => by cases h
 | a :: L,ys,h,i,hi => by
   rw [List.mapM_cons] at h
   simp only [bind,Option.bind_eq_some_iff,pure,Option.some.injEq] at h
   obtain ⟨y,hy,zs,hzs,_⟩:=h
   rcases List.mem_cons.1 hi with rfl | hi
   · exact ⟨y,hy⟩
   · exact mapM_each f L zs hzs i hi
theorem trod_arr {H:Type} {enc:TypeId × Value → H} {W:World} {T E:TypeId} {n:Nat} {k:IntKind} (arr:WideMaps.ArrKey Tryz.prog T E n) (hE:Tryz.prog.underlying E = some (.int k)) {xs:Array Value} (hn:xs.size = n) {d:DataW H} {p:List MemPlace}
 (h:DataW.Trod enc Tryz.prog W 0 (fun _ => true) true T (.agg xs) d p):∃ l:List Int,xs = (l.map (Value.int k)).toArray ∧ l.length = n ∧ ∀ j,j < n → (Lit.int k (l.getD j 0)).wf = true:=by
 obtain ⟨fuel,hf⟩:=h
 cases fuel with
 | zero => simp [DataW.trod] at hf
 | succ m =>
   rw [DataW.trod_step] at hf
   unfold DataW.trodStep at hf
   simp only [arr.hu,Value.cells] at hf
   rw [if_pos (by rw [arr.size]; simpa using hn)] at hf
   simp only [Option.map_eq_some_iff] at hf
   obtain ⟨ys,hy,_⟩:=hf
   have each:∀ i,i < n → ∃ a:Int,xs[i]? = some (.int k a) ∧ (Lit.int k a).wf = true:=by
    intro i hi
    obtain ⟨y,hy1⟩:=mapM_each _ _ _ hy i (List.mem_range.2 hi)
    obtain ⟨a,ea,_,wa⟩:=DataW.trod_int hE hy1
    rw [arr.one,Nat.mul_one] at ea
    have e2:xs.toList[i]? = some (.int k a):=by
     have:=congrArg (fun l:List Value => l[0]?) ea
     simpa [List.getElem?_take,List.getElem?_drop] using this
    rw [Array.getElem?_toList] at e2
    exact ⟨a,e2,wa⟩
   refine ⟨xs.toList.map numIn,?_,by rw [List.length_map,Array.length_toList,hn],fun j hj => ?_⟩
   · refine Array.ext_getElem? fun i => ?_
     by_cases hi:i < n
     · obtain ⟨a,ha,_⟩:=each i hi
       rw [ha]
       simp [ha,numIn]
     · rw [Array.getElem?_eq_none (by omega),Array.getElem?_eq_none (by simp; omega)]
   · obtain ⟨a,ha,h0⟩:=each j hj
     simpa [List.getD_eq_getElem?_getD,ha,numIn] using h0
set_option maxRecDepth 100000 in
theorem open_arr {H:Type} {enc:TypeId × Value → H} {W:World} {base:Nat} {v:Value} {d:DataW H} {p:List MemPlace} {T E:TypeId} {n:Nat} {k:IntKind} (arr:WideMaps.ArrKey Tryz.prog T E n) (hE:Tryz.prog.underlying E = some (.int k)) (hv:Value.okWide Tryz.prog W .any base T v)
 (h:DataW.Trod enc Tryz.prog W 0 (fun _ => true) true T v d p):∃ l:List Int,v = .agg (l.map (Value.int k)).toArray ∧ l.length = n ∧ ∀ j,j < n → (Lit.int k (l.getD j 0)).wf = true:=by
 obtain ⟨xs,rfl,hn⟩:=WideMaps.okWide_arr arr hv
 obtain ⟨l,rfl,h1,h2⟩:=trod_arr arr hE hn h
 exact ⟨l,rfl,h1,h2⟩
theorem inB_wf {l:List Int} {n:Nat} (hl:l.length = n) (h:∀ j,j < n → (Lit.int .u8 (l.getD j 0)).wf = true):InB l:=by
 intro j
 by_cases hj:j < n
 · have h2:0 ≤ l.getD j 0 ∧ l.getD j 0 ≤ 255:=by simpa [Lit.wf,IntKind.bits,IntKind.signed,IntKind.min,IntKind.max] using h j hj
   omega
 · rw [getD_out _ _ (by omega)]; omega
theorem plain_of {b:Bool} {name:String} {n:Nat} {f0:Func} {ts:List TypeId} (hn:Tryz.prog.funcNamed name = some n) (hf0:Tryz.prog.funcs[n]? = some f0) (hp:f0.params.toList = ts) (hl:b = Tryz.pinned.checked.prog.looks [])
 (ht:(ts.all fun t => !Tryz.prog.wantsStandIn t) = true) (f:FuncId) (fn:Func) (hf:Tryz.pinned.checked.prog.funcNamed name = some f) (hfn:Tryz.pinned.checked.prog.funcs[f]? = some fn) :
 b = Tryz.pinned.checked.prog.looks [] ∧ ∀ (j:Nat) t,fn.params[j]? = some t → Tryz.pinned.checked.prog.wantsStandIn t = false:=by
 obtain rfl:f = n:=Option.some.inj (hn.symm.trans hf) |>.symm
 obtain rfl:fn = f0:=(Option.some.inj (hf0.symm.trans hfn)).symm
 refine ⟨hl,fun j t h => ?_⟩
 have hm:t ∈ ts:=by rw [← hp]; simpa using Array.mem_of_getElem? h
 have:=List.all_eq_true.1 ht t hm
 exact (show Tryz.prog.wantsStandIn t = false by simpa using this)
theorem cells5:Tryz.prog.cellsOf 5 = 1:=by kernel_rfl
theorem arrHash:WideMaps.ArrKey Tryz.prog 24 5 32:=⟨by kernel_rfl,by kernel_rfl,by kernel_rfl,by kernel_rfl⟩
set_option maxRecDepth 100000 in
theorem open_hash {H:Type} {enc:TypeId × Value → H} {W:World} {base:Nat} {v:Value} {d:DataW H} {p:List MemPlace} (hv:Value.okWide Tryz.prog W .any base 24 v)
 (h:DataW.Trod enc Tryz.prog W 0 (fun _ => true) true 24 v d p):∃ l:List Int,v = .agg (u8s l) ∧ l.length = 32 ∧ InB l:=by
 obtain ⟨l,rfl,h1,h2⟩:=open_arr arrHash Tryz.underlying5 hv h
 exact ⟨l,rfl,h1,inB_wf h1 h2⟩
end Go.Proofs.YteeghgjkjicjoaaGreatDoor
namespace Go.Proofs.YteeghgjkjicjoaaGreatDoor.Seal
open Go.ChangeShapes Go.WideShapes Go.ChangeAt Go.RowKit
theorem gS:Tryz.prog.globalNamed "redwax/sha.startWords" = some 1 := by kernel_rfl
theorem gK:Tryz.prog.globalNamed "redwax/sha.roundWords" = some 2 := by kernel_rfl
theorem gSType:(Tryz.prog.globals[1]?).map (·.type) = some 191 := by kernel_rfl
theorem gKType:(Tryz.prog.globals[2]?).map (·.type) = some 220 := by kernel_rfl
theorem cells23:Tryz.prog.cellsOf 191 = 8:=by kernel_rfl
theorem cells55:Tryz.prog.cellsOf 220 = 64:=by kernel_rfl
theorem cells22:Tryz.prog.cellsOf 47 = 1:=by kernel_rfl
def SW:List Int:=[1779033703,3144134277,1013904242,2773480762,1359893119,2600822924,528734635,1541459225]
theorem gQ:Tryz.prog.globalNamed "redwax/chacha.quarters" = some 0 := by kernel_rfl
theorem gQType:(Tryz.prog.globals[0]?).map (·.type) = some 203 := by kernel_rfl
theorem cellsQ:Tryz.prog.cellsOf 203 = 32:=by kernel_rfl
theorem cellsQ4:Tryz.prog.cellsOf 202 = 4:=by kernel_rfl
theorem cellsQ1:Tryz.prog.cellsOf 3 = 1:=by kernel_rfl
def rowQ (k:Nat):List Int:=[(Cha.qn k 0:Nat),(Cha.qn k 1:Nat),(Cha.qn k 2:Nat),(Cha.qn k 3:Nat)]
theorem laid_shape:(Rows.laid_redwax_chacha_quarters:DataW Unit) = .agg ((List.range 8).map fun k => Lib.tabData .i64 (rowQ k)):=by rfl
set_option maxRecDepth 100000 in
theorem nested {H:Type} {enc:TypeId × Value → H} {w:World} {base:Nat} {sp:Nat → Bool} {held:Bool} {fuel:Nat} {cs:List Value} {p:List MemPlace}
 (h:DataW.trod enc Tryz.prog w base sp held fuel 203 cs = some (.agg ((List.range 8).map fun k => Lib.tabData .i64 (rowQ k)),p)):cs = Cha.QW.map (Value.int .i64):=by
 cases fuel with
 | zero => simp [DataW.trod] at h
 | succ fuel =>
   simp only [DataW.trod,Tryz.underlying203,cellsQ4,cellsQ] at h
   split at h
   · rename_i hl
     obtain ⟨xs,hm,hx⟩:=Option.map_eq_some_iff.1 h
     have hxs:xs.map (·.1) = (List.range 8).map fun k => (Lib.tabData .i64 (rowQ k):DataW H):=by
      have:=congrArg Prod.fst hx
      simpa using this
     have each:∀ k,k < 8 → (cs.drop (k * 4)).take 4 = (rowQ k).map (Value.int .i64):=by
      intro k hk
      obtain ⟨b,hb,hf⟩:=Lib.mapM_at hm k k (by simp [hk])
      have h2:(xs.map (·.1))[k]? = some b.1:=by simp [hb]
      rw [hxs] at h2
      simp only [List.getElem?_map,List.getElem?_range hk,Option.map_some,Option.some.injEq] at h2
      have hf':DataW.trod enc Tryz.prog w base sp held fuel 202 ((cs.drop (k * 4)).take 4) = some (Lib.tabData .i64 (rowQ k),b.2):=by rw [hf,h2]
      exact Lib.cells_of_tab Tryz.underlying202 Tryz.underlying3 cellsQ1 cellsQ4 hf'
     have hlen:cs.length = 32:=by simpa using hl
     apply List.ext_getElem?
     intro j
     by_cases hj:j < 32
     · have he:=each (j / 4) (by omega)
       have h1:((cs.drop (j / 4 * 4)).take 4)[j % 4]? = cs[j]?:=by
        rw [List.getElem?_take,if_pos (by omega),List.getElem?_drop,show j / 4 * 4 + j % 4 = j by omega]
       rw [← h1,he]
       have all:∀ j,j < 32 → (rowQ (j / 4))[j % 4]? = Cha.QW[j]?:=by decide
       rw [List.getElem?_map,List.getElem?_map,all j hj]
     · rw [List.getElem?_eq_none (by omega),List.getElem?_eq_none (by simp [Cha.QW,Cha.QN]; omega)]
   · cases h

def laidList:List (String × DataW Unit):=[("redwax/chacha.quarters",Rows.laid_redwax_chacha_quarters),("redwax/sha.startWords",Rows.laid_redwax_sha_startWords),("redwax/sha.roundWords",Rows.laid_redwax_sha_roundWords)]
set_option maxRecDepth 100000 in
theorem laid_of {W:World} (h:laidMetH Tryz.prog laidList W):SLaid W:=by
 obtain ⟨ps,⟨g0,t0,cs0,f0,p0,q0,hg0,ht0,hv0,hd0,⟨g1,t1,cs1,f1,p1,q1,hg1,ht1,hv1,hd1,⟨g2,t2,cs2,f2,p2,q2,hg2,ht2,hv2,hd2,_⟩,_⟩,_⟩,_⟩:=h
 obtain rfl:=Option.some.inj (gQ.symm.trans hg0)
 obtain rfl:=Option.some.inj (gQType.symm.trans ht0)
 obtain rfl:=Option.some.inj (gS.symm.trans hg1)
 obtain rfl:=Option.some.inj (gSType.symm.trans ht1)
 obtain rfl:=Option.some.inj (gK.symm.trans hg2)
 obtain rfl:=Option.some.inj (gKType.symm.trans ht2)
 have h1:Lib.TabIs Tryz.prog W "redwax/sha.startWords" .u32 SW:=by
  have hc:=Lib.cells_of_tab (zs:=SW) Tryz.underlying191 Tryz.underlying47 cells22 cells23 hd1
  unfold Lib.TabIs
  rw [hv1]
  congr 1
  apply Array.ext'
  simpa using hc
 have h2:Lib.TabIs Tryz.prog W "redwax/sha.roundWords" .u32 KW:=by
  have hc:=Lib.cells_of_tab (zs:=KW) Tryz.underlying220 Tryz.underlying47 cells22 cells55 hd2
  unfold Lib.TabIs
  rw [hv2]
  congr 1
  apply Array.ext'
  simpa using hc
 refine ⟨⟨fun j hj => h2.cell gK j hj,fun j hj => h1.cell gS j hj,?_⟩,?_⟩
 · have b1 : 2 < W.heap.size:=World.block_lt_of_cell? W _ (h2.cell gK 0 (by decide))
   have b0 : 1 < W.heap.size:=World.block_lt_of_cell? W _ (h1.cell gS 0 (by decide))
   unfold lim
   omega
 · rw [laid_shape] at hd0
   have hc:=nested hd0
   unfold World.var? at hv0
   rw [gQ] at hv0
   simp only [Option.bind_some] at hv0
   split at hv0
   · rename_i cs t fr hh
     refine ⟨t,fr,?_⟩
     rw [hh]
     have e:cs = Arr.nums .i64 Cha.QW:=by
      have:=Option.some.inj hv0
      unfold Arr.nums
      rw [← hc,this]
     rw [e]
   · cases hv0
noncomputable def laidWorld (os:Os):World :=
 { World.holding Tryz.prog os ⟨#[],#[],[]⟩ with heap:=(((World.holding Tryz.prog os ⟨#[],#[],[]⟩).heap.modify 1 (fillRow (SW.map (Value.int .u32)).toArray)).modify 2 (fillRow (KW.map (Value.int .u32)).toArray)).modify 0 (fillRow (Cha.QW.map (Value.int .i64)).toArray) }
end Go.Proofs.YteeghgjkjicjoaaGreatDoor.Seal
namespace Go.Proofs.YteeghgjkjicjoaaGreatDoor.Dsk
open Go.RowKit
structure DS where
 data:List Int
 writes:Int
 off:Bool
 laid:Bool
 whole:Int
 mask:List Int
def z16:List Int:=List.replicate 16 0
def bitX (x:Int) (s:Nat):Bool:=(bits .and .u8 (x / 2 ^ s) 1 == 1)
def bitM (m:List Int) (i:Nat):Bool:=bitX (m.getD (i / 8) 0) (i % 8)
def secL (d:List Int) (k:Nat):List Int:=(d.drop (k * 128)).take 128
def tornL (m o b:List Int):List Int:=(List.range 128).map fun i => if bitM m i then b.getD i 0 else o.getD i 0
def DS.due (D:DS):Bool:=D.laid && decide (D.whole = 0)
def stepD (D:DS) (k:Nat) (b:List Int):DS :=
 if D.due then { data:=splice D.data (k * 128) (tornL D.mask (secL D.data k) b),writes:=D.writes + 1,off:=true,laid:=false,whole:=0,mask:=z16 }
 else { D with data:=splice D.data (k * 128) b,writes:=D.writes + 1,whole:=if D.laid then D.whole - 1 else D.whole }
def runD (D:DS) (at_:Nat) (b:List Int) (i:Nat):Nat → DS × Int
 | 0 => (D,0)
 | n + 1 => if (stepD D (at_ + i) (secL b i)).off then (stepD D (at_ + i) (secL b i),12) else runD (stepD D (at_ + i) (secL b i)) at_ b (i + 1) n
def DS.secs (D:DS):Nat:=D.data.length / 128
def withinI (k n o:Int):Bool:=decide (0 ≤ k) && decide (0 ≤ n) && decide (n ≤ o - k)
def refE (D:DS) (fits:Bool):Int:=if fits then (if D.off then 12 else 0) else 2
structure DS.Ok (D:DS):Prop where
 inb:InB D.data
 whole128:D.data.length = D.secs * 128
 one:1 ≤ D.secs
 most:D.secs ≤ 16384
 mlen:D.mask.length = 16
 minb:InB D.mask
 wh:0 ≤ D.whole ∧ D.whole ≤ 9223372036854775807
 wr:0 ≤ D.writes
theorem splice_get {α:Type} (L:List α) (o:Nat) (cs:List α) (h:o + cs.length ≤ L.length) (j:Nat):(splice L o cs)[j]? = if j < o then L[j]? else if j < o + cs.length then cs[j - o]? else L[j]?:=by
 have hl:(L.take o).length = o:=by rw [List.length_take]; omega
 unfold splice
 by_cases h1:j < o
 · rw [if_pos h1,List.getElem?_append_left (by omega),List.getElem?_take,if_pos h1]
 · rw [if_neg h1,List.getElem?_append_right (by omega),hl]
   by_cases h2:j < o + cs.length
   · rw [if_pos h2,List.getElem?_append_left (by omega)]
   · rw [if_neg h2,List.getElem?_append_right (by omega),List.getElem?_drop]
     congr 1; omega
theorem splice_len {α:Type} (L:List α) (o:Nat) (cs:List α) (h:o + cs.length ≤ L.length):(splice L o cs).length = L.length:=by
 simp [splice]; omega
theorem splice_more (L:List Value) (o k:Nat) (T:List Int) (x:Int) (hk:k < T.length) (h:o + T.length ≤ L.length) (hx:x = T.getD k 0):(splice L o (vals (T.take k))).toArray.setIfInBounds (o + k) (.int .u8 x) = (splice L o (vals (T.take (k + 1)))).toArray:=by
 have l1:(vals (T.take k)).length = k:=by rw [vals_length,List.length_take]; omega
 have l2:(vals (T.take (k + 1))).length = k + 1:=by rw [vals_length,List.length_take]; omega
 apply Array.ext_getElem?
 intro j
 rw [Array.getElem?_setIfInBounds,List.getElem?_toArray,List.getElem?_toArray,splice_get _ _ _ (by omega),splice_get _ _ _ (by omega),l1,l2,List.size_toArray,splice_len _ _ _ (by omega)]
 by_cases e:o + k = j
 · subst e
   rw [if_pos rfl,if_pos (by omega),if_neg (by omega),if_pos (by omega),Nat.add_sub_cancel_left]
   simp [vals,hx,hk]
 · rw [if_neg e]
   by_cases h1:j < o
   · rw [if_pos h1,if_pos h1]
   · rw [if_neg h1,if_neg h1]
     by_cases h2:j < o + k
     · rw [if_pos h2,if_pos (by omega)]
       simp [vals,show j - o < k by omega,show j - o < k + 1 by omega]
     · rw [if_neg h2,if_neg (by omega)]
theorem splice_same (L:List Value) (o k:Nat) (T:List Int) (hk:k < T.length) (h:o + T.length ≤ L.length) (hx:L[o + k]? = some (.int .u8 (T.getD k 0))):splice L o (vals (T.take k)) = splice L o (vals (T.take (k + 1))):=by
 have l1:(vals (T.take k)).length = k:=by rw [vals_length,List.length_take]; omega
 have l2:(vals (T.take (k + 1))).length = k + 1:=by rw [vals_length,List.length_take]; omega
 apply List.ext_getElem?
 intro j
 rw [splice_get _ _ _ (by omega),splice_get _ _ _ (by omega),l1,l2]
 by_cases h1:j < o
 · rw [if_pos h1,if_pos h1]
 · rw [if_neg h1,if_neg h1]
   by_cases h2:j < o + k
   · rw [if_pos h2,if_pos (by omega)]
     simp [vals,show j - o < k by omega,show j - o < k + 1 by omega]
   · rw [if_neg h2]
     by_cases h3:j = o + k
     · subst h3
       rw [if_pos (by omega),hx,Nat.add_sub_cancel_left]
       simp [vals,hk]
     · rw [if_neg (by omega)]
theorem torn_len (m o b:List Int):(tornL m o b).length = 128:=by simp [tornL]
theorem torn_get (m o b:List Int) (k:Nat) (h:k < 128):(tornL m o b).getD k 0 = if bitM m k then b.getD k 0 else o.getD k 0:=by
 simp [tornL,List.getD_eq_getElem?_getD,h]
theorem secL_get (d:List Int) (k j:Nat) (h:j < 128):(secL d k).getD j 0 = d.getD (k * 128 + j) 0:=by
 simp [secL,List.getD_eq_getElem?_getD,h]
theorem secL_len (d:List Int) (k:Nat) (h:k * 128 + 128 ≤ d.length):(secL d k).length = 128:=by
 simp [secL]; omega
theorem splice_getD (L:List Int) (o:Nat) (cs:List Int) (h:o + cs.length ≤ L.length) (j:Nat):(splice L o cs).getD j 0 = if j < o then L.getD j 0 else if j < o + cs.length then cs.getD (j - o) 0 else L.getD j 0:=by
 simp only [List.getD_eq_getElem?_getD]
 rw [splice_get _ _ _ h]
 split
 · rfl
 · split <;> rfl
end Go.Proofs.YteeghgjkjicjoaaGreatDoor.Dsk
namespace Go.Proofs.YteeghgjkjicjoaaGreatDoor.Slt
open Go.RowKit Dsk
def tk (n:Nat):Nat:=(n + 132) / 128
theorem tk_pos (n:Nat):1 ≤ tk n:=by unfold tk; omega
theorem tk_fit (n:Nat):n + 5 ≤ tk n * 128:=by unfold tk; omega
def be4 (n:Nat):List Int:=[((n / 16777216 % 256:Nat):Int),((n / 65536 % 256:Nat):Int),((n / 256 % 256:Nat):Int),((n % 256:Nat):Int)]
def slotB (m:Int) (t:List Int) (k:Nat):List Int:=m :: (be4 t.length ++ (t ++ List.replicate (k * 128 - 5 - t.length) 0))
theorem slotB_len (m:Int) (t:List Int) (k:Nat) (h:t.length + 5 ≤ k * 128):(slotB m t k).length = k * 128:=by
 simp [slotB,be4]; omega
theorem inb_nil:InB []:=fun j => by simp
theorem inb_cons {x:Int} {L:List Int} (hx:0 ≤ x ∧ x < 256) (h:InB L):InB (x :: L):=by
 intro j
 cases j with
 | zero => simpa using hx
 | succ j => simpa using h j
theorem inb_rep (n:Nat):InB (List.replicate n 0):=by
 intro j
 simp only [List.getD_eq_getElem?_getD,List.getElem?_replicate]
 split <;> simp
theorem be4_in (n:Nat):InB (be4 n):=by
 unfold be4
 exact inb_cons (by omega) (inb_cons (by omega) (inb_cons (by omega) (inb_cons (by omega) inb_nil)))
theorem slotB_in {m:Int} {t:List Int} {k:Nat} (hm:0 ≤ m ∧ m < 256) (ht:InB t):InB (slotB m t k) :=
 inb_cons hm ((be4_in _).append (ht.append (inb_rep _)))
def lenB (b:List Int):Nat:=(b.getD 1 0).toNat * 16777216 + (b.getD 2 0).toNat * 65536 + (b.getD 3 0).toNat * 256 + (b.getD 4 0).toNat
theorem lenB_slot (m:Int) (t:List Int) (k:Nat) (R:List Int) (h:t.length < 4294967296):lenB (slotB m t k ++ R) = t.length:=by
 simp only [lenB,slotB,be4,List.cons_append,List.getD_cons_succ,List.getD_cons_zero,Int.toNat_natCast]
 omega
def Good (c:List Int):Prop:=c.getD 0 0 = 1 ∧ lenB c ≤ 262144 ∧ c.length = tk (lenB c) * 128
def textC (c:List Int):List Int:=(c.drop 5).take (lenB c)
theorem textC_len {c:List Int} (h:Good c):(textC c).length = lenB c:=by
 have:=tk_fit (lenB c)
 simp [textC,h.2.2]; omega
theorem slotB_good (t:List Int) (h:t.length ≤ 262144):Good (slotB 1 t (tk t.length)):=by
 have e:lenB (slotB 1 t (tk t.length)) = t.length:=by simpa using lenB_slot 1 t (tk t.length) [] (by omega)
 exact ⟨rfl,by rw [e]; exact h,by rw [e]; exact slotB_len _ _ _ (tk_fit _)⟩
theorem slotB_text (t:List Int) (h:t.length ≤ 262144):textC (slotB 1 t (tk t.length)) = t:=by
 have e:lenB (slotB 1 t (tk t.length)) = t.length:=by simpa using lenB_slot 1 t (tk t.length) [] (by omega)
 rw [textC,e]
 simp [slotB,be4]
def BadB (R:List Int):Prop:=R ≠ [] ∧ R.getD 0 0 ≠ 0 ∧ ¬ (R.getD 0 0 = 1 ∧ lenB R ≤ 262144 ∧ tk (lenB R) * 128 ≤ R.length)
def Done (R:List Int):Prop:=R = [] ∨ R.getD 0 0 = 0
structure Reads (L:List Int) (cs:List (List Int)) (R:List Int) (e:Bool):Prop where
 eq:L = cs.flatten ++ R
 good:∀ c ∈ cs,Good c
 tail:if e then BadB R else Done R
theorem getD_append_lt {L R:List Int} {j:Nat} (h:j < L.length):(L ++ R).getD j 0 = L.getD j 0:=by
 simp [List.getD_eq_getElem?_getD,List.getElem?_append_left h]
theorem getD_append_ge {L R:List Int} {j:Nat} (h:L.length ≤ j):(L ++ R).getD j 0 = R.getD (j - L.length) 0:=by
 simp [List.getD_eq_getElem?_getD,List.getElem?_append_right h]
theorem getD_take' {L:List Int} {n j:Nat} (h:j < n):(L.take n).getD j 0 = L.getD j 0:=by
 simp [List.getD_eq_getElem?_getD,h]
theorem getD_drop' {L:List Int} {n j:Nat}:(L.drop n).getD j 0 = L.getD (n + j) 0:=by
 simp [List.getD_eq_getElem?_getD]
theorem lenB_app {c:List Int} (h:5 ≤ c.length) (R:List Int):lenB (c ++ R) = lenB c:=by
 unfold lenB
 rw [getD_append_lt (by omega),getD_append_lt (by omega),getD_append_lt (by omega),getD_append_lt (by omega)]
theorem lenB_take {c:List Int} {n:Nat} (h:5 ≤ n):lenB (c.take n) = lenB c:=by
 unfold lenB
 rw [getD_take' (by omega),getD_take' (by omega),getD_take' (by omega),getD_take' (by omega)]
theorem Good.len {c:List Int} (h:Good c):128 ≤ c.length:=by have:=h.2.2; have:=tk_pos (lenB c); omega
theorem reads_all:∀ (n:Nat) (L:List Int),L.length ≤ n → ∃ cs R e,Reads L cs R e:=by
 intro n
 induction n with
 | zero =>
   intro L h
   obtain rfl:L = []:=List.eq_nil_of_length_eq_zero (by omega)
   exact ⟨[],[],false,rfl,by simp,.inl rfl⟩
 | succ n ih =>
   intro L h
   by_cases h0:L = [] ∨ L.getD 0 0 = 0
   · exact ⟨[],L,false,rfl,by simp,h0⟩
   · have h1:L ≠ []:=fun e => h0 (.inl e)
     have h2:L.getD 0 0 ≠ 0:=fun e => h0 (.inr e)
     by_cases hg:L.getD 0 0 = 1 ∧ lenB L ≤ 262144 ∧ tk (lenB L) * 128 ≤ L.length
     · have ht:=tk_pos (lenB L)
       obtain ⟨cs,R,e,hr⟩:=ih (L.drop (tk (lenB L) * 128)) (by rw [List.length_drop]; omega)
       refine ⟨L.take (tk (lenB L) * 128) :: cs,R,e,?_,?_,hr.tail⟩
       · rw [List.flatten_cons,List.append_assoc,← hr.eq,List.take_append_drop]
       · intro c hc
         rcases List.mem_cons.1 hc with rfl | hc
         · have e5:lenB (L.take (tk (lenB L) * 128)) = lenB L:=lenB_take (by omega)
           exact ⟨by rw [getD_take' (by omega)]; exact hg.1,by rw [e5]; exact hg.2.1,by rw [e5,List.length_take]; omega⟩
         · exact hr.good c hc
     · exact ⟨[],L,true,rfl,by simp,h1,h2,hg⟩
theorem reads_one:∀ (cs cs':List (List Int)) (L R R':List Int) (e e':Bool),Reads L cs R e → Reads L cs' R' e' → cs = cs' ∧ R = R' ∧ e = e':=by
 have key:∀ (c R:List Int) (e:Bool),Good c → ∀ X,(if e then BadB R else Done R) → R = c ++ X → False:=by
  intro c R e hc X ht hR
  have hl:=hc.len
  have h0:R.getD 0 0 = 1:=by rw [hR,getD_append_lt (by omega)]; exact hc.1
  have h1:lenB R = lenB c:=by rw [hR]; exact lenB_app (by omega) X
  cases e with
  | true =>
    obtain ⟨_,_,h⟩:=ht
    refine h ⟨h0,by rw [h1]; exact hc.2.1,?_⟩
    rw [h1,← hc.2.2,hR,List.length_append]; omega
  | false =>
    rcases ht with h | h
    · rw [h] at hR
      have:=congrArg List.length hR
      simp at this; omega
    · rw [h0] at h; omega
 intro cs
 induction cs with
 | nil =>
   intro cs' L R R' e e' h h'
   cases cs' with
   | nil =>
     have:R = R':=by have:=h.eq.symm.trans h'.eq; simpa using this
     subst this
     refine ⟨rfl,rfl,?_⟩
     cases e <;> cases e'
     · rfl
     · rcases h.tail with a | a
       · exact absurd a h'.tail.1
       · exact absurd a h'.tail.2.1
     · rcases h'.tail with a | a
       · exact absurd a h.tail.1
       · exact absurd a h.tail.2.1
     · rfl
   | cons c cs' =>
     have hR:R = c ++ (cs'.flatten ++ R'):=by have:=h.eq.symm.trans h'.eq; simpa using this
     exact (key c R e (h'.good c (by simp)) _ h.tail hR).elim
 | cons c cs ih =>
   intro cs' L R R' e e' h h'
   cases cs' with
   | nil =>
     have hR:R' = c ++ (cs.flatten ++ R):=by have:=h'.eq.symm.trans h.eq; simpa using this
     exact (key c R' e' (h.good c (by simp)) _ h'.tail hR).elim
   | cons c' cs' =>
     have hc:=h.good c (by simp)
     have hc':=h'.good c' (by simp)
     have h2:c ++ (cs.flatten ++ R) = c' ++ (cs'.flatten ++ R'):=by have:=h.eq.symm.trans h'.eq; simpa using this
     have hl:=hc.len
     have hl':=hc'.len
     have e1:lenB c = lenB c':=by
      have:=congrArg lenB h2
      rwa [lenB_app (by omega),lenB_app (by omega)] at this
     have e2:c.length = c'.length:=by rw [hc.2.2,hc'.2.2,e1]
     obtain ⟨rfl,h3⟩:=List.append_inj h2 e2
     obtain ⟨rfl,rfl,rfl⟩:=ih cs' (cs.flatten ++ R) R R' e e' ⟨rfl,fun x hx => h.good x (by simp [hx]),h.tail⟩ ⟨h3,fun x hx => h'.good x (by simp [hx]),h'.tail⟩
     exact ⟨rfl,rfl,rfl⟩
def posC (cs:List (List Int)) (i:Nat):Nat:=(cs.take i).flatten.length
end Go.Proofs.YteeghgjkjicjoaaGreatDoor.Slt
namespace Go.Proofs.YteeghgjkjicjoaaGreatDoor.Dsk
open Go.RowKit
structure DK where
 g:Nat
 h:Nat
 sp:List Value
def cutC (l:Bool) (k:Int) (m:List Int):List Value:=.bool l :: .int .i64 k :: vals m
def rowC (K:DK) (n:Nat) (wr:Int) (off:Bool) (c:List Value):Array Value:=(.pointer (some ⟨K.g,0,none⟩) :: .slice (some ⟨K.h,0,none⟩) n (n + K.sp.length) :: .int .i64 wr :: .bool off :: c).toArray
structure Dsk (w:World) (K:DK) (D:DS):Prop where
 row:w.heap[K.g]? = some (.cells (rowC K D.data.length D.writes D.off (cutC D.laid D.whole D.mask)) 70 (0,0))
 body:w.heap[K.h]? = some (.cells (vals D.data ++ K.sp).toArray 5 (0,0))
 ne:K.g ≠ K.h
 ok:D.Ok
def DK.bl (K:DK):List Nat:=[K.g,K.h]
theorem Dsk.glt {w:World} {K:DK} {D:DS} (h:Dsk w K D):K.g < w.heap.size:=(Array.getElem?_eq_some_iff.1 h.row).1
theorem Dsk.hlt {w:World} {K:DK} {D:DS} (h:Dsk w K D):K.h < w.heap.size:=(Array.getElem?_eq_some_iff.1 h.body).1
theorem Dsk.chg {w w':World} {K:DK} {D:DS} {S:List Nat} (h:Dsk w K D) (hc:Chg S w w') (hg:K.g ∉ S) (hh:K.h ∉ S):Dsk w' K D :=
 ⟨hc.at h.row hg,hc.at h.body hh,h.ne,h.ok⟩
theorem Dsk.later {w w':World} {K:DK} {D:DS} (h:Dsk w K D) (hb:Below w.heap.size w w'):Dsk w' K D:=h.chg (S:=[]) (Chg.of_below hb) (by simp) (by simp)
def DK.ptr (K:DK):Value:=.pointer (some ⟨K.g,0,none⟩)
theorem row0 {w:World} {K:DK} {n:Nat} {wr:Int} {off l:Bool} {k:Int} {m:List Int} {T:Nat} {fr:Nat × Nat} (h:w.heap[K.g]? = some (.cells (rowC K n wr off (cutC l k m)) T fr)) :
 w.cell? ⟨K.g,0,none⟩ = some (.pointer (some ⟨K.g,0,none⟩)) ∧ w.cell? ⟨K.g,1,none⟩ = some (.slice (some ⟨K.h,0,none⟩) n (n + K.sp.length)) ∧ w.cell? ⟨K.g,2,none⟩ = some (.int .i64 wr) ∧ w.cell? ⟨K.g,3,none⟩ = some (.bool off) ∧ w.cell? ⟨K.g,4,none⟩ = some (.bool l) ∧ w.cell? ⟨K.g,5,none⟩ = some (.int .i64 k) ∧ ∀ j,j < m.length → w.cell? ⟨K.g,6 + j,none⟩ = some (.int .u8 (m.getD j 0)):=by
 refine ⟨?_,?_,?_,?_,?_,?_,fun j hj => ?_⟩ <;> rw [cell_row h]
 · rfl
 · rfl
 · rfl
 · rfl
 · rfl
 · rfl
 · rw [rowC,cutC,List.getElem?_toArray,show 6 + j = j + 6 by omega]
   simp [vals,hj]
theorem body_cell {w:World} {K:DK} {L:List Int} {T:Nat} {fr:Nat × Nat} (h:w.heap[K.h]? = some (.cells (vals L ++ K.sp).toArray T fr)) (j:Nat) (hj:j < L.length):w.cell? ⟨K.h,j,none⟩ = some (.int .u8 (L.getD j 0)):=by
 rw [cell_row h,List.getElem?_toArray,List.getElem?_append_left (by rw [vals_length]; exact hj)]
 simp [vals,hj]
theorem eq_same (a:Addr) (w:World):(binOp .eql 32 (.pointer (some a)) (.pointer (some a))).run Tryz.prog w = .ok (.bool true) w:=by
 obtain ⟨j,hj⟩:∃ j,Tryz.prog.info? 70 = some j:=Option.isSome_iff_exists.1 (by kernel_rfl)
 exact Go.run_eql_ptr_same w a (te := 70) Tryz.underlying32 hj
theorem made_any {w:World} {K:DK} {D:DS} (h:Dsk w K D):Calls Tryz.prog 33 #[K.ptr] w fun e w' => e = .returned (.bool true) ∧ w = w':=by
 obtain ⟨c0,_⟩:=row0 h.row
 have he:=eq_same ⟨K.g,0,none⟩
 unfold DK.ptr
 clear h
 go_enter Tryz.func33,Tryz.ntmps33
 go_wp2
 go_ret
 exact ⟨rfl,rfl⟩
theorem within_any (k n o:Int) (w:World) (hk:k ≤ 9223372036854775807) (h0:0 ≤ o) (ho:o ≤ 9223372036854775807):Calls Tryz.prog 36 #[.int .i64 k,.int .i64 n,.int .i64 o] w fun e w' => e = .returned (.bool (withinI k n o)) ∧ w = w':=by
 by_cases a1:0 ≤ k
 · by_cases a2:0 ≤ n
   · by_cases a3:n ≤ o - k
     · rw [show withinI k n o = true by rw [withinI,decide_eq_true a1,decide_eq_true a2,decide_eq_true a3]; rfl]
       go_enter Tryz.func36,Tryz.ntmps36
       go_wp2
       go_ret
       exact ⟨rfl,rfl⟩
     · rw [show withinI k n o = false by rw [withinI,decide_eq_true a1,decide_eq_true a2,decide_eq_false a3]; rfl]
       go_enter Tryz.func36,Tryz.ntmps36
       go_wp2
       go_ret
       exact ⟨rfl,rfl⟩
   · rw [show withinI k n o = false by rw [withinI,decide_eq_true a1,decide_eq_false a2]; rfl]
     go_enter Tryz.func36,Tryz.ntmps36
     go_wp2
     go_ret
     exact ⟨rfl,rfl⟩
 · rw [show withinI k n o = false by rw [withinI,decide_eq_false a1]; rfl]
   go_enter Tryz.func36,Tryz.ntmps36
   go_wp2
   go_ret
   exact ⟨rfl,rfl⟩
theorem refuses_any {w:World} {K:DK} {D:DS} (h:Dsk w K D) (b:Bool):Calls Tryz.prog 70 #[K.ptr,.bool b] w fun e w' => e = .returned (.int .i64 (refE D b)) ∧ w = w':=by
 have Hm:=Lib.hid (made_any h)
 obtain ⟨_,_,_,c3,_⟩:=row0 h.row
 unfold refE DK.ptr at *
 obtain ⟨off,ho⟩:∃ off,off = D.off:=⟨_,rfl⟩
 rw [← ho] at c3 ⊢
 clear h ho
 cases b <;> cases off <;>
 · go_enter Tryz.func70,Tryz.ntmps70
   go_wp2_with (go_at_call 33; refine Hm.out.mono ?_; rintro e w' ⟨rfl,rfl⟩)
   go_ret
   exact ⟨rfl,rfl⟩
theorem sectors_count {w:World} {K:DK} {D:DS} (h:Dsk w K D):Calls Tryz.prog 13 #[K.ptr] w fun e w' => e = .returned (.int .i64 D.secs) ∧ w = w':=by
 have Hm:=Lib.hid (made_any h)
 obtain ⟨_,c1,_⟩:=row0 h.row
 have hn:=h.ok.whole128
 have hm:=h.ok.most
 unfold DK.ptr at *
 obtain ⟨s,hs⟩:∃ s,s = D.secs:=⟨_,rfl⟩
 rw [hn,← hs] at c1
 rw [← hs] at hm ⊢
 clear h hn hs
 go_enter Tryz.func13,Tryz.ntmps13
 go_wp2_with (go_at_call 33; refine Hm.out.mono ?_; rintro e w' ⟨rfl,rfl⟩)
 go_ret
 refine ⟨?_,rfl⟩
 congr 3
def secV (K:DK) (k n cap:Nat):Value:=.slice (if cap = k * 128 then some ⟨K.h,0,none⟩ else some ⟨K.h,k * 128,none⟩) (n * 128) (cap - k * 128)
theorem secV_yes (K:DK) (k n cap:Nat) (h:cap = k * 128):secV K k n cap = .slice (some ⟨K.h,0,none⟩) ((k + n) * 128 - k * 128) (k * 128 - k * 128):=by
 unfold secV; rw [if_pos h,h]; congr 1; omega
theorem secV_no (K:DK) (k n cap:Nat) (h:¬ cap = k * 128):secV K k n cap = .slice (some ⟨K.h,k * 128,none⟩) ((k + n) * 128 - k * 128) (cap - k * 128):=by
 unfold secV; rw [if_neg h]; congr 1; omega
theorem sectors_any {w:World} {K:DK} {D:DS} (h:Dsk w K D) (k n:Nat) (hk:k + n ≤ D.secs):Calls Tryz.prog 101 #[K.ptr,.int .i64 k,.int .i64 n] w fun e w' => e = .returned (secV K k n (D.data.length + K.sp.length)) ∧ w = w':=by
 obtain ⟨_,c1,_⟩:=row0 h.row
 have hn:=h.ok.whole128
 have hm:=h.ok.most
 unfold DK.ptr at *
 obtain ⟨s,hs⟩:∃ s,s = D.secs:=⟨_,rfl⟩
 rw [hn,← hs] at c1
 rw [hn]
 rw [← hs] at hm hk ⊢
 obtain ⟨c,hc⟩:∃ c,c = s * 128 + K.sp.length:=⟨_,rfl⟩
 rw [← hc] at c1 ⊢
 have hcs:s * 128 ≤ c:=by omega
 clear h hn hs hc
 by_cases e:c = k * 128
 · have hV:=secV_yes K k n c e
   rw [hV]
   clear hV
   go_enter Tryz.func101,Tryz.ntmps101
   go_wp2
   go_ret
   exact ⟨rfl,rfl⟩
 · have hV:=secV_no K k n c e
   rw [hV]
   clear hV
   go_enter Tryz.func101,Tryz.ntmps101
   go_wp2
   go_ret
   exact ⟨rfl,rfl⟩
end Go.Proofs.YteeghgjkjicjoaaGreatDoor.Dsk
