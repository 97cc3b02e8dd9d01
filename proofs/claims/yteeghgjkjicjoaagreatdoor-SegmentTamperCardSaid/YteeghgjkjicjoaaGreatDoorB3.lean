/- Texts of ours, merged. -/
import Derived.Test.YteeghgjkjicjoaaGreatDoorB2
import Derived.RegionTactic
import Derived.Deep.DeepCutAuto
import Derived.Lib.SlBytesConst
import Derived.ProofKit
import Derived.ChangeKeysEq
namespace Go.Proofs.YteeghgjkjicjoaaGreatDoor
open Go.RowKit
theorem info79:(Tryz.prog.info? 176).map (·.size) = some 64:=by kernel_rfl
set_option maxRecDepth 100000 in
set_option maxHeartbeats 1000000 in
theorem block_short (K:List Int) (A:Option Addr) (c n:Nat) (w:World) (hn:K.length = n) (hB:Byt w A c K) (hs:n ≤ 64) :
 Calls Tryz.prog 131 #[.slice A n c] w fun e w' => e = .returned (.agg (u8s (pad64 K))) ∧ Below w.heap.size w w':=by
 have hs':¬ (64:Int) < n:=by omega
 have h2:=two_new w (.cells zero64 176) (.cells zero64 176)
 have b1:Below w.heap.size w (w.alloc (.cells zero64 176)):=(Below.refl _ _).alloc (Nat.le_refl _) _
 have b2:Below (w.heap.size + 1) (w.alloc (.cells zero64 176)) ((w.alloc (.cells zero64 176)).alloc (.cells zero64 176)):=(Below.refl _ _).alloc (by simp) _
 have hmin:(vals K).length = Nat.min n 64:=by rw [vals_length,hn]; exact (Nat.min_eq_left hs).symm
 have hpos:0 < (vals K).length → ∃ ad,A = some ad ∧ ∀ j v,(vals K)[j]? = some v → ((w.alloc (.cells zero64 176)).alloc (.cells zero64 176)).cell? (ad.add j) = some v:=by
  intro h
  rw [vals_length] at h
  obtain ⟨g,off,rfl,hg,hc⟩:=hB.2.2 h
  exact ⟨_,rfl,hB.cells (fun p hp => by rw [World.cell?_alloc_lt _ _ _ (by simp; omega),World.cell?_alloc_lt _ _ _ hp]) _ rfl⟩
 have Hmin:=Lib.hid hmin
 have Hpos:=Lib.hid hpos
 have hrow:((w.alloc (.cells zero64 176)).alloc (.cells zero64 176)).heap[w.heap.size + 1]? = some (.cells (vals (List.replicate 64 0)).toArray 176 (0,0)):=by
  rw [h2.2,zero64_eq]; rfl
 have Hrow:=Lib.hid hrow
 have H1:=Lib.hid h2.1
 have B1:=Lib.hid b1
 have B2:=Lib.hid b2
 have Hn:=Lib.hid hn
 have Hi:Hid ((Tryz.prog.info? 176).map (·.size) = some (u8s (pad64 K)).size):=by show _ = _; rw [u8s_size,pad64_length (by omega)]; exact info79
 unfold zero64 at Hpos Hrow H1 B1 B2
 clear h2 b1 b2 hmin hpos hrow hn hB
 go_enter Tryz.func131,Tryz.ntmps131
 go_wp2_with (first
  | (refine wpList_copy_splice rfl (.tmp 11) (.tmp 12) 38 38 rfl 5 Tryz.underlying38 info26 (some ⟨w.heap.size + 1,0,none⟩) A 64 64 n c (by rfl) (by rfl) (w.heap.size + 1) 0 (vals (List.replicate 64 0)) 176 Hrow.out (vals K) Hmin.out (fun h => ⟨rfl,Hpos.out h⟩) (by rw [Hmin.out,vals_length,List.length_replicate,Nat.zero_add]; exact Nat.min_le_right _ _) (vals_one _) (w.heap.size + 1) _ B2.out (Nat.le_refl _) ?_; intro w2 h2 low2; have h3:=h2.out; rw [splice_key K] at h3; have H3:=Lib.hid h3; have H0:=Lib.hid ((low2.block _ (Nat.lt_succ_self _)).trans (Go.heap_alloc_new w _)); have Low:=Lib.hid (B1.out.trans (low2.mono (Nat.le_succ _))); clear h2 h3 low2)
  | (refine wpList_load_row rfl 176 (.tmp 4) rfl (w.heap.size + 1) (by rfl) 176 (u8s (pad64 K)) (0,0) _ H3.out Tryz.underlying176 rfl Hi.out ?_)
  | (refine wpList_store_row rfl 176 (.tmp 2) (.tmp 14) rfl w.heap.size (u8s (pad64 K)) (by rfl) (by rfl) 176 _ H0.out Hi.out (by rw [u8s_size,pad64_length (by rw [Hn.out]; exact hs)]; rfl) (u8s_one _) ?_))
 exact bodyPost_ret (v:=.agg (u8s (pad64 K))) (results_cell_row rfl _ _ w.heap.size 176 _ (0,0) _ rfl (setRow_heap w2 _ _ _ _ _ H0.out) Tryz.underlying176 rfl Hi.out) rfl ⟨rfl,below_setRow Low.out (Nat.le_refl _) _⟩
theorem long_row (w:World) (X:List Int):((w.alloc (.cells (u8s X) 24)).alloc (.cells zero64 176)).heap[w.heap.size + 1]? = some (.cells (vals (List.replicate 64 0)).toArray 176 (0,0)):=by
 rw [(two_new w _ _).2,zero64_eq]; rfl
theorem long_src (w:World) (X:List Int):∀ j v,(vals X)[j]? = some v → ((w.alloc (.cells (u8s X) 24)).alloc (.cells zero64 176)).cell? ((⟨w.heap.size,0,none⟩:Addr).add j) = some v:=by
 intro j v hv
 obtain ⟨hj,rfl⟩:=vals_get hv
 rw [Addr.add_mid,cell_row (two_new w _ _).1,Nat.zero_add,u8s_get _ _ hj]
theorem long_low (w:World) (X:List Int):Below (w.heap.size + 1) (w.alloc (.cells (u8s X) 24)) ((w.alloc (.cells (u8s X) 24)).alloc (.cells zero64 176)):=(Below.refl _ _).alloc (by simp) _
set_option maxRecDepth 100000 in
set_option maxHeartbeats 1000000 in
theorem block_long (K:List Int) (A:Option Addr) (c n:Nat) (w:World) (hn:K.length = n) (hb:InB K) (hB:Byt w A c K) (hL:Laid w) (hs:64 < n) (hx:n < 2305843009213693952) :
 Calls Tryz.prog 131 #[.slice A n c] w fun e w' => e = .returned (.agg (u8s (pad64 (sumL K)))) ∧ Below w.heap.size w w':=by
 have hs':(64:Int) < n:=by omega
 have b1:Below w.heap.size w (w.alloc (.cells zero64 176)):=(Below.refl _ _).alloc (Nat.le_refl _) _
 have H1:=Lib.hid (Go.heap_alloc_new w (.cells zero64 176))
 have B1:=Lib.hid b1
 have HS:=Lib.hid (sum_any K A c n (w.alloc (.cells zero64 176)) hn hb (hB.below b1 (Nat.le_refl _)) (hL.below b1 hL.sz) hx)
 have Hl:=Lib.hid (sumL_length K)
 obtain ⟨X,hX⟩:∃ X,X = sumL K:=⟨_,rfl⟩
 rw [← hX] at HS Hl ⊢
 have Hi:Hid ((Tryz.prog.info? 176).map (·.size) = some (u8s (pad64 X)).size):=by show _ = _; rw [u8s_size,pad64_length (by rw [Hl.out]; omega)]; exact info79
 have H35:Hid ((Tryz.prog.info? 24).map (·.size) = some (u8s X).size):=by show _ = _; rw [u8s_size,Hl.out]; exact info35
 have Hmin:Hid ((vals X).length = Nat.min 32 64):=by show _ = _; rw [vals_length,Hl.out]; rfl
 unfold zero64 at HS H1 B1
 clear b1 hn hb hB hL hX
 go_enter Tryz.func131,Tryz.ntmps131
 go_wp2_with (first
  | (go_at_call 133; refine HS.out.mono ?_; rintro e w1 ⟨rfl,low1⟩; have R1:=Lib.hid ((low1.block _ (Array.getElem?_eq_some_iff.1 H1.out).1).trans H1.out); have Low1:=Lib.hid (B1.out.trans (low1.mono (by simp))); clear low1)
  | (refine wpList_store_row rfl 24 (.tmp 3) (.tmp 9) rfl w1.heap.size (u8s X) (by rfl) (by rfl) 24 _ (Go.heap_alloc_new w1 _) H35.out (by rw [u8s_size,Hl.out]; rfl) (u8s_one _) ?_; rw [World.setRow_alloc_new])
  | (refine wpList_copy_splice rfl (.tmp 11) (.tmp 12) 38 38 rfl 5 Tryz.underlying38 info26 (some ⟨w1.heap.size + 1,0,none⟩) (some ⟨w1.heap.size,0,none⟩) 64 64 32 32 (by rfl) (by rfl) (w1.heap.size + 1) 0 (vals (List.replicate 64 0)) 176 (long_row w1 X) (vals X) Hmin.out (fun _ => ⟨rfl,_,rfl,long_src w1 X⟩) (by rw [Hmin.out,vals_length,List.length_replicate,Nat.zero_add]; exact Nat.min_le_right _ _) (vals_one _) (w1.heap.size + 1) _ (long_low w1 X) (Nat.le_refl _) ?_; intro w2 h2 low2; have h3:=h2.out; rw [splice_key X] at h3; have H3:=Lib.hid h3; have H0:=Lib.hid ((low2.block _ (Nat.lt_succ_of_lt (Array.getElem?_eq_some_iff.1 R1.out).1)).trans ((Go.heap_alloc_old w1 _ (Array.getElem?_eq_some_iff.1 R1.out).1).trans R1.out)); have Low:=Lib.hid ((Low1.out.alloc Low1.out.size _).trans (low2.mono (Nat.le_trans Low1.out.size (Nat.le_succ _)))); clear h2 h3 low2)
  | (refine wpList_load_row rfl 176 (.tmp 4) rfl (w1.heap.size + 1) (by rfl) 176 (u8s (pad64 X)) (0,0) _ H3.out Tryz.underlying176 rfl Hi.out ?_)
  | (refine wpList_store_row rfl 176 (.tmp 2) (.tmp 14) rfl w.heap.size (u8s (pad64 X)) (by rfl) (by rfl) 176 _ H0.out Hi.out (by rw [u8s_size,pad64_length (by rw [Hl.out]; omega)]; rfl) (u8s_one _) ?_))
 exact bodyPost_ret (v:=.agg (u8s (pad64 X))) (results_cell_row rfl _ _ w.heap.size 176 _ (0,0) _ rfl (setRow_heap w2 _ _ _ _ _ H0.out) Tryz.underlying176 rfl Hi.out) rfl ⟨rfl,below_setRow Low.out (Nat.le_refl _) _⟩
theorem block_any (K:List Int) (A:Option Addr) (c n:Nat) (w:World) (hn:K.length = n) (hb:InB K) (hB:Byt w A c K) (hL:Laid w) (hx:n < 2305843009213693952) :
 Calls Tryz.prog 131 #[.slice A n c] w fun e w' => e = .returned (.agg (u8s (blockL K))) ∧ Below w.heap.size w w':=by
 by_cases hs:n ≤ 64
 · have h:=block_short K A c n w hn hB hs
   unfold blockL keyL
   rw [if_pos (by omega)]
   exact h
 · have h:=block_long K A c n w hn hb hB hL (by omega) hx
   unfold blockL keyL
   rw [if_neg (by omega)]
   exact h
structure XInv (l:List Int) (m:Int) (N k:Nat) (w wr:World):Prop where
 row:∃ C:Array Value,C.size = 64 ∧ wr.heap[N]? = some (.cells C 176 (0,0)) ∧ ∀ j,j < 64 → C[j]? = some (.int .u8 (if j < k then bits .xor .u8 (l.getD j 0) m else l.getD j 0))
 res:wr.heap[N + 1]? = some (.cells zero64 176 (0,0))
 low:Below N w wr
theorem XInv.set {l:List Int} {m:Int} {N k:Nat} {w wr:World} (h:XInv l m N k w wr) (hk:k < 64):XInv l m N (k + 1) w (wr.setCell ⟨N,k,none⟩ (.int .u8 (bits .xor .u8 (l.getD k 0) m))):=by
 obtain ⟨C,hC,hr,hc⟩:=h.row
 refine ⟨⟨_,?_,heap_setCell_same _ _ _ _ _ _ hr,?_⟩,?_,h.low.setCell (by simp) _⟩
 · simp [hC]
 · intro j hj
   rw [Array.getElem?_setIfInBounds]
   by_cases e:k = j
   · subst e; rw [if_pos rfl,if_pos (by omega),if_pos (by omega)]
   · rw [if_neg e,hc j hj]
     by_cases e2:j < k
     · rw [if_pos e2,if_pos (by omega)]
     · rw [if_neg e2,if_neg (by omega)]
 · rw [heap_setCell_other _ _ _ _ (by simp)]; exact h.res
theorem XInv.whole {l:List Int} {m:Int} {N:Nat} {w wr:World} (h:XInv l m N 64 w wr) (hl:l.length = 64):wr.heap[N]? = some (.cells (u8s (xorL m l)) 176 (0,0)):=by
 obtain ⟨C,hC,hr,hc⟩:=h.row
 have:C = u8s (xorL m l):=by
  apply Array.ext_getElem?
  intro j
  by_cases hj:j < 64
  · rw [hc j hj,if_pos hj,u8s_get _ _ (by rw [xorL_length]; omega)]
    simp [xorL,List.getD_eq_getElem?_getD,hl,hj]
  · rw [Array.getElem?_eq_none (by omega),Array.getElem?_eq_none (by rw [u8s_size,xorL_length]; omega)]
 rw [hr,this]
set_option maxRecDepth 100000 in
set_option maxHeartbeats 1000000 in
theorem masked_any (l:List Int) (m:Int) (hl:l.length = 64) (w:World) :
 Calls Tryz.prog 132 #[.agg (u8s l),.int .u8 m] w fun e w' => e = .returned (.agg (u8s (xorL m l))) ∧ Below w.heap.size w w':=by
 have Hl:=Lib.hid hl
 have h2:=Lib.hid (two_new w (.cells (u8s l) 176) (.cells zero64 176))
 have b2:Below w.heap.size w ((w.alloc (.cells (u8s l) 176)).alloc (.cells zero64 176)):=((Below.refl _ _).alloc (Nat.le_refl _) _).alloc (by simp) _
 have B2:=Lib.hid b2
 have hi0:XInv l m w.heap.size 0 w ((w.alloc (.cells (u8s l) 176)).alloc (.cells zero64 176)) :=
  ⟨⟨u8s l,by rw [u8s_size,hl],h2.out.1,fun j hj => by rw [u8s_get _ _ (by omega),if_neg (Nat.not_lt_zero _)]⟩,h2.out.2,b2⟩
 have Hi0:=Lib.hid hi0
 unfold zero64 at Hi0
 clear hl h2 b2 B2 hi0
 go_enter Tryz.func132,Tryz.ntmps132
 go_wp2
 go_loopw [6] (fun i wr => ∃ k:Nat,k ≤ 64 ∧ i = .int .i64 k ∧ XInv l m w.heap.size k w wr) (fun i _ => 64 - (intOf i).toNat)
 case atStart => exact ⟨0,Nat.zero_le _,rfl,Hi0.out⟩
 case round =>
  obtain ⟨k,hk,rfl,hinv⟩:=hrel
  clear Hi0
  by_cases hlt:k < 64
  · obtain ⟨C,hC,hr,hc⟩:=hinv.row
    have c1:wr.cell? ⟨w.heap.size,k,none⟩ = some (.int .u8 (l.getD k 0)):=by rw [cell_row hr,hc k hlt,if_neg (Nat.lt_irrefl _)]
    have f1:=free_row hr k
    obtain ⟨x,hx⟩:∃ x,x = l.getD k 0:=⟨_,rfl⟩
    rw [← hx] at c1
    have Hx:=Lib.hid hx
    have hlt':(k:Int) < 64:=by omega
    clear hC hr hc hx
    go_wp2
    go_roundw
    case rel => exact ⟨k + 1,by omega,by go_num,by rw [Hx.out]; exact hinv.set hlt⟩
    case measure => simp [intOf]; omega
  · have h64:k = 64:=by omega
    rw [h64] at hinv
    have hr:=hinv.whole Hl.out
    have hz:=hinv.res
    have Hr:=Lib.hid hr
    have Hz:=Lib.hid hz
    have Low:=Lib.hid hinv.low
    have Hi:Hid ((Tryz.prog.info? 176).map (·.size) = some (u8s (xorL m l)).size):=by show _ = _; rw [u8s_size,xorL_length,Hl.out]; exact info79
    clear hr hz hinv h64 hk
    go_wp2_with (first
     | (refine wpList_load_row rfl 176 (.tmp 2) rfl w.heap.size (by rfl) 176 (u8s (xorL m l)) (0,0) _ Hr.out Tryz.underlying176 rfl Hi.out ?_)
     | (refine wpList_store_row rfl 176 (.tmp 4) (.tmp 16) rfl (w.heap.size + 1) (u8s (xorL m l)) (by rfl) (by rfl) 176 _ Hz.out Hi.out (by rw [u8s_size,xorL_length,Hl.out]; rfl) (u8s_one _) ?_))
    exact bodyPost_ret (v:=.agg (u8s (xorL m l))) (results_cell_row rfl _ _ (w.heap.size + 1) 176 _ (0,0) _ rfl (setRow_heap wr _ _ _ _ _ Hz.out) Tryz.underlying176 rfl Hi.out) rfl ⟨rfl,below_setRow Low.out (by omega) _⟩
end Go.Proofs.YteeghgjkjicjoaaGreatDoor
namespace Go.Proofs.YteeghgjkjicjoaaGreatDoor
theorem filter_more (xs:List Nat) (p q:Nat → Bool) (h:∀ j,q j = true → p j = true):(xs.filter q).length ≤ (xs.filter p).length:=by
 induction xs with
 | nil => simp
 | cons x xs ih =>
   cases hq:q x
   · cases hp:p x <;> simp [hq,hp] <;> omega
   · have hp:=h x hq
     simp [hq,hp]; exact ih
theorem filter_less (xs:List Nat) (p q:Nat → Bool) (h:∀ j,q j = true → p j = true) (i:Nat) (hi:i ∈ xs) (hp:p i = true) (hq:q i = false):(xs.filter q).length < (xs.filter p).length:=by
 induction xs with
 | nil => cases hi
 | cons x xs ih =>
   by_cases e:x = i
   · subst e
     have:=filter_more xs p q h
     simp [hq,hp]; omega
   · have:=ih (by simpa [Ne.symm e] using hi)
     cases hq':q x
     · cases hp':p x <;> simp [hq',hp'] <;> omega
     · have hp':=h x hq'
       simp [hq',hp']; exact this
section
variable {P:Program} {ops:Array Oper} {Q:Exit → Act → World → Prop} {md:Region.Mode}
def backB (md:Region.Mode) (ops:Array Oper):Bool:=(List.range ops.size).all fun i => ((ops[i]?).map fun o => o.after.all fun e => !Region.binds md e || decide (e.on < i)).getD true
def waitsB (md:Region.Mode) (ops:Array Oper) (i j:Nat):Bool:=((ops[i]?).map fun o => o.after.any fun e => Region.binds md e && e.on == j).getD false
def unlisted (n:Nat) (l:Array Bool):Nat:=((List.range n).filter fun i => !l.getD i true).length
theorem ready_lt {l:Array Bool} {i:Nat} (h:i ∈ Region.ready md ops l):i < ops.size:=by
 obtain ⟨_,o,ho,_⟩:=mem_ready.1 h
 exact (Array.getElem?_eq_some_iff.1 ho).1
theorem ready_pred {l:Array Bool} {i:Nat} (h:i ∈ Region.ready md ops l) (j:Nat) (hw:waitsB md ops i j = true):l.getD j false = true:=by
 obtain ⟨_,o,ho,hall⟩:=mem_ready.1 h
 simp only [waitsB,ho,Option.map_some,Option.getD_some,Array.any_eq_true',Bool.and_eq_true,beq_iff_eq] at hw
 obtain ⟨e,he,hb,rfl⟩:=hw
 exact hall e he hb
theorem all_listed {l:Array Bool} (hs:l.size = ops.size) (hb:backB md ops = true) (h:Region.ready md ops l = []):∀ i,i < ops.size → l.getD i false = true:=by
 intro i
 induction i using Nat.strongRecOn with
 | ind i ih =>
   intro hi
   cases hl:l.getD i false with
   | true => rfl
   | false =>
     have hb':=List.all_eq_true.1 hb i (List.mem_range.2 hi)
     have ho:ops[i]? = some ops[i]:=Array.getElem?_eq_getElem hi
     rw [ho,Option.map_some,Option.getD_some] at hb'
     have hm:i ∈ Region.ready md ops l:=by
      refine mem_ready.2 ⟨?_,_,ho,fun e he hbd => ?_⟩
      · rw [← hl]
        simp only [Array.getD_eq_getD_getElem?]
        rw [Array.getElem?_eq_getElem (by omega)]
        rfl
      · have:=Array.all_eq_true_iff_forall_mem.1 hb' e he
        have hlt:e.on < i:=by
         have h2:Region.binds md e = false ∨ e.on < i:=by simpa using this
         exact h2.resolve_left (by rw [hbd]; decide)
        exact ih _ hlt (by omega)
     rw [h] at hm
     cases hm
theorem getD_un {l:Array Bool} {i:Nat} (h:l.getD i true = false):l.getD i false = false:=by
 rw [Array.getD_eq_getD_getElem?] at h ⊢
 cases e:l[i]? with
 | none => rfl
 | some b => rw [e] at h; exact h
theorem wpAny_inv (I:Array Bool → Act → World → Prop) (hs:∀ l a w,I l a w → l.size = ops.size) (hb:backB md ops = true)
 (hfin:∀ l a w,I l a w → (∀ i,i < ops.size → l.getD i false = true) → Q .normal a w)
 (hstep:∀ l a w i,I l a w → i < ops.size → l.getD i false = false → (∀ j,waitsB md ops i j = true → l.getD j false = true) → wpOp P ops Q i (I (l.setIfInBounds i true)) a w) :
 ∀ (fuel:Nat) (l:Array Bool) (a:Act) (w:World),unlisted ops.size l ≤ fuel → I l a w → wpAny P md ops Q fuel l a w:=by
 intro fuel
 induction fuel with
 | zero =>
   intro l a w hu h
   have hr:Region.ready md ops l = []:=by
    cases he:Region.ready md ops l with
    | nil => rfl
    | cons i rest =>
      have hm:i ∈ Region.ready md ops l:=by rw [he]; exact List.mem_cons_self ..
      have hlt:=ready_lt hm
      have h0:=(mem_ready.1 hm).1
      have:i ∈ (List.range ops.size).filter fun i => !l.getD i true:=List.mem_filter.2 ⟨List.mem_range.2 hlt,by simp only [h0]; rfl⟩
      have:=List.length_pos_of_mem this
      unfold unlisted at hu
      omega
   exact ⟨hr,hfin l a w h (all_listed (hs l a w h) hb hr)⟩
 | succ fuel ih =>
   intro l a w hu h
   refine ⟨fun hr => hfin l a w h (all_listed (hs l a w h) hb hr),fun i hi => ?_⟩
   have hlt:=ready_lt hi
   have h0:=(mem_ready.1 hi).1
   refine wpOp_mono (fun a' w' h' => ih _ _ _ ?_ h') (hstep l a w i h hlt (getD_un h0) (ready_pred hi))
   have hl:=hs l a w h
   have:unlisted ops.size (l.setIfInBounds i true) < unlisted ops.size l:=by
    unfold unlisted
    refine filter_less _ _ _ (fun j hj => ?_) i (List.mem_range.2 hlt) (by simp only [h0]; rfl) ?_
    · by_cases e:i = j
      · subst e
        simp [hl,hlt] at hj
      · rw [getD_set_ne true e] at hj; exact hj
    · simp [hl,hlt]
   omega
theorem unlisted_none (n:Nat):unlisted n (Array.replicate n false) ≤ n:=by
 unfold unlisted
 have:=List.length_filter_le (fun i => !(Array.replicate n false).getD i true) (List.range n)
 simpa using this
theorem getD_listed {l:Array Bool} {i j:Nat} (h:(l.setIfInBounds i true).getD j false = true):j = i ∨ l.getD j false = true:=by
 by_cases e:i = j
 · exact .inl e.symm
 · rw [getD_set_ne false e] at h; exact .inr h
end
section
variable {P:Program} {ops:Array Oper} {Q:Exit → Act → World → Prop}
theorem wpOp_plain {i:Nat} {o:Oper} {K:Act → World → Prop} {a:Act} {w:World} (ho:ops[i]? = some o) (hg:o.guard = none) (h:Oper.wp P o a w K Q):wpOp P ops Q i K a w :=
 wpOp_step ho (fun K' hK' => by rw [if_pos (by simp [Region.wanted,hg])]; exact Oper.wp_mono hK' h)
end
end Go.Proofs.YteeghgjkjicjoaaGreatDoor
namespace Go.Proofs.YteeghgjkjicjoaaGreatDoor
open Go.RowKit
theorem lstT {l:Array Bool} {i j:Nat} (h:(l.setIfInBounds i true).getD j false = true) (hne:j ≠ i):l.getD j false = true:=(getD_listed h).resolve_left hne
def Kept (w w':World):Prop:=∀ (k:Nat) (o:Obj),w.heap[k]? = some o → w'.heap[k]? = some o
theorem Kept.refl (w:World):Kept w w:=fun _ _ h => h
theorem Kept.below {w w':World} (h:Below w.heap.size w w'):Kept w w':=fun k _ hk => (h.block k (Array.getElem?_eq_some_iff.1 hk).1).trans hk
theorem Kept.alloc (w:World) (o:Obj):Kept w (w.alloc o):=Kept.below ((Below.refl _ _).alloc (Nat.le_refl _) _)
def rowIf (b:Bool) (X:List Int):Array Value:=if b = true then u8s X else zero64
theorem rowIf_size (b:Bool) (X:List Int) (h:X.length = 64):(rowIf b X).size = 64:=by
 unfold rowIf
 split
 · rw [u8s_size,h]
 · rfl
theorem notYet {l:Array Bool} {i j:Nat} (h:l.getD i false = true → l.getD j false = true) (hu:l.getD j false = false):l.getD i false = false:=by
 cases e:l.getD i false with
 | false => rfl
 | true => rw [h e] at hu; cases hu
structure Two (l:Array Bool) (v11 v12 v13 v14 v6 v7:Value) (g6 g7 N G:Nat) (X Y Z:List Int) (w wx:World):Prop where
 sz:l.size = 8
 p0:l.getD 0 false = true → v11 = .agg (u8s X)
 p1:l.getD 1 false = true → v12 = .agg (u8s Y)
 p2:l.getD 2 false = true → v13 = .agg (u8s X)
 p3:l.getD 3 false = true → v14 = .agg (u8s Z)
 p4:l.getD 4 false = true → v6 = .pointer (some ⟨g6,0,none⟩) ∧ G < g6 ∧ wx.heap[g6]? = some (.cells (rowIf (l.getD 6 false) Y) 176 (0,0))
 p5:l.getD 5 false = true → v7 = .pointer (some ⟨g7,0,none⟩) ∧ G < g7 ∧ wx.heap[g7]? = some (.cells (rowIf (l.getD 7 false) Z) 176 (0,0))
 ne:l.getD 4 false = true → l.getD 5 false = true → g6 ≠ g7
 q6:l.getD 6 false = true → l.getD 4 false = true ∧ l.getD 5 false = true
 q7:l.getD 7 false = true → l.getD 4 false = true ∧ l.getD 5 false = true
 src:wx.heap[G]? = some (.cells (u8s X) 176 (0,0))
 res:wx.heap[N]? = some (.cells zero32 24 (0,0))
 NG:N < G
 low:Below N w wx
section
variable {l:Array Bool} {v11 v12 v13 v14 v6 v7:Value} {g6 g7 N G:Nat} {X Y Z:List Int} {w wx:World}
theorem Two.same (h:Two l v11 v12 v13 v14 v6 v7 g6 g7 N G X Y Z w wx) (i:Nat) (hi:i = 0 ∨ i = 1 ∨ i = 2 ∨ i = 3) (v11' v12' v13' v14':Value)
 (h0:(i = 0 ∧ v11' = .agg (u8s X)) ∨ (i ≠ 0 ∧ v11' = v11)) (h1:(i = 1 ∧ v12' = .agg (u8s Y)) ∨ (i ≠ 1 ∧ v12' = v12)) (h2:(i = 2 ∧ v13' = .agg (u8s X)) ∨ (i ≠ 2 ∧ v13' = v13)) (h3:(i = 3 ∧ v14' = .agg (u8s Z)) ∨ (i ≠ 3 ∧ v14' = v14))
 {wx':World} (hk:Kept wx wx') (hl:Below wx.heap.size wx wx'):Two (l.setIfInBounds i true) v11' v12' v13' v14' v6 v7 g6 g7 N G X Y Z w wx' where
 sz:=by simp [h.sz]
 p0 hl:=h0.elim (fun e => e.2) (fun e => e.2.trans (h.p0 (lstT hl (Ne.symm e.1))))
 p1 hl:=h1.elim (fun e => e.2) (fun e => e.2.trans (h.p1 (lstT hl (Ne.symm e.1))))
 p2 hl:=h2.elim (fun e => e.2) (fun e => e.2.trans (h.p2 (lstT hl (Ne.symm e.1))))
 p3 hl:=h3.elim (fun e => e.2) (fun e => e.2.trans (h.p3 (lstT hl (Ne.symm e.1))))
 p4 hl:=by
  obtain ⟨a,b,c⟩:=h.p4 (lstT hl (by omega))
  exact ⟨a,b,by rw [getD_set_ne false (by omega)]; exact hk _ _ c⟩
 p5 hl:=by
  obtain ⟨a,b,c⟩:=h.p5 (lstT hl (by omega))
  exact ⟨a,b,by rw [getD_set_ne false (by omega)]; exact hk _ _ c⟩
 ne h4 h5:=h.ne (lstT h4 (by omega)) (lstT h5 (by omega))
 q6 hl:=⟨getD_set_true (h.q6 (lstT hl (by omega))).1,getD_set_true (h.q6 (lstT hl (by omega))).2⟩
 q7 hl:=⟨getD_set_true (h.q7 (lstT hl (by omega))).1,getD_set_true (h.q7 (lstT hl (by omega))).2⟩
 src:=hk _ _ h.src
 res:=hk _ _ h.res
 NG:=h.NG
 low:=h.low.trans (hl.mono (by have:=(Array.getElem?_eq_some_iff.1 h.res).1; omega))
theorem Two.alloc6 (h:Two l v11 v12 v13 v14 v6 v7 g6 g7 N G X Y Z w wx) (hu:l.getD 4 false = false) :
 Two (l.setIfInBounds 4 true) v11 v12 v13 v14 (.pointer (some ⟨wx.heap.size,0,none⟩)) v7 wx.heap.size g7 N G X Y Z w (wx.alloc (.cells zero64 176)) where
 sz:=by simp [h.sz]
 p0 hl:=h.p0 (lstT hl (by omega))
 p1 hl:=h.p1 (lstT hl (by omega))
 p2 hl:=h.p2 (lstT hl (by omega))
 p3 hl:=h.p3 (lstT hl (by omega))
 p4 _:=⟨rfl,(Array.getElem?_eq_some_iff.1 h.src).1,by rw [getD_set_ne false (by omega),notYet (fun e => (h.q6 e).1) hu]; exact Go.heap_alloc_new _ _⟩
 p5 hl:=by
  obtain ⟨a,b,c⟩:=h.p5 (lstT hl (by omega))
  exact ⟨a,b,by rw [getD_set_ne false (by omega)]; exact (Kept.alloc _ _) _ _ c⟩
 ne _ h5:=by
  have:=(Array.getElem?_eq_some_iff.1 (h.p5 (lstT h5 (by omega))).2.2).1
  omega
 q6 hl:=⟨getD_set_true (h.q6 (lstT hl (by omega))).1,getD_set_true (h.q6 (lstT hl (by omega))).2⟩
 q7 hl:=⟨getD_set_true (h.q7 (lstT hl (by omega))).1,getD_set_true (h.q7 (lstT hl (by omega))).2⟩
 src:=(Kept.alloc _ _) _ _ h.src
 res:=(Kept.alloc _ _) _ _ h.res
 NG:=h.NG
 low:=h.low.alloc (by have:=(Array.getElem?_eq_some_iff.1 h.res).1; omega) _
theorem Two.alloc7 (h:Two l v11 v12 v13 v14 v6 v7 g6 g7 N G X Y Z w wx) (hu:l.getD 5 false = false) :
 Two (l.setIfInBounds 5 true) v11 v12 v13 v14 v6 (.pointer (some ⟨wx.heap.size,0,none⟩)) g6 wx.heap.size N G X Y Z w (wx.alloc (.cells zero64 176)) where
 sz:=by simp [h.sz]
 p0 hl:=h.p0 (lstT hl (by omega))
 p1 hl:=h.p1 (lstT hl (by omega))
 p2 hl:=h.p2 (lstT hl (by omega))
 p3 hl:=h.p3 (lstT hl (by omega))
 p5 _:=⟨rfl,(Array.getElem?_eq_some_iff.1 h.src).1,by rw [getD_set_ne false (by omega),notYet (fun e => (h.q7 e).2) hu]; exact Go.heap_alloc_new _ _⟩
 p4 hl:=by
  obtain ⟨a,b,c⟩:=h.p4 (lstT hl (by omega))
  exact ⟨a,b,by rw [getD_set_ne false (by omega)]; exact (Kept.alloc _ _) _ _ c⟩
 ne h4 _:=by
  have:=(Array.getElem?_eq_some_iff.1 (h.p4 (lstT h4 (by omega))).2.2).1
  omega
 q6 hl:=⟨getD_set_true (h.q6 (lstT hl (by omega))).1,getD_set_true (h.q6 (lstT hl (by omega))).2⟩
 q7 hl:=⟨getD_set_true (h.q7 (lstT hl (by omega))).1,getD_set_true (h.q7 (lstT hl (by omega))).2⟩
 src:=(Kept.alloc _ _) _ _ h.src
 res:=(Kept.alloc _ _) _ _ h.res
 NG:=h.NG
 low:=h.low.alloc (by have:=(Array.getElem?_eq_some_iff.1 h.res).1; omega) _
theorem Two.store6 (h:Two l v11 v12 v13 v14 v6 v7 g6 g7 N G X Y Z w wx) (h4:l.getD 4 false = true) (h5:l.getD 5 false = true) :
 Two (l.setIfInBounds 6 true) v11 v12 v13 v14 v6 v7 g6 g7 N G X Y Z w (wx.setRow g6 (u8s Y)) where
 sz:=by simp [h.sz]
 p0 hl:=h.p0 (lstT hl (by omega))
 p1 hl:=h.p1 (lstT hl (by omega))
 p2 hl:=h.p2 (lstT hl (by omega))
 p3 hl:=h.p3 (lstT hl (by omega))
 p4 _:=by
  obtain ⟨a,b,c⟩:=h.p4 h4
  have e:(l.setIfInBounds 6 true).getD 6 false = true:=by simp [h.sz]
  exact ⟨a,b,by rw [e]; exact setRow_heap _ _ _ _ _ _ c⟩
 p5 _:=by
  obtain ⟨a,b,c⟩:=h.p5 h5
  exact ⟨a,b,by rw [getD_set_ne false (by omega),setRow_other _ _ _ _ (Ne.symm (h.ne h4 h5))]; exact c⟩
 ne _ _:=h.ne h4 h5
 q6 _:=⟨getD_set_true h4,getD_set_true h5⟩
 q7 _:=⟨getD_set_true h4,getD_set_true h5⟩
 src:=by rw [setRow_other _ _ _ _ (by have:=(h.p4 h4).2.1; omega)]; exact h.src
 res:=by rw [setRow_other _ _ _ _ (by have:=(h.p4 h4).2.1; have:=h.NG; omega)]; exact h.res
 NG:=h.NG
 low:=below_setRow h.low (by have:=(h.p4 h4).2.1; have:=h.NG; omega) _
theorem Two.store7 (h:Two l v11 v12 v13 v14 v6 v7 g6 g7 N G X Y Z w wx) (h4:l.getD 4 false = true) (h5:l.getD 5 false = true) :
 Two (l.setIfInBounds 7 true) v11 v12 v13 v14 v6 v7 g6 g7 N G X Y Z w (wx.setRow g7 (u8s Z)) where
 sz:=by simp [h.sz]
 p0 hl:=h.p0 (lstT hl (by omega))
 p1 hl:=h.p1 (lstT hl (by omega))
 p2 hl:=h.p2 (lstT hl (by omega))
 p3 hl:=h.p3 (lstT hl (by omega))
 p5 _:=by
  obtain ⟨a,b,c⟩:=h.p5 h5
  have e:(l.setIfInBounds 7 true).getD 7 false = true:=by simp [h.sz]
  exact ⟨a,b,by rw [e]; exact setRow_heap _ _ _ _ _ _ c⟩
 p4 _:=by
  obtain ⟨a,b,c⟩:=h.p4 h4
  exact ⟨a,b,by rw [getD_set_ne false (by omega),setRow_other _ _ _ _ (h.ne h4 h5)]; exact c⟩
 ne _ _:=h.ne h4 h5
 q6 _:=⟨getD_set_true h4,getD_set_true h5⟩
 q7 _:=⟨getD_set_true h4,getD_set_true h5⟩
 src:=by rw [setRow_other _ _ _ _ (by have:=(h.p5 h5).2.1; omega)]; exact h.src
 res:=by rw [setRow_other _ _ _ _ (by have:=(h.p5 h5).2.1; have:=h.NG; omega)]; exact h.res
 NG:=h.NG
 low:=below_setRow h.low (by have:=(h.p5 h5).2.1; have:=h.NG; omega) _
end
end Go.Proofs.YteeghgjkjicjoaaGreatDoor
namespace Go.Proofs.YteeghgjkjicjoaaGreatDoor
open Go.RowKit
theorem byt_rowT {w:World} {g:Nat} {t:TypeId} {l:List Int} (h:w.heap[g]? = some (.cells (u8s l) t (0,0))) {n:Nat} (hn:l.length = n):Byt w (some ⟨g,0,none⟩) n l :=
 ⟨by omega,(fun h => by cases h),fun _ => ⟨g,0,rfl,(Array.getElem?_eq_some_iff.1 h).1,fun j hj => by rw [Nat.zero_add,cell_row h,u8s_get _ _ hj]⟩⟩
theorem conc1 (g:Nat) (A:Option Addr) (c m:Nat) (w:World) (Y T:List Int) (hY:Y.length = 64) (hT:T.length = m) (hm:m ≤ 150000) (hg:w.heap[g]? = some (.cells (u8s Y) 176 (0,0))) (hB:Byt w A c T) :
 Calls Tryz.prog 99 #[.slice (some ⟨w.heap.size,0,none⟩) 2 2] (w.alloc (.cells #[.slice (some ⟨g,0,none⟩) 64 64,.slice A m c] 38)) fun e' w' => ∃ g' c',e' = .returned (.slice (some ⟨g',0,none⟩) (64 + m) c') ∧ Byt w' (some ⟨g',0,none⟩) c' (Y ++ T) ∧ Below w.heap.size w w':=by
 refine (concat_any (some ⟨g,0,none⟩) A 64 c w.heap.size 64 m Y T _ hY hT (by omega) (by omega) (by omega) (Go.heap_alloc_new w _) ((byt_rowT hg hY).below ((Below.refl _ _).alloc (Nat.le_refl _) _) (Nat.le_refl _)) (hB.below ((Below.refl _ _).alloc (Nat.le_refl _) _) (Nat.le_refl _))).mono ?_
 rintro e w' ⟨g',c',he,hb,hl⟩
 exact ⟨g',c',he,hb,((Below.refl _ _).alloc (Nat.le_refl _) _).trans (hl.mono (by simp))⟩
noncomputable def store35 (a v:Value):Sem Unit:=Instr.storeAt 24 a v
theorem storeAt35 (a v:Value):Instr.storeAt 24 a v = store35 a v:=rfl
theorem store35_eq {w:World} {g:Nat} {old:Array Value} {l:List Int} (hl:l.length = 32) (ho:old.size = 32) (h:w.heap[g]? = some (.cells old 24 (0,0))) :
 (store35 (.pointer (some ⟨g,0,none⟩)) (.agg (u8s l))).run Tryz.prog w = .ok () (w.setRow g (u8s l)):=by
 unfold store35
 simp only [Instr.storeAt,Instr.sureAddr,Sem.run_bind,Sem.run_pure,Result.andThen_ok,run_storeVar_row w g 24 24 old (u8s l) h (by rw [u8s_size,hl]; exact info35) (by rw [u8s_size,hl,ho]) (u8s_one _)]
attribute [irreducible] store35
attribute [local go_sem ↓ high] storeAt35
def TwoI (A A2:Option Addr) (c n c2 m N G:Nat) (X:List Int) (w:World) (l:Array Bool) (a:Act) (wx:World):Prop :=
 ∃ (v11 v12 v13 v14 v6 v7:Value) (g6 g7:Nat),a = ⟨#[.slice A n c,.slice A2 m c2,undef,undef,.pointer (some ⟨N,0,none⟩),.pointer (some ⟨G,0,none⟩),v6,v7,undef,.slice A n c,.agg (u8s X),v11,v12,v13,v14,undef,undef,undef,undef,undef,undef,undef,undef,undef,undef],[]⟩ ∧ Two l v11 v12 v13 v14 v6 v7 g6 g7 N G X (xorL 54 X) (xorL 92 X) w wx
set_option maxRecDepth 100000 in
set_option maxHeartbeats 1000000 in
theorem hmac_any (K T:List Int) (A A2:Option Addr) (c n c2 m:Nat) (w:World) (hn:K.length = n) (hm:T.length = m) (hb:InB K) (hb2:InB T) (hB:Byt w A c K) (hB2:Byt w A2 c2 T) (hL:Laid w) (hx:n < 2305843009213693952) (hx2:m ≤ 150000) :
 Calls Tryz.prog 116 #[.slice A n c,.slice A2 m c2] w fun e w' => e = .returned (.agg (u8s (hmacL K T))) ∧ Below w.heap.size w w':=by
 have hsz:=hL.sz
 have b0:Below w.heap.size w (w.alloc (.cells zero32 24)):=(Below.refl _ _).alloc (Nat.le_refl _) _
 have HC:=Lib.hid (block_any K A c n (w.alloc (.cells zero32 24)) hn hb (hB.below b0 (Nat.le_refl _)) (hL.below b0 hsz) hx)
 have R0:=Lib.hid (Go.heap_alloc_new w (.cells zero32 24))
 have B0:=Lib.hid b0
 have HL:=Lib.hid hL
 have Hm:=Lib.hid hm
 have HB2:=Lib.hid hB2
 have Hb2:=Lib.hid hb2
 have Hb:=Lib.hid hb.blockL
 have Hl:=Lib.hid (blockL_length K)
 obtain ⟨X,hX⟩:∃ X,X = blockL K:=⟨_,rfl⟩
 rw [← hX] at HC Hl Hb
 have HX:=Lib.hid hX
 have Hi:Hid ((Tryz.prog.info? 176).map (·.size) = some (u8s X).size):=by show _ = _; rw [u8s_size,Hl.out]; exact info79
 unfold zero32 at HC R0 B0
 clear hn hm hb hb2 hB hB2 hL b0 hX hx
 go_enter Tryz.func116,Tryz.ntmps116
 go_upto_region 2 with (first
  | (go_at_call 131; refine HC.out.mono ?_; rintro e w1 ⟨rfl,low1⟩; have R1:=Lib.hid ((low1.block _ (Array.getElem?_eq_some_iff.1 R0.out).1).trans R0.out); have Low1:=Lib.hid (B0.out.trans (low1.mono (by simp))); clear low1)
  | (refine wpList_store_row rfl 176 (.tmp 5) (.tmp 10) rfl w1.heap.size (u8s X) (by rfl) (by rfl) 176 _ (Go.heap_alloc_new w1 _) Hi.out (by rw [u8s_size,Hl.out]; rfl) (u8s_one _) ?_; rw [World.setRow_alloc_new]))
 simp only [Act.put]
 go_cut [6,7] (fun s6 s7 wx => ∃ g6 g7:Nat,s6 = .pointer (some ⟨g6,0,none⟩) ∧ s7 = .pointer (some ⟨g7,0,none⟩) ∧ Hid (wx.heap[g6]? = some (.cells (u8s (xorL 54 X)) 176 (0,0))) ∧ Hid (wx.heap[g7]? = some (.cells (u8s (xorL 92 X)) 176 (0,0))) ∧ Hid (wx.heap[w.heap.size]? = some (.cells zero32 24 (0,0))) ∧ Hid (Below w.heap.size w wx))
 case first =>
  skip
  refine wp_region_any (by kernel_rfl) ?_
  change wpAny _ _ _ _ _ _ _ (World.drew _)
  refine wpAny_inv (TwoI A A2 c n c2 m w.heap.size w1.heap.size X w) ?_ (by kernel_rfl) ?_ ?_ _ _ _ _ (unlisted_none _) ?_
  · rintro l a wx ⟨_,_,_,_,_,_,_,_,_,h⟩
    exact h.sz
  · rintro l a wx ⟨v11,v12,v13,v14,v6,v7,g6,g7,rfl,h⟩ hall
    obtain ⟨rfl,_,h6⟩:=h.p4 (hall 4 (by decide))
    obtain ⟨rfl,_,h7⟩:=h.p5 (hall 5 (by decide))
    have e6:=hall 6 (by decide)
    have e7:=hall 7 (by decide)
    rw [e6] at h6
    rw [e7] at h7
    have hr:=h.res
    have hl:=h.low
    go_wp2_with fail
    go_meet
    exact ⟨g6,g7,rfl,rfl,h6,h7,hr,hl⟩
  · rintro l a wx i ⟨v11,v12,v13,v14,v6,v7,g6,g7,rfl,h⟩ hi hu hw
    have hi8:i < 8:=hi
    obtain rfl | rfl | rfl | rfl | rfl | rfl | rfl | rfl:i = 0 ∨ i = 1 ∨ i = 2 ∨ i = 3 ∨ i = 4 ∨ i = 5 ∨ i = 6 ∨ i = 7:=by omega
    · refine wpOp_plain rfl rfl (wp_load_row 176 (.tmp 5) rfl w1.heap.size rfl 176 (u8s X) (0,0) _ h.src Tryz.underlying176 rfl Hi.out ?_)
      exact ⟨_,_,_,_,_,_,g6,g7,rfl,h.same 0 (by omega) _ _ _ _ (.inl ⟨rfl,rfl⟩) (.inr ⟨by decide,rfl⟩) (.inr ⟨by decide,rfl⟩) (.inr ⟨by decide,rfl⟩) (Kept.refl _) (Below.refl _ _)⟩
    · obtain rfl:=h.p0 (hw 0 (by kernel_rfl))
      refine wpOp_plain rfl rfl ?_
      go_simp
      go_at_call 132
      refine (masked_any X 54 Hl.out _).mono ?_
      rintro e w' ⟨rfl,low⟩
      exact ⟨_,_,_,_,_,_,g6,g7,rfl,h.same 1 (by omega) _ _ _ _ (.inr ⟨by decide,rfl⟩) (.inl ⟨rfl,rfl⟩) (.inr ⟨by decide,rfl⟩) (.inr ⟨by decide,rfl⟩) (Kept.below low) low⟩
    · refine wpOp_plain rfl rfl (wp_load_row 176 (.tmp 5) rfl w1.heap.size rfl 176 (u8s X) (0,0) _ h.src Tryz.underlying176 rfl Hi.out ?_)
      exact ⟨_,_,_,_,_,_,g6,g7,rfl,h.same 2 (by omega) _ _ _ _ (.inr ⟨by decide,rfl⟩) (.inr ⟨by decide,rfl⟩) (.inl ⟨rfl,rfl⟩) (.inr ⟨by decide,rfl⟩) (Kept.refl _) (Below.refl _ _)⟩
    · obtain rfl:=h.p2 (hw 2 (by kernel_rfl))
      refine wpOp_plain rfl rfl ?_
      go_simp
      go_at_call 132
      refine (masked_any X 92 Hl.out _).mono ?_
      rintro e w' ⟨rfl,low⟩
      exact ⟨_,_,_,_,_,_,g6,g7,rfl,h.same 3 (by omega) _ _ _ _ (.inr ⟨by decide,rfl⟩) (.inr ⟨by decide,rfl⟩) (.inr ⟨by decide,rfl⟩) (.inl ⟨rfl,rfl⟩) (Kept.below low) low⟩
    · refine wpOp_plain rfl rfl ?_
      go_simp
      exact ⟨_,_,_,_,_,_,_,g7,rfl,h.alloc6 hu⟩
    · refine wpOp_plain rfl rfl ?_
      go_simp
      exact ⟨_,_,_,_,_,_,g6,_,rfl,h.alloc7 hu⟩
    · obtain rfl:=h.p1 (hw 1 (by kernel_rfl))
      have h4:=hw 4 (by kernel_rfl)
      have h5:=hw 5 (by kernel_rfl)
      obtain ⟨rfl,_,hr⟩:=h.p4 h4
      refine wpOp_plain rfl rfl (wp_store_row 176 (.tmp 6) (.tmp 12) rfl g6 (u8s (xorL 54 X)) rfl rfl 176 _ hr (by rw [u8s_size,xorL_length,Hl.out]; exact info79) (by rw [rowIf_size _ _ (by rw [xorL_length,Hl.out]),u8s_size,xorL_length,Hl.out]) (u8s_one _) ?_)
      exact ⟨_,_,_,_,_,_,g6,g7,rfl,h.store6 h4 h5⟩
    · obtain rfl:=h.p3 (hw 3 (by kernel_rfl))
      have h4:=hw 4 (by kernel_rfl)
      have h5:=hw 5 (by kernel_rfl)
      obtain ⟨rfl,_,hr⟩:=h.p5 h5
      refine wpOp_plain rfl rfl (wp_store_row 176 (.tmp 7) (.tmp 14) rfl g7 (u8s (xorL 92 X)) rfl rfl 176 _ hr (by rw [u8s_size,xorL_length,Hl.out]; exact info79) (by rw [rowIf_size _ _ (by rw [xorL_length,Hl.out]),u8s_size,xorL_length,Hl.out]) (u8s_one _) ?_)
      exact ⟨_,_,_,_,_,_,g6,g7,rfl,h.store7 h4 h5⟩
  · refine ⟨undef,undef,undef,undef,undef,undef,0,0,rfl,⟨rfl,fun h => absurd h (by decide),fun h => absurd h (by decide),fun h => absurd h (by decide),fun h => absurd h (by decide),fun h => absurd h (by decide),fun h => absurd h (by decide),fun h => absurd h (by decide),fun h => absurd h (by decide),fun h => absurd h (by decide),?_,?_,?_,?_⟩⟩
    · exact Go.heap_alloc_new w1 _
    · exact (Go.heap_alloc_old w1 _ (Array.getElem?_eq_some_iff.1 R1.out).1).trans R1.out
    · exact (Array.getElem?_eq_some_iff.1 R1.out).1
    · exact (Low1.out.alloc Low1.out.size _).drew
 case rest =>
  obtain ⟨g6,g7,rfl,rfl,h6,h7,hr,hl⟩:=hcut
  rename World => wx
  have c1:=conc1 g6 A2 c2 m wx (xorL 54 X) T (by rw [xorL_length,Hl.out]) Hm.out hx2 h6.out (HB2.out.below hl.out (Nat.le_refl _))
  have C1:=Lib.hid c1
  have Hin:=Lib.hid ((Hb.out.xorL 54 (by decide) (by decide)).append Hb2.out)
  have Hlen:Hid ((xorL 54 X ++ T).length = 64 + m):=by show _ = _; rw [List.length_append,xorL_length,Hl.out,Hm.out]
  obtain ⟨S1,hS1⟩:∃ S1,S1 = sumL (xorL 54 X ++ T):=⟨_,rfl⟩
  have HS1:=Lib.hid hS1
  have Hl1:Hid (S1.length = 32):=by show _ = _; rw [hS1,sumL_length]
  have Hi1:Hid (InB S1):=by show InB _; rw [hS1]; exact sumL_in _
  have HN:=Lib.hid (Array.getElem?_eq_some_iff.1 hr.out).1
  clear c1 hS1
  go_upto_region 4 with (first
   | (go_at_call 99; refine C1.out.mono ?_; rintro e w2 ⟨g,c3,rfl,byt,low2⟩; have Low2:=Lib.hid (hl.out.trans (low2.mono hl.out.size)); have K2:=Lib.hid (Kept.below low2); have Byt2:=Lib.hid byt; clear byt low2)
   | (go_at_call 133; refine (sum_any (xorL 54 X ++ T) (some ⟨g,0,none⟩) c3 (64 + m) w2 Hlen.out Hin.out Byt2.out (HL.out.below Low2.out hsz) (by omega)).mono ?_; rintro e w3 ⟨rfl,low3⟩; rw [← HS1.out]; have Low3:=Lib.hid (Low2.out.trans (low3.mono Low2.out.size)); have K3:=Lib.hid (Kept.below low3); clear low3)
   | (refine wpList_store_row rfl 24 (.tmp 8) (.tmp 19) rfl w3.heap.size (u8s S1) (by rfl) (by rfl) 24 _ (Go.heap_alloc_new w3 _) (by rw [u8s_size,Hl1.out]; exact info35) (by rw [u8s_size,Hl1.out]; rfl) (u8s_one _) ?_; rw [World.setRow_alloc_new]))
  simp only [Act.put]
  have h3:(w3.alloc (.cells (u8s S1) 24)).heap[w3.heap.size]? = some (.cells (u8s S1) 24 (0,0)):=Go.heap_alloc_new w3 _
  have k3:=Kept.alloc w3 (.cells (u8s S1) 24)
  have h7':=k3 _ _ (K3.out _ _ (K2.out _ _ h7.out))
  have hr':=k3 _ _ (K3.out _ _ (K2.out _ _ hr.out))
  have low4:=Low3.out.alloc Low3.out.size (.cells (u8s S1) 24)
  generalize World.alloc w3 _ = w4 at h3 h7' hr' low4 ⊢
  have C2:=Lib.hid (conc1 g7 (some ⟨w3.heap.size,0,none⟩) 32 32 w4.drew (xorL 92 X) S1 (by rw [xorL_length,Hl.out]) Hl1.out (by omega) h7' (byt_rowT (w:=w4.drew) h3 Hl1.out))
  have Hin2:=Lib.hid ((Hb.out.xorL 92 (by decide) (by decide)).append Hi1.out)
  have Hlen2:Hid ((xorL 92 X ++ S1).length = 64 + 32):=by show _ = _; rw [List.length_append,xorL_length,Hl.out,Hl1.out]
  obtain ⟨S2,hS2⟩:∃ S2,S2 = sumL (xorL 92 X ++ S1):=⟨_,rfl⟩
  have HS2:=Lib.hid hS2
  have Hl2:Hid (S2.length = 32):=by show _ = _; rw [hS2,sumL_length]
  have HS3:Hid (hmacL K T = S2):=by show _ = _; rw [hS2,HS1.out,HX.out]; rfl
  have Hr4:=Lib.hid hr'
  have Low4:=Lib.hid low4
  have H35:Hid ((Tryz.prog.info? 24).map (·.size) = some (u8s S2).size):=by show _ = _; rw [u8s_size,Hl2.out]; exact info35
  clear h3 k3 h7' hr' low4 hS2
  go_region_with (first
   | (go_at_call 99; refine C2.out.mono ?_; rintro e w5 ⟨g',c5,rfl,byt,low5⟩; have Low5:=Lib.hid (Low4.out.drew.trans (low5.mono Low4.out.size)); have Byt5:=Lib.hid byt; have K5:=Lib.hid (Kept.below low5); clear byt low5)
   | (go_at_call 133; refine (sum_any (xorL 92 X ++ S1) (some ⟨g',0,none⟩) c5 (64 + 32) w5 Hlen2.out Hin2.out Byt5.out (HL.out.below Low5.out hsz) (by omega)).mono ?_; rintro e w6 ⟨rfl,low6⟩; rw [← HS2.out]; have R6:=Lib.hid (Kept.below low6 _ _ (K5.out _ _ Hr4.out)); have st:=store35_eq (l:=S2) Hl2.out rfl R6.out; have Low6:=Lib.hid (Low5.out.trans (low6.mono Low5.out.size)); clear low6))
  all_goals
   go_wp2
   exact bodyPost_ret (v:=.agg (u8s S2)) (results_cell_row rfl _ _ w.heap.size 24 _ (0,0) _ rfl (setRow_heap w6 _ _ _ _ _ R6.out) Tryz.underlying24 rfl H35.out) rfl ⟨by rw [HS3.out],below_setRow Low6.out (Nat.le_refl _) _⟩
end Go.Proofs.YteeghgjkjicjoaaGreatDoor
namespace Go.Proofs.YteeghgjkjicjoaaGreatDoor
open Go.RowKit
theorem inB_of {l:List Int} (h:(l.all fun x => decide (0 ≤ x) && decide (x < 256)) = true):InB l:=by
 intro j
 by_cases hj:j < l.length
 · have:=List.all_eq_true.1 h l[j] (List.getElem_mem hj)
   simp at this
   simpa [List.getD_eq_getElem?_getD,hj] using this
 · rw [getD_out _ _ (by omega)]; omega
theorem byt_rowF {w:World} {g:Nat} {t:TypeId} {l:List Int} {fr:Nat × Nat} (h:w.heap[g]? = some (.cells (u8s l) t fr)) {n:Nat} (hn:l.length = n):Byt w (some ⟨g,0,none⟩) n l :=
 ⟨by omega,(fun h => by cases h),fun _ => ⟨g,0,rfl,(Array.getElem?_eq_some_iff.1 h).1,fun j hj => by rw [Nat.zero_add,cell_row h,u8s_get _ _ hj]⟩⟩
theorem below_two (w:World) (A B:Obj):Below w.heap.size w ((w.alloc A).alloc B):=((Below.refl _ _).alloc (Nat.le_refl _) _).alloc (by simp) _
theorem blk_append_left (L M:List Int) (k:Nat) (h:64 * k + 64 ≤ L.length):blk (L ++ M) k = blk L k:=by
 unfold blk
 rw [List.drop_append_of_le_length (by omega),List.take_append_of_le_length (by simp; omega)]
theorem foldB_append_left (s:W8) (L M:List Int):∀ k,64 * k ≤ L.length → foldB s (L ++ M) k = foldB s L k
 | 0,_ => rfl
 | k + 1,h => by
   show mixK KW (foldB s (L ++ M) k) (blk (L ++ M) k) = mixK KW (foldB s L k) (blk L k)
   rw [foldB_append_left s L M k (by omega),blk_append_left L M k (by omega)]
theorem blk_drop (L:List Int) (a k:Nat):blk (L.drop (64 * a)) k = blk L (a + k):=by
 unfold blk
 rw [List.drop_drop,← Nat.mul_add]
theorem foldB_add (s:W8) (L:List Int) (a:Nat):∀ k,foldB (foldB s L a) (L.drop (64 * a)) k = foldB s L (a + k)
 | 0 => rfl
 | k + 1 => by
   show mixK KW (foldB (foldB s L a) (L.drop (64 * a)) k) (blk (L.drop (64 * a)) k) = mixK KW (foldB s L (a + k)) (blk L (a + k))
   rw [foldB_add s L a k,blk_drop]
theorem fold_two (s:W8) (L M:List Int):foldAll (foldAll s L) (L.drop (64 * (L.length / 64)) ++ M) = foldB s (L ++ M) ((L.length + M.length) / 64):=by
 have h:64 * (L.length / 64) ≤ L.length:=by omega
 have e:L.drop (64 * (L.length / 64)) ++ M = (L ++ M).drop (64 * (L.length / 64)):=(List.drop_append_of_le_length h).symm
 unfold foldAll
 rw [e,← foldB_append_left s L M _ h,foldB_add]
 congr 1
 simp
 omega
theorem fin_eq (s:W8) (L:List Int) (n:Nat):fin s L n = hashL (foldB s (L ++ padL n) ((L.length + padLen n) / 64)).list:=by
 unfold fin
 rw [fold_two,padL_length]
theorem own_below {w w':World} {base n:Nat} {v:Value} {xs:List Value} (h:w.ownsRow base 5 1 v n xs) (hb:Below w.heap.size w w'):w'.ownsRow base 5 1 v n xs:=by
 obtain ⟨h0,h⟩:=h
 refine ⟨h0,?_⟩
 rcases h with h | ⟨g,cap,cur,hv,hg,hh,r⟩
 · exact .inl h
 · exact .inr ⟨g,cap,cur,hv,hg,(hb.block g (Array.getElem?_eq_some_iff.1 hh).1).trans hh,r⟩
theorem own_form {w:World} {base n:Nat} {v:Value} {L:List Int} (h:w.ownsRow base 5 1 v n (vals L)) (hn:0 < n) :
 ∃ g c,v = .slice (some ⟨g,0,none⟩) n c ∧ Byt w (some ⟨g,0,none⟩) c L ∧ L.length = n ∧ base ≤ g:=by
 obtain ⟨h0,h⟩:=h
 rw [vals_length,Nat.mul_one] at h0
 rcases h with ⟨_,h⟩ | ⟨g,cap,cur,hv,hb,hh,hcap,_,hs,ht⟩
 · omega
 · refine ⟨g,cap,hv,⟨by omega,(fun h => by cases h),fun _ => ⟨g,0,rfl,(Array.getElem?_eq_some_iff.1 hh).1,fun j hj => ?_⟩⟩,h0,hb⟩
   rw [Nat.zero_add,cell_row hh]
   have h2:cur[j]? = cur.toList[j]?:=by simp
   have h3:(cur.toList.take (n * 1))[j]? = cur.toList[j]?:=by rw [List.getElem?_take,if_pos (by omega)]
   rw [h2,← h3,ht]
   simp [vals,hj]
theorem own_ge {w:World} {base n:Nat} {v:Value} {xs:List Value} (h:w.ownsRow base 5 1 v n xs):∀ k,v.ownBlock = some k → base ≤ k:=by
 obtain ⟨_,h⟩:=h
 intro k hk
 rcases h with ⟨rfl,_⟩ | ⟨g,cap,cur,rfl,hg,_⟩
 · cases hk
 · cases hk; exact hg
theorem vals_append (L M:List Int):vals L ++ vals M = vals (L ++ M):=by simp [vals]
end Go.Proofs.YteeghgjkjicjoaaGreatDoor
namespace Go.Proofs.YteeghgjkjicjoaaGreatDoor.lawAnybody
open Go.RowKit
theorem wpList_append_byt {w:World} {ops:Array Oper} {rest:List Oper} {o:Oper} {a:Act} {Q:Exit → Act → World → Prop} (hgd:o.guard = none) (s x:Operand)
 (ho:o.op = .call { callee:=.builtin .append,args:=#[s,x],argTypes:=#[38, 38] }) (base:Nat) (v:Value) (n:Nat) (L:List Int) (hs:a.eval s = v) (hown:w.ownsRow base 5 1 v n (vals L))
 (A:Option Addr) (m c:Nat) (M:List Int) (hx:a.eval x = .slice A m c) (hm:M.length = m) (hB:Byt w A c M) (h63:n + m ≤ 100000) (hbase:base ≤ w.heap.size)
 (h:∀ v' w',w'.ownsRow base 5 1 v' (n + m) (vals (L ++ M)) → (∀ B u,Below B u w → B ≤ base → Below B u w') → (∀ k b,w.heap[k]? = some b → v.ownBlock ≠ some k → w'.heap[k]? = some b) →
  wpList Tryz.prog ops Q rest (a.put o.dst v') w'):wpList Tryz.prog ops Q (o :: rest) a w:=by
 obtain ⟨i0,hi0,hz00,hz10,hz20⟩:=info_parts info5
 cases A with
 | none =>
   have hc:=hB.2.1 rfl
   have hm0:m = 0:=by have:=hB.1; omega
   subst hc hm0
   obtain rfl:M = []:=List.eq_nil_of_length_eq_zero hm
   refine wpList_append_own_none hgd s x 38 ho base 5 i0 1 Tryz.underlying38 hi0 v n (vals L) hs hown hx ?_
   exact h v w (by rw [List.append_nil]; exact hown) (fun _ _ h _ => h) (fun _ _ h _ => h)
 | some ad =>
   refine wpList_append_own _ hgd s x 38 ho base 5 i0 (.int .u8 0) 1 1 Tryz.underlying38 hi0 hz00 hz10 hz20 rfl (by decide) v n (vals L) hs hown ad m c (vals M) hx (by rw [vals_length,hm]; omega)
    (hB.cells (fun _ _ => rfl) ad rfl) (vals_one _) (by unfold maxLen; omega) (by omega) hbase ?_
   intro v' w' hown' hgrow _
   rw [vals_append] at hown'
   exact h v' w' hown' (fun B u hb hB' => hb.grown hgrow (by omega) (fun k hk => Nat.le_trans hB' (own_ge hown k hk))) (fun k b hk hne => by
    rw [hgrow.block k (Array.getElem?_eq_some_iff.1 hk).1 (fun e => hne (by rw [e]))]; exact hk)
noncomputable def load35 (v:Value):Sem Value:=Instr.loadAt 24 v
noncomputable def appendS (ts:Array TypeId) (ty:TypeId) (args:Array Value):Sem Value:=Builtin.append_ ts ty args
attribute [irreducible] load35 appendS
end Go.Proofs.YteeghgjkjicjoaaGreatDoor.lawAnybody
namespace Go.Proofs.YteeghgjkjicjoaaGreatDoor
open Go.RowKit
theorem byt_take {w:World} {A:Option Addr} {c:Nat} {L:List Int} (h:Byt w A c L) (k:Nat):Byt w A c (L.take k) :=
 ⟨by rw [List.length_take]; have:=h.1; omega,h.2.1,fun hl => by
  rw [List.length_take] at hl
  obtain ⟨g,off,hA,hg,hc⟩:=h.2.2 (by omega)
  refine ⟨g,off,hA,hg,fun j hj => ?_⟩
  rw [List.length_take] at hj
  rw [hc j (by omega)]
  simp only [List.getD_eq_getElem?_getD,List.getElem?_take]
  rw [if_pos (by omega)]⟩
structure Still (w w':World):Prop where
 heap:w'.heap = w.heap
 low:Below w.heap.size w w'
theorem Byt.still {w w':World} {A:Option Addr} {c:Nat} {L:List Int} (h:Byt w A c L) (k:Still w w'):Byt w' A c L:=h.below k.low (Nat.le_refl _)
theorem own_byt {w:World} {base n:Nat} {v:Value} {L:List Int} (h:w.ownsRow base 5 1 v n (vals L)):∃ A c,v = .slice A n c ∧ L.length = n ∧ Byt w A c L:=by
 have hlen:L.length = n:=by have:=h.1; rw [vals_length] at this; omega
 rcases h.2 with ⟨rfl,hx⟩ | ⟨g,cap,cur,rfl,_,hh,hcap,_,hs,ht⟩
 · subst hx
   obtain rfl:L = []:=List.eq_nil_of_length_eq_zero hlen
   exact ⟨none,0,rfl,rfl,Nat.le_refl _,fun _ => rfl,fun h => absurd h (Nat.lt_irrefl 0)⟩
 · refine ⟨_,_,rfl,hlen,by omega,(fun h => by cases h),fun _ => ⟨g,0,rfl,(Array.getElem?_eq_some_iff.1 hh).1,fun j hj => ?_⟩⟩
   rw [Nat.zero_add,cell_row hh]
   have h2:cur[j]? = cur.toList[j]?:=by simp
   have h3:(cur.toList.take (n * 1))[j]? = cur.toList[j]?:=by rw [List.getElem?_take,if_pos (by omega)]
   rw [h2,← h3,ht]
   simp [vals,hj]
end Go.Proofs.YteeghgjkjicjoaaGreatDoor
