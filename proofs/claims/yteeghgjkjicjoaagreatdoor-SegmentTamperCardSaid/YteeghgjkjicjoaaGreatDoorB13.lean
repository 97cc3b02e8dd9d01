/- Texts of ours, merged. -/
import Derived.Test.YteeghgjkjicjoaaGreatDoorB12
namespace Go.Proofs.YteeghgjkjicjoaaGreatDoor.Slt
open Go.RowKit Dsk
theorem ret_i64 {a b:Int} (h:a = b):Ending.returned (.int .i64 a) = .returned (.int .i64 b):=by rw [h]
theorem sectorsOf_any (n:Nat) (h:n ≤ 4294967296) (w:World):Calls Tryz.prog 92 #[.int .i64 n] w fun e w' => e = .returned (.int .i64 (tk n:Nat)) ∧ w = w':=by
 have h':(n:Int) ≤ 4294967296:=by omega
 have hn:Hid ((5 + (n:Int) + 128 - 1) / 128 = ((tk n:Nat):Int)):=by show _ = _; unfold tk; omega
 clear h
 go_enter Tryz.func92,Tryz.ntmps92
 go_wp2
 go_ret
 exact ⟨ret_i64 hn.out,rfl⟩
theorem info_head:(Tryz.prog.info? 164).map (·.size) = some 5:=by kernel_rfl
theorem headOf_any (n:Nat) (h:n ≤ 262144) (w:World):Calls Tryz.prog 134 #[.int .i64 n] w fun e w' => e = .returned (.agg (u8s (0 :: be4 n))) ∧ Below w.heap.size w w':=by
 have h':(n:Int) ≤ 262144:=by omega
 have hn:Hid ((u8s (0 :: be4 n)) = #[Value.int .u8 0,Value.int .u8 ((n:Int) / 16777216),Value.int .u8 ((n:Int) / 65536),Value.int .u8 ((n:Int) / 256 % 256),Value.int .u8 ((n:Int) % 256)]):=by
  show _ = _
  simp only [u8s,be4,List.map_cons,List.map_nil]
  rw [show ((n / 16777216 % 256:Nat):Int) = (n:Int) / 16777216 by omega,show ((n / 65536 % 256:Nat):Int) = (n:Int) / 65536 by omega,show ((n / 256 % 256:Nat):Int) = (n:Int) / 256 % 256 by omega,show ((n % 256:Nat):Int) = (n:Int) % 256 by omega]
 clear h
 go_enter Tryz.func134,Tryz.ntmps134
 go_wp2
 refine bodyPost_ret (results_cell_row rfl _ _ w.heap.size 164 _ _ _ rfl (Go.heap_alloc_new w _) Tryz.underlying164 rfl info_head) rfl ?_
 exact ⟨by rw [hn.out],(Below.refl _ _).alloc (Nat.le_refl _) _⟩
theorem or_u32 (a b:Nat) (ha:a < 4294967296) (hb:b < 4294967296):bits .or .u32 (a:Int) (b:Int) = ((a ||| b:Nat):Int):=by
 have hx:a ||| b < 2 ^ 32:=Nat.or_lt_two_pow (by omega) (by omega)
 have h1:(BitVec.ofInt 32 (a:Int)).toNat = a:=by
  rw [BitVec.ofInt_natCast,BitVec.toNat_ofNat]; exact Nat.mod_eq_of_lt (by omega)
 have h2:(BitVec.ofInt 32 (b:Int)).toNat = b:=by
  rw [BitVec.ofInt_natCast,BitVec.toNat_ofNat]; exact Nat.mod_eq_of_lt (by omega)
 show IntKind.u32.wrap ((BitVec.ofInt 32 (a:Int) ||| BitVec.ofInt 32 (b:Int)).toNat:Int) = _
 rw [BitVec.toNat_or,h1,h2,IntKind.wrap_u32']
 omega
theorem or_join (q i x:Nat) (hx:x < 2 ^ i):q * 2 ^ i ||| x = q * 2 ^ i + x:=by
 rw [Nat.mul_comm]; exact (Nat.two_pow_add_eq_or_of_lt hx q).symm
set_option maxRecDepth 10000 in
theorem or4 (b c d e:Int) (hb:0 ≤ b ∧ b < 256) (hc:0 ≤ c ∧ c < 256) (hd:0 ≤ d ∧ d < 256) (he:0 ≤ e ∧ e < 256) :
 bits BinOp.or IntKind.u32 (bits BinOp.or IntKind.u32 (bits BinOp.or IntKind.u32 (b * 16777216) (c * 65536)) (d * 256)) e = ((b.toNat * 16777216 + c.toNat * 65536 + d.toNat * 256 + e.toNat:Nat):Int):=by
 obtain ⟨b,rfl⟩:=Int.eq_ofNat_of_zero_le hb.1
 obtain ⟨c,rfl⟩:=Int.eq_ofNat_of_zero_le hc.1
 obtain ⟨d,rfl⟩:=Int.eq_ofNat_of_zero_le hd.1
 obtain ⟨e,rfl⟩:=Int.eq_ofNat_of_zero_le he.1
 rw [show (b:Int) * 16777216 = ((b * 16777216:Nat):Int) by omega,show (c:Int) * 65536 = ((c * 65536:Nat):Int) by omega,show (d:Int) * 256 = ((d * 256:Nat):Int) by omega]
 rw [or_u32 _ _ (by omega) (by omega),show b * 16777216 ||| c * 65536 = b * 16777216 + c * 65536 from or_join b 24 _ (by omega)]
 rw [or_u32 _ _ (by omega) (by omega),show b * 16777216 + c * 65536 = (b * 256 + c) * 65536 by omega,show (b * 256 + c) * 65536 ||| d * 256 = (b * 256 + c) * 65536 + d * 256 from or_join (b * 256 + c) 16 _ (by omega)]
 rw [or_u32 _ _ (by omega) (by omega),show (b * 256 + c) * 65536 + d * 256 = ((b * 256 + c) * 256 + d) * 256 by omega,show ((b * 256 + c) * 256 + d) * 256 ||| e = ((b * 256 + c) * 256 + d) * 256 + e from or_join ((b * 256 + c) * 256 + d) 8 _ (by omega)]
 simp only [Int.toNat_natCast]
 exact congrArg (Int.ofNat ·) (by omega)
theorem ret_u32 {a b:Int} (h:a = b):Ending.returned (.int .u32 a) = .returned (.int .u32 b):=by rw [h]
theorem length_any (l:List Int) (hl:l.length = 5) (hi:InB l) (w:World):Calls Tryz.prog 122 #[.agg (u8s l)] w fun e w' => e = .returned (.int .u32 (lenB l:Nat)) ∧ Below w.heap.size w w':=by
 match l,hl with
 | [a,b,c,d,e],_ =>
   have hb:0 ≤ b ∧ b < 256:=hi 1
   have hc:0 ≤ c ∧ c < 256:=hi 2
   have hd:0 ≤ d ∧ d < 256:=hi 3
   have he:0 ≤ e ∧ e < 256:=hi 4
   have ho:=Lib.hid (or4 b c d e hb hc hd he)
   have hq:Hid (lenB [a,b,c,d,e] = b.toNat * 16777216 + c.toNat * 65536 + d.toNat * 256 + e.toNat):=rfl
   simp only [u8s,List.map_cons,List.map_nil]
   clear hi
   go_enter Tryz.func122,Tryz.ntmps122
   go_wp2
   go_ret
   exact ⟨ret_u32 (by rw [hq.out]; exact ho.out),(Below.refl _ _).alloc (Nat.le_refl _) _⟩
theorem splice_slot (t:List Int) (k n:Nat) (hn:t.length = n) (h:n + 5 ≤ k * 128):splice (splice (vals (List.replicate (k * 128) 0)) 0 (vals (0 :: be4 n))) 5 (vals t) = vals (slotB 0 t k):=by
 have e1:k * 128 = n + 5 + (k * 128 - 5 - n):=by omega
 obtain ⟨r,hr⟩:∃ r,r = k * 128 - 5 - n:=⟨_,rfl⟩
 have e2:slotB 0 t k = 0 :: (be4 n ++ (t ++ List.replicate r 0)):=by rw [slotB,hn,← hr]
 rw [← hr] at e1
 rw [e1,e2]
 simp only [splice,vals,be4,List.map_cons,List.map_nil,List.length_cons,List.length_nil,List.length_map,List.take_zero,List.nil_append,List.map_replicate,List.drop_replicate,hn,List.map_append]
 rw [show n + 5 + r - 5 = n + r by omega]
 simp only [List.take_succ_cons,List.take_zero,List.cons_append,List.nil_append]
 rw [Nat.add_comm 5 n]
 have e3:∀ a b c d e:Value,List.drop (n + 5) (a :: b :: c :: d :: e :: List.replicate (n + r) (Value.int .u8 0)) = List.replicate r (Value.int .u8 0):=fun a b c d e => by
  show List.drop n (List.replicate (n + r) (Value.int .u8 0)) = _
  rw [List.drop_replicate,Nat.add_sub_cancel_left]
 rw [e3]
set_option maxRecDepth 100000 in
set_option maxHeartbeats 1000000 in
theorem slotOf_walk {w:World} (A:Option Addr) (n c F k:Nat) (t:List Int) (hl:t.length = n) (hn:n ≤ 262144) (hB:Byt w A c t) (hF2:F ≤ 16384) (hk:k * 128 ≤ 300000) (hfit:n + 5 ≤ k * 128)
 (hmin:(if (F:Int) < ((tk n:Nat):Int) + 1 then (F:Int) else ((tk n:Nat):Int) + 1) = (k:Int)) :
 Calls Tryz.prog 117 #[.slice A n c,.int .i64 F] w fun e w' => ∃ g,e = .returned (.slice (some ⟨g,0,none⟩) (k * 128) (k * 128)) ∧ w'.heap[g]? = some (.cells (vals (slotB 0 t k)).toArray 5 (0,0)) ∧ w.heap.size ≤ g ∧ Below w.heap.size w w':=by
 have hmk:=mk_any (k * 128) (by omega)
 rw [show ((k * 128:Nat):Int) = (k:Int) * 128 by omega] at hmk
 have Hs:=Lib.hid (sectorsOf_any n (by omega))
 have Hh:=Lib.hid (headOf_any n hn)
 have ht:tk n ≤ 3000:=by unfold tk; omega
 obtain ⟨T,hT⟩:∃ T,T = tk n:=⟨_,rfl⟩
 rw [← hT] at ht hmin Hs
 have Hl:=Lib.hid hl
 have HB:=Lib.hid hB
 have Hfit:=Lib.hid hfit
 have Hmin:=Lib.hid hmin
 have Hn:=Lib.hid hn
 clear hB hmin hT hl hfit
 have Hone:=Lib.hid (u8s_one (0 :: be4 n))
 have Hsz:Hid ((Tryz.prog.info? 164).map (·.size) = some (u8s (0 :: be4 n)).size):=info_head
 go_enter Tryz.func117,Tryz.ntmps117
 by_cases hc1:(F:Int) < (T:Int) + 1
 all_goals
  have hk1:=Hmin.out
  first | rw [if_pos hc1] at hk1 | rw [if_neg hc1] at hk1
  rw [← hk1] at hmk
  clear hk1
  go_upto_region 3 with (first
   | (go_at_call 92; refine (Hs.out _).mono ?_; rintro e w' ⟨rfl,rfl⟩)
   | (go_at_call 134; refine (Hh.out _).mono ?_; rintro e w2 ⟨rfl,hb2⟩; have Hb2:=Lib.hid hb2; clear hb2)
   | (refine wpList_store_row rfl 164 (.tmp 6) (.tmp 17) rfl w2.heap.size (u8s (0 :: be4 n)) rfl rfl 164 _ (Go.heap_alloc_new w2 _) Hsz.out (by rfl) Hone.out ?_; rw [World.setRow_alloc_new]))
  have hb2:=Hb2.out
  have hs2:=hb2.size
  rw [World.size_alloc] at hs2
  have hz0:w2.heap[w.heap.size]? = some (.cells (vals (List.replicate (k * 128) 0)).toArray 5 (0,0)):=(hb2.block _ (by rw [World.size_alloc]; omega)).trans (Go.heap_alloc_new w _)
  have hz:=(Go.heap_alloc_old w2 (.cells (u8s (0 :: be4 n)) 164) (by omega)).trans hz0
  have hh:=Go.heap_alloc_new w2 (.cells (u8s (0 :: be4 n)) 164)
  have hlow:Below w.heap.size w (w2.alloc (.cells (u8s (0 :: be4 n)) 164)):=(((Below.refl w.heap.size w).alloc (Nat.le_refl _) _).trans (hb2.mono (by rw [World.size_alloc]; omega))).alloc (by omega) _
  have hs3:=World.size_alloc w2 (.cells (u8s (0 :: be4 n)) 164)
  obtain ⟨w3,hw3⟩:∃ w3,w3 = w2.alloc (.cells (u8s (0 :: be4 n)) 164):=⟨_,rfl⟩
  rw [← hw3] at hz hh hlow hs3 ⊢
  have hbh:Byt w3 (some ⟨w2.heap.size,0,none⟩) 5 (0 :: be4 n):=⟨Nat.le_refl _,(fun h => by cases h),fun _ => ⟨w2.heap.size,0,rfl,by omega,fun j hj => by rw [Nat.zero_add]; exact row8_cell hh j hj⟩⟩
  have hbt:Byt w3 A c t:=HB.out.below hlow (Nat.le_refl _)
  have Hz:=Lib.hid hz
  have Hbh:=Lib.hid hbh
  have Hbt:=Lib.hid hbt
  have Hlow:=Lib.hid hlow
  have Hs3:Hid (w.heap.size < w3.heap.size):=by show _ < _; omega
  have h5:5 ≤ k * 128:=by have:=Hfit.out; omega
  have h5':¬ k * 128 = 5:=by omega
  clear hb2 hs2 hz0 hz hh hlow hs3 hw3 hbh hbt Hb2
  go_wp2_with (first
   | (refine wpList_copy_chg rfl (.tmp 18) (.tmp 19) rfl _ (k * 128) (k * 128) _ 5 5 (0 :: be4 n) (by rfl) (by rfl) rfl Hbh.out h5 w.heap.size 0 _ Hz.out (fun _ => rfl) (by rw [vals_length,List.length_replicate]; omega) ?_; intro w4 hh4 hc4; have Hh4:=Lib.hid hh4; have Hc4:=Lib.hid hc4; have Hb4:=Lib.hid (HB.out.below (hc4.below Hlow.out (Nat.le_of_lt Hs3.out) (fun q hq => by simp at hq; omega)) (Nat.le_refl _)); clear hh4 hc4)
   | (refine wpList_copy_chg rfl (.tmp 22) (.tmp 23) rfl _ (k * 128 - 5) (k * 128 - 5) _ n c t (by rfl) (by rfl) Hl.out Hb4.out (by have:=Hfit.out; omega) w.heap.size 5 _ Hh4.out (fun _ => rfl) (by rw [splice_len _ _ _ (by simp [vals,be4]; omega),vals_length,List.length_replicate]; have:=Hfit.out; omega) ?_; intro w5 hh5 hc5; have Hh5:=Lib.hid hh5; have Hc5:=Lib.hid hc5; clear hh5 hc5))
  go_ret
  refine ⟨_,rfl,?_,Nat.le_refl _,?_⟩
  · rw [Hh5.out,splice_slot t k n Hl.out Hfit.out]
  · exact Hc5.out.below (Hc4.out.below Hlow.out (Nat.le_of_lt Hs3.out) (fun q hq => by simp at hq; omega)) (Nat.le_trans (Nat.le_of_lt Hs3.out) Hc4.out.size) (fun q hq => by simp at hq; omega)
def firstK (n F:Nat):Nat:=min (tk n + 1) F
theorem slotOf_any {w:World} (A:Option Addr) (n c F:Nat) (t:List Int) (hl:t.length = n) (hn:n ≤ 262144) (hB:Byt w A c t) (hF:tk n ≤ F) (hF2:F ≤ 16384) :
 Calls Tryz.prog 117 #[.slice A n c,.int .i64 F] w fun e w' => ∃ g,e = .returned (.slice (some ⟨g,0,none⟩) (firstK n F * 128) (firstK n F * 128)) ∧ w'.heap[g]? = some (.cells (vals (slotB 0 t (firstK n F))).toArray 5 (0,0)) ∧ w.heap.size ≤ g ∧ Below w.heap.size w w':=by
 have h1:=tk_fit n
 have h2:tk n ≤ 2100:=by unfold tk; omega
 have h3:tk n ≤ firstK n F:=by unfold firstK; omega
 have h4:firstK n F ≤ tk n + 1:=by unfold firstK; omega
 exact slotOf_walk A n c F (firstK n F) t hl hn hB hF2 (by omega) (by omega) (by unfold firstK; split <;> omega)
structure LK where
 g:Nat
 v:Value
 ts:List Value
structure LS where
 from_:Nat
 secs:Nat
 used:Nat
 texts:List (List Int)
 lost:Bool
def LK.ptr (J:LK):Value:=.pointer (some ⟨J.g,0,none⟩)
def LK.bl (J:LK):List Nat:=J.g :: J.v.ownBlock.toList
def LK.tx (J:LK):List Nat:=J.ts.flatMap fun v => v.ownBlock.toList
def rowL (K:DK) (J:LK) (S:LS):Array Value:=#[J.ptr,K.ptr,.int .i64 S.from_,.int .i64 S.secs,.int .i64 S.used,J.v,.bool S.lost]
structure Lg0 (w:World) (K:DK) (J:LK) (S:LS):Prop where
 row:w.heap[J.g]? = some (.cells (rowL K J S) 125 (0,0))
 own:w.ownsRow 0 38 1 J.v S.texts.length J.ts
 gv:∀ q,J.v.ownBlock = some q → q ≠ J.g
 txt:∀ i,i < S.texts.length → SlB (S.texts.getD i []) (J.ts.getD i undef) w
 tlt:∀ q ∈ J.tx,q < w.heap.size
 tap:∀ q ∈ J.tx,q ∉ K.bl ∧ q ∉ J.bl
 kap:∀ q ∈ J.bl,q ∉ K.bl
 inb:∀ t ∈ S.texts,InB t ∧ t.length ≤ 262144
structure Lg (w:World) (K:DK) (J:LK) (S:LS):Prop extends Lg0 w K J S where
 fit:S.used ≤ S.secs
 end_:S.from_ + S.secs ≤ 16384
 cnt:S.texts.length ≤ S.used
theorem Lg0.glt {w:World} {K:DK} {J:LK} {S:LS} (h:Lg0 w K J S):J.g < w.heap.size:=(Array.getElem?_eq_some_iff.1 h.row).1
theorem Lg0.len {w:World} {K:DK} {J:LK} {S:LS} (h:Lg0 w K J S):J.ts.length = S.texts.length:=by have:=h.own.1; omega
theorem own_chg {S:List Nat} {w w':World} {base n s:Nat} {t:TypeId} {v:Value} {L:List Value} (h:w.ownsRow base t s v n L) (hc:Chg S w w') (hS:∀ q,v.ownBlock = some q → q ∉ S):w'.ownsRow base t s v n L:=by
 obtain ⟨h1,h⟩:=h
 refine ⟨h1,?_⟩
 rcases h with h | ⟨g,cap,cur,h1,h2,h3,h4,h5,h6,h7⟩
 · exact .inl h
 · exact .inr ⟨g,cap,cur,h1,h2,hc.at h3 (hS g (by rw [h1]; rfl)),h4,h5,h6,h7⟩
theorem mem_tx {J:LK} {i:Nat} {a:Addr} {n c:Nat} (hi:J.ts.getD i undef = .slice (some a) n c) (hl:i < J.ts.length):a.block ∈ J.tx:=by
 unfold LK.tx
 rw [List.mem_flatMap]
 refine ⟨J.ts.getD i undef,?_,by rw [hi]; simp [Value.ownBlock]⟩
 rw [List.getD_eq_getElem?_getD,List.getElem?_eq_getElem hl,Option.getD_some]
 exact List.getElem_mem hl
theorem Lg0.chg {T:List Nat} {w w':World} {K:DK} {J:LK} {S:LS} (h:Lg0 w K J S) (hc:Chg T w w') (h1:∀ q ∈ J.bl,q ∉ T) (h2:∀ q ∈ J.tx,q ∉ T):Lg0 w' K J S where
 row:=hc.at h.row (h1 _ (by simp [LK.bl]))
 own:=own_chg h.own hc (fun q hq => h1 q (by simp [LK.bl,hq]))
 gv:=h.gv
 txt i hi:=by
  obtain ⟨A,c,e,hB⟩:=h.txt i hi
  refine ⟨A,c,e,hB.chg hc (fun a ha => h2 _ (mem_tx (by rw [e,ha]) (by rw [h.len]; exact hi)))⟩
 tlt q hq:=Nat.lt_of_lt_of_le (h.tlt q hq) hc.size
 tap:=h.tap
 kap:=h.kap
 inb:=h.inb
theorem Lg.chg {T:List Nat} {w w':World} {K:DK} {J:LK} {S:LS} (h:Lg w K J S) (hc:Chg T w w') (h1:∀ q ∈ J.bl,q ∉ T) (h2:∀ q ∈ J.tx,q ∉ T):Lg w' K J S :=
 ⟨h.toLg0.chg hc h1 h2,h.fit,h.end_,h.cnt⟩
theorem Lg.later {w w':World} {K:DK} {J:LK} {S:LS} (h:Lg w K J S) (hb:Below w.heap.size w w'):Lg w' K J S :=
 h.chg (T:=[]) (Chg.of_below hb) (by simp) (by simp)
theorem Lg.disk {w w':World} {K:DK} {J:LK} {S:LS} (h:Lg w K J S) (hc:Chg K.bl w w'):Lg w' K J S :=
 h.chg hc h.kap (fun q hq => (h.tap q hq).1)
theorem Lg0.cells {w:World} {K:DK} {J:LK} {S:LS} (h:Lg0 w K J S):w.cell? ⟨J.g,0,none⟩ = some (.pointer (some ⟨J.g,0,none⟩)) ∧ w.cell? ⟨J.g,1,none⟩ = some (.pointer (some ⟨K.g,0,none⟩)) ∧ w.cell? ⟨J.g,2,none⟩ = some (.int .i64 S.from_) ∧ w.cell? ⟨J.g,3,none⟩ = some (.int .i64 S.secs) ∧ w.cell? ⟨J.g,4,none⟩ = some (.int .i64 S.used) ∧ w.cell? ⟨J.g,5,none⟩ = some J.v ∧ w.cell? ⟨J.g,6,none⟩ = some (.bool S.lost):=by
 refine ⟨?_,?_,?_,?_,?_,?_,?_⟩ <;> rw [cell_row h.row] <;> rfl
theorem leq_same (a:Addr) (w:World):(binOp .eql 86 (.pointer (some a)) (.pointer (some a))).run Tryz.prog w = .ok (.bool true) w:=by
 obtain ⟨j,hj⟩:∃ j,Tryz.prog.info? 125 = some j:=Option.isSome_iff_exists.1 (by kernel_rfl)
 exact Go.run_eql_ptr_same w a (te := 125) Tryz.underlying86 hj
theorem lmade_any {w:World} {K:DK} {J:LK} {S:LS} (h:Lg w K J S):Calls Tryz.prog 91 #[J.ptr] w fun e w' => e = .returned (.bool true) ∧ w = w':=by
 obtain ⟨c0,_⟩:=h.cells
 have he:=leq_same ⟨J.g,0,none⟩
 unfold LK.ptr
 clear h
 go_enter Tryz.func91,Tryz.ntmps91
 go_wp2
 go_ret
 exact ⟨rfl,rfl⟩
theorem free_any {w:World} {K:DK} {J:LK} {S:LS} (h:Lg w K J S):Calls Tryz.prog 93 #[J.ptr] w fun e w' => e = .returned (.int .i64 (S.secs - S.used:Nat)) ∧ Below w.heap.size w w':=by
 obtain ⟨_,_,_,c3,c4,_⟩:=h.cells
 have h1:=h.fit
 have h2:=h.end_
 have h3:S.secs ≤ 16384:=by omega
 have hr:Hid (((S.secs - S.used:Nat):Int) = (S.secs:Int) - (S.used:Int)):=by show _ = _; omega
 unfold LK.ptr
 clear h h2
 obtain ⟨s,hs⟩:∃ s,s = S.secs:=⟨_,rfl⟩
 obtain ⟨u,hu⟩:∃ u,u = S.used:=⟨_,rfl⟩
 rw [← hs] at c3 h1 h3 hr ⊢
 rw [← hu] at c4 h1 hr ⊢
 clear hs hu
 go_enter Tryz.func93,Tryz.ntmps93
 go_upto_region 1 with (fail)
 go_quiet (fail)
 go_wp2
 go_ret
 exact ⟨ret_i64 hr.out.symm,Below.drewN (Below.refl _ _) _⟩
def roomI (F:Nat):Int:=if F = 0 then -1 else if F * 128 - 5 < 262144 then ((F * 128 - 5:Nat):Int) else 262144
theorem room_any {w:World} {K:DK} {J:LK} {S:LS} (h:Lg w K J S):Calls Tryz.prog 65 #[J.ptr] w fun e w' => e = .returned (.int .i64 (roomI (S.secs - S.used))) ∧ Below w.heap.size w w':=by
 have Hm:=Lib.hid (lmade_any h)
 have Hf:=Lib.hid (free_any h)
 have Hf2:=Lib.hid (fun w' hb => free_any (w:=w') (h.later hb))
 have hF:S.secs - S.used ≤ 16384:=by have:=h.end_; omega
 obtain ⟨F,hFe⟩:∃ F,F = S.secs - S.used:=⟨_,rfl⟩
 rw [← hFe] at Hf Hf2 hF ⊢
 unfold LK.ptr at *
 clear h hFe
 by_cases h0:F = 0
 · subst h0
   rw [show roomI 0 = -1 by rfl]
   go_enter Tryz.func65,Tryz.ntmps65
   go_wp2_with (first
    | (go_at_call 91; refine Hm.out.mono ?_; rintro e w' ⟨rfl,rfl⟩)
    | (go_at_call 93; refine Hf.out.mono ?_; rintro e w1 ⟨rfl,hb1⟩; have Hb1:=Lib.hid hb1; clear hb1))
   go_ret
   exact ⟨rfl,Hb1.out⟩
 · have h0':¬ (F:Int) = 0:=by omega
   have hr:Hid (roomI F = if (F:Int) * 128 - 5 < 262144 then (F:Int) * 128 - 5 else 262144):=by
    show _ = _
    unfold roomI
    rw [if_neg h0]
    split
    · rw [if_pos (by omega)]; omega
    · rw [if_neg (by omega)]
   by_cases h1:(262144:Int) < (F:Int) * 128 - 5
   all_goals
    go_enter Tryz.func65,Tryz.ntmps65
    go_wp2_with (first
     | (go_at_call 91; refine Hm.out.mono ?_; rintro e w' ⟨rfl,rfl⟩)
     | (go_at_call 93; refine (Hf2.out _ Hb1.out).mono ?_; rintro e w2 ⟨rfl,hb2⟩; have Hb2:=Lib.hid hb2; clear hb2)
     | (go_at_call 93; refine Hf.out.mono ?_; rintro e w1 ⟨rfl,hb1⟩; have Hb1:=Lib.hid hb1; clear hb1))
    go_ret
    have hq:=hr.out
    first | rw [if_neg (by omega)] at hq | (split at hq)
    all_goals exact ⟨ret_i64 (by show _ = _; omega),Hb1.out.trans (Hb2.out.mono Hb1.out.size)⟩
set_option maxHeartbeats 1000000 in
theorem clone_some {L:List Int} {ad:Addr} {c n:Nat} {w:World} (hB:Byt w (some ad) c L) (hn:L.length = n) (hle:n ≤ 4294967296) :
 Calls Tryz.prog 35 #[.slice (some ad) n c] w fun e w' => ∃ v',e = .returned v' ∧ w'.ownsRow w.heap.size 5 1 v' n (vals L) ∧ Below w.heap.size w w':=by
 have HB:=Lib.hid hB
 have Hn:=Lib.hid hn
 have Hle:=Lib.hid hle
 have hmade:=World.ownsRow_made w (base:=w.heap.size) (e := 5) (size:=1) #[] 0 (Nat.le_refl _) (Nat.zero_le _) rfl
 have Hmade:=Lib.hid hmade
 have hne:=fun (w:World) => Lib.run_eql_slice_nil w 38 5 (some ad) n c 0 0 Tryz.underlying38
 clear hB hn hmade hle
 go_enter Tryz.func35,Tryz.ntmps35
 go_wp2_with (at_builtin; refine wpList_append_any rfl (.tmp 5) (.tmp 6) rfl w.heap.size _ 0 [] rfl Hmade.out (some ad) n c L rfl Hn.out (HB.out.alloc _) (by have:=Hle.out; omega) (by rw [World.size_alloc]; omega) ?_; intro v1 w1 hown1 hlow1; have Hown1:=Lib.hid hown1; have Hlow1:=Lib.hid hlow1; clear hown1 hlow1)
 go_ret
 have ho:=Hown1.out
 rw [List.nil_append,Nat.zero_add] at ho
 exact ⟨_,rfl,ho,Hlow1.out _ _ ((Below.refl _ _).alloc (Nat.le_refl _) _) (Nat.le_refl _)⟩
theorem clone_none {w:World}:Calls Tryz.prog 35 #[.slice none 0 0] w fun e w' => ∃ v',e = .returned v' ∧ w'.ownsRow w.heap.size 5 1 v' 0 (vals []) ∧ Below w.heap.size w w':=by
 have hne:=fun (w:World) => Lib.run_eql_slice_nil w 38 5 none 0 0 0 0 Tryz.underlying38
 go_enter Tryz.func35,Tryz.ntmps35
 go_wp2
 go_ret
 exact ⟨_,rfl,World.ownsRow_nil w _ _ _,Below.refl _ _⟩
theorem clone_sl {L:List Int} {v:Value} {w:World} (hv:SlB L v w) (hle:L.length ≤ 4294967296) :
 Calls Tryz.prog 35 #[v] w fun e w' => ∃ v',e = .returned v' ∧ w'.ownsRow w.heap.size 5 1 v' L.length (vals L) ∧ Below w.heap.size w w':=by
 obtain ⟨A,c,rfl,hB⟩:=hv
 cases A with
 | none =>
   have hc:=hB.2.1 rfl
   have h1:=hB.1
   subst hc
   obtain rfl:L = []:=List.eq_nil_of_length_eq_zero (by omega)
   exact clone_none
 | some ad => exact clone_some hB rfl hle
theorem info_slz:(Tryz.prog.info? 38).map (fun i => (i.zero,i.size,i.bytes)) = some (some (.slice none 0 0),1,24):=by kernel_rfl
theorem wp_app_sl {w:World} {o:Oper} {a:Act} {K:Act → World → Prop} {Q:Exit → Act → World → Prop} (s y:Operand)
 (ho:o.op = .call { callee:=.builtin .append,args:=#[s,y],argTypes:=#[51, 51] }) (base:Nat) (v:Value) (n:Nat) (xs:List Value) (x:Value) (hx1:x.oneCell' = true) (hs:a.eval s = v) (hown:w.ownsRow base 38 1 v n xs)
 (g:Nat) (hy:a.eval y = .slice (some ⟨g,0,none⟩) 1 1) (hg:w.heap[g]? = some (.cells #[x] 38 (0,0))) (h63:n ≤ 100000) (hbase:base ≤ w.heap.size)
 (h:∀ v' w',w'.ownsRow base 38 1 v' (n + 1) (xs ++ [x]) → w.grownBy w' v.ownBlock → (v'.ownBlock = v.ownBlock ∨ v'.ownBlock = some w.heap.size) → K (a.put o.dst v') w'):o.wp Tryz.prog a w K Q:=by
 obtain ⟨i0,hi0,hz00,hz10,hz20⟩:=info_parts info_slz
 obtain ⟨v',w',hr,h2,h3,_,h5⟩:=run_append_own_at (P:=Tryz.prog) w base 51 o.type 38 i0 (.slice none 0 0) 1 24 Tryz.underlying51 hi0 hz00 hz10 hz20 rfl (by decide) v n xs hown ⟨g,0,none⟩ 1 1 [x] (by rfl)
  (fun j u hu => by rw [Addr.add_mid,Nat.zero_add,cell_row hg]; simpa using hu) (fun u hu => by simp at hu; subst hu; exact hx1) (by unfold maxLen; omega) (by omega) hbase
 unfold Oper.wp execOp
 simp only [ho,resolve,invoke,builtin,Sem.run_bind,Sem.run_pure,Result.andThen_ok,List.map_toArray,List.map_cons,List.map_nil,hs,hy,hr]
 exact h v' w' h2 h3 h5
theorem chg_grown {w w':World} {r:Option Nat} (h:w.grownBy w' r):Chg r.toList w w' :=
 ⟨h.os,h.tape,h.output,h.size,fun k hk hS => h.block k hk (fun e => hS (by rw [← e]; simp))⟩
end Go.Proofs.YteeghgjkjicjoaaGreatDoor.Slt
namespace Go.Proofs.YteeghgjkjicjoaaGreatDoor.Slt
open Go.RowKit Dsk
structure RK (g:Nat) (C:Array Value) (u:Value) (W:World) (ll:Array Bool) (wx:World):Prop where
 chg:Chg (g :: u.ownBlock.toList) W wx
 low:ll.getD 8 false = false → ll.getD 11 false = false → Below W.heap.size W wx
 row:ll.getD 11 false = false → wx.heap[g]? = some (.cells C 125 (0,0))
section
variable {g:Nat} {C:Array Value} {u:Value} {W wx w':World} {ll:Array Bool}
theorem RK.start {n:Nat} (h:W.heap[g]? = some (.cells C 125 (0,0))):RK g C u W (Array.replicate n false) W.drew :=
 ⟨Chg.of_below (Below.refl _ _).drew,fun _ _ => (Below.refl _ _).drew,fun _ => h⟩
theorem RK.same {i:Nat} (h:RK g C u W ll wx) (h8:i ≠ 8) (h11:i ≠ 11):RK g C u W (ll.setIfInBounds i true) wx :=
 ⟨h.chg,by rw [getD_set_ne false h8,getD_set_ne false h11]; exact h.low,by rw [getD_set_ne false h11]; exact h.row⟩
theorem RK.call {i:Nat} (h:RK g C u W ll wx) (hg:g < W.heap.size) (h8:i ≠ 8) (h11:i ≠ 11) (hb:Below wx.heap.size wx w'):RK g C u W (ll.setIfInBounds i true) w':=by
 refine ⟨h.chg.trans (Chg.of_below hb),?_,?_⟩
 · rw [getD_set_ne false h8,getD_set_ne false h11]
   exact fun a b => (h.low a b).trans (hb.mono h.chg.size)
 · rw [getD_set_ne false h11]
   exact fun a => (hb.block _ (Nat.lt_of_lt_of_le hg h.chg.size)).trans (h.row a)
theorem RK.app (h:RK g C u W ll wx) (hg:g < W.heap.size) (hu:u.ownBlock ≠ some g) (hs:8 < ll.size) (hg':wx.grownBy w' u.ownBlock):RK g C u W (ll.setIfInBounds 8 true) w':=by
 refine ⟨h.chg.trans ((chg_grown hg').mono (fun k hk => .inl (by simp at hk; simp [hk]))),fun a => by simp [hs] at a,?_⟩
 rw [getD_set_ne false (by decide)]
 exact fun a => (hg'.block _ (Nat.lt_of_lt_of_le hg h.chg.size) (fun e => hu e.symm)).trans (h.row a)
theorem RK.store {z:Value} (h:RK g C u W ll wx) (hs:11 < ll.size) (h8:ll.getD 8 false = true):RK g C u W (ll.setIfInBounds 11 true) (wx.setCell ⟨g,5,none⟩ z):=by
 refine ⟨h.chg.setCell (by simp) z,?_,fun a => by simp [hs] at a⟩
 intro a
 rw [getD_set_ne false (by decide),h8] at a
 cases a
end
structure YX (t:List Int) (B:Nat) (y:Value) (w:World):Prop where
 sl:SlB t y w
 own:∀ q,y.ownBlock = some q → B ≤ q ∧ q < w.heap.size
 one:y.oneCell' = true
theorem YX.chg {t:List Int} {B:Nat} {y:Value} {w w':World} {S:List Nat} (h:YX t B y w) (hc:Chg S w w') (hS:∀ q ∈ S,q < B):YX t B y w':=by
 obtain ⟨A,c,rfl,hB⟩:=h.sl
 exact ⟨⟨A,c,rfl,hB.chg hc (fun a ha hm => by have:=h.own a.block (by rw [ha]; rfl); have:=hS _ hm; omega)⟩,fun q hq => ⟨(h.own q hq).1,Nat.lt_of_lt_of_le (h.own q hq).2 hc.size⟩,rfl⟩
theorem YX.later {t:List Int} {B:Nat} {y:Value} {w w':World} (h:YX t B y w) (hb:Below w.heap.size w w'):YX t B y w':=h.chg (S:=[]) (Chg.of_below hb) (by simp)
theorem YX.new {t:List Int} {B:Nat} {y:Value} {w:World} (ho:w.ownsRow B 5 1 y t.length (vals t)) (hs:SlB t y w):YX t B y w:=⟨hs,fun q hq => ho.lt q hq,by obtain ⟨A,c,rfl,_⟩:=hs; rfl⟩
def NX (y z:Value) (w:World):Prop:=∃ N,z = .slice (some ⟨N,0,none⟩) 1 1 ∧ w.heap[N]? = some (.cells #[y] 38 (0,0))
theorem NX.new {y v:Value} {N:Nat} {w:World} (hv:y = v) (h:w.heap[N]? = some (.cells #[v] 38 (0,0))):NX y (.slice (some ⟨N,0,none⟩) 1 1) w:=⟨N,rfl,by rw [hv]; exact h⟩
structure OX (n:Nat) (ts:List Value) (u:Value) (B:Nat) (y z:Value) (w:World):Prop where
 own:w.ownsRow 0 38 1 z (n + 1) (ts ++ [y])
 blk:z.ownBlock = u.ownBlock ∨ ∃ q,z.ownBlock = some q ∧ B ≤ q ∧ (∀ r,y.ownBlock = some r → r ≠ q)
 one:z.oneCell' = true
theorem OX.new {n:Nat} {ts t:_} {u y z:Value} {B:Nat} {w w':World} (ho:w'.ownsRow 0 38 1 z (n + 1) (ts ++ [y])) (hb:z.ownBlock = u.ownBlock ∨ z.ownBlock = some w.heap.size) (hy:YX t B y w) (hB:B ≤ w.heap.size):OX n ts u B y z w' :=
 ⟨ho,hb.imp id (fun e => ⟨_,e,hB,fun r hr => by have:=hy.own r hr; omega⟩),by rcases ho.2 with ⟨rfl,_⟩ | ⟨g,cap,cur,rfl,_⟩ <;> rfl⟩
theorem OX.ne {n:Nat} {ts:List Value} {u y z:Value} {B g:Nat} {w:World} (h:OX n ts u B y z w) (hu:u.ownBlock ≠ some g) (hg:g < B):z.ownBlock ≠ some g:=by
 rcases h.blk with e | ⟨q,e,hq,_⟩
 · rw [e]; exact hu
 · rw [e]; intro h; cases h; omega
theorem OX.later {n:Nat} {ts:List Value} {u:Value} {B:Nat} {y z:Value} {w w':World} (h:OX n ts u B y z w) (hb:Below w.heap.size w w'):OX n ts u B y z w':=⟨own_stays h.own hb,h.blk,h.one⟩
structure AX (g:Nat) (C:Array Value) (n:Nat) (ts:List Value) (u:Value) (B:Nat) (y z v:Value) (w:World):Prop where
 row:w.heap[g]? = some (.cells (C.setIfInBounds 5 z) 125 (0,0))
 ox:OX n ts u B y z w
theorem AX.later {g:Nat} {C:Array Value} {n:Nat} {ts:List Value} {u:Value} {B:Nat} {y z v:Value} {w w':World} (h:AX g C n ts u B y z v w) (hb:Below w.heap.size w w'):AX g C n ts u B y z v w' :=
 ⟨(hb.block _ (Array.getElem?_eq_some_iff.1 h.row).1).trans h.row,h.ox.later hb⟩
theorem OX.set {n:Nat} {ts:List Value} {u:Value} {B g k:Nat} {y z x:Value} {w:World} (h:OX n ts u B y z w) (hz:z.ownBlock ≠ some g):OX n ts u B y z (w.setCell ⟨g,k,none⟩ x) :=
 ⟨own_chg h.own ((Chg.refl [g] _).setCell (by simp) x) (fun q hq => by simp; rintro rfl; exact hz hq),h.blk,h.one⟩
theorem AX.new {g n B:Nat} {C:Array Value} {ts:List Value} {u y z v x:Value} {wx:World} (h8:OX n ts u B y z wx) (hz:z.ownBlock ≠ some g) (hr:wx.heap[g]? = some (.cells C 125 (0,0))) (hv:z = v):AX g C n ts u B y z x (wx.setCell ⟨g,5,none⟩ v):=by
 subst hv
 exact ⟨heap_setCell_same _ _ _ _ _ _ hr,h8.set hz⟩
theorem _root_.Go.Proofs.YteeghgjkjicjoaaGreatDoor.Whu.never {l:Array Bool} {i k q:Nat} {p:Value → World → Prop} {v:Value} {w:World} (hne:i ≠ k) (h:l.getD i false = true → l.getD k false = true) (hu:l.getD k false = false):Whu (l.setIfInBounds k true) i q p v w:=fun hl _ => by
 have:=h ((getD_listed hl).resolve_left hne)
 rw [this] at hu
 cases hu
structure Kept0 (K:DK) (J:LK) (S:LS) (t:List Int) (w:World) (J':LK) (w':World):Prop where
 g:J'.g = J.g
 lg0:Lg0 w' K J' { S with used:=S.used + tk t.length,texts:=S.texts ++ [t] }
 chg:Chg J.bl w w'
 bl:∀ q ∈ J'.bl,q ∈ J.bl ∨ w.heap.size ≤ q
 tx:∀ q ∈ J'.tx,q ∈ J.tx ∨ w.heap.size ≤ q
structure Kept (K:DK) (J:LK) (S:LS) (t:List Int) (w:World) (J':LK) (w':World):Prop extends Kept0 K J S t w J' w' where
 lg:Lg w' K J' { S with used:=S.used + tk t.length,texts:=S.texts ++ [t] }
theorem kept_of {w w':World} {K:DK} {J:LK} {S:LS} {t:List Int} {y z:Value} (h:Lg0 w K J S) (hK:∀ q ∈ K.bl,q < w.heap.size) (ht:InB t) (hl:t.length ≤ 262144)
 (hr:w'.heap[J.g]? = some (.cells (rowL K ⟨J.g,z,J.ts ++ [y]⟩ { S with used:=S.used + tk t.length,texts:=S.texts ++ [t] }) 125 (0,0))) (ho:OX S.texts.length J.ts J.v w.heap.size y z w') (hy:YX t w.heap.size y w') (hc:Chg J.bl w w'):Kept0 K J S t w ⟨J.g,z,J.ts ++ [y]⟩ w':=by
 have hbl:∀ q ∈ (⟨J.g,z,J.ts ++ [y]⟩:LK).bl,q ∈ J.bl ∨ w.heap.size ≤ q:=by
  intro q hq
  simp only [LK.bl,List.mem_cons,Option.mem_toList] at hq ⊢
  rcases hq with rfl | hq
  · exact .inl (.inl rfl)
  · rcases ho.blk with e | ⟨q',e,hq',_⟩
    · rw [e] at hq; exact .inl (.inr hq)
    · rw [e] at hq; cases hq; exact .inr hq'
 have htx:∀ q ∈ (⟨J.g,z,J.ts ++ [y]⟩:LK).tx,q ∈ J.tx ∨ (y.ownBlock = some q):=by
  intro q hq
  simp only [LK.tx,List.flatMap_append,List.mem_append,List.flatMap_cons,List.flatMap_nil,List.append_nil,Option.mem_toList] at hq ⊢
  exact hq
 have hbw:∀ q ∈ J.bl,q < w.heap.size:=by
  intro q hq
  simp only [LK.bl,List.mem_cons,Option.mem_toList] at hq
  rcases hq with rfl | hq
  · exact h.glt
  · exact (h.own.lt q hq).2
 have hz:z.ownBlock ≠ some J.g:=ho.ne (fun e => h.gv _ e rfl) h.glt
 refine ⟨rfl,⟨hr,by rw [List.length_append]; exact ho.own,fun q hq e => hz (by rw [← e]; exact hq),?_,?_,?_,?_,?_⟩,hc,hbl,fun q hq => (htx q hq).imp id (fun e => (hy.own q e).1)⟩
 · intro i hi
   simp only [List.length_append,List.length_cons,List.length_nil] at hi
   by_cases e:i < S.texts.length
   · have h1:(S.texts ++ [t]).getD i [] = S.texts.getD i []:=by simp [List.getD_eq_getElem?_getD,List.getElem?_append_left e]
     have h2:(J.ts ++ [y]).getD i undef = J.ts.getD i undef:=by simp [List.getD_eq_getElem?_getD,List.getElem?_append_left (show i < J.ts.length by rw [h.len]; exact e)]
     simp only [h1,h2]
     obtain ⟨A,c,e1,hB⟩:=h.txt i e
     exact ⟨A,c,e1,hB.chg hc (fun a ha => (h.tap _ (mem_tx (by rw [e1,ha]) (by rw [h.len]; exact e))).2)⟩
   · obtain rfl:i = S.texts.length:=by omega
     have h1:(S.texts ++ [t]).getD S.texts.length [] = t:=by simp [List.getD_eq_getElem?_getD]
     have h2:(J.ts ++ [y]).getD S.texts.length undef = y:=by rw [← h.len]; simp [List.getD_eq_getElem?_getD]
     simp only [h1,h2]
     exact hy.sl
 · intro q hq
   rcases htx q hq with a | a
   · exact Nat.lt_of_lt_of_le (h.tlt q a) hc.size
   · exact (hy.own q a).2
 · intro q hq
   rcases htx q hq with a | a
   · refine ⟨(h.tap q a).1,fun hm => ?_⟩
     rcases hbl q hm with b | b
     · exact (h.tap q a).2 b
     · have:=h.tlt q a; omega
   · have hge:=(hy.own q a).1
     refine ⟨fun hm => by have:=hK q hm; omega,fun hm => ?_⟩
     simp only [LK.bl,List.mem_cons,Option.mem_toList] at hm
     rcases hm with rfl | hm
     · have:=h.glt; omega
     · rcases ho.blk with e | ⟨q',e,_,hn⟩
       · rw [e] at hm; have:=(h.own.lt q hm).2; omega
       · rw [e] at hm; cases hm; exact hn q a rfl
 · intro q hq hm
   rcases hbl q hq with b | b
   · exact h.kap q b hm
   · have:=hK q hm; omega
 · intro x hx
   rcases List.mem_append.1 hx with a | a
   · exact h.inb x a
   · simp at a; subst a; exact ⟨ht,hl⟩
set_option maxRecDepth 100000 in
set_option maxHeartbeats 4000000 in
theorem keep0 {w:World} {K:DK} {J:LK} {S:LS} (h:Lg0 w K J S) (hK:∀ q ∈ K.bl,q < w.heap.size) {t:List Int} {v:Value} (hv:SlB t v w) (ht:InB t) (hl:t.length ≤ 262144) (hn:S.texts.length ≤ 100000) (hus:S.used ≤ 1000000000) :
 Calls Tryz.prog 77 #[J.ptr,v] w fun e w' => e = .returned (.tuple #[]) ∧ ∃ J',Kept0 K J S t w J' w':=by
 have hrow:=h.row
 have hg:=h.glt
 have hown:=h.own
 have hug:J.v.ownBlock ≠ some J.g:=fun e => h.gv _ e rfl
 have hub:∀ q,J.v.ownBlock = some q → q < w.heap.size:=fun q hq => (hown.lt q hq).2
 have H:=Lib.hid h
 have HK:=Lib.hid hK
 have Hl:=Lib.hid hl
 have Ht:=Lib.hid ht
 obtain ⟨C,hC⟩:∃ C,C = rowL K J S:=⟨_,rfl⟩
 rw [← hC] at hrow
 have c5:C[5]? = some J.v:=by rw [hC]; rfl
 have c4:C[4]? = some (.int .i64 S.used):=by rw [hC]; rfl
 have hCs:C.size = 7:=by rw [hC]; rfl
 obtain ⟨A,c,rfl,hB⟩:=hv
 obtain ⟨n,hn'⟩:∃ n,n = t.length:=⟨_,rfl⟩
 rw [← hn'] at hl ⊢
 have HC:=Lib.hid hC
 have HN:=Lib.hid hn'
 have Hrow:=Lib.hid hrow
 have Hg:=Lib.hid hg
 have Hown:=Lib.hid hown
 have Hug:=Lib.hid hug
 have Hub:=Lib.hid hub
 have Hn:=Lib.hid hn
 have C5:=Lib.hid c5
 have C4:=Lib.hid c4
 have HCs:=Lib.hid hCs
 have HB:=Lib.hid hB
 have Hsec:=Lib.hid (fun w => (sectorsOf_any n (by omega) w).mono (fun (e:Ending) w' (h:e = .returned (.int .i64 (tk n:Nat)) ∧ w = w') => (⟨h.1,h.2.symm⟩:e = .returned (.int .i64 (tk n:Nat)) ∧ w' = w)))
 have hlI:(n:Int) ≤ 262144:=by omega
 have htk:tk n ≤ 3000:=by unfold tk; omega
 obtain ⟨u,hu⟩:∃ u,u = S.used:=⟨_,rfl⟩
 rw [← hu] at C4 hus
 have Hu:=Lib.hid hu
 obtain ⟨k,hk⟩:∃ k,k = tk n:=⟨_,rfl⟩
 rw [← hk] at Hsec htk
 have HKk:=Lib.hid hk
 have hKsub:∀ q ∈ (J.g :: J.v.ownBlock.toList),q < w.heap.size:=by
  intro q hq
  simp at hq
  rcases hq with rfl | hq
  · exact hg
  · exact hub q hq
 have Hsub:=Lib.hid hKsub
 have hT:∀ wx,Chg (J.g :: J.v.ownBlock.toList) w wx → (∀ l11:Bool,True) → True:=fun _ _ _ => trivial
 clear hT
 unfold LK.ptr
 clear h hK hl ht hC hn' hrow hg hown hug hub hn c5 c4 hCs hB hu hk hKsub
 go_enter Tryz.func77,Tryz.ntmps77
 go_upto_region 0 with (fail)
 have apx:apartB [4,5,6,7,8,9,10,11,12,13,14,1011] = true:=by decide
 refine wp_region_any (by kernel_rfl) ?_
 change wpAny _ _ _ _ _ _ _ (World.drew _)
 refine wpAny_inv2 (fun ll aa wx => Hid (ll.size = 12 ∧ RK J.g C J.v w ll wx) ∧ ∃ (z:Nat → Value),Hid (aa = ⟨#[.pointer (some ⟨J.g,0,none⟩),.slice A n c,undef,undef,z 4,z 5,z 6,z 7,z 8,z 9,z 10,z 11,z 12,z 13,z 14,undef,undef,undef,undef,undef,undef,undef,undef,undef,undef],[]⟩) ∧ Holding [4,5,6,7,8,9,10,11,12,13,14,1011] [some (.pointer (some ⟨J.g,0,none⟩)),some (.pointer (some ⟨J.g,0,none⟩)),some (.pointer (some ⟨J.g,0,none⟩)),some (.pointer (some ⟨J.g,5,none⟩)),some (J.v),some (.slice A n c),none,none,none,some (.pointer (some ⟨J.g,0,none⟩)),some (.pointer (some ⟨J.g,5,none⟩)),none] ll z ∧ Whn ll 6 (YX t w.heap.size) (z 10) wx ∧ Whu ll 7 8 (NX (z 10)) (z 11) wx ∧ Whu ll 8 11 (OX S.texts.length J.ts J.v w.heap.size (z 10)) (z 12) wx ∧ Whn ll 11 (AX J.g C S.texts.length J.ts J.v w.heap.size (z 10) (z 12)) (z 1011) wx) ?_ (by kernel_rfl) ?_ ?_ _ rfl _ _ ?_
 · rintro ll aa wx ⟨hI,_⟩
   exact hI.out.1
 · rintro ll aa wx ⟨hI,z,ha,hz,hp6,hp7,hp8,hp11⟩ hall
   have hx:=Lib.hid hI.out.2
   have p6:=hp6.get (hall 6 (by decide))
   have p11:=hp11.get (hall 11 (by decide))
   clear hall hz hI hp6 hp7 hp8 hp11
   obtain rfl:=ha.out
   clear ha
   clear apx
   have P6:=Lib.hid p6
   have P11:=Lib.hid p11
   have HX:=Lib.hid hx.out.chg
   clear p6 p11 hx
   generalize z 10 = y at *
   generalize z 12 = zz at *
   generalize z 11 = y11
   generalize z 1011 = y1011 at *
   generalize z 4 = y4
   generalize z 5 = y5
   generalize z 6 = y6
   generalize z 7 = y7
   generalize z 8 = y8
   generalize z 9 = y9
   generalize z 13 = y13
   generalize z 14 = y14
   try dsimp only
   have hr1:=P11.out.row
   have c5:=cell_row hr1 4
   rw [Array.getElem?_setIfInBounds,if_neg (by decide),C4.out] at c5
   have f5:=free_row hr1 4
   clear z
   go_upto_region 1 with (fail)
   refine wp_region_still_tail 10 (by kernel_rfl) (by kernel_rfl) ?_
   simp only [List.take_succ_cons,List.take_zero,List.drop_succ_cons,List.drop_zero]
   change wpStill _ _ wx.drew _ _ _
   have hr2:wx.drew.heap[J.g]? = some (.cells (C.setIfInBounds 5 zz) 125 (0,0)):=hr1
   have c52:wx.drew.cell? ⟨J.g,4,none⟩ = some (.int .i64 u):=c5
   have f52:wx.drew.frozen? ⟨J.g,4,none⟩ = false:=f5
   repeat (first
    | (refine wpStill_step (fun K hK => ?_); go_simp; refine hK _ ?_; clear hK K)
    | (refine wpStill_step (fun K hK => ?_); go_simp; refine ⟨_,Hsec.out _,hK _ ?_⟩; clear hK K))
   refine wpStill_nil ?_
   change wpList _ _ _ _ _ wx.drew
   have hc2:=HX.out.trans (Chg.of_below (Below.refl wx.heap.size wx).drew)
   have p62:=P6.out.later (Below.refl wx.heap.size wx).drew
   have ox2:=P11.out.ox.later (Below.refl wx.heap.size wx).drew
   generalize wx.drew = w4 at hr2 c52 f52 hc2 p62 ox2 ⊢
   have Hr2:=Lib.hid hr2
   have Hc2:=Lib.hid hc2
   have P62:=Lib.hid p62
   have Ox2:=Lib.hid ox2
   clear hr2 hc2 p62 ox2 hr1 c5 f5 P6 P11 HX
   go_wp2
   refine bodyPost_end (results_none rfl _ _ _) rfl ?_
   have hz:=Ox2.out.ne Hug.out Hg.out
   refine ⟨rfl,⟨J.g,zz,J.ts ++ [y]⟩,?_⟩
   rw [HN.out] at HKk
   have hk4:((u:Int) + (k:Int)) = ((S.used + tk t.length:Nat):Int):=by rw [← HKk.out,← Hu.out]; omega
   refine kept_of H.out HK.out Ht.out Hl.out ?_ (Ox2.out.set hz) (P62.out.chg ((Chg.refl [J.g] _).setCell (by simp) _) (fun q hq => by simp at hq; rw [hq]; exact Hg.out)) (Hc2.out.setCell (by simp) _)
   rw [heap_setCell_same _ _ _ _ _ _ Hr2.out,HC.out,hk4]
   rfl
 · rintro ll aa wx i ⟨hI,z,ha,hz,hp6,hp7,hp8,hp11⟩ hcl hi hu hw
   obtain rfl:=ha.out
   have hsz:=Lib.hid hI.out.1
   have hx:=Lib.hid hI.out.2
   clear ha hI
   have hin:i < 12:=hi
   obtain rfl | rfl | rfl | rfl | rfl | rfl | rfl | rfl | rfl | rfl | rfl | rfl:i = 0 ∨ i = 1 ∨ i = 2 ∨ i = 3 ∨ i = 4 ∨ i = 5 ∨ i = 6 ∨ i = 7 ∨ i = 8 ∨ i = 9 ∨ i = 10 ∨ i = 11:=by omega
   · refine wpOp_plain rfl rfl ?_
     go_simp
     exact ⟨⟨by simp [hsz.out],hx.out.same (by decide) (by decide)⟩,upd z 4 (.pointer (some ⟨J.g,0,none⟩)),(by unfold Hid; simp [upd]),hz.next apx hsz.out 0 (by decide) _ (fun _ h => Option.some.inj h),hp6.keep (by decide),hp7.keep (by decide),hp8.keep (by decide),hp11.keep (by decide)⟩
   · refine wpOp_plain rfl rfl ?_
     go_simp
     exact ⟨⟨by simp [hsz.out],hx.out.same (by decide) (by decide)⟩,upd z 5 (.pointer (some ⟨J.g,0,none⟩)),(by unfold Hid; simp [upd]),hz.next apx hsz.out 1 (by decide) _ (fun _ h => Option.some.inj h),hp6.keep (by decide),hp7.keep (by decide),hp8.keep (by decide),hp11.keep (by decide)⟩
   · have e1:z 5 = .pointer (some ⟨J.g,0,none⟩):=hz 1 _ (hw 1 (by kernel_rfl)) rfl
     refine wpOp_plain rfl rfl ?_
     go_simp
     exact ⟨⟨by simp [hsz.out],hx.out.same (by decide) (by decide)⟩,upd z 6 (.pointer (some ⟨J.g,0,none⟩)),(by unfold Hid; simp [upd,e1]),hz.next apx hsz.out 2 (by decide) _ (fun _ h => Option.some.inj h),hp6.keep (by decide),hp7.keep (by decide),hp8.keep (by decide),hp11.keep (by decide)⟩
   · have e2:z 6 = .pointer (some ⟨J.g,0,none⟩):=hz 2 _ (hw 2 (by kernel_rfl)) rfl
     refine wpOp_plain rfl rfl ?_
     go_simp
     exact ⟨⟨by simp [hsz.out],hx.out.same (by decide) (by decide)⟩,upd z 7 (.pointer (some ⟨J.g,5,none⟩)),(by unfold Hid; simp [upd,e2]),hz.next apx hsz.out 3 (by decide) _ (fun _ h => Option.some.inj h),hp6.keep (by decide),hp7.keep (by decide),hp8.keep (by decide),hp11.keep (by decide)⟩
   · have e3:z 7 = .pointer (some ⟨J.g,5,none⟩):=hz 3 _ (hw 3 (by kernel_rfl)) rfl
     have hn11:ll.getD 11 false = false:=not_listed (fun hl => hcl 8 4 (hcl 11 8 hl (by kernel_rfl)) (by kernel_rfl)) hu
     have c8:=cell_row (hx.out.row hn11) 5
     rw [C5.out] at c8
     refine wpOp_plain rfl rfl ?_
     go_simp
     exact ⟨⟨by simp [hsz.out],hx.out.same (by decide) (by decide)⟩,upd z 8 (J.v),(by unfold Hid; simp [upd,e3]),hz.next apx hsz.out 4 (by decide) _ (fun _ h => Option.some.inj h),hp6.keep (by decide),hp7.keep (by decide),hp8.keep (by decide),hp11.keep (by decide)⟩
   · refine wpOp_plain rfl rfl ?_
     go_simp
     exact ⟨⟨by simp [hsz.out],hx.out.same (by decide) (by decide)⟩,upd z 9 (.slice A n c),(by unfold Hid; simp [upd]),hz.next apx hsz.out 5 (by decide) _ (fun _ h => Option.some.inj h),hp6.keep (by decide),hp7.keep (by decide),hp8.keep (by decide),hp11.keep (by decide)⟩
   · have e5:z 9 = .slice A n c:=hz 5 _ (hw 5 (by kernel_rfl)) rfl
     refine wpOp_plain rfl rfl ?_
     go_simp
     go_at_call 35
     refine (clone_sl (L:=t) ⟨A,c,by rw [← HN.out],HB.out.below (hx.out.low (not_listed (fun hl => hcl 7 6 (hcl 8 7 hl (by kernel_rfl)) (by kernel_rfl)) hu) (not_listed (fun hl => hcl 7 6 (hcl 8 7 (hcl 11 8 hl (by kernel_rfl)) (by kernel_rfl)) (by kernel_rfl)) hu)) (Nat.le_refl _)⟩ (by have:=Hl.out; omega)).mono ?_
     rintro e w' ⟨vr,rfl,ho,low⟩
     exact ⟨⟨by simp [hsz.out],hx.out.call Hg.out (by decide) (by decide) low⟩,upd z 10 (vr),(by unfold Hid; simp [upd,e5]),hz.next apx hsz.out 6 (by decide) _ (fun _ h => by cases h),Whn.done (YX.new (own_lower ho hx.out.chg.size) (own_sl ho rfl)),Whu.never (by decide) (fun hl => hcl 7 6 hl (by kernel_rfl)) hu,Whu.never (by decide) (fun hl => hcl 8 6 hl (by kernel_rfl)) hu,Whn.never (by decide) (fun hl => hcl 11 6 hl (by kernel_rfl)) hu⟩
   · have p6:=hp6.get (hw 6 (by kernel_rfl))
     obtain ⟨A6,c6,hv6,_⟩:=p6.sl
     have lown:Below wx.heap.size wx (wx.alloc (.cells #[.slice A6 t.length c6] 38)):=(Below.refl _ _).alloc (Nat.le_refl _) _
     refine wpOp_plain rfl rfl ?_
     simp only [hv6]
     go_simp
     exact ⟨⟨by simp [hsz.out],hx.out.call Hg.out (by decide) (by decide) lown⟩,upd z 11 (.slice (some ⟨wx.heap.size,0,none⟩) 1 1),(by unfold Hid; simp [upd,hv6]),hz.next apx hsz.out 7 (by decide) _ (fun _ h => by cases h),(hp6.keep (by decide)).map (fun h => h.later lown),Whu.done (NX.new hv6 (Go.heap_alloc_new wx _)),(hp8.keep (by decide)).map (fun h => h.later lown),(hp11.keep (by decide)).map (fun h => h.later lown)⟩
   · have e4:z 8 = J.v:=hz 4 _ (hw 4 (by kernel_rfl)) rfl
     have p6:=hp6.get (hw 6 (by kernel_rfl))
     have p7:=hp7.get (hw 7 (by kernel_rfl)) hu
     obtain ⟨N,hv7,hN⟩:=p7
     have hn11:ll.getD 11 false = false:=not_listed (fun hl => hcl 11 8 hl (by kernel_rfl)) hu
     have ho8:=own_stays Hown.out (hx.out.low hu hn11)
     refine wpOp_plain rfl rfl (wp_app_sl (.tmp 8) (.tmp 11) rfl 0 J.v S.texts.length J.ts (z 10) p6.one e4 ho8 N hv7 hN Hn.out (Nat.zero_le _) ?_)
     intro vr w9 hown9 hgrow9 hblk9
     go_simp
     exact ⟨⟨by simp [hsz.out],hx.out.app Hg.out Hug.out (by rw [hsz.out]; decide) hgrow9⟩,upd z 12 (vr),(by unfold Hid; simp [upd,e4,hv7]),hz.next apx hsz.out 8 (by decide) _ (fun _ h => by cases h),(hp6.keep (by decide)).map (fun h => h.chg (chg_grown hgrow9) (fun q hq => Hsub.out q (by simp at hq; simp [hq]))),Whu.past (by rw [hsz.out]; decide),Whu.done (OX.new hown9 hblk9 p6 hx.out.chg.size),Whn.never (by decide) (fun hl => hcl 11 8 hl (by kernel_rfl)) hu⟩
   · have e0:z 4 = .pointer (some ⟨J.g,0,none⟩):=hz 0 _ (hw 0 (by kernel_rfl)) rfl
     refine wpOp_plain rfl rfl ?_
     go_simp
     exact ⟨⟨by simp [hsz.out],hx.out.same (by decide) (by decide)⟩,upd z 13 (.pointer (some ⟨J.g,0,none⟩)),(by unfold Hid; simp [upd,e0]),hz.next apx hsz.out 9 (by decide) _ (fun _ h => Option.some.inj h),hp6.keep (by decide),hp7.keep (by decide),hp8.keep (by decide),hp11.keep (by decide)⟩
   · have e9:z 13 = .pointer (some ⟨J.g,0,none⟩):=hz 9 _ (hw 9 (by kernel_rfl)) rfl
     refine wpOp_plain rfl rfl ?_
     go_simp
     exact ⟨⟨by simp [hsz.out],hx.out.same (by decide) (by decide)⟩,upd z 14 (.pointer (some ⟨J.g,5,none⟩)),(by unfold Hid; simp [upd,e9]),hz.next apx hsz.out 10 (by decide) _ (fun _ h => Option.some.inj h),hp6.keep (by decide),hp7.keep (by decide),hp8.keep (by decide),hp11.keep (by decide)⟩
   · have e10:z 14 = .pointer (some ⟨J.g,5,none⟩):=hz 10 _ (hw 10 (by kernel_rfl)) rfl
     have p8:=hp8.get (hw 8 (by kernel_rfl)) hu
     have crow:=hx.out.row hu
     have c8:wx.cell? ⟨J.g,5,none⟩ = some J.v:=(cell_row crow 5).trans C5.out
     have f8:wx.frozen? ⟨J.g,5,none⟩ = false:=free_row crow 5
     have hz8:(z 12).ownBlock ≠ some J.g:=p8.ne Hug.out Hg.out
     obtain ⟨A8,c8e,hv8⟩:=own_nilK p8.own
     refine wpOp_plain rfl rfl ?_
     simp only [hv8]
     go_simp
     exact ⟨⟨by simp [hsz.out],hx.out.store (by rw [hsz.out]; decide) (hw 8 (by kernel_rfl))⟩,upd z 1011 (undef),(by unfold Hid; simp [upd,e10,hv8]),hz.next apx hsz.out 11 (by decide) _ (fun _ h => by cases h),(hp6.keep (by decide)).map (fun h => h.chg ((Chg.refl [J.g] _).setCell (by simp) _) (fun q hq => Hsub.out q (by simp at hq; simp [hq]))),Whu.gone (hw 8 (by kernel_rfl)),Whu.past (by rw [hsz.out]; decide),Whn.done (AX.new p8 hz8 crow hv8)⟩
 · exact ⟨⟨rfl,RK.start Hrow.out⟩,fun xx => (#[.pointer (some ⟨J.g,0,none⟩),.slice A n c,undef,undef,undef,undef,undef,undef,undef,undef,undef,undef,undef,undef,undef,undef,undef,undef,undef,undef,undef,undef,undef,undef,undef]:Array Value).getD xx undef,rfl,Holding.start,Whn.none (by decide),Whu.none (by decide),Whu.none (by decide),Whn.none (by decide)⟩
theorem keep_any {w:World} {K:DK} {J:LK} {S:LS} (h:Lg w K J S) (hK:∀ q ∈ K.bl,q < w.heap.size) {t:List Int} {v:Value} (hv:SlB t v w) (ht:InB t) (hl:t.length ≤ 262144) (hfit:S.used + tk t.length ≤ S.secs) :
 Calls Tryz.prog 77 #[J.ptr,v] w fun e w' => e = .returned (.tuple #[]) ∧ ∃ J',Kept K J S t w J' w':=by
 have h1:=h.cnt
 have h2:=h.fit
 have h3:=h.end_
 have h4:=tk_pos t.length
 refine (keep0 h.toLg0 hK hv ht hl (by omega) (by omega)).mono ?_
 rintro e w' ⟨rfl,J',hk⟩
 exact ⟨rfl,J',⟨hk,⟨hk.lg0,hfit,h3,by simp only [List.length_append,List.length_cons,List.length_nil]; omega⟩⟩⟩
end Go.Proofs.YteeghgjkjicjoaaGreatDoor.Slt
