/- Texts of ours, merged. -/
import Derived.Test.YteeghgjkjicjoaaGreatDoorB7
import Derived.Laws.IdiomCopy
namespace Go.Proofs.YteeghgjkjicjoaaGreatDoor.Seal
open Go.RowKit
def bkA (n:Nat):Nat → Nat → Nat
 | 0,b => b
 | k + 1,b => if b < n + 4 then bkA n k (2 * b) else b
def bkt (n:Nat):Nat:=bkA n 11 64
def bktI (n:Int):Int:=if n < 0 ∨ 131068 < n then 0 else (bkt n.toNat:Int)
def BkI (n b:Nat):Prop:=∃ k,bkA n k b = bkt n ∧ b * 2 ^ k = 131072
theorem BkI.start (n:Nat):BkI n 64:=⟨11,rfl,by decide⟩
theorem BkI.next {n b:Nat} (h:BkI n b) (hb:b < n + 4) (hn:n ≤ 131068):BkI n (2 * b):=by
 obtain ⟨k,hk,he⟩:=h
 cases k with
 | zero => simp at he; omega
 | succ k =>
   refine ⟨k,?_,?_⟩
   · rw [← hk]; show _ = (if b < n + 4 then _ else _); rw [if_pos hb]
   · rw [← he,Nat.pow_succ]; rw [Nat.mul_comm 2 b,Nat.mul_assoc,Nat.mul_comm 2]
theorem BkI.le {n b:Nat} (h:BkI n b):b ≤ 131072:=by
 obtain ⟨k,_,he⟩:=h
 rw [← he]; exact Nat.le_mul_of_pos_right _ (Nat.two_pow_pos _)
theorem BkI.pos {n b:Nat} (h:BkI n b):0 < b:=by
 obtain ⟨k,_,he⟩:=h
 rcases Nat.eq_zero_or_pos b with rfl | h
 · simp at he
 · exact h
theorem BkI.end {n b:Nat} (h:BkI n b) (hb:¬ b < n + 4):b = bkt n:=by
 obtain ⟨k,hk,_⟩:=h
 cases k with
 | zero => exact hk
 | succ k => rw [← hk]; show _ = (if b < n + 4 then _ else _); rw [if_neg hb]
theorem bkt_is (n:Nat) (hn:n ≤ 131068):n + 4 ≤ bkt n ∧ (∃ j,j < 12 ∧ bkt n = 64 * 2 ^ j):=by
 have go:∀ k j b,b = 64 * 2 ^ j → j + k = 11 → n + 4 ≤ bkA n k b ∧ ∃ j,j < 12 ∧ bkA n k b = 64 * 2 ^ j:=by
  intro k
  induction k with
  | zero => intro j b hb hj; obtain rfl:j = 11:=by omega
            refine ⟨?_,11,by decide,hb⟩
            show n + 4 ≤ b
            rw [hb]; show n + 4 ≤ 131072; omega
  | succ k ih =>
    intro j b hb hj
    show n + 4 ≤ (if b < n + 4 then _ else _) ∧ ∃ j,j < 12 ∧ (if b < n + 4 then _ else _) = 64 * 2 ^ j
    by_cases h:b < n + 4
    · rw [if_pos h]
      exact ih (j + 1) (2 * b) (by rw [hb,Nat.pow_succ]; omega) (by omega)
    · rw [if_neg h]
      exact ⟨by omega,j,by omega,hb⟩
 exact go 11 0 64 rfl rfl
theorem bkt_ge {n:Nat} (hn:n ≤ 131068):n + 4 ≤ bkt n:=(bkt_is n hn).1
theorem bkt_le {n:Nat} (hn:n ≤ 131068):bkt n ≤ 131072 ∧ 64 ≤ bkt n:=by
 obtain ⟨_,j,hj,e⟩:=bkt_is n hn
 rw [e]
 have h1:2 ^ j ≤ 2 ^ 11:=Nat.pow_le_pow_right (by decide) (by omega)
 have h2:0 < 2 ^ j:=Nat.two_pow_pos _
 exact ⟨by omega,by omega⟩
def isBk (n:Int):Prop:=n = 64 ∨ n = 128 ∨ n = 256 ∨ n = 512 ∨ n = 1024 ∨ n = 2048 ∨ n = 4096 ∨ n = 8192 ∨ n = 16384 ∨ n = 32768 ∨ n = 65536 ∨ n = 131072
instance (n:Int):Decidable (isBk n):=by unfold isBk; infer_instance
theorem bkt_bk {n:Nat} (hn:n ≤ 131068):isBk (bkt n:Int):=by
 obtain ⟨_,j,hj,e⟩:=bkt_is n hn
 rw [e]
 obtain rfl | rfl | rfl | rfl | rfl | rfl | rfl | rfl | rfl | rfl | rfl | rfl:j = 0 ∨ j = 1 ∨ j = 2 ∨ j = 3 ∨ j = 4 ∨ j = 5 ∨ j = 6 ∨ j = 7 ∨ j = 8 ∨ j = 9 ∨ j = 10 ∨ j = 11:=by omega
 all_goals decide
theorem isBk_iff (n:Int):isBk n ↔ 64 ≤ n ∧ bktI (n - 4) = n:=by
 constructor
 · rintro (rfl | rfl | rfl | rfl | rfl | rfl | rfl | rfl | rfl | rfl | rfl | rfl) <;> decide
 · rintro ⟨h1,h2⟩
   unfold bktI at h2
   split at h2
   · omega
   · rename_i h3
     rw [← h2]
     exact bkt_bk (by omega)
def numL (n:Nat):Nat → List Int
 | 0 => []
 | k + 1 => ((n / 256 ^ k % 256:Nat):Int) :: numL n k
theorem numL_length (n k:Nat):(numL n k).length = k:=by
 induction k with
 | zero => rfl
 | succ k ih => simp [numL,ih]
theorem numL_in (n k:Nat):InB (numL n k):=by
 induction k with
 | zero => intro j; simp [numL]
 | succ k ih =>
   intro j
   cases j with
   | zero => simp [numL]; omega
   | succ j => simpa [numL] using ih j
def be4 (L:List Int):Int:=L.getD 0 0 * 16777216 + L.getD 1 0 * 65536 + L.getD 2 0 * 256 + L.getD 3 0
theorem numL4 (n:Nat):numL n 4 = [((n / 16777216 % 256:Nat):Int),((n / 65536 % 256:Nat):Int),((n / 256 % 256:Nat):Int),((n % 256:Nat):Int)]:=by
 simp [numL]
theorem be4_numL (n:Nat) (h:n < 4294967296):be4 (numL n 4) = n:=by
 rw [numL4]; simp [be4]; omega
theorem be4_in {L:List Int} (h:InB L):0 ≤ be4 L ∧ be4 L < 4294967296:=by
 have:=h 0; have:=h 1; have:=h 2; have:=h 3
 unfold be4; omega
theorem numL_be4 {L:List Int} (h:InB L) (hl:L.length = 4):numL (be4 L).toNat 4 = L:=by
 obtain ⟨a,b,c,d,rfl⟩:∃ a b c d,L = [a,b,c,d]:=by
  match L,hl with
  | [a,b,c,d],_ => exact ⟨a,b,c,d,rfl⟩
 have h0:=h 0; have h1:=h 1; have h2:=h 2; have h3:=h 3
 simp at h0 h1 h2 h3
 rw [numL4]
 simp only [be4,List.getD_cons_zero,List.getD_cons_succ]
 congr 1
 · omega
 congr 1
 · omega
 congr 1
 · omega
 congr 1
 · omega
theorem getD_take4 {L:List Int} {n j:Nat} (h:j < n):(L.take n).getD j 0 = L.getD j 0:=by
 simp [List.getD_eq_getElem?_getD,h]
theorem be4_take (L:List Int):be4 (L.take 4) = be4 L:=by
 unfold be4
 rw [getD_take4 (by decide),getD_take4 (by decide),getD_take4 (by decide),getD_take4 (by decide)]
def zeros (n:Nat):List Int:=List.replicate n 0
theorem zeros_in (n:Nat):InB (zeros n):=by
 intro j; unfold zeros
 rw [List.getD_eq_getElem?_getD,List.getElem?_replicate]; split <;> simp
def padL (L:List Int):List Int:=numL L.length 4 ++ (L ++ zeros (bkt L.length - 4 - L.length))
theorem padL_length {L:List Int} (h:L.length ≤ 131068):(padL L).length = bkt L.length:=by
 have:=bkt_ge h
 simp [padL,numL_length,zeros]; omega
theorem padL_in {L:List Int} (h:InB L):InB (padL L):=(numL_in _ _).append (h.append (zeros_in _))
def unpad (P:List Int):Option (List Int) :=
 if bktI (be4 P) = P.length ∧ P.drop (4 + (be4 P).toNat) = zeros (P.length - (4 + (be4 P).toNat)) then some ((P.drop 4).take (be4 P).toNat) else none
theorem be4_pad (L:List Int) (h:L.length ≤ 131068):be4 (padL L) = L.length:=by
 have e:be4 (padL L) = be4 (numL L.length 4):=by
  rw [← be4_take]; unfold padL
  rw [List.take_append_of_le_length (by rw [numL_length]; exact Nat.le_refl _),List.take_of_length_le (by rw [numL_length]; exact Nat.le_refl _)]
 rw [e,be4_numL _ (by omega)]
theorem pad_drop4 (L:List Int):(padL L).drop 4 = L ++ zeros (bkt L.length - 4 - L.length):=by
 unfold padL
 rw [List.drop_append_of_le_length (by rw [numL_length]; exact Nat.le_refl _),List.drop_of_length_le (by rw [numL_length]; exact Nat.le_refl _),List.nil_append]
theorem unpad_pad (L:List Int) (h:L.length ≤ 131068):unpad (padL L) = some L:=by
 have hg:=bkt_ge h
 unfold unpad
 rw [be4_pad L h,padL_length h,Int.toNat_natCast,if_pos,pad_drop4,List.take_append_of_le_length (Nat.le_refl _),List.take_length]
 refine ⟨?_,?_⟩
 · unfold bktI; rw [if_neg (by omega),Int.toNat_natCast]
 · rw [← List.drop_drop,pad_drop4,List.drop_append_of_le_length (Nat.le_refl _),List.drop_length,List.nil_append]
   congr 1; omega
theorem pad_unpad {P L:List Int} (hP:InB P) (h:unpad P = some L):P = padL L ∧ L.length ≤ 131068 ∧ be4 P = L.length:=by
 unfold unpad at h
 split at h
 · rename_i hc
   obtain ⟨h1,h2⟩:=hc
   cases h
   have hb:=be4_in hP
   obtain ⟨n,hn⟩:∃ n:Nat,be4 P = n:=⟨(be4 P).toNat,by omega⟩
   rw [hn] at h1 h2 ⊢
   rw [Int.toNat_natCast] at h2 ⊢
   have hb1:n ≤ 131068:=by
    unfold bktI at h1
    split at h1
    · exfalso
      have h0:P = []:=List.eq_nil_of_length_eq_zero (by omega)
      subst h0
      have:be4 [] = 0:=by decide
      omega
    · omega
   have hbk:bkt n = P.length:=by
    unfold bktI at h1
    rw [if_neg (by omega),Int.toNat_natCast] at h1; omega
   have hge:=bkt_ge hb1
   have hl:((P.drop 4).take n).length = n:=by rw [List.length_take,List.length_drop]; omega
   refine ⟨?_,by omega,by rw [hl]⟩
   have h4:P = P.take 4 ++ (P.drop 4):=(List.take_append_drop 4 P).symm
   unfold padL
   rw [hl,hbk]
   have e1:numL n 4 = P.take 4:=by
    have:=numL_be4 (L:=P.take 4) (hP.take 4) (by rw [List.length_take]; omega)
    rw [be4_take,hn,Int.toNat_natCast] at this
    exact this
   rw [e1]
   have e2:(P.drop 4).take n ++ zeros (P.length - 4 - n) = P.drop 4:=by
    have h3:P.drop (4 + n) = (P.drop 4).drop n:=by rw [List.drop_drop]
    rw [show P.length - 4 - n = P.length - (4 + n) by omega,← h2,h3,List.take_append_drop]
   rw [e2,List.take_append_drop]
 · cases h
def nonceL (pos ep:Nat):List Int:=numL ep 4 ++ numL pos 8
theorem nonceL_length (pos ep:Nat):(nonceL pos ep).length = 12:=by simp [nonceL,numL_length]
theorem nonceL_in (pos ep:Nat):InB (nonceL pos ep):=(numL_in _ _).append (numL_in _ _)
def encName:List Int:=[101,110,99,114,121,112,116]
def tagName:List Int:=[116,97,103]
def keyL (k nm cx:List Int):List Int:=hmacL k (partL nm ++ partL cx)
def bodyL (k cx:List Int) (pos ep:Nat) (P:List Int):List Int:=Cha.streamL (keyL k encName cx) 1 (nonceL pos ep) P
def taggedL (cx:List Int) (pos ep:Nat) (B:List Int):List Int:=numL cx.length 4 ++ cx ++ numL pos 8 ++ numL ep 4 ++ B
def tagL (k cx:List Int) (pos ep:Nat) (B:List Int):List Int:=hmacL (keyL k tagName cx) (taggedL cx pos ep B)
def sealL (k cx:List Int) (pos ep:Nat) (L:List Int):List Int:=numL ep 4 ++ bodyL k cx pos ep (padL L) ++ tagL k cx pos ep (bodyL k cx pos ep (padL L))
def openL (k cx:List Int) (pos:Nat) (S:List Int):Option (List Int × Nat) :=
 if isBk ((S.length:Int) - 36) then
  if tagL k cx pos (be4 S).toNat ((S.drop 4).take (S.length - 36)) = S.drop (S.length - 32) then
   (unpad (bodyL k cx pos (be4 S).toNat ((S.drop 4).take (S.length - 36)))).map fun L => (L,(be4 S).toNat)
  else none
 else none
theorem most_any (w:World):Calls Tryz.prog 84 #[] w fun e w' => e = .returned (.int .i64 131068) ∧ w = w':=by
 go_enter Tryz.func84,Tryz.ntmps84
 go_wp2
 go_ret
 exact ⟨rfl,rfl⟩
theorem ret_i64 {a b:Int} (h:a = b):Ending.returned (.int .i64 a) = .returned (.int .i64 b):=by rw [h]
set_option maxRecDepth 100000 in
theorem bucket_any (n:Int) (w:World):Calls Tryz.prog 85 #[.int .i64 n] w fun e w' => e = .returned (.int .i64 (bktI n)) ∧ w = w':=by
 by_cases h0:n < 0
 · have e:Hid (0 = bktI n):=by unfold Hid bktI; rw [if_pos (Or.inl h0)]
   go_enter Tryz.func85,Tryz.ntmps85
   go_wp2
   go_ret
   exact ⟨ret_i64 e.out,rfl⟩
 by_cases h1:131068 < n
 · have e:Hid (0 = bktI n):=by unfold Hid bktI; rw [if_pos (Or.inr h1)]
   go_enter Tryz.func85,Tryz.ntmps85
   go_wp2_with (go_at_call 84; refine (most_any _).mono ?_; rintro e w' ⟨rfl,rfl⟩)
   go_ret
   exact ⟨ret_i64 e.out,rfl⟩
 obtain ⟨m,rfl⟩:∃ m:Nat,n = m:=⟨n.toNat,by omega⟩
 have hm:m ≤ 131068:=by omega
 have E:Hid (((bkt m:Nat):Int) = bktI m):=by unfold Hid bktI; rw [if_neg (by omega),Int.toNat_natCast]
 have h1':¬ (131068 < (m:Int)):=by omega
 go_enter Tryz.func85,Tryz.ntmps85
 go_upto_region 4 with (go_at_call 84; refine (most_any _).mono ?_; rintro e w' ⟨rfl,rfl⟩)
 go_loopw [3] (fun v wr => ∃ b:Nat,v = .int .i64 b ∧ Hid (BkI m b) ∧ wr = w) (fun v _ => 131072 - (intOf v).toNat)
 case atStart => exact ⟨64,rfl,BkI.start m,rfl⟩
 case round =>
  obtain ⟨b,rfl,hb,rfl⟩:=hrel
  have hle:=hb.out.le
  have hps:=hb.out.pos
  have hmI:(m:Int) ≤ 131068:=by omega
  have hbI:(b:Int) ≤ 131072:=by omega
  by_cases hlt:b < m + 4
  · have hltI:(b:Int) < 4 + (m:Int):=by omega
    have Hn:=Lib.hid (hb.out.next hlt hm)
    have hn2:=Hn.out.le
    have hn2I:2 * (b:Int) ≤ 131072:=by omega
    go_wp2
    refine ⟨⟨2 * b,by go_num,Hn.out,trivial⟩,by simp [intOf]; omega⟩
  · have hltI:¬ (b:Int) < 4 + (m:Int):=by omega
    have He:=Lib.hid (hb.out.end hlt)
    go_wp2
    go_ret
    exact ⟨ret_i64 (by rw [He.out,E.out]),rfl⟩
theorem isBk_pos {n:Int} (h:isBk n):64 ≤ n ∧ n ≤ 131072 ∧ bktI (n - 4) = n:=by
 refine ⟨((isBk_iff n).1 h).1,?_,((isBk_iff n).1 h).2⟩
 rcases h with rfl | rfl | rfl | rfl | rfl | rfl | rfl | rfl | rfl | rfl | rfl | rfl <;> decide
set_option maxRecDepth 100000 in
theorem isBucket_any (n:Int) (h1:-36 ≤ n) (hmx:n ≤ 9223372036854775807) (w:World):Calls Tryz.prog 106 #[.int .i64 n] w fun e w' => e = .returned (.bool (decide (isBk n))) ∧ w = w':=by
 by_cases h0:n < 64
 · have e:decide (isBk n) = false:=decide_eq_false fun h => by have:=isBk_pos h; omega
   rw [e]
   have h0':¬ (64:Int) ≤ n:=by omega
   go_enter Tryz.func106,Tryz.ntmps106
   go_wp2
   go_ret
   exact ⟨rfl,rfl⟩
 have h0':(64:Int) ≤ n:=by omega
 obtain ⟨z,hz⟩:∃ z,z = bktI (n - 4):=⟨_,rfl⟩
 have hb:Hid (∀ w,Calls Tryz.prog 85 #[.int .i64 (n - 4)] w fun e w' => e = .returned (.int .i64 z) ∧ w = w'):=fun w => by rw [hz]; exact bucket_any (n - 4) w
 have e:decide (isBk n) = decide (z = n):=by
  have:=isBk_iff n
  rw [← hz] at this
  by_cases h2:z = n
  · rw [decide_eq_true h2,decide_eq_true (this.2 ⟨h0',h2⟩)]
  · rw [decide_eq_false h2,decide_eq_false fun h => h2 (this.1 h).2]
 rw [e]
 clear e hz
 by_cases h2:z = n
 · subst h2
   rw [decide_eq_true rfl]
   go_enter Tryz.func106,Tryz.ntmps106
   go_wp2_with (go_at_call 85; refine (hb.out _).mono ?_; rintro e w' ⟨rfl,rfl⟩)
   go_ret
   simp
 · rw [decide_eq_false h2]
   have hne:(z == n) = false:=beq_eq_false_iff_ne.2 h2
   go_enter Tryz.func106,Tryz.ntmps106
   go_wp2_with (go_at_call 85; refine (hb.out _).mono ?_; rintro e w' ⟨rfl,rfl⟩)
   go_ret
   simp
theorem info8:(Tryz.prog.info? 5).map (fun i => (i.zero,i.size,i.bytes)) = some (some (.int .u8 0),1,1):=by kernel_rfl
theorem made_zeros (n:Nat):madeCells (Value.cells (.int .u8 0)) n = u8s (zeros n):=by
 apply Array.ext_getElem?
 intro j
 by_cases h:j < n
 · simp [madeCells,u8s,zeros,h,Value.cells,Nat.mod_one]
 · simp [madeCells,u8s,zeros,h]
theorem mk_any (n:Nat) (hn:n ≤ 4294967296) (w:World):(Instr.makeSlice 38 (.int .i64 n) (.int .i64 n)).run Tryz.prog w = .ok (.slice (some ⟨w.heap.size,0,none⟩) n n) (w.alloc (.cells (u8s (zeros n)) 5)):=by
 obtain ⟨i0,hi,hz0,hz1,hz2⟩:=info_parts info8
 have h:=run_make (P:=Tryz.prog) w 38 5 i0 (.int .u8 0) Tryz.underlying38 hi hz0 .i64 .i64 n n (by omega) (by omega) (by rw [hz2]; omega) (by omega)
 rw [hz1] at h
 rw [h,Int.toNat_natCast,Nat.mul_one,made_zeros]
def numI (n k i:Nat):List Int:=zeros (k - i) ++ numL n i
theorem numI_length {n k i:Nat} (h:i ≤ k):(numI n k i).length = k:=by simp [numI,zeros,numL_length]; omega
theorem numI_set {n k i:Nat} (h:i < k):(numI n k i).set (k - 1 - i) ((n / 256 ^ i % 256:Nat):Int) = numI n k (i + 1):=by
 unfold numI zeros
 obtain ⟨m,hm⟩:∃ m,k - i = m + 1:=⟨k - i - 1,by omega⟩
 rw [hm,show k - 1 - i = m by omega,show k - (i + 1) = m by omega,List.replicate_succ',List.append_assoc,List.set_append_right _ _ (by simp),List.length_replicate,Nat.sub_self]
 rfl
theorem shr_wrap (n i:Nat):(n:Int) / 2 ^ (8 * i) % 256 = ((n / 256 ^ i % 256:Nat):Int):=by
 have e:(2:Int) ^ (8 * i) = ((256 ^ i:Nat):Int):=by
  rw [Int.pow_mul]; simp
 rw [e]; omega
set_option maxRecDepth 100000 in
set_option maxHeartbeats 1000000 in
theorem number_any (n k:Nat) (hk:k ≤ 8) (hn:n < 18446744073709551616) (w:World):Calls Tryz.prog 90 #[.int .u64 (n:Int),.int .i64 (k:Int)] w fun e w' => e = .returned (.slice (some ⟨w.heap.size,0,none⟩) k k) ∧ w'.heap[w.heap.size]? = some (.cells (u8s (numL n k)) 5 (0,0)) ∧ Below w.heap.size w w':=by
 have km:=Lib.hid (fun w => mk_any k (by omega) w)
 have hkI:(k:Int) ≤ 8:=by omega
 have hnI:(n:Int) < 18446744073709551616:=by omega
 go_enter Tryz.func90,Tryz.ntmps90
 have km0:=km.out w
 go_upto_region 3 with (fail)
 have r0:=Go.heap_alloc_new w (.cells (u8s (zeros k)) 5)
 have b0:Below w.heap.size w (w.alloc (.cells (u8s (zeros k)) 5)):=(Below.refl _ _).alloc (Nat.le_refl _) _
 have s0:w.heap.size < (w.alloc (.cells (u8s (zeros k)) 5)).heap.size:=by rw [World.size_alloc]; omega
 clear km0 km
 generalize w.alloc _ = w0 at r0 b0 s0 ⊢
 go_loopw [11] (fun v wr => ∃ i:Nat,i ≤ k ∧ v = .int .i64 i ∧ Hid (wr.heap[w.heap.size]? = some (.cells (u8s (numI n k i)) 5 (0,0))) ∧ Hid (Below w.heap.size w wr)) (fun v _ => k - (intOf v).toNat)
 case atStart => exact ⟨0,Nat.zero_le _,rfl,by show _ = _; rw [r0]; simp [numI,numL],b0⟩
 case round =>
  obtain ⟨i,hi,rfl,hr,hb⟩:=hrel
  clear r0 b0 s0
  by_cases hlt:i < k
  · have hltI:(i:Int) < (k:Int):=by omega
    obtain ⟨j,hj⟩:∃ j,j = k - 1 - i:=⟨_,rfl⟩
    have e:(k:Int) - 1 - (i:Int) = (j:Int):=by omega
    have hjk:(j:Int) < (k:Int):=by omega
    have hjn:j < k:=by omega
    have hset:=numI_set (n:=n) hlt
    rw [← hj] at hset
    have hsh:=shr_wrap n i
    obtain ⟨d,hd⟩:∃ d:Int,d = ((n / 256 ^ i % 256:Nat):Int):=⟨_,rfl⟩
    rw [← hd] at hset hsh
    have hc:=row8_cell hr.out j (by rw [numI_length hi]; exact hjn)
    have hf:=free_row hr.out j
    have Hr2:=row8_set hr.out j d
    rw [hset] at Hr2
    have HR:=Lib.hid Hr2
    have Hset:=Lib.hid hset
    have hiI:(i:Int) < 8:=by omega
    clear Hr2 hset hd hj
    have Hsh:=Lib.hid hsh
    clear hsh
    go_wp2
    rw [Hsh.out]
    exact ⟨⟨i + 1,by omega,by go_num,HR.out,Below.setCell (p:=⟨w.heap.size,j,none⟩) hb.out (Nat.le_refl _) _⟩,by simp [intOf]; omega⟩
  · have hltI:¬ (i:Int) < (k:Int):=by omega
    obtain rfl:i = k:=by omega
    go_wp2
    go_ret
    exact ⟨rfl,by have:=hr.out; rwa [numI,Nat.sub_self,zeros,List.replicate_zero,List.nil_append] at this,hb.out⟩
theorem or_shift8 (a b i:Nat) (hb:b < 2 ^ i):a * 2 ^ i ||| b = a * 2 ^ i + b:=by
 have h:=Nat.shiftLeft_add_eq_or_of_lt hb a
 rw [Nat.shiftLeft_eq] at h
 exact h.symm
theorem u32_sum8 (a b i:Nat) (hb:b < 2 ^ i) (ha:a * 2 ^ i < 4294967296) (hb2:b < 4294967296):bits .or .u32 ((a * 2 ^ i:Nat):Int) (b:Int) = ((a * 2 ^ i + b:Nat):Int):=by
 rw [u32_or_nat _ _ ha hb2,or_shift8 a b i hb]
theorem word4_be (a b c d:Int) (ha:0 ≤ a ∧ a < 256) (hb:0 ≤ b ∧ b < 256) (hc:0 ≤ c ∧ c < 256) (hd:0 ≤ d ∧ d < 256):word4 a b c d = a * 16777216 + b * 65536 + c * 256 + d:=by
 obtain ⟨A,rfl⟩:=Int.eq_ofNat_of_zero_le ha.1
 obtain ⟨B,rfl⟩:=Int.eq_ofNat_of_zero_le hb.1
 obtain ⟨C,rfl⟩:=Int.eq_ofNat_of_zero_le hc.1
 obtain ⟨D,rfl⟩:=Int.eq_ofNat_of_zero_le hd.1
 have h1:=u32_sum8 A (B * 65536) 24 (by omega) (by omega) (by omega)
 have h2:=u32_sum8 (A * 256 + B) (C * 256) 16 (by omega) (by omega) (by omega)
 have h3:=u32_sum8 ((A * 256 + B) * 256 + C) D 8 (by omega) (by omega) (by omega)
 unfold word4
 rw [show ((A:Int) * 16777216) = ((A * 2 ^ 24:Nat):Int) by omega,show ((B:Int) * 65536) = ((B * 65536:Nat):Int) by omega,h1,
  show ((A * 2 ^ 24 + B * 65536:Nat):Int) = (((A * 256 + B) * 2 ^ 16:Nat):Int) by omega,show ((C:Int) * 256) = ((C * 256:Nat):Int) by omega,h2,
  show (((A * 256 + B) * 2 ^ 16 + C * 256:Nat):Int) = ((((A * 256 + B) * 256 + C) * 2 ^ 8:Nat):Int) by omega,h3]
 omega
theorem read_cells (g off len cap:Nat) (a b c d:Int) (hl:4 ≤ len) (w:World)
 (h0:w.cell? ⟨g,off,none⟩ = some (.int .u8 a)) (h1:w.cell? ⟨g,off + 1,none⟩ = some (.int .u8 b)) (h2:w.cell? ⟨g,off + 2,none⟩ = some (.int .u8 c)) (h3:w.cell? ⟨g,off + 3,none⟩ = some (.int .u8 d))
 (ha:0 ≤ a ∧ a < 256) (hb:0 ≤ b ∧ b < 256) (hc:0 ≤ c ∧ c < 256) (hd:0 ≤ d ∧ d < 256) :
 Calls Tryz.prog 107 #[.slice (some ⟨g,off,none⟩) len cap] w fun e w' => e = .returned (.int .u32 (word4 a b c d)) ∧ ∃ n,w' = w.drewN n:=by
 obtain ⟨ha0,ha1⟩:=ha
 obtain ⟨hb0,hb1⟩:=hb
 obtain ⟨hc0,hc1⟩:=hc
 obtain ⟨hd0,hd1⟩:=hd
 have l0:(0:Int) < len:=by omega
 have l1:(1:Int) < len:=by omega
 have l2:(2:Int) < len:=by omega
 have l3:(3:Int) < len:=by omega
 go_enter Tryz.func107,Tryz.ntmps107
 go_wp2
 go_quiet (fail)
 go_wp2
 go_ret
 exact ⟨rfl,nq,rfl⟩
theorem read_any (A:Option Addr) (n cap:Nat) (L:List Int) (w:World) (hB:Byt w A cap L) (hn:4 ≤ n) (hl:4 ≤ L.length) (hb:InB L) :
 Calls Tryz.prog 107 #[.slice A n cap] w fun e w' => e = .returned (.int .u32 (be4 L)) ∧ Below w.heap.size w w':=by
 obtain ⟨g,off,rfl,hg,hc⟩:=hB.2.2 (by omega)
 have h:=read_cells g off n cap _ _ _ _ hn w (hc 0 (by omega)) (hc 1 (by omega)) (hc 2 (by omega)) (hc 3 (by omega)) (hb 0) (hb 1) (hb 2) (hb 3)
 refine h.mono ?_
 rintro e w' ⟨rfl,q,rfl⟩
 refine ⟨?_,Below.drewN (Below.refl _ _) q⟩
 rw [word4_be _ _ _ _ (hb 0) (hb 1) (hb 2) (hb 3)]
 rfl
end Go.Proofs.YteeghgjkjicjoaaGreatDoor.Seal
namespace Go.Proofs.YteeghgjkjicjoaaGreatDoor
open Go.RowKit
structure Chg (S:List Nat) (w w':World):Prop where
 os:w'.os = w.os
 tape:w'.tape = w.tape
 output:w'.output = w.output
 size:w.heap.size ≤ w'.heap.size
 block:∀ k,k < w.heap.size → k ∉ S → w'.heap[k]? = w.heap[k]?
theorem Chg.refl (S:List Nat) (w:World):Chg S w w:=⟨rfl,rfl,rfl,Nat.le_refl _,fun _ _ _ => rfl⟩
theorem Chg.trans {S:List Nat} {a b c:World} (h:Chg S a b) (k:Chg S b c):Chg S a c :=
 ⟨k.os.trans h.os,k.tape.trans h.tape,k.output.trans h.output,Nat.le_trans h.size k.size,fun i hi hS => (k.block i (Nat.lt_of_lt_of_le hi h.size) hS).trans (h.block i hi hS)⟩
theorem Chg.mono {S T:List Nat} {a b:World} (h:Chg S a b) (hs:∀ k ∈ S,k ∈ T ∨ a.heap.size ≤ k):Chg T a b :=
 ⟨h.os,h.tape,h.output,h.size,fun i hi hS => h.block i hi (fun hm => by rcases hs i hm with h | h; exact hS h; omega)⟩
theorem Chg.of_below {S:List Nat} {a b:World} (h:Below a.heap.size a b):Chg S a b:=⟨h.os,h.tape,h.output,h.size,fun k hk _ => h.block k hk⟩
theorem Chg.below {S:List Nat} {B:Nat} {u a b:World} (h:Chg S a b) (hb:Below B u a) (hB:B ≤ a.heap.size) (hS:∀ k ∈ S,B ≤ k):Below B u b :=
 hb.trans ⟨h.os,h.tape,h.output,h.size,fun k hk => h.block k (by omega) (fun hm => by have:=hS k hm; omega)⟩
theorem Chg.setCell {S:List Nat} {a b:World} (h:Chg S a b) {p:Addr} (hp:p.block ∈ S) (u:Value):Chg S a (b.setCell p u) :=
 h.trans ⟨rfl,rfl,rfl,by simp [World.setCell],fun k _ hS => Below.heap_setCell _ _ _ _ (fun e => hS (by rw [e]; exact hp))⟩
theorem Chg.at {S:List Nat} {a b:World} (h:Chg S a b) {g:Nat} {o:Obj} (hg:a.heap[g]? = some o) (hS:g ∉ S):b.heap[g]? = some o :=
 (h.block g (Array.getElem?_eq_some_iff.1 hg).1 hS).trans hg
theorem Chg.setCells {S:List Nat} {a b:World} (h:Chg S a b) {g:Nat} (hp:g ∈ S):∀ (vs:List Value) (o:Nat),Chg S a (b.setCells g o vs):=by
 intro vs
 induction vs generalizing b with
 | nil => exact fun _ => h
 | cons v r ih => exact fun o => ih (h.setCell (p:=⟨g,o,none⟩) hp v) (o + 1)
theorem Byt.chg {S:List Nat} {L:List Int} {A:Option Addr} {c:Nat} {w w':World} (h:Byt w A c L) (hc:Chg S w w') (hS:∀ a,A = some a → a.block ∉ S):Byt w' A c L:=by
 obtain ⟨h1,h2,h3⟩:=h
 refine ⟨h1,h2,fun hl => ?_⟩
 obtain ⟨g,off,hA,hg,hb⟩:=h3 hl
 exact ⟨g,off,hA,Nat.lt_of_lt_of_le hg hc.size,fun j hj => (World.cell?_of_block (hc.block g hg (hS _ hA))).trans (hb j hj)⟩
theorem splice_set {α:Type} (L:List α) (o:Nat) (v:α) (r:List α) (h:o < L.length):splice (L.set o v) (o + 1) r = splice L o (v :: r):=by
 have e1:(L.set o v).take (o + 1) = L.take o ++ [v]:=by
  rw [List.take_succ_eq_append_getElem (by simpa using h),List.take_set_of_le (Nat.le_refl _)]; simp
 have e2:(L.set o v).drop (o + 1 + r.length) = L.drop (o + 1 + r.length):=List.drop_set_of_lt (by omega)
 unfold splice
 rw [e1,e2,List.length_cons,List.append_assoc,show o + 1 + r.length = o + (r.length + 1) by omega]
 rfl
theorem heap_setCells {T:Nat} {g:Nat}:∀ (vs:List Value) (o:Nat) (w:World) (C:Array Value),w.heap[g]? = some (.cells C T (0,0)) → o + vs.length ≤ C.size →
 (w.setCells g o vs).heap[g]? = some (.cells (splice C.toList o vs).toArray T (0,0)):=by
 intro vs
 induction vs with
 | nil => intro o w C h _; simpa [World.setCells,splice] using h
 | cons v r ih =>
   intro o w C h hs
   simp only [List.length_cons] at hs
   rw [World.setCells]
   have h1:(w.setCell ⟨g,o,none⟩ v).heap[g]? = some (.cells (C.setIfInBounds o v) T (0,0)):=heap_setCell_same _ _ _ _ _ _ h
   rw [ih (o + 1) _ _ h1 (by rw [Array.size_setIfInBounds]; omega)]
   rw [Array.toList_setIfInBounds,splice_set C.toList o v r (by rw [Array.length_toList]; omega)]
end Go.Proofs.YteeghgjkjicjoaaGreatDoor
namespace Go.Proofs.YteeghgjkjicjoaaGreatDoor
section
variable {P:Program} {ops:Array Oper} {Q:Exit → Act → World → Prop} {md:Region.Mode}
def Closed (md:Region.Mode) (ops:Array Oper) (l:Array Bool):Prop:=∀ i j,l.getD i false = true → waitsB md ops i j = true → l.getD j false = true
theorem Closed.next {l:Array Bool} (h:Closed md ops l) (i:Nat) (hw:∀ j,waitsB md ops i j = true → l.getD j false = true):Closed md ops (l.setIfInBounds i true):=fun k j hk hj => by
 rcases getD_listed hk with rfl | hk
 · exact getD_set_true (hw j hj)
 · exact getD_set_true (h k j hk hj)
theorem Closed.none (n:Nat):Closed md ops (Array.replicate n false):=fun i j h _ => by
 by_cases hi:i < n <;> simp [Array.getD_eq_getD_getElem?,hi] at h
theorem wpAny_inv2 (I:Array Bool → Act → World → Prop) (hs:∀ l a w,I l a w → l.size = ops.size) (hb:backB md ops = true)
 (hfin:∀ l a w,I l a w → (∀ i,i < ops.size → l.getD i false = true) → Q .normal a w)
 (hstep:∀ l a w i,I l a w → Closed md ops l → i < ops.size → l.getD i false = false → (∀ j,waitsB md ops i j = true → l.getD j false = true) → wpOp P ops Q i (I (l.setIfInBounds i true)) a w)
 (n:Nat) (hn:n = ops.size) (a:Act) (w:World) (h0:I (Array.replicate n false) a w):wpAny P md ops Q n (Array.replicate n false) a w:=by
 subst hn
 refine wpAny_inv (fun l a w => I l a w ∧ Closed md ops l) (fun l a w h => hs l a w h.1) hb (fun l a w h => hfin l a w h.1) ?_ _ _ _ _ (unlisted_none _) ⟨h0,Closed.none _⟩
 intro l a w i h hi hu hw
 exact wpOp_mono (fun a' w' h' => ⟨h',h.2.next i hw⟩) (hstep l a w i h.1 h.2 hi hu hw)
end
theorem not_listed {a b:Bool} (h:a = true → b = true) (hb:b = false):a = false:=by
 cases a with
 | false => rfl
 | true => rw [h rfl] at hb; cases hb
end Go.Proofs.YteeghgjkjicjoaaGreatDoor
namespace Go.Proofs.YteeghgjkjicjoaaGreatDoor
open Go.RowKit
theorem chg_row {S:List Nat} {g:Nat} (w:World) (C:Array Value) (hg:g ∈ S):Chg S w (w.setRow g C) :=
 ⟨rfl,rfl,rfl,by simp [World.setRow],fun k _ hS => setRow_other w g k C (fun e => hS (by rw [e]; exact hg))⟩
theorem infoC1:(Tryz.prog.info? 5).map (·.size) = some 1:=by kernel_rfl
theorem wp_copy_chg {w:World} {o:Oper} {a:Act} {K:Act → World → Prop} {Q:Exit → Act → World → Prop} (d s:Operand)
 (ho:o.op = .call { callee:=.builtin .copy,args:=#[d,s],argTypes:=#[38, 38] })
 (dp:Option Addr) (dLen dCap:Nat) (A:Option Addr) (m c:Nat) (b:List Int) (hd:a.eval d = .slice dp dLen dCap) (hs:a.eval s = .slice A m c) (hm:b.length = m) (hB:Byt w A c b) (hmd:m ≤ dLen)
 (g off:Nat) (cur:List Value) (T:TypeId) (hg:w.heap[g]? = some (.cells cur.toArray T (0,0))) (hdp:0 < m → dp = some ⟨g,off,none⟩) (hfit:off + m ≤ cur.length)
 (h:∀ w',w'.heap[g]? = some (.cells (splice cur off (vals b)).toArray T (0,0)) → Chg [g] w w' → K (a.put o.dst (goInt m)) w') :
 Oper.wp Tryz.prog o a w K Q:=by
 by_cases h0:m = 0
 · subst h0
   obtain rfl:b = []:=List.eq_nil_of_length_eq_zero hm
   have hrun:=run_copy_none (P:=Tryz.prog) w 38 38 o.type 5 dp A dLen dCap 0 c Tryz.underlying38 infoC1 (by simp)
   unfold Oper.wp
   simp [execOp,ho,resolve,invoke,builtin,hd,hs,hrun,Result.andThen]
   exact h w (by simpa [splice,vals] using hg) (Chg.refl _ _)
 · have hdp':=hdp (by omega)
   subst hdp'
   obtain ⟨gb,ob,rfl,hgb,hc⟩:=hB.2.2 (by omega)
   have hv:(vals b).length = m:=by rw [vals_length,hm]
   have hrun:=run_copy_row (P:=Tryz.prog) w 38 38 o.type 5 g off dLen dCap ⟨gb,ob,none⟩ m c cur.toArray T (vals b) Tryz.underlying38 infoC1 hg (by rw [hv]; exact (Nat.min_eq_left hmd).symm)
    (fun j v hj => by obtain ⟨hj',rfl⟩:=vals_get hj; rw [Addr.add_mid]; exact hc j hj') (by rw [hv]; simpa using hfit) (vals_one _)
   unfold Oper.wp
   simp [execOp,ho,resolve,invoke,builtin,hd,hs,hrun,Result.andThen]
   rw [hv]
   refine h _ ?_ (chg_row _ _ (List.mem_singleton.2 rfl))
   rw [setRow_heap w g _ _ T _ hg]
   simp [splice,hv]
theorem wpList_copy_chgT {w:World} {ops:Array Oper} {rest:List Oper} {o:Oper} {a:Act} {Q:Exit → Act → World → Prop} (hgd:o.guard = none) (d s:Operand)
 (ho:o.op = .call { callee:=.builtin .copy,args:=#[d,s],argTypes:=#[38, 38] })
 (dp:Option Addr) (dLen dCap:Nat) (A:Option Addr) (m c:Nat) (b:List Int) (hd:a.eval d = .slice dp dLen dCap) (hs:a.eval s = .slice A m c) (hm:b.length = m) (hB:Byt w A c b) (hmd:m ≤ dLen)
 (g off:Nat) (cur:List Value) (T:TypeId) (hg:w.heap[g]? = some (.cells cur.toArray T (0,0))) (hdp:0 < m → dp = some ⟨g,off,none⟩) (hfit:off + m ≤ cur.length)
 (h:∀ w',w'.heap[g]? = some (.cells (splice cur off (vals b)).toArray T (0,0)) → Chg [g] w w' → wpList Tryz.prog ops Q rest (a.put o.dst (goInt m)) w') :
 wpList Tryz.prog ops Q (o :: rest) a w:=by
 by_cases h0:m = 0
 · subst h0
   obtain rfl:b = []:=List.eq_nil_of_length_eq_zero hm
   refine wpList_copy_nothing hgd d s 38 38 ho 5 Tryz.underlying38 infoC1 dp A dLen dCap 0 c hd hs (by simp) ?_
   exact h w (by simpa [splice,vals] using hg) (Chg.refl _ _)
 · have hdp':=hdp (by omega)
   subst hdp'
   obtain ⟨gb,ob,rfl,hgb,hc⟩:=hB.2.2 (by omega)
   have hv:(vals b).length = m:=by rw [vals_length,hm]
   refine wpList_copy_own hgd d s 38 38 ho 5 Tryz.underlying38 infoC1 g off dLen dCap ⟨gb,ob,none⟩ m c hd hs cur.toArray T hg (vals b) (by rw [hv]; exact (Nat.min_eq_left hmd).symm)
    (fun j v hj => by obtain ⟨hj',rfl⟩:=vals_get hj; rw [Addr.add_mid]; exact hc j hj') (by rw [hv]; simpa using hfit) (vals_one _) ?_
   rw [hv]
   refine h _ ?_ (chg_row _ _ (List.mem_singleton.2 rfl))
   rw [setRow_heap w g _ _ _ _ hg]
   simp [splice,hv]
structure LastR (q:Nat) (W:World) (P:World → Prop) (ll:Array Bool) (wx:World):Prop where
 bef:ll.getD q false = false → Below W.heap.size W wx
 aft:ll.getD q false = true → P wx
theorem LastR.start {q:Nat} {W:World} {P:World → Prop} {n:Nat}:LastR q W P (Array.replicate n false) W.drew :=
 ⟨fun _ => (Below.refl _ _).drew,fun hl => by
  have:(Array.replicate n false).getD q false = false:=by
   by_cases hn:q < n <;> simp [Array.getD_eq_getD_getElem?,hn]
  rw [this] at hl; cases hl⟩
theorem LastR.same {q:Nat} {W wx:World} {P:World → Prop} {ll:Array Bool} {i:Nat} (h:LastR q W P ll wx) (hi:i ≠ q):LastR q W P (ll.setIfInBounds i true) wx :=
 ⟨by rw [getD_set_ne false hi]; exact h.bef,by rw [getD_set_ne false hi]; exact h.aft⟩
theorem LastR.call {q:Nat} {W wx w':World} {P:World → Prop} {ll:Array Bool} {i:Nat} (h:LastR q W P ll wx) (hi:i ≠ q) (hnl:ll.getD q false = false) (hb:Below wx.heap.size wx w'):LastR q W P (ll.setIfInBounds i true) w' :=
 ⟨fun _ => (h.bef hnl).trans (hb.mono (h.bef hnl).size),fun hl => by rw [getD_set_ne false hi,hnl] at hl; cases hl⟩
theorem LastR.done {q:Nat} {W w' wx:World} {P:World → Prop} {ll:Array Bool} (_h:LastR q W P ll wx) (hs:q < ll.size) (hp:P w'):LastR q W P (ll.setIfInBounds q true) w' :=
 ⟨fun hl => by simp [hs] at hl,fun _ => hp⟩
theorem notlisted {ll:Array Bool} {i q:Nat} (hu:ll.getD i false = false) (h:ll.getD q false = true → ll.getD i false = true):ll.getD q false = false:=by
 cases e:ll.getD q false
 · rfl
 · rw [h e] at hu; cases hu
theorem info8z:(Tryz.prog.info? 5).map (fun i => (i.zero,i.size,i.bytes)) = some (some (.int .u8 0),1,1):=by kernel_rfl
theorem vals_app (L M:List Int):vals L ++ vals M = vals (L ++ M):=by simp [vals]
theorem wpList_append_any {w:World} {ops:Array Oper} {rest:List Oper} {o:Oper} {a:Act} {Q:Exit → Act → World → Prop} (hgd:o.guard = none) (s x:Operand)
 (ho:o.op = .call { callee:=.builtin .append,args:=#[s,x],argTypes:=#[38, 38] }) (base:Nat) (v:Value) (n:Nat) (L:List Int) (hs:a.eval s = v) (hown:w.ownsRow base 5 1 v n (vals L))
 (A:Option Addr) (m c:Nat) (M:List Int) (hx:a.eval x = .slice A m c) (hm:M.length = m) (hB:Byt w A c M) (h63:n + m ≤ 4294967296) (hbase:base ≤ w.heap.size)
 (h:∀ v' w',w'.ownsRow base 5 1 v' (n + m) (vals (L ++ M)) → (∀ B u,Below B u w → B ≤ base → Below B u w') → wpList Tryz.prog ops Q rest (a.put o.dst v') w'):wpList Tryz.prog ops Q (o :: rest) a w:=by
 obtain ⟨i0,hi0,hz00,hz10,hz20⟩:=info_parts info8z
 cases A with
 | none =>
   have hc:=hB.2.1 rfl
   have hm0:m = 0:=by have:=hB.1; omega
   subst hc hm0
   obtain rfl:M = []:=List.eq_nil_of_length_eq_zero hm
   refine wpList_append_own_none hgd s x 38 ho base 5 i0 1 Tryz.underlying38 hi0 v n (vals L) hs hown hx ?_
   exact h v w (by simpa using hown) (fun _ _ h _ => h)
 | some ad =>
   refine wpList_append_own_at _ hgd s x 38 ho base 5 i0 (.int .u8 0) 1 1 Tryz.underlying38 hi0 hz00 hz10 hz20 rfl (by decide) v n (vals L) hs hown ad m c (vals M) hx (by rw [vals_length,hm]; omega)
    (hB.cells (fun _ _ => rfl) ad rfl) (vals_one _) (by unfold maxLen; omega) (by omega) hbase ?_
   intro v' w' hown' hgrow _ _
   rw [vals_app] at hown'
   exact h v' w' hown' (fun B u hu hB' => hu.grown hgrow (by omega) (fun k hk => by have:=(hown.lt k hk).1; omega))
end Go.Proofs.YteeghgjkjicjoaaGreatDoor
namespace Go.Proofs.YteeghgjkjicjoaaGreatDoor.Seal
open Go.RowKit
theorem splice_at {α:Type} (X Y Z:List α):splice (X ++ Z) X.length Y = X ++ (Y ++ Z.drop Y.length):=by
 unfold splice
 rw [List.take_left,← List.drop_drop,List.drop_left]
theorem splice_pad (L N:List Int) (hN:N.length = 4) (k:Nat):splice (splice (vals (zeros k)) 0 (vals N)) 4 (vals L) = vals (N ++ (L ++ zeros (k - 4 - L.length))):=by
 have e1:splice (vals (zeros k)) 0 (vals N) = vals N ++ vals (zeros (k - 4)):=by
  have:=splice_at ([]:List Value) (vals N) (vals (zeros k))
  simp only [List.nil_append,List.length_nil] at this
  rw [this]
  simp [vals,zeros,hN]
 have e2:=splice_at (vals N) (vals L) (vals (zeros (k - 4)))
 rw [vals_length,hN] at e2
 rw [e1,e2]
 simp [vals,zeros]
theorem u8s_vals (L:List Int):u8s L = (vals L).toArray:=rfl
set_option maxRecDepth 100000 in
theorem padded_any (A:Option Addr) (n c B:Nat) (L:List Int) (hn:L.length = n) (hm:n ≤ 131068) (hB:B = bkt n) (w:World) (hb:Byt w A c L):Calls Tryz.prog 87 #[.slice A n c,.int .i64 (B:Int)] w fun e w' => e = .returned (.slice (some ⟨w.heap.size,0,none⟩) B B) ∧ w'.heap[w.heap.size]? = some (.cells (u8s (padL L)) 5 (0,0)) ∧ Below w.heap.size w w':=by
 have hge:n + 4 ≤ B:=by rw [hB]; exact bkt_ge hm
 have hle:B ≤ 131072:=by rw [hB]; exact (bkt_le hm).1
 have h64:64 ≤ B:=by rw [hB]; exact (bkt_le hm).2
 have km:=mk_any B (by omega) w
 have Hb:=Lib.hid hb
 have Hn:=Lib.hid hn
 have HB:=Lib.hid hB
 have h4:(4:Int) ≤ B:=by omega
 have h4':¬ B = 4:=by omega
 have h4n:4 ≤ B:=by omega
 clear hb hn hB
 go_enter Tryz.func87,Tryz.ntmps87
 go_upto_region 2 with (fail)
 have r0:=Go.heap_alloc_new w (.cells (u8s (zeros B)) 5)
 have b0:Below w.heap.size w (w.alloc (.cells (u8s (zeros B)) 5)):=(Below.refl _ _).alloc (Nat.le_refl _) _
 have s0:w.heap.size < (w.alloc (.cells (u8s (zeros B)) 5)).heap.size:=by rw [World.size_alloc]; omega
 clear km
 generalize w.alloc _ = w0 at r0 b0 s0 ⊢
 have R0:=Lib.hid r0
 have B0:=Lib.hid b0
 have S0:=Lib.hid s0
 have HN:=Lib.hid (number_any n 4 (by decide) (by omega) w0)
 have hnI:(n:Int) ≤ 131068:=by omega
 clear r0 b0 s0
 go_wp2_with (first
  | (go_at_call 90; refine HN.out.mono ?_; rintro e w1 ⟨rfl,hr1,hb1⟩; have R1:Hid (w1.heap[w.heap.size]? = some (.cells (vals (zeros B)).toArray 5 (0,0))):=(hb1.block _ S0.out).trans R0.out; have B1:=Lib.hid (B0.out.trans (hb1.mono (Nat.le_of_lt S0.out))); have N1:=Lib.hid (byt_rowF hr1 (numL_length n 4)); have S1:=Lib.hid (Nat.lt_of_lt_of_le S0.out hb1.size); clear hr1 hb1)
  | (refine wpList_copy_chgT rfl (.tmp 8) (.tmp 12) rfl _ B B _ 4 4 (numL n 4) (by rfl) (by rfl) (numL_length n 4) N1.out h4n w.heap.size 0 _ 5 R1.out (fun _ => rfl) (by rw [vals_length,zeros,List.length_replicate]; omega) ?_; intro w2 hh2 hc2; have Hh2:=Lib.hid hh2; have Hc2:=Lib.hid hc2; have B2:=Lib.hid (hc2.below B1.out (Nat.le_of_lt S1.out) (fun q hq => by simp at hq; omega)); have Hb2:=Lib.hid (Hb.out.below B2.out (Nat.le_refl _)); have S2:=Lib.hid (Nat.lt_of_lt_of_le S1.out hc2.size); clear hh2 hc2)
  | (refine wpList_copy_chgT rfl (.tmp 15) (.tmp 16) rfl _ (B - 4) (B - 4) _ n c L (by rfl) (by rfl) Hn.out Hb2.out (by omega) w.heap.size 4 _ 5 Hh2.out (fun _ => rfl) (by simp [splice,vals,zeros,numL_length]; omega) ?_; intro w3 hh3 hc3; have Hh3:=Lib.hid hh3; have B3:=Lib.hid (hc3.below B2.out (Nat.le_of_lt S2.out) (fun q hq => by simp at hq; omega)); clear hh3 hc3))
 go_ret
 refine ⟨rfl,?_,B3.out⟩
 rw [Hh3.out,u8s_vals,splice_pad L _ (numL_length n 4) B,padL,Hn.out,← HB.out]
def catL (ps:List Part):List Int:=ps.flatMap (·.M)
theorem catL_snoc (ps:List Part) (j:Nat) (h:j < ps.length):catL (ps.take (j + 1)) = catL (ps.take j) ++ ps[j].M:=by
 unfold catL
 rw [List.take_succ_eq_append_getElem h,List.flatMap_append]
 simp
theorem catL_le (ps:List Part) (j:Nat):(catL (ps.take j)).length ≤ (catL ps).length:=by
 have:catL ps = catL (ps.take j) ++ (ps.drop j).flatMap (·.M):=by
  unfold catL
  rw [← List.flatMap_append,List.take_append_drop]
 rw [this,List.length_append]
 omega
set_option maxRecDepth 100000 in
theorem joined_any (Ap:Option Addr) (m c:Nat) (ps:List Part) (hm:ps.length = m) (hx:m ≤ 100) (w:World) (hP:PartsAt w Ap ps) (hT:(catL ps).length ≤ 400000):Calls Tryz.prog 89 #[.slice Ap m c] w fun e w' => ∃ v,e = .returned v ∧ w'.ownsRow w.heap.size 5 1 v (catL ps).length (vals (catL ps)) ∧ Below w.heap.size w w':=by
 have HP:=Lib.hid hP
 have Hm:=Lib.hid hm
 have HT:=Lib.hid hT
 clear hP hm hT
 go_enter Tryz.func89,Tryz.ntmps89
 go_wp2
 go_loopw [3,8] (fun v i wr => ∃ j:Nat,j ≤ m ∧ i = .int .i64 j ∧ Hid (wr.ownsRow w.heap.size 5 1 v (catL (ps.take j)).length (vals (catL (ps.take j)))) ∧ Hid (Below w.heap.size w wr)) (fun _ i _ => m - (intOf i).toNat)
 case atStart => exact ⟨0,Nat.zero_le _,rfl,by show World.ownsRow _ _ _ _ _ _ _; simpa [catL,vals] using World.ownsRow_nil w w.heap.size 5 1,Below.refl _ _⟩
 case round =>
  obtain ⟨j,hj,rfl,own,low⟩:=hrel
  by_cases hlt:j < m
  · have hltp:j < ps.length:=by have:=Hm.out; omega
    obtain ⟨g,off,rfl,hg,hcell⟩:=HP.out.row j hltp
    obtain ⟨hpb,hpi⟩:=HP.out.byt j hltp
    have hsn:=catL_snoc ps j hltp
    have hle:=catL_le ps (j + 1)
    obtain ⟨p,hp⟩:∃ p,p = ps[j]:=⟨_,rfl⟩
    rw [← hp] at hcell hpb hsn
    obtain ⟨pA,pc,pM⟩:=p
    have cc:wr.cell? ⟨g,off + j,none⟩ = some (.slice pA pM.length pc):=(low.out.cell (p:=⟨g,off + j,none⟩) hg).trans hcell
    obtain ⟨C,hC⟩:∃ C,C = catL (ps.take j):=⟨_,rfl⟩
    have own':=own.out
    rw [← hC] at own' hsn
    have hbd:C.length + pM.length ≤ 400000:=by
     have h1:(catL (ps.take (j + 1))).length = C.length + pM.length:=by rw [hsn,List.length_append]
     have:=HT.out
     omega
    have Own':=Lib.hid own'
    have Hpb:=Lib.hid (hpb.below low.out (Nat.le_refl _))
    have Hsn:=Lib.hid hsn
    have hltI:(j:Int) < m:=by omega
    have hsz:=low.out.size
    clear own own' hcell hpb hpi hp hC hsn hle
    go_wp2_with (at_builtin; refine wpList_append_any rfl (.tmp 12) (.tmp 13) rfl w.heap.size _ C.length C rfl Own'.out pA pM.length pc pM rfl rfl Hpb.out (by omega) hsz ?_; intro v3 w3 own3 hlow3; have Own3:=Lib.hid own3; have Low3:=Lib.hid (hlow3 _ _ low.out (Nat.le_refl _)); clear own3 hlow3)
    go_roundw
    case rel => exact ⟨j + 1,by omega,by go_num,by have h:=Own3.out; show World.ownsRow _ _ _ _ _ _ _; rw [Hsn.out,List.length_append]; exact h,Low3⟩
    case measure => simp [intOf]; omega
  · obtain rfl:j = m:=by omega
    have own':=own.out
    rw [List.take_of_length_le (by rw [Hm.out]; exact Nat.le_refl _)] at own'
    have Own':=Lib.hid own'
    have hltI:¬ (j:Int) < (j:Int):=by omega
    clear own own'
    go_wp2
    go_ret
    exact ⟨_,rfl,Own'.out,low.out⟩
end Go.Proofs.YteeghgjkjicjoaaGreatDoor.Seal
namespace Go.Proofs.YteeghgjkjicjoaaGreatDoor
open Go.RowKit
def SlB (L:List Int) (v:Value) (w:World):Prop:=∃ A c,v = .slice A L.length c ∧ Byt w A c L
theorem SlB.later {L:List Int} {v:Value} {w w':World} (h:SlB L v w) (hb:Below w.heap.size w w'):SlB L v w':=by
 obtain ⟨A,c,e,b⟩:=h
 exact ⟨A,c,e,b.below hb (Nat.le_refl _)⟩
theorem SlB.at {L:List Int} {v:Value} {B:Nat} {w w':World} (h:SlB L v w) (hb:Below B w w') (hB:w.heap.size ≤ B):SlB L v w':=h.later (hb.mono hB)
def Whn (l:Array Bool) (i:Nat) (p:Value → World → Prop) (v:Value) (w:World):Prop:=l.getD i false = true → p v w
theorem Whn.get {l:Array Bool} {i:Nat} {p:Value → World → Prop} {v:Value} {w:World} (h:Whn l i p v w) (hl:l.getD i false = true):p v w:=h hl
theorem Whn.keep {l:Array Bool} {i k:Nat} {p:Value → World → Prop} {v:Value} {w:World} (h:Whn l i p v w) (hne:i ≠ k):Whn (l.setIfInBounds k true) i p v w:=fun hl => h ((getD_listed hl).resolve_left hne)
theorem Whn.map {l:Array Bool} {i:Nat} {p:Value → World → Prop} {v:Value} {w w':World} (h:Whn l i p v w) (f:p v w → p v w'):Whn l i p v w':=fun hl => f (h hl)
theorem Whn.done {l:Array Bool} {i:Nat} {p:Value → World → Prop} {v:Value} {w:World} (h:p v w):Whn l i p v w:=fun _ => h
theorem Whn.none {n i:Nat} {p:Value → World → Prop} {v:Value} {w:World} (h:(Array.replicate n false).getD i false = false):Whn (Array.replicate n false) i p v w:=fun hl => by rw [h] at hl; cases hl
theorem wpOp_want {P:Program} {ops:Array Oper} {Q:Exit → Act → World → Prop} {i:Nat} {o:Oper} {K:Act → World → Prop} {a:Act} {w:World} (ho:ops[i]? = some o) (hg:Region.wanted o (yielded ops a.tmps) = true) (h:Oper.wp P o a w K Q):wpOp P ops Q i K a w :=
 wpOp_step ho (fun K' hK' => by rw [if_pos hg]; exact Oper.wp_mono hK' h)
def Whu (l:Array Bool) (i q:Nat) (p:Value → World → Prop) (v:Value) (w:World):Prop:=l.getD i false = true → l.getD q false = false → p v w
theorem Whu.get {l:Array Bool} {i q:Nat} {p:Value → World → Prop} {v:Value} {w:World} (h:Whu l i q p v w) (hl:l.getD i false = true) (hq:l.getD q false = false):p v w:=h hl hq
theorem Whu.keep {l:Array Bool} {i q k:Nat} {p:Value → World → Prop} {v:Value} {w:World} (h:Whu l i q p v w) (hne:i ≠ k):Whu (l.setIfInBounds k true) i q p v w:=fun hl hq => h ((getD_listed hl).resolve_left hne) (by
 cases e:l.getD q false with
 | false => rfl
 | true => rw [getD_set_true e] at hq; cases hq)
theorem Whu.map {l:Array Bool} {i q:Nat} {p:Value → World → Prop} {v:Value} {w w':World} (h:Whu l i q p v w) (f:p v w → p v w'):Whu l i q p v w':=fun hl hq => f (h hl hq)
theorem Whu.done {l:Array Bool} {i q:Nat} {p:Value → World → Prop} {v:Value} {w:World} (h:p v w):Whu l i q p v w:=fun _ _ => h
theorem Whu.none {n i q:Nat} {p:Value → World → Prop} {v:Value} {w:World} (h:(Array.replicate n false).getD i false = false):Whu (Array.replicate n false) i q p v w:=fun hl => by rw [h] at hl; cases hl
theorem Whu.past {l:Array Bool} {i q:Nat} {p:Value → World → Prop} {v:Value} {w:World} (hq:q < l.size):Whu (l.setIfInBounds q true) i q p v w:=fun _ h => by
 simp [hq] at h
theorem Whu.gone {l:Array Bool} {i q k:Nat} {p:Value → World → Prop} {v:Value} {w:World} (h:l.getD q false = true):Whu (l.setIfInBounds k true) i q p v w:=fun _ hq => by rw [getD_set_true h] at hq; cases hq
theorem Whn.never {l:Array Bool} {i k:Nat} {p:Value → World → Prop} {v:Value} {w:World} (hne:i ≠ k) (h:l.getD i false = true → l.getD k false = true) (hu:l.getD k false = false):Whn (l.setIfInBounds k true) i p v w:=fun hl => by
 have:=h ((getD_listed hl).resolve_left hne)
 rw [this] at hu
 cases hu
end Go.Proofs.YteeghgjkjicjoaaGreatDoor
