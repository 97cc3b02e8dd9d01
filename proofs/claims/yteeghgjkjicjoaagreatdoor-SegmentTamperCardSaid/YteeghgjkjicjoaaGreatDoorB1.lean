/- Texts of ours, merged. -/
import Derived.Laws.BitsAllLaws
import Derived.WalkKit
import Derived.KernelRfl
import Derived.Below
import Derived.Lib.Hide
import Derived.IntWalk
import Derived.Laws.ResultCell
import Derived.Laws.Rows
import Derived.Deep.MidRow
import Derived.Test.YteeghgjkjicjoaaGreatDoorProg
import Derived.Outline
import Derived.Deep.QuietTactic
import Derived.BigQuiet
import Derived.StillTailTactics
import Derived.Laws.Tables
import Derived.Deep.DeepMust
import Derived.Laws.CopyOwn
import Derived.Deep.WholeRow
import Derived.OwnWalk
import Derived.Laws.MakeOwn
namespace Go.Proofs.YteeghgjkjicjoaaGreatDoor
open Go.RowKit
def u32s (l:List Int):Array Value:=(l.map (Value.int .u32)).toArray
def u8s (l:List Int):Array Value:=(l.map (Value.int .u8)).toArray
theorem u32s_size (l:List Int):(u32s l).size = l.length:=by simp [u32s]
theorem u8s_size (l:List Int):(u8s l).size = l.length:=by simp [u8s]
theorem u32s_get (l:List Int) (j:Nat) (h:j < l.length):(u32s l)[j]? = some (.int .u32 (l.getD j 0)):=by simp [u32s,h]
theorem u8s_get (l:List Int) (j:Nat) (h:j < l.length):(u8s l)[j]? = some (.int .u8 (l.getD j 0)):=by simp [u8s,h]
def Holds (S:Array Value) (n k:Nat) (f:Nat → Int):Prop:=S.size = n ∧ ∀ j,j < k → S[j]? = some (.int .u32 (f j))
theorem Holds.nil (S:Array Value) (n:Nat) (f:Nat → Int) (h:S.size = n):Holds S n 0 f:=⟨h,fun _ h => absurd h (Nat.not_lt_zero _)⟩
theorem Holds.set {S:Array Value} {n k:Nat} {f:Nat → Int} (h:Holds S n k f) (hk:k < n) (v:Int) (hv:v = f k):Holds (S.setIfInBounds k (.int .u32 v)) n (k + 1) f:=by
 refine ⟨by simp [h.1],fun j hj => ?_⟩
 rw [Array.getElem?_setIfInBounds]
 by_cases e:k = j
 · subst e; rw [if_pos rfl,if_pos (by rw [h.1]; exact hk),hv]
 · rw [if_neg e]; exact h.2 j (by omega)
theorem Holds.whole {S:Array Value} {n:Nat} {f:Nat → Int} {l:List Int} (h:Holds S n n f) (hl:l.length = n) (hf:∀ j,j < n → f j = l.getD j 0):S = u32s l:=by
 apply Array.ext_getElem?
 intro j
 by_cases hj:j < n
 · rw [h.2 j hj,u32s_get l j (by omega),hf j hj]
 · rw [Array.getElem?_eq_none (by rw [h.1]; omega),Array.getElem?_eq_none (by rw [u32s_size]; omega)]

def InB (l:List Int):Prop:=∀ j,0 ≤ l.getD j 0 ∧ l.getD j 0 < 256
theorem u32s_one (l:List Int):(u32s l).all (·.oneCell') = true:=by
 rw [Array.all_eq_true_iff_forall_mem]
 intro v hv
 simp only [u32s,List.mem_toArray,List.mem_map] at hv
 obtain ⟨x,_,rfl⟩:=hv
 rfl
theorem cell_row {w:World} {g:Nat} {C:Array Value} {t:TypeId} {fr:Nat × Nat} (h:w.heap[g]? = some (.cells C t fr)) (j:Nat):w.cell? ⟨g,j,none⟩ = C[j]?:=by
 simp [World.cell?,h]
theorem free_row {w:World} {g:Nat} {C:Array Value} {t:TypeId} (h:w.heap[g]? = some (.cells C t (0,0))) (j:Nat):w.frozen? ⟨g,j,none⟩ = false:=by
 simp [World.frozen?,h]
theorem three_new (w:World) (A B C:Obj):(((w.alloc A).alloc B).alloc C).heap[w.heap.size]? = some A ∧ (((w.alloc A).alloc B).alloc C).heap[w.heap.size + 1]? = some B ∧ (((w.alloc A).alloc B).alloc C).heap[w.heap.size + 1 + 1]? = some C:=by
 refine ⟨?_,?_,?_⟩
 · exact (Go.heap_alloc_old ((w.alloc A).alloc B) C (by simp; omega)).trans (heap_alloc2_old w A B)
 · exact (Go.heap_alloc_old ((w.alloc A).alloc B) C (by simp)).trans (heap_alloc2_new w A B)
 · have:=heap_alloc_new ((w.alloc A).alloc B) C
   simpa using this
theorem below3 (w:World) (A B C:Obj):Below w.heap.size w (((w.alloc A).alloc B).alloc C) :=
 (((Below.refl _ _).alloc (Nat.le_refl _) _).alloc (by simp) _).alloc (by simp; omega) _
def HoldsB (S:Array Value) (n k:Nat) (f:Nat → Int):Prop:=S.size = n ∧ ∀ j,j < k → S[j]? = some (.int .u8 (f j))
theorem HoldsB.nil (S:Array Value) (n:Nat) (f:Nat → Int) (h:S.size = n):HoldsB S n 0 f:=⟨h,fun _ h => absurd h (Nat.not_lt_zero _)⟩
theorem HoldsB.set {S:Array Value} {n k:Nat} {f:Nat → Int} (h:HoldsB S n k f) (hk:k < n) (v:Int) (hv:v = f k):HoldsB (S.setIfInBounds k (.int .u8 v)) n (k + 1) f:=by
 refine ⟨by simp [h.1],fun j hj => ?_⟩
 rw [Array.getElem?_setIfInBounds]
 by_cases e:k = j
 · subst e; rw [if_pos rfl,if_pos (by rw [h.1]; exact hk),hv]
 · rw [if_neg e]; exact h.2 j (by omega)
theorem HoldsB.whole {S:Array Value} {n:Nat} {f:Nat → Int} {l:List Int} (h:HoldsB S n n f) (hl:l.length = n) (hf:∀ j,j < n → f j = l.getD j 0):S = u8s l:=by
 apply Array.ext_getElem?
 intro j
 by_cases hj:j < n
 · rw [h.2 j hj,u8s_get l j (by omega),hf j hj]
 · rw [Array.getElem?_eq_none (by rw [h.1]; omega),Array.getElem?_eq_none (by rw [u8s_size]; omega)]
theorem u8s_one (l:List Int):(u8s l).all (·.oneCell') = true:=by
 rw [Array.all_eq_true_iff_forall_mem]
 intro v hv
 simp only [u8s,List.mem_toArray,List.mem_map] at hv
 obtain ⟨x,_,rfl⟩:=hv
 rfl
def Byt (w:World) (A:Option Addr) (c:Nat) (L:List Int):Prop:=L.length ≤ c ∧ (A = none → c = 0) ∧ (0 < L.length → ∃ g off,A = some ⟨g,off,none⟩ ∧ g < w.heap.size ∧ ∀ j,j < L.length → w.cell? ⟨g,off + j,none⟩ = some (.int .u8 (L.getD j 0)))
def vals (L:List Int):List Value:=L.map (Value.int .u8)
theorem vals_one (L:List Int):∀ u ∈ vals L,u.oneCell' = true:=by
 intro u hu
 simp only [vals,List.mem_map] at hu
 obtain ⟨x,_,rfl⟩:=hu
 rfl
theorem vals_length (L:List Int):(vals L).length = L.length:=by simp [vals]
theorem vals_get {L:List Int} {j:Nat} {u:Value} (h:(vals L)[j]? = some u):j < L.length ∧ u = .int .u8 (L.getD j 0):=by
 have hj:j < L.length:=by have:=(List.getElem?_eq_some_iff.1 h).1; rwa [vals_length] at this
 refine ⟨hj,?_⟩
 simp [vals,hj] at h
 simp [← h,hj]
theorem Byt.cells {w w':World} {A:Option Addr} {c:Nat} {L:List Int} (h:Byt w A c L) (hb:∀ p:Addr,p.block < w.heap.size → w'.cell? p = w.cell? p) (ad:Addr) (hA:A = some ad) :
 ∀ j u,(vals L)[j]? = some u → w'.cell? (ad.add j) = some u:=by
 intro j u hu
 obtain ⟨hj,rfl⟩:=vals_get hu
 obtain ⟨g,off,hA',hg,hc⟩:=h.2.2 (by omega)
 rw [hA] at hA'
 obtain rfl:=Option.some.inj hA'
 rw [Addr.add_mid,hb _ hg]
 exact hc j hj
theorem Byt.below {w w':World} {B c:Nat} {A:Option Addr} {L:List Int} (h:Byt w A c L) (hb:Below B w w') (hB:w.heap.size ≤ B):Byt w' A c L :=
 ⟨h.1,h.2.1,fun hl => by
  obtain ⟨g,off,hA,hg,hc⟩:=h.2.2 hl
  exact ⟨g,off,hA,Nat.lt_of_lt_of_le hg hb.size,fun j hj => (hb.cell (p:=⟨g,off + j,none⟩) (Nat.lt_of_lt_of_le hg hB)).trans (hc j hj)⟩⟩
theorem two_new (w:World) (A B:Obj):((w.alloc A).alloc B).heap[w.heap.size]? = some A ∧ ((w.alloc A).alloc B).heap[w.heap.size + 1]? = some B:=⟨heap_alloc2_old w A B,heap_alloc2_new w A B⟩
theorem getD_out (L:List Int) (j:Nat) (h:L.length ≤ j):L.getD j 0 = 0:=by simp [List.getD_eq_getElem?_getD,List.getElem?_eq_none h]
theorem InB.drop {L:List Int} (h:InB L) (n:Nat):InB (L.drop n):=by
 intro j
 have:=h (n + j)
 simpa [List.getD_eq_getElem?_getD,List.getElem?_drop] using this
theorem InB.take {L:List Int} (h:InB L) (n:Nat):InB (L.take n):=by
 intro j
 by_cases hj:j < n
 · have:=h j
   simpa [List.getD_eq_getElem?_getD,List.getElem?_take,hj] using this
 · simp [List.getD_eq_getElem?_getD,List.getElem?_take,hj]
theorem Byt.cut {w:World} {A:Option Addr} {c n:Nat} {L:List Int} (h:Byt w A c L) (hn:n ≤ L.length):Byt w (if c = n then A else A.map (·.add n)) (c - n) (L.drop n):=by
 refine ⟨by have:=h.1; simp; omega,fun hA => ?_,fun hl => ?_⟩
 · have h1:=h.1
   by_cases e:c = n
   · omega
   · rw [if_neg e] at hA
     have:A = none:=by cases A <;> simp_all
     have:=h.2.1 this
     omega
 · have h1:=h.1
   simp at hl
   obtain ⟨g,off,rfl,hg,hc⟩:=h.2.2 (by omega)
   rw [if_neg (by omega)]
   refine ⟨g,off + n,by simp [Addr.add_mid],hg,fun j hj => ?_⟩
   rw [show off + n + j = off + (n + j) by omega,hc (n + j) (by simp at hj; omega)]
   simp [List.getD_eq_getElem?_getD,List.getElem?_drop]
theorem results_row_tmp {P:Program} {fn:Func} {p u:Tmp} {ty:TypeId} (h:fn.results = #[.cell p ty,.tmp u]) (tmps:Array Value) (w:World) (g:Nat) (t:TypeId) (cs:Array Value) (fr:Nat × Nat) (d:TypeDesc) (x:Value)
 (hp:tmps.getD p undef = .pointer (some ⟨g,0,none⟩)) (hx:tmps.getD u undef = x) (hg:w.heap[g]? = some (.cells cs t fr))
 (hu:P.underlying ty = some d) (hd:(match d with | .struct _ | .array _ _ => true | _ => false) = true) (hi:(P.info? ty).map (·.size) = some cs.size) :
 (results fn tmps).run P w = .ok (.tuple #[.agg cs,x]) w:=by
 rw [results_cell_tmp h,hp,hx]
 simp [asAddr,run_loadVar_row w g t ty cs fr d hg hu hd hi]
theorem Byt.alloc {w:World} {A:Option Addr} {c:Nat} {l:List Int} (h:Byt w A c l) (o:Obj):Byt (w.alloc o) A c l:=h.below ((Below.refl w.heap.size w).alloc (Nat.le_refl _) o) (Nat.le_refl _)
theorem InB.append {L M:List Int} (h:InB L) (k:InB M):InB (L ++ M):=by
 intro j
 by_cases hj:j < L.length
 · have:=h j; simpa [List.getD_eq_getElem?_getD,List.getElem?_append_left hj] using this
 · have:=k (j - L.length); simpa [List.getD_eq_getElem?_getD,List.getElem?_append_right (Nat.le_of_not_lt hj)] using this
end Go.Proofs.YteeghgjkjicjoaaGreatDoor
namespace Go.Proofs.YteeghgjkjicjoaaGreatDoor
def rotr (x:Int) (n:Nat):Int:=bits .or .u32 (x * 2 ^ (32 - n) % 4294967296) (x / 2 ^ n)
def word4 (a b c d:Int):Int:=bits .or .u32 (bits .or .u32 (bits .or .u32 (a * 16777216) (b * 65536)) (c * 256)) d
def xr (a b:Int):Int:=bits .xor .u32 a b
def ad (a b:Int):Int:=(a + b) % 4294967296
def s0 (x:Int):Int:=xr (xr (rotr x 7) (rotr x 18)) (x / 8)
def s1 (x:Int):Int:=xr (xr (rotr x 17) (rotr x 19)) (x / 1024)
def nextW (f:Nat → Int) (i:Nat):Int:=(f (i - 16) + s0 (f (i - 15)) + f (i - 7) + s1 (f (i - 2))) % 4294967296
def schedN (l:List Int):Nat → List Int
 | 0 => (List.range 16).map fun i => word4 (l.getD (4 * i) 0) (l.getD (4 * i + 1) 0) (l.getD (4 * i + 2) 0) (l.getD (4 * i + 3) 0)
 | n + 1 => schedN l n ++ [nextW (fun j => (schedN l n).getD j 0) (16 + n)]
theorem schedN_length (l:List Int) (n:Nat):(schedN l n).length = 16 + n:=by
 induction n with
 | zero => simp [schedN]
 | succ n ih => simp [schedN,ih]; omega
theorem schedN_getD (l:List Int) (n m j:Nat) (h:n ≤ m) (hj:j < 16 + n):(schedN l m).getD j 0 = (schedN l n).getD j 0:=by
 induction m with
 | zero => obtain rfl:n = 0:=by omega
           rfl
 | succ m ih =>
   by_cases e:n = m + 1
   · rw [e]
   · have hl:=schedN_length l m
     rw [← ih (by omega)]
     simp only [schedN,List.getD_eq_getElem?_getD]
     rw [List.getElem?_append_left (by omega)]
def sched (l:List Int):List Int:=schedN l 48
def W (l:List Int) (j:Nat):Int:=(sched l).getD j 0
theorem sched_length (l:List Int):(sched l).length = 64:=schedN_length l 48
theorem W_lt (l:List Int) (j:Nat) (h:j < 16):W l j = word4 (l.getD (4 * j) 0) (l.getD (4 * j + 1) 0) (l.getD (4 * j + 2) 0) (l.getD (4 * j + 3) 0):=by
 unfold W sched
 rw [schedN_getD l 0 48 j (by omega) (by omega)]
 simp [schedN,List.getD_eq_getElem?_getD,h]
theorem nextW_congr (f g:Nat → Int) (i:Nat) (h:16 ≤ i) (e:∀ j,j < i → f j = g j):nextW f i = nextW g i:=by
 unfold nextW
 rw [e (i - 16) (by omega),e (i - 15) (by omega),e (i - 7) (by omega),e (i - 2) (by omega)]
theorem W_ge (l:List Int) (j:Nat) (h:16 ≤ j) (h':j < 64):W l j = nextW (W l) j:=by
 obtain ⟨n,rfl⟩:∃ n,j = 16 + n:=⟨j - 16,by omega⟩
 have hl:=schedN_length l n
 have e:W l (16 + n) = nextW (fun j => (schedN l n).getD j 0) (16 + n):=by
  unfold W sched
  rw [schedN_getD l (n + 1) 48 (16 + n) (by omega) (by omega)]
  simp only [schedN,List.getD_eq_getElem?_getD]
  rw [List.getElem?_append_right (by omega),hl]
  simp
 rw [e]
 refine nextW_congr _ _ _ h fun i hi => ?_
 unfold W sched
 exact (schedN_getD l n 48 i (by omega) hi).symm
theorem W_of_sched (l:List Int) (j:Nat):W l j = (sched l).getD j 0:=rfl
attribute [irreducible] W sched rotr

structure W8 where
 a:Int
 b:Int
 c:Int
 d:Int
 e:Int
 f:Int
 g:Int
 h:Int
def W8.list (s:W8):List Int:=[s.a,s.b,s.c,s.d,s.e,s.f,s.g,s.h]
def choice (e f g:Int):Int:=xr (bits .and .u32 e f) (bits .and .u32 (bits .xor .u32 IntKind.u32.max e) g)
def majority (a b c:Int):Int:=xr (xr (bits .and .u32 a b) (bits .and .u32 a c)) (bits .and .u32 b c)
def roundU (s:W8) (k w:Int):Int:=(s.h + xr (xr (rotr s.e 6) (rotr s.e 11)) (rotr s.e 25) + choice s.e s.f s.g + k + w) % 4294967296
def roundV (s:W8):Int:=(xr (xr (rotr s.a 2) (rotr s.a 13)) (rotr s.a 22) + majority s.a s.b s.c) % 4294967296
def round (s:W8) (k w:Int):W8:=⟨ad (roundU s k w) (roundV s),s.a,s.b,s.c,ad s.d (roundU s k w),s.e,s.f,s.g⟩
def rounds (K:List Int) (l:List Int) (s:W8):Nat → W8
 | 0 => s
 | n + 1 => round (rounds K l s n) (K.getD n 0) (W l n)
theorem rounds_step {K l:List Int} {s t:W8} {k:Nat} {x:Int} (h:rounds K l s k = t) (hx:x = K.getD k 0):rounds K l s (k + 1) = round t x (W l k):=by
 rw [← h,hx]; rfl
def mixK (K:List Int) (s:W8) (l:List Int):W8 :=
 let t:=rounds K l s 64
 ⟨ad s.a t.a,ad s.b t.b,ad s.c t.c,ad s.d t.d,ad s.e t.e,ad s.f t.f,ad s.g t.g,ad s.h t.h⟩
theorem mixK_eq {K l:List Int} {s t:W8} (h:rounds K l s 64 = t):mixK K s l = ⟨ad s.a t.a,ad s.b t.b,ad s.c t.c,ad s.d t.d,ad s.e t.e,ad s.f t.f,ad s.g t.g,ad s.h t.h⟩:=by
 unfold mixK; rw [h]
end Go.Proofs.YteeghgjkjicjoaaGreatDoor
namespace Go.Proofs.YteeghgjkjicjoaaGreatDoor
open Go.RowKit
theorem and31_all:∀ n:Fin 32,1 ≤ n.val → bits .and .u64 (IntKind.u64.wrap (-(n.val:Int))) 31 = ((32 - n.val:Nat):Int):=by decide +kernel
theorem and31 (n:Nat) (h1:1 ≤ n) (h2:n ≤ 31):bits .and .u64 (IntKind.u64.wrap (-(n:Int))) 31 = ((32 - n:Nat):Int):=and31_all ⟨n,by omega⟩ h1
theorem ret_u32 {a b:Int} (h:a = b):Ending.returned (.int .u32 a) = .returned (.int .u32 b):=by rw [h]
theorem rotr_eq (x:Int) (n m:Nat) (h2:n ≤ 31) (hm:m = 32 - n):bits .or .u32 (x * 2 ^ m % 4294967296) (x / 2 ^ (32 - m)) = rotr x n:=by
 unfold rotr; rw [hm,show 32 - (32 - n) = n by omega]
set_option maxHeartbeats 400000 in
theorem rotl_any (x:Int) (n:Nat) (h1:1 ≤ n) (h2:n ≤ 31) (w:World) :
 Calls Tryz.prog 166 #[.int .u32 x,.int .i64 (-(n:Int))] w fun e w' => e = .returned (.int .u32 (rotr x n)) ∧ w = w':=by
 have hs:=and31 n h1 h2
 obtain ⟨m,hm⟩:∃ m,m = 32 - n:=⟨_,rfl⟩
 rw [← hm] at hs
 have hm1:m ≤ 31:=by omega
 have hm2:1 ≤ m:=by omega
 have Hm:Hid (m = 32 - n):=hm
 clear hm
 go_enter Tryz.func166,Tryz.ntmps166
 go_wp2
 go_ret
 exact ⟨ret_u32 (rotr_eq x n m h2 Hm.out),rfl⟩
set_option maxHeartbeats 400000 in
theorem right_any (x:Int) (n:Nat) (h1:1 ≤ n) (h2:n ≤ 31) (w:World) :
 Calls Tryz.prog 172 #[.int .u32 x,.int .i64 (n:Int)] w fun e w' => e = .returned (.int .u32 (rotr x n)) ∧ w = w':=by
 go_enter Tryz.func172,Tryz.ntmps172
 go_wp2_with (go_at_call 166; refine (rotl_any _ _ h1 h2 _).mono ?_; rintro e w' ⟨rfl,rfl⟩)
 go_ret
 exact ⟨rfl,rfl⟩
theorem right_same (x n:Int) (h1:1 ≤ n) (h2:n ≤ 31) (w:World) :
 Calls Tryz.prog 172 #[.int .u32 x,.int .i64 n] w fun e w' => e = .returned (.int .u32 (rotr x n.toNat)) ∧ w' = w:=by
 obtain ⟨m,rfl⟩:=Int.eq_ofNat_of_zero_le (show 0 ≤ n by omega)
 exact (right_any x m (by omega) (by omega) w).mono fun e w' h => ⟨h.1,h.2.symm⟩
set_option maxHeartbeats 400000 in
theorem word_any (g off len cap:Nat) (a b c d:Int) (hl:4 ≤ len) (w:World)
 (h0:w.cell? ⟨g,off,none⟩ = some (.int .u8 a)) (h1:w.cell? ⟨g,off + 1,none⟩ = some (.int .u8 b)) (h2:w.cell? ⟨g,off + 2,none⟩ = some (.int .u8 c)) (h3:w.cell? ⟨g,off + 3,none⟩ = some (.int .u8 d))
 (ha:0 ≤ a ∧ a < 256) (hb:0 ≤ b ∧ b < 256) (hc:0 ≤ c ∧ c < 256) (hd:0 ≤ d ∧ d < 256) :
 Calls Tryz.prog 175 #[.slice (some ⟨g,off,none⟩) len cap] w fun e w' => e = .returned (.int .u32 (word4 a b c d)) ∧ ∃ n,w' = w.drewN n:=by
 obtain ⟨ha0,ha1⟩:=ha
 obtain ⟨hb0,hb1⟩:=hb
 obtain ⟨hc0,hc1⟩:=hc
 obtain ⟨hd0,hd1⟩:=hd
 have l0:(0:Int) < len:=by omega
 have l1:(1:Int) < len:=by omega
 have l2:(2:Int) < len:=by omega
 have l3:(3:Int) < len:=by omega
 go_enter Tryz.func175,Tryz.ntmps175
 go_wp2
 go_quiet (fail)
 go_wp2
 go_ret
 exact ⟨rfl,nq,rfl⟩
theorem info25:(Tryz.prog.info? 167).map (·.size) = some 64:=by kernel_rfl
theorem info55:(Tryz.prog.info? 220).map (·.size) = some 64:=by kernel_rfl
structure SInv (l:List Int) (N k:Nat) (w wr:World):Prop where
 blk:wr.heap[N]? = some (.cells (u8s l) 167 (0,0))
 res:∃ Z:Array Value,Z.size = 64 ∧ wr.heap[N + 1]? = some (.cells Z 220 (0,0))
 row:∃ S:Array Value,Holds S 64 k (W l) ∧ wr.heap[N + 1 + 1]? = some (.cells S 220 (0,0))
 low:Below N w wr
theorem SInv.drewN {l:List Int} {N k:Nat} {w wr:World} (h:SInv l N k w wr) (n:Nat):SInv l N k w (wr.drewN n) :=
 ⟨h.blk,h.res,h.row,⟨h.low.os,h.low.tape,h.low.output,h.low.size,h.low.block⟩⟩
theorem SInv.drew {l:List Int} {N k:Nat} {w wr:World} (h:SInv l N k w wr):SInv l N k w wr.drew:=h.drewN 1
theorem SInv.set {l:List Int} {N k:Nat} {w wr:World} (h:SInv l N k w wr) (hk:k < 64) (v:Int) (hv:v = W l k):SInv l N (k + 1) w (wr.setCell ⟨N + 1 + 1,k,none⟩ (.int .u32 v)):=by
 obtain ⟨S,hS,hr⟩:=h.row
 obtain ⟨Z,hZ,hz⟩:=h.res
 refine ⟨?_,⟨Z,hZ,?_⟩,⟨_,hS.set hk v hv,heap_setCell_same _ _ _ _ _ _ hr⟩,h.low.setCell (by simp; omega) _⟩
 · rw [heap_setCell_other _ _ _ _ (by simp; omega)]; exact h.blk
 · rw [heap_setCell_other _ _ _ _ (by simp)]; exact hz
theorem slice25 (wr:World) (g k:Nat) (h:k < 16):(Instr.sliceAt 167 (.pointer (some ⟨g,0,none⟩)) (some (.int .i64 (4 * (k:Int)))) none none).run Tryz.prog wr = .ok (.slice (some ⟨g,4 * k,none⟩) (64 - 4 * k) (64 - 4 * k)) wr:=by
 have h1:(4 * (k:Int)).toNat = 4 * k:=by omega
 have h2:¬ 64 = 4 * k:=by omega
 have h3:0 ≤ 4 * (k:Int):=by omega
 have h4:4 * (k:Int) ≤ 64:=by omega
 have hs:∀ w',(sizeOf 5).run Tryz.prog w' = .ok 1 w':=fun _ => by kernel_rfl
 have hu:Tryz.prog.underlying 167 = some (.array 64 5):=by kernel_rfl
 simp [Instr.sliceAt,Instr.sureAddr,run_underlying hu,Instr.sliceBounds,Instr.sliceBound,asIntOf,h1,h2,h3,h4,hs,Addr.add]
 intro h
 exact h.symm
set_option maxRecDepth 100000 in
set_option maxHeartbeats 1000000 in
theorem schedule_any (l:List Int) (hl:l.length = 64) (hb:InB l) (w:World) :
 Calls Tryz.prog 171 #[.agg (u8s l)] w fun e w' => e = .returned (.agg (u32s (sched l))) ∧ Below w.heap.size w w':=by
 have H64:Hid (l.length = 64):=hl
 have Hb:Hid (InB l):=hb
 clear hl hb
 go_enter Tryz.func171,Tryz.ntmps171
 go_wp2
 go_loopw [8] (fun i wr => ∃ k:Nat,k ≤ 16 ∧ i = .int .i64 k ∧ SInv l w.heap.size k w wr) (fun i _ => 16 - (intOf i).toNat)
 case atStart =>
  have h3:=three_new w
  exact ⟨0,Nat.zero_le _,rfl,(h3 _ _ _).1,⟨_,rfl,(h3 _ _ _).2.1⟩,⟨_,Holds.nil _ _ _ rfl,(h3 _ _ _).2.2⟩,below3 _ _ _ _⟩
 case round =>
  obtain ⟨k,hk,rfl,hinv⟩:=hrel
  by_cases hlt:k < 16
  · obtain ⟨S,hS,hr⟩:=hinv.row
    have hblk:=hinv.blk
    have hin:=Hb.out
    have hlen:=H64.out
    obtain ⟨v,hv⟩:∃ v,wr.cell? ⟨w.heap.size + 1 + 1,k,none⟩ = some v:=by
     rw [cell_row hr]; exact ⟨_,Array.getElem?_eq_getElem (by rw [hS.1]; omega)⟩
    have hfz:=free_row hr k
    have c0:wr.cell? ⟨w.heap.size,4 * k,none⟩ = some (.int .u8 (l.getD (4 * k) 0)):=by rw [cell_row hblk,u8s_get l _ (by omega)]
    have c1:wr.cell? ⟨w.heap.size,4 * k + 1,none⟩ = some (.int .u8 (l.getD (4 * k + 1) 0)):=by rw [cell_row hblk,u8s_get l _ (by omega)]
    have c2:wr.cell? ⟨w.heap.size,4 * k + 2,none⟩ = some (.int .u8 (l.getD (4 * k + 2) 0)):=by rw [cell_row hblk,u8s_get l _ (by omega)]
    have c3:wr.cell? ⟨w.heap.size,4 * k + 3,none⟩ = some (.int .u8 (l.getD (4 * k + 3) 0)):=by rw [cell_row hblk,u8s_get l _ (by omega)]
    have Hc:Hid (Calls Tryz.prog 175 #[.slice (some ⟨w.heap.size,4 * k,none⟩) (64 - 4 * k) (64 - 4 * k)] wr fun e w' => e = .returned (.int .u32 (W l k)) ∧ ∃ n,w' = wr.drewN n):=by
     rw [W_lt l k hlt]
     exact word_any _ _ _ _ _ _ _ _ (by omega) _ c0 c1 c2 c3 (hin _) (hin _) (hin _) (hin _)
    have hsl:=slice25 wr w.heap.size k hlt
    clear c0 c1 c2 c3 hblk hin hlen hr hS
    go_wp2_with (go_at_call 175; refine Hc.out.mono ?_; rintro e w' ⟨rfl,n,rfl⟩)
    go_roundw
    case rel => exact ⟨k + 1,by omega,by go_num,((hinv.drewN _).set (by omega) _ rfl)⟩
    case measure => simp [intOf]; omega
  · have h16:k = 16:=by omega
    rw [h16] at hinv
    have H16:Hid (k = 16):=h16
    clear h16 hk
    obtain ⟨w1,hw1⟩:∃ w1,w1 = wr:=⟨_,rfl⟩
    subst hw1
    go_wp2
    go_loopw [5] (fun i wr => ∃ k:Nat,16 ≤ k ∧ k ≤ 64 ∧ i = .int .i64 k ∧ SInv l w.heap.size k w wr) (fun i _ => 64 - (intOf i).toNat)
    case atStart => exact ⟨16,by omega,by omega,rfl,hinv⟩
    case round =>
     obtain ⟨k,hk16,hk,rfl,hinv⟩:=hrel
     by_cases hlt:k < 64
     · obtain ⟨S,hS,hr⟩:=hinv.row
       have hv:∀ j,j < 64 → (wr.cell? ⟨w.heap.size + 1 + 1,j,none⟩).isSome = true:=fun j hj => by
        rw [cell_row hr,Array.getElem?_eq_getElem (by rw [hS.1]; omega)]; rfl
       obtain ⟨v,hv⟩:=Option.isSome_iff_exists.1 (hv k hlt)
       have hfz:=free_row hr k
       have c16:wr.cell? ⟨w.heap.size + 1 + 1,k - 16,none⟩ = some (.int .u32 (W l (k - 16))):=by rw [cell_row hr,hS.2 _ (by omega)]
       have c15:wr.cell? ⟨w.heap.size + 1 + 1,k - 15,none⟩ = some (.int .u32 (W l (k - 15))):=by rw [cell_row hr,hS.2 _ (by omega)]
       have c7:wr.cell? ⟨w.heap.size + 1 + 1,k - 7,none⟩ = some (.int .u32 (W l (k - 7))):=by rw [cell_row hr,hS.2 _ (by omega)]
       have c2:wr.cell? ⟨w.heap.size + 1 + 1,k - 2,none⟩ = some (.int .u32 (W l (k - 2))):=by rw [cell_row hr,hS.2 _ (by omega)]
       clear hr hS
       have i15:(0:Int) ≤ (k:Int) - 15:=by omega
       have i2:(0:Int) ≤ (k:Int) - 2:=by omega
       have i16:(0:Int) ≤ (k:Int) - 16:=by omega
       have i7:(0:Int) ≤ (k:Int) - 7:=by omega
       have t15:((k:Int) - 15).toNat = k - 15:=by omega
       have t2:((k:Int) - 2).toNat = k - 2:=by omega
       have t16:((k:Int) - 16).toNat = k - 16:=by omega
       have t7:((k:Int) - 7).toNat = k - 7:=by omega
       go_wp2
       go_quiet (fail)
       go_wp2
       have e16:IntKind.i64.wrap ((k:Int) - 16) = (k:Int) - 16:=IntWalk.i64_in _ (by omega)
       have e7:IntKind.i64.wrap ((k:Int) - 7) = (k:Int) - 7:=IntWalk.i64_in _ (by omega)
       have m16:(16:Int) ≤ k:=by omega
       have m7:(7:Int) ≤ k:=by omega
       have j16:(k:Int) - 16 < 64:=by omega
       have j7:(k:Int) - 7 < 64:=by omega
       refine wp_region_still_tail 28 (by kernel_rfl) (by kernel_rfl) ?_
       simp only [List.take_succ_cons,List.take_zero,List.drop_succ_cons,List.drop_zero]
       change wpStill _ _ (wr.drewN nq).drew _ _ _
       repeat (first | (refine wpStill_step (fun K hK => ?_); go_simp; refine hK _ ?_; clear hK K) | (refine wpStill_step (fun K hK => ?_); go_simp; refine ⟨_,right_same _ _ (by decide) (by decide) _,hK _ ?_⟩; clear hK K))
       refine wpStill_nil ?_
       change wpList _ _ _ _ _ (wr.drewN nq).drew
       go_wp2
       go_roundw
       case rel => exact ⟨k + 1,by omega,by omega,by go_num,((hinv.drewN _).drew.set (by omega) _ (by rw [W_ge l k hk16 hlt]; rfl))⟩
       case measure => simp [intOf]; omega
     · have h64:k = 64:=by omega
       rw [h64] at hinv
       have H16:Hid (k = 64):=h64
       clear h64 hk hk16
       obtain ⟨S,hS,hr⟩:=hinv.row
       obtain ⟨Z,hZ,hz⟩:=hinv.res
       have low:=hinv.low
       have hS':S = u32s (sched l):=hS.whole (sched_length l) (fun j hj => W_of_sched l j)
       subst hS'
       clear hinv hS
       have hrow:=setRow_heap wr _ _ (u32s (sched l)) _ _ hz
       have hlow:Below w.heap.size w (wr.setRow (w.heap.size + 1) (u32s (sched l))):=below_setRow low (by omega) _
       have hsz:(Tryz.prog.info? 220).map (·.size) = some (u32s (sched l)).size:=by rw [u32s_size,sched_length]; exact info55
       have hzz:Z.size = (u32s (sched l)).size:=by rw [u32s_size,sched_length,hZ]
       have Hsz:=Lib.hid hsz
       have Hzz:=Lib.hid hzz
       have Hr:=Lib.hid hr
       have Hz:=Lib.hid hz
       have Hrow:=Lib.hid hrow
       clear hsz hzz hr hz hrow hZ
       go_wp2_with (first | (with_reducible refine wpList_load_row rfl 220 (.tmp 3) rfl (w.heap.size + 1 + 1) rfl 220 (u32s (sched l)) (0,0) _ Hr.out Tryz.underlying220 rfl Hsz.out ?_) | (with_reducible refine wpList_store_row rfl 220 (.tmp 2) (.tmp 59) rfl (w.heap.size + 1) (u32s (sched l)) rfl rfl 220 Z Hz.out Hsz.out Hzz.out (u32s_one _) ?_))
       exact bodyPost_ret (v:=.agg (u32s (sched l))) (results_cell_row rfl _ _ (w.heap.size + 1) 220 _ (0,0) _ rfl Hrow.out Tryz.underlying220 rfl Hsz.out) rfl ⟨rfl,hlow⟩
def KW:List Int:=[1116352408,1899447441,3049323471,3921009573,961987163,1508970993,2453635748,2870763221,3624381080,310598401,607225278,1426881987,1925078388,2162078206,2614888103,3248222580,3835390401,4022224774,264347078,604807628,770255983,1249150122,1555081692,1996064986,2554220882,2821834349,2952996808,3210313671,3336571891,3584528711,113926993,338241895,666307205,773529912,1294757372,1396182291,1695183700,1986661051,2177026350,2456956037,2730485921,2820302411,3259730800,3345764771,3516065817,3600352804,4094571909,275423344,430227734,506948616,659060556,883997877,958139571,1322822218,1537002063,1747873779,1955562222,2024104815,2227730452,2361852424,2428436474,2756734187,3204031479,3329325298]
def lim:Nat:=max 1 2 + 1
structure Laid (w:World):Prop where
 k:∀ j,j < 64 → w.cell? ⟨2,j,none⟩ = some (.int .u32 (KW.getD j 0))
 s:∀ j,j < 8 → w.cell? ⟨1,j,none⟩ = some (.int .u32 ([1779033703,3144134277,1013904242,2773480762,1359893119,2600822924,528734635,1541459225].getD j 0))
 sz:lim ≤ w.heap.size
theorem Laid.below {w w':World} (h:Laid w) {B:Nat} (hb:Below B w w') (hB:lim ≤ B):Laid w':=by
 unfold lim at hB
 exact
 ⟨fun j hj => (hb.cell (p:=⟨2,j,none⟩) (show 2 < B by omega)).trans (h.k j hj),fun j hj => (hb.cell (p:=⟨1,j,none⟩) (show 1 < B by omega)).trans (h.s j hj),Nat.le_trans h.sz hb.size⟩
theorem info24:(Tryz.prog.info? 192).map (·.size) = some 8:=by kernel_rfl
set_option maxRecDepth 100000 in
set_option maxHeartbeats 1000000 in
theorem mix_lit (a b c d e f g h:Int) (l:List Int) (hl:l.length = 64) (hb:InB l) (w:World) (hL:Laid w) :
 Calls Tryz.prog 167 #[.agg #[.int .u32 a,.int .u32 b,.int .u32 c,.int .u32 d,.int .u32 e,.int .u32 f,.int .u32 g,.int .u32 h],.agg (u8s l)] w
  fun e' w' => e' = .returned (.agg (u32s (mixK KW ⟨a,b,c,d,e,f,g,h⟩ l).list)) ∧ Below w.heap.size w w':=by
 have H64:Hid (l.length = 64):=hl
 have Hb:Hid (InB l):=hb
 have HL:Hid (Laid w):=hL
 have hsz:=hL.sz
 clear hl hb hL
 go_enter Tryz.func167,Tryz.ntmps167
 have h3:=three_new w (.cells #[.int .u32 a,.int .u32 b,.int .u32 c,.int .u32 d,.int .u32 e,.int .u32 f,.int .u32 g,.int .u32 h] 192) (.cells (u8s l) 167) (.cells #[.int .u32 0,.int .u32 0,.int .u32 0,.int .u32 0,.int .u32 0,.int .u32 0,.int .u32 0,.int .u32 0] 192)
 have b3:=below3 w (.cells #[.int .u32 a,.int .u32 b,.int .u32 c,.int .u32 d,.int .u32 e,.int .u32 f,.int .u32 g,.int .u32 h] 192) (.cells (u8s l) 167) (.cells #[.int .u32 0,.int .u32 0,.int .u32 0,.int .u32 0,.int .u32 0,.int .u32 0,.int .u32 0,.int .u32 0] 192)
 have H3:=Lib.hid h3
 have B3:=Lib.hid b3
 have Hsz:Hid ((Tryz.prog.info? 167).map (·.size) = some (u8s l).size):=by rw [u8s_size,H64.out]; exact info25
 clear h3 b3
 go_wp2_with (with_reducible refine wpList_load_row rfl 167 (.tmp 3) rfl (w.heap.size + 1) rfl 167 (u8s l) (0,0) _ H3.out.2.1 Tryz.underlying167 rfl Hsz.out ?_)
 refine (schedule_any l H64.out Hb.out _).mono ?_
 rintro e' w1 ⟨rfl,hlow⟩
 have Hs55:Hid ((Tryz.prog.info? 220).map (·.size) = some (u32s (sched l)).size):=by rw [u32s_size,sched_length]; exact info55
 go_wp2_with (refine wpList_store_row rfl 220 (.tmp 5) (.tmp 20) rfl w1.heap.size (u32s (sched l)) rfl rfl 220 _ (Go.heap_alloc_new _ _) Hs55.out (by rw [u32s_size,sched_length]; rfl) (u32s_one _) ?_; rw [World.setRow_alloc_new]; generalize hw2:World.alloc w1 _ = w2; have Hw2:=Lib.hid hw2; clear hw2)
 have hb3:=B3.out
 have hs3:(((w.alloc (.cells #[.int .u32 a,.int .u32 b,.int .u32 c,.int .u32 d,.int .u32 e,.int .u32 f,.int .u32 g,.int .u32 h] 192)).alloc (.cells (u8s l) 167)).alloc (.cells #[.int .u32 0,.int .u32 0,.int .u32 0,.int .u32 0,.int .u32 0,.int .u32 0,.int .u32 0,.int .u32 0] 192)).heap.size = w.heap.size + 3:=by simp
 have hs1:=hlow.size
 rw [hs3] at hlow hs1
 have hblk:w1.heap[w.heap.size]? = some (.cells #[.int .u32 a,.int .u32 b,.int .u32 c,.int .u32 d,.int .u32 e,.int .u32 f,.int .u32 g,.int .u32 h] 192):=(hlow.block _ (by omega)).trans H3.out.1
 have hres:w1.heap[w.heap.size + 1 + 1]? = some (.cells #[.int .u32 0,.int .u32 0,.int .u32 0,.int .u32 0,.int .u32 0,.int .u32 0,.int .u32 0,.int .u32 0] 192):=(hlow.block _ (by omega)).trans H3.out.2.2
 have low1:Below w.heap.size w w1:=hb3.trans (hlow.mono (by omega))
 have hw2:=Hw2.out
 have low2:Below w.heap.size w w2:=by rw [← hw2]; exact low1.alloc (by omega) _
 have blk2:w2.heap[w.heap.size]? = some (.cells #[.int .u32 a,.int .u32 b,.int .u32 c,.int .u32 d,.int .u32 e,.int .u32 f,.int .u32 g,.int .u32 h] 192):=by rw [← hw2]; exact (Go.heap_alloc_old w1 _ (by omega)).trans hblk
 have res2:w2.heap[w.heap.size + 1 + 1]? = some (.cells #[.int .u32 0,.int .u32 0,.int .u32 0,.int .u32 0,.int .u32 0,.int .u32 0,.int .u32 0,.int .u32 0] 192):=by rw [← hw2]; exact (Go.heap_alloc_old w1 _ (by omega)).trans hres
 have sch2:w2.heap[w1.heap.size]? = some (.cells (u32s (sched l)) 220):=by rw [← hw2]; exact Go.heap_alloc_new w1 _
 have laid2:Laid w2:=HL.out.below low2 hsz
 clear hw2 Hw2 low1 hres hblk hlow hs3 hb3 B3 H3 Hsz HL
 have c0:=cell_row blk2 0
 have c1:=cell_row blk2 1
 have c2:=cell_row blk2 2
 have c3:=cell_row blk2 3
 have c4:=cell_row blk2 4
 have c5:=cell_row blk2 5
 have c6:=cell_row blk2 6
 have c7:=cell_row blk2 7
 simp only [List.getElem?_toArray,List.getElem?_cons_zero,List.getElem?_cons_succ] at c0 c1 c2 c3 c4 c5 c6 c7
 have Blk2:=Lib.hid blk2
 have Res2:=Lib.hid res2
 have Sch2:=Lib.hid sch2
 clear blk2 res2 sch2
 go_wp2
 go_quiet (fail)
 go_wp2
 go_loopw [6,7,8,9,10,11,12,13,37] (fun v6 v7 v8 v9 v10 v11 v12 v13 i wr => ∃ (k n:Nat) (a' b' c' d' e' f' g' h':Int),k ≤ 64 ∧ Hid (rounds KW l ⟨a,b,c,d,e,f,g,h⟩ k = ⟨a',b',c',d',e',f',g',h'⟩) ∧
  v6 = .int .u32 a' ∧ v7 = .int .u32 b' ∧ v8 = .int .u32 c' ∧ v9 = .int .u32 d' ∧ v10 = .int .u32 e' ∧ v11 = .int .u32 f' ∧ v12 = .int .u32 g' ∧ v13 = .int .u32 h' ∧ i = .int .i64 k ∧ Hid (wr = w2.drewN n)) (fun _ _ _ _ _ _ _ _ i _ => 64 - (intOf i).toNat)
 case atStart => exact ⟨0,nq,a,b,c,d,e,f,g,h,by omega,rfl,rfl,rfl,rfl,rfl,rfl,rfl,rfl,rfl,rfl,rfl⟩
 case round =>
  obtain ⟨k,n,a',b',c',d',e',f',g',h',hk,hst,rfl,rfl,rfl,rfl,rfl,rfl,rfl,rfl,rfl,hwr⟩:=hrel
  by_cases hlt:k < 64
  · have ck:wr.cell? ⟨2,k,none⟩ = some (.int .u32 (KW.getD k 0)):=by rw [hwr.out]; exact laid2.k k hlt
    have cs:wr.cell? ⟨w1.heap.size,k,none⟩ = some (.int .u32 (W l k)):=by
     rw [hwr.out]; show w2.cell? _ = _; rw [cell_row Sch2.out,u32s_get _ _ (by rw [sched_length]; exact hlt),W_of_sched]
    obtain ⟨Kk,hKk⟩:∃ x,x = KW.getD k 0:=⟨_,rfl⟩
    rw [← hKk] at ck
    have HKk:=Lib.hid hKk
    clear hKk
    have hlt':(k:Int) < 64:=by omega
    go_wp2
    go_quiet ((go_at_call 172; exact Calls.quiet_of_same (right_same _ _ (by decide) (by decide) _)))
    go_wp2_with (go_at_call 172; refine (right_same _ _ (by decide) (by decide) _).mono ?_; rintro e0 w0 ⟨rfl,rfl⟩)
    go_roundw
    case rel =>
     refine ⟨k + 1,n + nq,_,_,_,_,_,_,_,_,by omega,?_,rfl,rfl,rfl,rfl,rfl,rfl,rfl,rfl,by go_num,?_⟩
     · exact rounds_step hst.out HKk.out
     · show wr.drewN nq = _
       rw [hwr.out,World.drewN_drewN]
    case measure => simp [intOf]; omega
  · have h64:k = 64:=by omega
    rw [h64] at hst
    clear h64 hk
    obtain ⟨w5,hw5⟩:∃ w5,w5 = wr:=⟨_,rfl⟩
    subst hw5
    have dc:∀ j,w2.cell? ⟨w.heap.size,j,none⟩ = w5.cell? ⟨w.heap.size,j,none⟩:=fun j => by rw [hwr.out]; rfl
    rw [dc] at c0 c1 c2 c3 c4 c5 c6 c7
    have hres:w5.heap[w.heap.size + 1 + 1]? = some (.cells #[.int .u32 0,.int .u32 0,.int .u32 0,.int .u32 0,.int .u32 0,.int .u32 0,.int .u32 0,.int .u32 0] 192):=by rw [hwr.out]; exact Res2.out
    have Hres:=Lib.hid hres
    have low5:Below w.heap.size w w5:=by rw [hwr.out]; exact ⟨low2.os,low2.tape,low2.output,low2.size,low2.block⟩
    clear dc hres
    go_wp2_with (refine wpList_store_row rfl 192 (.tmp 4) (.tmp 134) rfl (w.heap.size + 1 + 1) (u32s (mixK KW ⟨a,b,c,d,e,f,g,h⟩ l).list) rfl (by rw [mixK_eq hst.out]; rfl) 192 _ Hres.out info24 rfl (u32s_one _) ?_)
    exact bodyPost_ret (v:=.agg (u32s (mixK KW ⟨a,b,c,d,e,f,g,h⟩ l).list)) (results_cell_row rfl _ _ (w.heap.size + 1 + 1) 192 _ (0,0) _ rfl (setRow_heap w5 _ _ _ _ _ Hres.out) Tryz.underlying192 rfl info24) rfl ⟨rfl,below_setRow low5 (by omega) _⟩
theorem mix_any (s:W8) (l:List Int) (hl:l.length = 64) (hb:InB l) (w:World) (hL:Laid w) :
 Calls Tryz.prog 167 #[.agg (u32s s.list),.agg (u8s l)] w fun e' w' => e' = .returned (.agg (u32s (mixK KW s l).list)) ∧ Below w.heap.size w w' :=
 mix_lit s.a s.b s.c s.d s.e s.f s.g s.h l hl hb w hL
end Go.Proofs.YteeghgjkjicjoaaGreatDoor
namespace Go.Proofs.YteeghgjkjicjoaaGreatDoor
open Go.RowKit
def S0:W8:=⟨1779033703,3144134277,1013904242,2773480762,1359893119,2600822924,528734635,1541459225⟩
theorem start_range {w:World} (hL:Laid w):w.rangeAt 1 0 (u32s S0.list).toList:=fun j v hv => by
 have hj:j < 8:=by
  have:=(List.getElem?_eq_some_iff.1 hv).1
  simpa [u32s_size,W8.list] using this
 rw [Nat.zero_add,hL.s j hj,← hv]
 have:(u32s S0.list).toList[j]? = (u32s S0.list)[j]?:=by simp
 rw [this,u32s_get _ _ (by simpa [W8.list] using hj)]
 rfl
theorem info23:(Tryz.prog.info? 191).map (·.size) = some 8:=by kernel_rfl
theorem info35:(Tryz.prog.info? 24).map (·.size) = some 32:=by kernel_rfl
set_option maxRecDepth 100000 in
set_option maxHeartbeats 1000000 in
theorem start_any (w:World) (hL:Laid w) :
 Calls Tryz.prog 146 #[] w fun e' w' => e' = .returned (.agg (u32s S0.list)) ∧ Below w.heap.size w w':=by
 have hr:=Lib.hid (start_range hL)
 clear hL
 obtain ⟨L,hL⟩:∃ L,L = S0.list:=⟨_,rfl⟩
 have hl:L.length = 8:=by rw [hL]; rfl
 rw [← hL] at hr
 have Hl:=Lib.hid hl
 have Hi:Hid ((Tryz.prog.info? 191).map (·.size) = some (u32s L).toList.length):=by show _ = _; rw [Array.length_toList,u32s_size,hl]; exact info23
 have HL:=Lib.hid hL
 clear hl hL
 go_enter Tryz.func146,Tryz.ntmps146
 go_wp2_with (first
  | (refine wpList_load_mid rfl 191 (.global 1) rfl 1 0 rfl (u32s L).toList _ (World.rangeAt_alloc hr.out _) Tryz.underlying191 rfl Hi.out ?_)
  | (refine wpList_store_row rfl 192 (.tmp 0) (.tmp 1) rfl w.heap.size (u32s L) rfl rfl 192 _ (Go.heap_alloc_new _ _) (by rw [u32s_size,Hl.out]; exact info24) (by rw [u32s_size,Hl.out]; rfl) (u32s_one _) ?_; rw [World.setRow_alloc_new]))
 rw [HL.out]
 exact bodyPost_ret (v:=.agg (u32s S0.list)) (results_cell_row rfl _ _ w.heap.size 192 _ (0,0) _ rfl (Go.heap_alloc_new w _) Tryz.underlying192 rfl info24) rfl ⟨rfl,(Below.refl _ _).alloc (Nat.le_refl _) _⟩
def bytes4 (x:Int):List Int:=[x / 16777216 % 256,x / 65536 % 256,x / 256 % 256,x % 256]
def hashF (l:List Int) (j:Nat):Int:=(bytes4 (l.getD (j / 4) 0)).getD (j % 4) 0
def hashL (l:List Int):List Int:=(List.range 32).map (hashF l)
theorem hashL_length (l:List Int):(hashL l).length = 32:=by simp [hashL]
theorem hashF_at (l:List Int) (k:Nat):hashF l (4 * k) = l.getD k 0 / 16777216 % 256 ∧ hashF l (4 * k + 1) = l.getD k 0 / 65536 % 256 ∧ hashF l (4 * k + 2) = l.getD k 0 / 256 % 256 ∧ hashF l (4 * k + 3) = l.getD k 0 % 256:=by
 unfold hashF
 rw [show 4 * k / 4 = k by omega,show 4 * k % 4 = 0 by omega,show (4 * k + 1) / 4 = k by omega,show (4 * k + 1) % 4 = 1 by omega,show (4 * k + 2) / 4 = k by omega,show (4 * k + 2) % 4 = 2 by omega,show (4 * k + 3) / 4 = k by omega,show (4 * k + 3) % 4 = 3 by omega]
 exact ⟨rfl,rfl,rfl,rfl⟩
theorem hashL_getD (l:List Int) (j:Nat) (h:j < 32):hashF l j = (hashL l).getD j 0:=by
 simp [hashL,h]
attribute [irreducible] hashF
theorem index24 (l:List Int) (hl:l.length = 8) (k:Nat) (hk:k < 8) (w:World):(Instr.index 192 (.agg (u32s l)) (.int .i64 (k:Int))).run Tryz.prog w = .ok (.int .u32 (l.getD k 0)) w:=by
 have hu:Tryz.prog.underlying 192 = some (.array 8 47):=by kernel_rfl
 have ha:∀ w',(isAgg 47).run Tryz.prog w' = .ok false w':=fun _ => by kernel_rfl
 have hs:∀ w',(sizeOf 47).run Tryz.prog w' = .ok 1 w':=fun _ => by kernel_rfl
 simp [Instr.index,asIntOf,run_underlying hu,part,ha,hs,u32s_get l k (by omega)]
 exact fun h => absurd hk (by omega)
structure HInv (l:List Int) (N k:Nat) (w wr:World):Prop where
 res:∃ Z:Array Value,Z.size = 32 ∧ wr.heap[N + 1]? = some (.cells Z 24 (0,0))
 row:∃ S:Array Value,HoldsB S 32 (4 * k) (hashF l) ∧ wr.heap[N + 1 + 1]? = some (.cells S 24 (0,0))
 low:Below N w wr
theorem HInv.set {l:List Int} {N k:Nat} {w wr:World} (h:HInv l N k w wr) (hk:k < 8) (x:Int) (hx:x = l.getD k 0) :
 HInv l N (k + 1) w ((((wr.setCell ⟨N + 1 + 1,4 * k,none⟩ (.int .u8 (x / 16777216 % 256))).setCell ⟨N + 1 + 1,4 * k + 1,none⟩ (.int .u8 (x / 65536 % 256))).setCell ⟨N + 1 + 1,4 * k + 2,none⟩ (.int .u8 (x / 256 % 256))).setCell ⟨N + 1 + 1,4 * k + 3,none⟩ (.int .u8 (x % 256))):=by
 obtain ⟨S,hS,hr⟩:=h.row
 obtain ⟨Z,hZ,hz⟩:=h.res
 have hf:=hashF_at l k
 rw [← hx] at hf
 refine ⟨⟨Z,hZ,?_⟩,⟨_,(((hS.set (by omega) _ hf.1.symm).set (by omega) _ hf.2.1.symm).set (by omega) _ hf.2.2.1.symm).set (by omega) _ hf.2.2.2.symm,?_⟩,(((h.low.setCell (by simp; omega) _).setCell (by simp; omega) _).setCell (by simp; omega) _).setCell (by simp; omega) _⟩
 · rw [heap_setCell_other _ _ _ _ (by simp),heap_setCell_other _ _ _ _ (by simp),heap_setCell_other _ _ _ _ (by simp),heap_setCell_other _ _ _ _ (by simp)]; exact hz
 · exact heap_setCell_same _ _ _ _ _ _ (heap_setCell_same _ _ _ _ _ _ (heap_setCell_same _ _ _ _ _ _ (heap_setCell_same _ _ _ _ _ _ hr)))
set_option maxRecDepth 100000 in
set_option maxHeartbeats 1000000 in
theorem hashOf_any (l:List Int) (hl:l.length = 8) (w:World) :
 Calls Tryz.prog 160 #[.agg (u32s l)] w fun e' w' => e' = .returned (.agg (u8s (hashL l))) ∧ Below w.heap.size w w':=by
 have Hl:=Lib.hid hl
 have Hsz:Hid ((Tryz.prog.info? 192).map (·.size) = some (u32s l).size):=by show _ = _; rw [u32s_size,hl]; exact info24
 clear hl
 go_enter Tryz.func160,Tryz.ntmps160
 have h3:=Lib.hid (three_new w (.cells (u32s l) 192))
 go_wp2_with (refine wpList_load_row rfl 192 (.tmp 1) rfl w.heap.size rfl 192 (u32s l) (0,0) _ (h3.out _ _).1 Tryz.underlying192 rfl Hsz.out ?_)
 go_loopw [7] (fun i wr => ∃ k:Nat,k ≤ 8 ∧ i = .int .i64 k ∧ HInv l w.heap.size k w wr) (fun i _ => 8 - (intOf i).toNat)
 case atStart => exact ⟨0,Nat.zero_le _,rfl,⟨_,rfl,(h3.out _ _).2.1⟩,⟨_,HoldsB.nil _ _ _ rfl,(h3.out _ _).2.2⟩,below3 _ _ _ _⟩
 case round =>
  obtain ⟨k,hk,rfl,hinv⟩:=hrel
  clear h3
  by_cases hlt:k < 8
  · obtain ⟨S,hS,hr⟩:=hinv.row
    have hv:∀ j,j < 32 → (wr.cell? ⟨w.heap.size + 1 + 1,j,none⟩).isSome = true:=fun j hj => by
     rw [cell_row hr,Array.getElem?_eq_getElem (by rw [hS.1]; omega)]; rfl
    obtain ⟨v0,hv0⟩:=Option.isSome_iff_exists.1 (hv (4 * k) (by omega))
    obtain ⟨v1,hv1⟩:=Option.isSome_iff_exists.1 (hv (4 * k + 1) (by omega))
    obtain ⟨v2,hv2⟩:=Option.isSome_iff_exists.1 (hv (4 * k + 2) (by omega))
    obtain ⟨v3,hv3⟩:=Option.isSome_iff_exists.1 (hv (4 * k + 3) (by omega))
    have f0:=free_row hr (4 * k)
    have f1:=free_row hr (4 * k + 1)
    have f2:=free_row hr (4 * k + 2)
    have f3:=free_row hr (4 * k + 3)
    obtain ⟨x,hx⟩:∃ x,x = l.getD k 0:=⟨_,rfl⟩
    have hix:=index24 l Hl.out k hlt wr
    rw [← hx] at hix
    have Hx:=Lib.hid hx
    clear hr hS hv hx
    go_wp2
    go_roundw
    case rel => exact ⟨k + 1,by omega,by go_num,hinv.set hlt x Hx.out⟩
    case measure => simp [intOf]; omega
  · have h8:k = 8:=by omega
    rw [h8] at hinv
    clear h8 hk
    obtain ⟨S,hS,hr⟩:=hinv.row
    obtain ⟨Z,hZ,hz⟩:=hinv.res
    have low:=hinv.low
    have hS':S = u8s (hashL l):=hS.whole (hashL_length l) (fun j hj => hashL_getD l j hj)
    subst hS'
    have hs35:(Tryz.prog.info? 24).map (·.size) = some (u8s (hashL l)).size:=by rw [u8s_size,hashL_length]; exact info35
    have hzz:Z.size = (u8s (hashL l)).size:=by rw [u8s_size,hashL_length,hZ]
    have Hs35:=Lib.hid hs35
    have Hzz:=Lib.hid hzz
    have Hr:=Lib.hid hr
    have Hz:=Lib.hid hz
    clear hs35 hzz hr hz hinv hS hZ
    go_wp2_with (first | (refine wpList_load_row rfl 24 (.tmp 3) rfl (w.heap.size + 1 + 1) rfl 24 (u8s (hashL l)) (0,0) _ Hr.out Tryz.underlying24 rfl Hs35.out ?_) | (refine wpList_store_row rfl 24 (.tmp 2) (.tmp 38) rfl (w.heap.size + 1) (u8s (hashL l)) rfl rfl 24 Z Hz.out Hs35.out Hzz.out (u8s_one _) ?_))
    exact bodyPost_ret (v:=.agg (u8s (hashL l))) (results_cell_row rfl _ _ (w.heap.size + 1) 24 _ (0,0) _ rfl (setRow_heap wr _ _ _ _ _ Hz.out) Tryz.underlying24 rfl Hs35.out) rfl ⟨rfl,below_setRow low (by omega) _⟩
end Go.Proofs.YteeghgjkjicjoaaGreatDoor
namespace Go.Proofs.YteeghgjkjicjoaaGreatDoor
open Go.RowKit
def zeros (n:Nat):Nat:=(128 - (n % 64 + 9)) % 64
def padLen (n:Nat):Nat:=9 + zeros n
def padF (n j:Nat):Int:=if j = 0 then 128 else if j < 1 + zeros n then 0 else ((8 * n:Nat):Int) / 2 ^ (8 * (padLen n - 1 - j)) % 256
def padL (n:Nat):List Int:=(List.range (padLen n)).map (padF n)
theorem padL_length (n:Nat):(padL n).length = padLen n:=by simp [padL]
theorem padL_getD (n j:Nat) (h:j < padLen n):padF n j = (padL n).getD j 0:=by simp [padL,h]
theorem padF_zero (n:Nat):padF n 0 = 128:=rfl
theorem padF_mid (n j:Nat) (h0:j ≠ 0) (h:j < 1 + zeros n):padF n j = 0:=by unfold padF; rw [if_neg h0,if_pos h]
theorem padF_tail (n i:Nat) (h:i < 8):padF n (padLen n - 1 - i) = 8 * (n:Int) / 2 ^ (8 * i) % 256:=by
 unfold padF
 rw [if_neg (by unfold padLen; omega),if_neg (by unfold padLen; omega),show padLen n - 1 - (padLen n - 1 - i) = i by unfold padLen; omega]
 rw [show ((8 * n:Nat):Int) = 8 * (n:Int) by omega]
attribute [irreducible] padF
theorem zeros_lt (n:Nat):zeros n < 64:=by unfold zeros; omega
theorem info5:(Tryz.prog.info? 5).map (fun i => (i.zero,i.size,i.bytes)) = some (some (.int .u8 0),1,1):=by kernel_rfl
theorem made_row {w:World} {base g n:Nat} (h:w.ownsRow base 5 1 (.slice (some ⟨g,0,none⟩) n n) n (madeCells (Value.cells (.int .u8 0)) (n * 1)).toList) :
 ∃ C:Array Value,C.size = n ∧ w.heap[g]? = some (.cells C 5 (0,0)) ∧ ∀ j,j < n → C[j]? = some (.int .u8 0):=by
 obtain ⟨_,h⟩:=h
 rcases h with ⟨h,_⟩ | ⟨g',cap,cur,hv,_,hh,_,_,hs,ht⟩
 · cases h
 · simp only [Value.slice.injEq,Option.some.injEq,Addr.mk.injEq,and_true] at hv
   obtain ⟨rfl,_,rfl⟩:=hv
   refine ⟨cur,by omega,hh,fun j hj => ?_⟩
   have h1:cur.toList = (madeCells (Value.cells (.int .u8 0)) (n * 1)).toList:=by
    rw [← ht,List.take_of_length_le (by rw [Array.length_toList]; omega)]
   have h2:cur[j]? = cur.toList[j]?:=by simp
   rw [h2,h1]
   have h3:j % 1 = 0:=by omega
   simp [madeCells,Value.cells,hj,h3]
structure PInv (n N P k:Nat) (w wr:World):Prop where
 row:∃ C:Array Value,C.size = P ∧ wr.heap[N]? = some (.cells C 5 (0,0)) ∧ (∀ j,j < P - 8 → C[j]? = some (.int .u8 (padF n j))) ∧ ∀ i,i < k → C[P - 1 - i]? = some (.int .u8 (padF n (P - 1 - i)))
 low:Below N w wr
theorem PInv.set {n N P k:Nat} {w wr:World} (h:PInv n N P k w wr) (hP:9 ≤ P) (hk:k < 8) (v:Int) (hv:v = padF n (P - 1 - k)) :
 PInv n N P (k + 1) w (wr.setCell ⟨N,P - 1 - k,none⟩ (.int .u8 v)):=by
 obtain ⟨C,hC,hr,h1,h2⟩:=h.row
 refine ⟨⟨_,?_,heap_setCell_same _ _ _ _ _ _ hr,?_,?_⟩,h.low.setCell (by simp) _⟩
 · simp [hC]
 · intro j hj
   rw [Array.getElem?_setIfInBounds,if_neg (by omega)]
   exact h1 j hj
 · intro i hi
   rw [Array.getElem?_setIfInBounds]
   by_cases e:P - 1 - k = P - 1 - i
   · rw [if_pos e,if_pos (by omega),hv,e]
   · rw [if_neg e]; exact h2 i (by omega)
set_option maxRecDepth 100000 in
set_option maxHeartbeats 1000000 in
theorem padding_any (n:Nat) (hn:n < 2305843009213693952) (w:World) :
 Calls Tryz.prog 159 #[.int .u64 (n:Int)] w fun e' w' => e' = .returned (.slice (some ⟨w.heap.size,0,none⟩) (padLen n) (padLen n)) ∧ w'.heap[w.heap.size]? = some (.cells (u8s (padL n)) 5 (0,0)) ∧ Below w.heap.size w w':=by
 obtain ⟨i0,hi,hz0,hz1,hz2⟩:=info_parts info5
 have hi:=Lib.hid hi
 have hz0:=Lib.hid hz0
 have hz1:=Lib.hid hz1
 have hz2:=Lib.hid hz2
 have z1:=zeros_lt n
 obtain ⟨P,hP⟩:∃ P,P = padLen n:=⟨_,rfl⟩
 have hP1:9 ≤ P:=by rw [hP]; unfold padLen; omega
 have hP2:P ≤ 72:=by rw [hP]; unfold padLen; omega
 have HL:Hid ((1 + (128 - ((n:Int) % 64 + 1 + 8)) % 64 + 8) = (P:Int)):=by show _ = _; rw [hP]; unfold padLen zeros; omega
 rw [← hP]
 have HP:=Lib.hid hP
 have Hn:=Lib.hid hn
 have hn':(n:Int) < 2305843009213693952:=by omega
 clear hP hn z1
 go_enter Tryz.func159,Tryz.ntmps159
 go_wp2_with (refine wpList_make_full _ rfl (.tmp 18) (.tmp 18) 38 rfl w.heap.size 5 i0 (.int .u8 0) 1 Tryz.underlying38 hi.out hz0.out hz1.out .i64 .i64 _ _ P rfl rfl HL.out HL.out (by rw [hz2.out]; omega) (by unfold maxLen; omega) (Nat.le_refl _) ?_; intro w1 hown hgrow; obtain ⟨C,hC,hr,hc⟩:=made_row hown; have hs1:=hgrow.size; have low1:=(Below.refl w.heap.size w).grown hgrow (Nat.le_refl _) (fun k hk => by cases hk); have Hr:=Lib.hid hr; have Hc:=Lib.hid hc; have HC:=Lib.hid hC; have d0:=cell_row hr 0; rw [hc 0 (by omega)] at d0; have d0f:=free_row hr 0; clear hown hgrow hr hc hC)
 clear hn'
 go_loopw [24] (fun i wr => ∃ k:Nat,k ≤ 8 ∧ i = .int .i64 k ∧ PInv n w.heap.size P k w wr) (fun i _ => 8 - (intOf i).toNat)
 case atStart =>
  refine ⟨0,Nat.zero_le _,rfl,⟨_,?_,heap_setCell_same _ _ _ _ _ _ Hr.out,?_,fun i hi => absurd hi (Nat.not_lt_zero _)⟩,low1.setCell (by simp) _⟩
  · simp [HC.out]
  · intro j hj
    rw [Array.getElem?_setIfInBounds]
    by_cases e:0 = j
    · subst e; rw [if_pos rfl,if_pos (by rw [HC.out]; omega),padF_zero]
    · rw [if_neg e,Hc.out j (by omega),padF_mid n j (by omega) (by have:=HP.out; unfold padLen at this; omega)]
 case round =>
  obtain ⟨k,hk,rfl,hinv⟩:=hrel
  clear d0 d0f low1 hs1 Hr Hc HC
  by_cases hlt:k < 8
  · obtain ⟨C,hC,hr,_,_⟩:=hinv.row
    obtain ⟨v,hv⟩:∃ v,wr.cell? ⟨w.heap.size,P - 1 - k,none⟩ = some v:=by
     rw [cell_row hr]; exact ⟨_,Array.getElem?_eq_getElem (by omega)⟩
    have hfz:=free_row hr (P - 1 - k)
    have t1:((P:Int) - 1 - (k:Int)).toNat = P - 1 - k:=by omega
    have t2:(0:Int) ≤ (P:Int) - 1 - (k:Int):=by omega
    have t3:(P:Int) - 1 - (k:Int) < P:=by omega
    clear hr hC
    go_wp2
    go_roundw
    case rel => exact ⟨k + 1,by omega,by go_num,hinv.set (by omega) hlt _ (by rw [HP.out,padF_tail n k hlt])⟩
    case measure => simp [intOf]; omega
  · have h8:k = 8:=by omega
    rw [h8] at hinv
    obtain ⟨C,hC,hr,g1,g2⟩:=hinv.row
    have low:=hinv.low
    have hCe:C = u8s (padL n):=by
     refine HoldsB.whole (n:=P) (f:=padF n) ⟨hC,fun j hj => ?_⟩ (by rw [padL_length,HP.out]) (fun j hj => padL_getD n j (by rw [← HP.out]; exact hj))
     by_cases hj8:j < P - 8
     · exact g1 j hj8
     · have:=g2 (P - 1 - j) (by omega)
       rwa [show P - 1 - (P - 1 - j) = j by omega] at this
    rw [hCe] at hr
    have Hr:=Lib.hid hr
    clear h8 hk hinv g1 g2 hCe hr hC
    go_wp2
    go_ret
    exact ⟨rfl,Hr.out,low⟩
end Go.Proofs.YteeghgjkjicjoaaGreatDoor
