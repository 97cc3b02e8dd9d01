/- Texts of ours, merged. -/
import Derived.Test.YteeghgjkjicjoaaGreatDoorB3
import Derived.Deep.Draws
namespace Go.Proofs.YteeghgjkjicjoaaGreatDoor
open Go.RowKit lawAnybody
def lenL (m:Nat):List Int:=[(m:Int) / 16777216 % 256,(m:Int) / 65536 % 256,(m:Int) / 256 % 256,(m:Int) % 256]
def partL (M:List Int):List Int:=lenL M.length ++ M
theorem lenL_in (m:Nat):InB (lenL m):=by
 intro j
 match j with
 | 0 => simp [lenL]; omega
 | 1 => simp [lenL]; omega
 | 2 => simp [lenL]; omega
 | 3 => simp [lenL]; omega
 | j + 4 => simp [lenL]
theorem partL_in {M:List Int} (h:InB M):InB (partL M):=(lenL_in _).append h
theorem partL_length (M:List Int):(partL M).length = 4 + M.length:=by simp [partL,lenL]; omega
def Behind4 (base n m:Nat) (L M:List Int) (w:World) (e:Ending) (w':World):Prop :=
 ∃ v',e = .returned v' ∧ w'.ownsRow base 5 1 v' (n + (4 + m)) (vals (L ++ partL M)) ∧ ∀ B u,Below B u w → B ≤ base → Below B u w'
theorem byt_four (w:World) (a b c d:Int):Byt (w.alloc (.cells #[.int .u8 a,.int .u8 b,.int .u8 c,.int .u8 d] 5)) (some ⟨w.heap.size,0,none⟩) 4 [a,b,c,d]:=byt_rowF (l:=[a,b,c,d]) (fr:=(0,0)) (t := 5) (Go.heap_alloc_new w _) rfl
theorem lenL_small (m:Nat) (h:m ≤ 100000):lenL m = [(m:Int) / 16777216,(m:Int) / 65536,(m:Int) / 256 % 256,(m:Int) % 256]:=by
 unfold lenL
 rw [show (m:Int) / 16777216 % 256 = (m:Int) / 16777216 by omega,show (m:Int) / 65536 % 256 = (m:Int) / 65536 by omega]
theorem byt_len (w:World) (m:Nat) (h:m ≤ 100000):Byt (w.alloc (.cells #[.int .u8 ((m:Int) / 16777216),.int .u8 ((m:Int) / 65536),.int .u8 ((m:Int) / 256 % 256),.int .u8 ((m:Int) % 256)] 5)) (some ⟨w.heap.size,0,none⟩) 4 (lenL m):=by
 rw [lenL_small m h]; exact byt_four w _ _ _ _
set_option maxRecDepth 100000 in
set_option maxHeartbeats 1000000 in
theorem part_any (base:Nat) (v:Value) (n:Nat) (L:List Int) (A:Option Addr) (c m:Nat) (M:List Int) (wb w:World) (hown:w.ownsRow base 5 1 v n (vals L)) (hm:M.length = m) (hB:Byt wb A c M) (hwb:Below wb.heap.size wb w) (hbb:wb.heap.size ≤ base) (hs:n + 4 + m ≤ 100000) (hbase:base ≤ w.heap.size) :
 Calls Tryz.prog 127 #[v,.slice A m c] w (Behind4 base n m L M w):=by
 have Ho:=Lib.hid hown
 have Hm:=Lib.hid hm
 have HB:=Lib.hid hB
 have Hwb:=Lib.hid hwb
 have hmI:(m:Int) ≤ 100000:=by omega
 have hb4:=byt_len w m (by omega)
 clear hown hm hB hwb
 go_enter Tryz.func127,Tryz.ntmps127
 go_wp2_with (first
  | (at_builtin; refine wpList_append_byt rfl (.tmp 9) (.tmp 21) rfl base v n L rfl (own_below Ho.out ((Below.refl _ _).alloc (Nat.le_refl _) _)) (some ⟨w.heap.size,0,none⟩) 4 4 (lenL m) rfl rfl hb4 (by omega) (Nat.le_trans hbase (by simp)) ?_; intro v1 w1 hown1 hlow1 _; have Own1:=Lib.hid hown1; have hs1:=(hlow1 base w ((Below.refl _ _).alloc hbase _) (Nat.le_refl _)).size; have Byt1:=Lib.hid (HB.out.below (hlow1 wb.heap.size wb (Hwb.out.alloc Hwb.out.size _) hbb) (Nat.le_refl _)); have Hlow1:=Lib.hid hlow1; clear hown1 hlow1 hb4)
  | (at_builtin; refine wpList_append_byt rfl (.tmp 23) (.tmp 24) rfl base v1 (n + 4) (L ++ lenL m) rfl Own1.out A m c M rfl Hm.out Byt1.out (by omega) (Nat.le_trans hbase hs1) ?_; intro v2 w2 hown2 hlow2 _; have Own2:=Lib.hid hown2; have Hlow2:=Lib.hid hlow2; clear hown2 hlow2))
 go_ret
 refine ⟨v2,rfl,?_,fun B u hu hBb => Hlow2.out B u (Hlow1.out B u (hu.alloc (Nat.le_trans hBb hbase) _) hBb) hBb⟩
 have h:=Own2.out
 rw [List.append_assoc] at h
 rw [show n + (4 + m) = n + 4 + m by omega,partL,Hm.out]
 exact h
structure Part where
 A:Option Addr
 c:Nat
 M:List Int
def Part.val (p:Part):Value:=.slice p.A p.M.length p.c
def canonL (s:List Int) (ps:List Part):List Int:=partL s ++ ps.flatMap fun p => partL p.M
theorem canonL_snoc (s:List Int) (ps:List Part) (j:Nat) (h:j < ps.length):canonL s (ps.take (j + 1)) = canonL s (ps.take j) ++ partL ps[j].M:=by
 unfold canonL
 rw [List.take_succ_eq_append_getElem h,List.flatMap_append,List.append_assoc]
 simp
theorem canonL_le (s:List Int) (ps:List Part) (j:Nat):(canonL s (ps.take j)).length ≤ (canonL s ps).length:=by
 have:canonL s ps = canonL s (ps.take j) ++ (ps.drop j).flatMap fun p => partL p.M:=by
  unfold canonL
  rw [List.append_assoc,← List.flatMap_append,List.take_append_drop]
 rw [this,List.length_append]
 omega
structure PartsAt (wb:World) (Ap:Option Addr) (ps:List Part):Prop where
 row:∀ j (h:j < ps.length),∃ g off,Ap = some ⟨g,off,none⟩ ∧ g < wb.heap.size ∧ wb.cell? ⟨g,off + j,none⟩ = some ps[j].val
 byt:∀ j (h:j < ps.length),Byt wb ps[j].A ps[j].c ps[j].M ∧ InB ps[j].M
theorem canonL_in {s:List Int} (hs:InB s) {wb:World}:∀ {ps:List Part},(∀ j (h:j < ps.length),Byt wb ps[j].A ps[j].c ps[j].M ∧ InB ps[j].M) → InB (canonL s ps):=by
 intro ps h
 have:∀ (ps:List Part),(∀ p ∈ ps,InB p.M) → InB (ps.flatMap fun p => partL p.M):=by
  intro ps
  induction ps with
  | nil => intro _ j; simp
  | cons p ps ih =>
    intro hp
    rw [List.flatMap_cons]
    exact (partL_in (hp p (List.mem_cons_self ..))).append (ih fun q hq => hp q (List.mem_cons_of_mem _ hq))
 refine (partL_in hs).append (this ps fun p hp => ?_)
 obtain ⟨j,hj,rfl⟩:=List.getElem_of_mem hp
 exact (h j hj).2
def DerI (k s:List Int) (ps:List Part) (m B:Nat) (w:World) (v i:Value) (wr:World):Prop :=
 ∃ j:Nat,j ≤ m ∧ i = .int .i64 j ∧ Hid (wr.ownsRow B 5 1 v (canonL s (ps.take j)).length (vals (canonL s (ps.take j)))) ∧ Hid (Below w.heap.size w wr) ∧ Hid (wr.heap[w.heap.size]? = some (.cells (u8s k) 24 (0,0))) ∧ Hid (∃ Z:Array Value,Z.size = 32 ∧ wr.heap[w.heap.size + 1]? = some (.cells Z 24 (0,0))) ∧ B ≤ wr.heap.size
set_option maxRecDepth 100000 in
set_option maxHeartbeats 1000000 in
theorem derive_any (k:List Int) (s:ByteArray) (Ap:Option Addr) (cp m:Nat) (ps:List Part) (w:World) (hk:k.length = 32) (hb:InB k) (hm:ps.length = m) (hP:PartsAt w Ap ps) (hL:Laid w) (hT:(canonL (bytesOf s) ps).length ≤ 40000) :
 Calls Tryz.prog 113 #[.agg (u8s k),.string s,.slice Ap m cp] w fun e w' => e = .returned (.agg (u8s (hmacL k (canonL (bytesOf s) ps)))) ∧ Below w.heap.size w w':=by
 have hsz:=hL.sz
 have h2:=two_new w (.cells (u8s k) 24) (.cells zero32 24)
 have b2:Below w.heap.size w ((w.alloc (.cells (u8s k) 24)).alloc (.cells zero32 24)):=below_two w _ _
 have HL:=Lib.hid hL
 have HP:=Lib.hid hP
 have Hk:=Lib.hid hk
 have Hb:=Lib.hid hb
 have Hm:=Lib.hid hm
 have HT:=Lib.hid hT
 have hs40:s.size ≤ 40000:=by
  have h1:=canonL_le (bytesOf s) ps 0
  have h2:(canonL (bytesOf s) (ps.take 0)).length = 4 + s.size:=by simp [canonL,partL_length,bytesOf_length]
  omega
 have hm4:m ≤ 40000:=by
  have:∀ ps:List Part,ps.length ≤ (ps.flatMap fun p => partL p.M).length:=by
   intro ps
   induction ps with
   | nil => simp
   | cons p ps ih => rw [List.flatMap_cons,List.length_append,partL_length,List.length_cons]; omega
  have h1:=this ps
  have h2:(canonL (bytesOf s) ps).length = (partL (bytesOf s)).length + (ps.flatMap fun p => partL p.M).length:=by simp [canonL]
  omega
 unfold zero32 at h2 b2
 have H2:=Lib.hid h2
 have B2:=Lib.hid b2
 clear hL hP hk hb hm hT h2 b2
 go_enter Tryz.func113,Tryz.ntmps113
 go_upto_region 1 with fail
 have h1:=H2.out.1
 have hz:=H2.out.2
 have low:=B2.out
 have hs0:w.heap.size + 2 ≤ ((w.alloc (.cells (u8s k) 24)).alloc (.cells #[.int .u8 0,.int .u8 0,.int .u8 0,.int .u8 0,.int .u8 0,.int .u8 0,.int .u8 0,.int .u8 0,.int .u8 0,.int .u8 0,.int .u8 0,.int .u8 0,.int .u8 0,.int .u8 0,.int .u8 0,.int .u8 0,.int .u8 0,.int .u8 0,.int .u8 0,.int .u8 0,.int .u8 0,.int .u8 0,.int .u8 0,.int .u8 0,.int .u8 0,.int .u8 0,.int .u8 0,.int .u8 0,.int .u8 0,.int .u8 0,.int .u8 0,.int .u8 0] 24)).heap.size:=by simp
 clear H2 B2
 generalize World.alloc _ _ = w0 at h1 hz low hs0 ⊢
 have kc:=Lib.run_convert_string_bytes (P:=Tryz.prog) w0 9 38 5 s Tryz.underlying9 Tryz.underlying38 Tryz.underlying5
 obtain ⟨c0,hc0⟩:∃ c,c = grownCap w0 s.size 0 5 := ⟨_,rfl⟩
 have hbs:=byt_string w0 s
 have low0:=below_string w0 s
 rw [← hc0] at kc hbs
 obtain ⟨w1,hw1⟩:∃ w1,w1 = Lib.bytesWorld w0 5 s:=⟨_,rfl⟩
 rw [← hw1] at kc hbs low0
 have Hbs:=Lib.hid hbs
 have Low1:=Lib.hid (low.trans (low0.mono low.size))
 have R1:=Lib.hid ((low0.block _ (by omega)).trans h1)
 have Z1:=Lib.hid ((low0.block _ (by omega)).trans hz)
 have hs1:w.heap.size + 2 ≤ w1.heap.size:=by have:=low0.size; omega
 have hmI:(m:Int) ≤ 40000:=by omega
 clear hc0 hw1 hbs low0 h1 hz low
 go_upto_region 2 with (go_at_call 127; refine (part_any w1.heap.size (.slice none 0 0) 0 [] (some ⟨w0.heap.size,0,none⟩) c0 s.size (bytesOf s) w1 w1 (World.ownsRow_nil w1 _ 5 1) (bytesOf_length s) Hbs.out (Below.refl _ _) (Nat.le_refl _) (by omega) (Nat.le_refl _)).mono ?_; rintro e w2 ⟨v2,rfl,own2,hlow2⟩; have Low2:=Lib.hid (hlow2 _ _ Low1.out (by omega)); have R2:=Lib.hid (((hlow2 _ _ (Below.refl w1.heap.size w1) (Nat.le_refl _)).block _ (by omega)).trans R1.out); have Z2:=Lib.hid (((hlow2 _ _ (Below.refl w1.heap.size w1) (Nat.le_refl _)).block _ (by omega)).trans Z1.out); have hs2:=(hlow2 _ _ (Below.refl w1.heap.size w1) (Nat.le_refl _)).size; have Own2:=Lib.hid own2; clear own2 hlow2)
 go_wp2
 go_loopw [7,15] (fun v i wr => DerI k (bytesOf s) ps m w1.heap.size w v i wr) (fun _ i _ => m - (intOf i).toNat)
 case atStart => exact ⟨0,Nat.zero_le _,rfl,by have h:=Own2.out; show World.ownsRow _ _ _ _ _ _ _; rw [show canonL (bytesOf s) (ps.take 0) = [] ++ partL (bytesOf s) by simp [canonL],List.nil_append,partL_length,bytesOf_length,← Nat.zero_add (4 + s.size)]; exact h,Low2,R2,⟨_,rfl,Z2.out⟩,hs2⟩
 case round =>
  obtain ⟨j,hj,rfl,own,low,hkr,hzr,hBr⟩:=hrel
  clear Own2 Low2 R2 Z2 hs2 kc
  by_cases hlt:j < m
  · have hltp:j < ps.length:=by have:=Hm.out; omega
    obtain ⟨g,off,rfl,hg,hcell⟩:=HP.out.row j hltp
    obtain ⟨hpb,hpi⟩:=HP.out.byt j hltp
    have hsn:=canonL_snoc (bytesOf s) ps j hltp
    have hle:=canonL_le (bytesOf s) ps (j + 1)
    obtain ⟨p,hp⟩:∃ p,p = ps[j]:=⟨_,rfl⟩
    rw [← hp] at hcell hpb hpi hsn
    obtain ⟨pA,pc,pM⟩:=p
    have cc:wr.cell? ⟨g,off + j,none⟩ = some (.slice pA pM.length pc):=(low.out.cell (p:=⟨g,off + j,none⟩) hg).trans hcell
    obtain ⟨C,hC⟩:∃ C,C = canonL (bytesOf s) (ps.take j):=⟨_,rfl⟩
    have own':=own.out
    rw [← hC] at own' hsn
    have hbd:C.length + (4 + pM.length) ≤ 40000:=by
     have h1:(canonL (bytesOf s) (ps.take (j + 1))).length = C.length + (4 + pM.length):=by rw [hsn,List.length_append,partL_length]
     have:=HT.out
     omega
    have Own':=Lib.hid own'
    have Hpb:=Lib.hid hpb
    have Hsn:=Lib.hid hsn
    have hltI:(j:Int) < m:=by omega
    clear own own' hcell hpb hpi hp hC hsn hle
    go_wp2_with (go_at_call 127; refine (part_any w1.heap.size _ C.length C pA pc pM.length pM w wr Own'.out rfl Hpb.out low.out (by omega) (by omega) hBr).mono ?_; rintro e w3 ⟨v3,rfl,own3,hlow3⟩; have b3:=hlow3 _ _ (Below.refl w1.heap.size wr) (Nat.le_refl _); have Low3:=Lib.hid (hlow3 _ _ low.out (by omega)); have K3:=Lib.hid ((b3.block _ (by omega)).trans hkr.out); have Z3:Hid (∃ Z:Array Value,Z.size = 32 ∧ w3.heap[w.heap.size + 1]? = some (.cells Z 24 (0,0))):=(by obtain ⟨Z,hZ,hz⟩:=hzr.out; exact ⟨Z,hZ,(b3.block _ (by omega)).trans hz⟩); have hs3:=b3.size; have Own3:=Lib.hid own3; clear own3 hlow3 b3)
    go_roundw
    case rel => exact ⟨j + 1,by omega,by go_num,by have h:=Own3.out; show World.ownsRow _ _ _ _ _ _ _; rw [Hsn.out,List.length_append,partL_length]; exact h,Low3,K3,Z3,by omega⟩
    case measure => simp [intOf]; omega
  · obtain rfl:j = m:=by omega
    have own':=own.out
    rw [List.take_of_length_le (by rw [Hm.out]; exact Nat.le_refl _)] at own'
    obtain ⟨At,ct,rfl,_,hbt⟩:=own_byt own'
    obtain ⟨T,hTt⟩:∃ T,T = canonL (bytesOf s) ps:=⟨_,rfl⟩
    obtain ⟨Z,hZ,hz⟩:=hzr.out
    have hTin:InB T:=by rw [hTt]; exact canonL_in (bytesOf_in s) HP.out.byt
    have hTl:T.length ≤ 40000:=by rw [hTt]; exact HT.out
    rw [← hTt] at hbt ⊢
    have HTi:=Lib.hid hTin
    have Hbt:=Lib.hid hbt
    have Hz:=Lib.hid hz
    have HZ:=Lib.hid hZ
    obtain ⟨S,hS⟩:∃ S,S = hmacL k T:=⟨_,rfl⟩
    have HS:=Lib.hid hS
    have H35:Hid ((Tryz.prog.info? 24).map (·.size) = some (u8s S).size):=by show _ = _; rw [u8s_size,hS,hmacL_length]; exact info35
    have HTt:=Lib.hid hTt
    clear own own' hbt hz hZ hTin hzr hS hTt
    go_wp2_with (first
     | (go_at_call 116; refine (hmac_any k T (some ⟨w.heap.size,0,none⟩) At 32 32 ct T.length wr Hk.out rfl Hb.out HTi.out (byt_rowT hkr.out Hk.out) Hbt.out (HL.out.below low.out hsz) (by omega) (by omega)).mono ?_; rintro e w4 ⟨rfl,b4⟩; rw [← HS.out]; have Z4:=Lib.hid ((b4.block _ (by omega)).trans Hz.out); have Low4:=Lib.hid (low.out.trans (b4.mono low.out.size)); clear b4)
     | (refine wpList_store_row rfl 24 (.tmp 6) (.tmp 25) rfl (w.heap.size + 1) (u8s S) (by rfl) (by rfl) 24 _ Z4.out H35.out (by rw [HZ.out,u8s_size,HS.out,hmacL_length]) (u8s_one _) ?_))
    exact bodyPost_ret (v:=.agg (u8s S)) (results_cell_row rfl _ _ (w.heap.size + 1) 24 _ (0,0) _ rfl (setRow_heap w4 _ _ _ _ _ Z4.out) Tryz.underlying24 rfl H35.out) rfl ⟨by rw [HS.out,HTt.out],below_setRow Low4.out (by omega) _⟩
end Go.Proofs.YteeghgjkjicjoaaGreatDoor
namespace Go.Proofs.YteeghgjkjicjoaaGreatDoor
open Go.RowKit
theorem cells4 {w:World} {g T:Nat} {a b c d:Value} {fr:Nat × Nat} (h:w.heap[g]? = some (.cells #[a,b,c,d] T fr)) :
 w.cell? ⟨g,0,none⟩ = some a ∧ w.cell? ⟨g,1,none⟩ = some b ∧ w.cell? ⟨g,2,none⟩ = some c ∧ w.cell? ⟨g,3,none⟩ = some d :=
 ⟨cell_row h 0,cell_row h 1,cell_row h 2,cell_row h 3⟩
theorem u32s_set (l:List Int) (k:Nat) (v:Int):(u32s l).setIfInBounds k (.int .u32 v) = u32s (l.set k v):=by
 simp [u32s,List.map_set]
theorem u8s_set (l:List Int) (k:Nat) (v:Int):(u8s l).setIfInBounds k (.int .u8 v) = u8s (l.set k v):=by
 simp [u8s,List.map_set]
theorem row32_set {w:World} {g T:Nat} {l:List Int} (h:w.heap[g]? = some (.cells (u32s l) T (0,0))) (k:Nat) (v:Int):(w.setCell ⟨g,k,none⟩ (.int .u32 v)).heap[g]? = some (.cells (u32s (l.set k v)) T (0,0)):=by
 rw [← u32s_set]; exact heap_setCell_same _ _ _ _ _ _ h
theorem row8_set {w:World} {g T:Nat} {l:List Int} (h:w.heap[g]? = some (.cells (u8s l) T (0,0))) (k:Nat) (v:Int):(w.setCell ⟨g,k,none⟩ (.int .u8 v)).heap[g]? = some (.cells (u8s (l.set k v)) T (0,0)):=by
 rw [← u8s_set]; exact heap_setCell_same _ _ _ _ _ _ h
theorem row32_cell {w:World} {g T:Nat} {l:List Int} {fr:Nat × Nat} (h:w.heap[g]? = some (.cells (u32s l) T fr)) (k:Nat) (hk:k < l.length):w.cell? ⟨g,k,none⟩ = some (.int .u32 (l.getD k 0)):=by
 rw [cell_row h,u32s_get l k hk]
theorem row8_cell {w:World} {g T:Nat} {l:List Int} {fr:Nat × Nat} (h:w.heap[g]? = some (.cells (u8s l) T fr)) (k:Nat) (hk:k < l.length):w.cell? ⟨g,k,none⟩ = some (.int .u8 (l.getD k 0)):=by
 rw [cell_row h,u8s_get l k hk]
theorem four_new (w:World) (A B C D:Obj):((((w.alloc A).alloc B).alloc C).alloc D).heap[w.heap.size]? = some A ∧ ((((w.alloc A).alloc B).alloc C).alloc D).heap[w.heap.size + 1]? = some B ∧ ((((w.alloc A).alloc B).alloc C).alloc D).heap[w.heap.size + 1 + 1]? = some C ∧ ((((w.alloc A).alloc B).alloc C).alloc D).heap[w.heap.size + 1 + 1 + 1]? = some D:=by
 have h:=three_new w A B C
 refine ⟨?_,?_,?_,?_⟩
 · exact (Go.heap_alloc_old _ D (by simp; omega)).trans h.1
 · exact (Go.heap_alloc_old _ D (by simp)).trans h.2.1
 · exact (Go.heap_alloc_old _ D (by simp)).trans h.2.2
 · have:=heap_alloc_new (((w.alloc A).alloc B).alloc C) D
   simpa using this
theorem below4 (w:World) (A B C D:Obj):Below w.heap.size w ((((w.alloc A).alloc B).alloc C).alloc D):=(below3 w A B C).alloc (by simp; omega) _
theorem Below.drewN {B:Nat} {w w':World} (h:Below B w w') (n:Nat):Below B w (w'.drewN n):=⟨h.os,h.tape,h.output,h.size,h.block⟩
end Go.Proofs.YteeghgjkjicjoaaGreatDoor
namespace Go.Proofs.YteeghgjkjicjoaaGreatDoor.Cha
def rotl (x:Int) (n:Nat):Int:=bits .or .u32 (x * 2 ^ n % 4294967296) (x / 2 ^ (32 - n))
def turnr (x:Int) (n:Nat):Int:=bits .or .u32 (x / 2 ^ n) (x * 2 ^ (32 - n) % 4294967296)
def xo (a b:Int):Int:=bits .xor .u32 a b
def Wd (x:Int):Prop:=0 ≤ x ∧ x < 4294967296
def qa1 (a b:Int):Int:=(a + b) % 4294967296
def qd1 (a b d:Int):Int:=rotl (xo d (qa1 a b)) 16
def qc1 (a b c d:Int):Int:=(c + qd1 a b d) % 4294967296
def qb1 (a b c d:Int):Int:=rotl (xo b (qc1 a b c d)) 12
def qa2 (a b c d:Int):Int:=(a + b + qb1 a b c d) % 4294967296
def qd2 (a b c d:Int):Int:=rotl (xo (qd1 a b d) (qa2 a b c d)) 8
def qc2 (a b c d:Int):Int:=(c + qd1 a b d + qd2 a b c d) % 4294967296
def qb2 (a b c d:Int):Int:=rotl (xo (qb1 a b c d) (qc2 a b c d)) 7
section
variable {a b c d:Int} (ha:Wd a) (hb:Wd b) (hc:Wd c) (hd:Wd d)
include hd in
end
attribute [irreducible] rotl turnr
def quarterL (l:List Int):List Int :=
 let a:=l.getD 0 0; let b:=l.getD 1 0; let c:=l.getD 2 0; let d:=l.getD 3 0
 [qa2 a b c d,qb2 a b c d,qc2 a b c d,qd2 a b c d]
def QN:List Nat:=[0,4,8,12,1,5,9,13,2,6,10,14,3,7,11,15,0,5,10,15,1,6,11,12,2,7,8,13,3,4,9,14]
def qn (k j:Nat):Nat:=QN.getD (4 * k + j) 0
theorem qn_lt (k j:Nat):qn k j < 16:=by
 have h:∀ x ∈ QN,x < 16:=by decide
 unfold qn
 by_cases e:4 * k + j < QN.length
 · rw [List.getD_eq_getElem?_getD,List.getElem?_eq_getElem e]; exact h _ (List.getElem_mem e)
 · rw [List.getD_eq_getElem?_getD,List.getElem?_eq_none (by omega)]; decide
def qstep (s:List Int) (a b c d:Nat):List Int :=
 let t:=quarterL [s.getD a 0,s.getD b 0,s.getD c 0,s.getD d 0]
 (((s.set a (t.getD 0 0)).set b (t.getD 1 0)).set c (t.getD 2 0)).set d (t.getD 3 0)
theorem qstep_length (s:List Int) (a b c d:Nat):(qstep s a b c d).length = s.length:=by simp [qstep]
def dr (s:List Int):Nat → List Int
 | 0 => s
 | k + 1 => qstep (dr s k) (qn k 0) (qn k 1) (qn k 2) (qn k 3)
theorem dr_length (s:List Int) (k:Nat):(dr s k).length = s.length:=by
 induction k with
 | zero => rfl
 | succ k ih => rw [dr,qstep_length,ih]
def drs (s:List Int):Nat → List Int
 | 0 => s
 | n + 1 => dr (drs s n) 8
theorem drs_length (s:List Int) (k:Nat):(drs s k).length = s.length:=by
 induction k with
 | zero => rfl
 | succ k ih => rw [drs,dr_length,ih]
def word4 (a b c d:Int):Int:=bits .or .u32 (bits .or .u32 (bits .or .u32 a (b * 256)) (c * 65536)) (d * 16777216)
def wordAt (l:List Int) (k:Nat):Int:=word4 (l.getD (4 * k) 0) (l.getD (4 * k + 1) 0) (l.getD (4 * k + 2) 0) (l.getD (4 * k + 3) 0)
def stK (K:List Int) (c:Int):Nat → List Int
 | 0 => [1634760805,857760878,2036477234,1797285236,0,0,0,0,0,0,0,0,c,0,0,0]
 | k + 1 => (stK K c k).set (4 + k) (wordAt K k)
def stN (K:List Int) (c:Int) (N:List Int):Nat → List Int
 | 0 => stK K c 8
 | k + 1 => (stN K c N k).set (13 + k) (wordAt N k)
def stL (K:List Int) (c:Int) (N:List Int):List Int:=stN K c N 3
theorem stK_length (K:List Int) (c:Int) (k:Nat):(stK K c k).length = 16:=by
 induction k with
 | zero => rfl
 | succ k ih => simp [stK,ih]
theorem stN_length (K:List Int) (c:Int) (N:List Int) (k:Nat):(stN K c N k).length = 16:=by
 induction k with
 | zero => exact stK_length _ _ _
 | succ k ih => simp [stN,ih]
theorem stL_length (K:List Int) (c:Int) (N:List Int):(stL K c N).length = 16:=stN_length _ _ _ _
def outF (m s:List Int) (j:Nat):Int:=(m.getD (j / 4) 0 + s.getD (j / 4) 0) % 4294967296 / 256 ^ (j % 4) % 256
def outL (m s:List Int):List Int:=(List.range 64).map (outF m s)
theorem outL_length (m s:List Int):(outL m s).length = 64:=by simp [outL]
theorem outL_getD (m s:List Int) (j:Nat) (h:j < 64):outF m s j = (outL m s).getD j 0:=by simp [outL,h]
theorem outF_in (m s:List Int) (j:Nat):0 ≤ outF m s j ∧ outF m s j < 256:=by unfold outF; omega
theorem outL_in (m s:List Int):InB (outL m s):=by
 intro j
 by_cases h:j < 64
 · rw [← outL_getD m s j h]; exact outF_in m s j
 · rw [getD_out _ _ (by rw [outL_length]; omega)]; omega
theorem outF_at (m s:List Int) (k:Nat) (x:Int) (hx:x = (m.getD k 0 + s.getD k 0) % 4294967296):outF m s (4 * k) = x % 256 ∧ outF m s (4 * k + 1) = x / 256 % 256 ∧ outF m s (4 * k + 2) = x / 65536 % 256 ∧ outF m s (4 * k + 3) = x / 16777216 % 256:=by
 unfold outF
 rw [show 4 * k / 4 = k by omega,show 4 * k % 4 = 0 by omega,show (4 * k + 1) / 4 = k by omega,show (4 * k + 1) % 4 = 1 by omega,show (4 * k + 2) / 4 = k by omega,show (4 * k + 2) % 4 = 2 by omega,show (4 * k + 3) / 4 = k by omega,show (4 * k + 3) % 4 = 3 by omega,← hx]
 exact ⟨by rw [show (256:Int) ^ 0 = 1 from rfl,Int.ediv_one],rfl,rfl,rfl⟩
def blockL (K:List Int) (c:Int) (N:List Int):List Int:=outL (drs (stL K c N) 10) (stL K c N)
theorem blockL_length (K:List Int) (c:Int) (N:List Int):(blockL K c N).length = 64:=outL_length _ _
theorem blockL_in (K:List Int) (c:Int) (N:List Int):InB (blockL K c N):=outL_in _ _
attribute [irreducible] outF
end Go.Proofs.YteeghgjkjicjoaaGreatDoor.Cha
namespace Go.Proofs.YteeghgjkjicjoaaGreatDoor.Cha
open Go.RowKit
theorem and31p_all:∀ n:Fin 32,bits .and .u64 (n.val:Int) 31 = ((n.val:Nat):Int):=by decide +kernel
theorem and31p (n:Nat) (h2:n ≤ 31):bits .and .u64 (n:Int) 31 = (n:Int):=and31p_all ⟨n,by omega⟩
theorem ret_u32 {a b:Int} (h:a = b):Ending.returned (.int .u32 a) = .returned (.int .u32 b):=by rw [h]
theorem rotl_eq (x:Int) (n:Nat):bits .or .u32 (x * 2 ^ n % 4294967296) (x / 2 ^ (32 - n)) = rotl x n:=by unfold rotl; rfl
set_option maxHeartbeats 400000 in
theorem rotl_any (x:Int) (n:Nat) (h1:1 ≤ n) (h2:n ≤ 31) (w:World) :
 Calls Tryz.prog 166 #[.int .u32 x,.int .i64 (n:Int)] w fun e w' => e = .returned (.int .u32 (rotl x n)) ∧ w = w':=by
 have hs:=and31p n h2
 go_enter Tryz.func166,Tryz.ntmps166
 go_wp2
 go_ret
 exact ⟨ret_u32 (rotl_eq x n),rfl⟩
theorem rotl_same (x n:Int) (h1:1 ≤ n) (h2:n ≤ 31) (w:World) :
 Calls Tryz.prog 166 #[.int .u32 x,.int .i64 n] w fun e w' => e = .returned (.int .u32 (rotl x n.toNat)) ∧ w = w':=by
 obtain ⟨m,rfl⟩:=Int.eq_ofNat_of_zero_le (show 0 ≤ n by omega)
 exact rotl_any x m (by omega) (by omega) w
theorem infoQ:(Tryz.prog.info? 204).map (·.size) = some 4:=by kernel_rfl
theorem four_row {w:World} {g T:Nat} {x0 x1 x2 x3:Value} (y0 y1 y2 y3:Value) (h:w.heap[g]? = some (.cells #[x0,x1,x2,x3] T (0,0))) :
 ((((w.setCell ⟨g,0,none⟩ y0).setCell ⟨g,1,none⟩ y1).setCell ⟨g,2,none⟩ y2).setCell ⟨g,3,none⟩ y3).heap[g]? = some (.cells #[y0,y1,y2,y3] T (0,0)) :=
 heap_setCell_same _ _ _ _ _ _ (heap_setCell_same _ _ _ _ _ _ (heap_setCell_same _ _ _ _ _ _ (heap_setCell_same _ _ _ _ _ _ h)))
theorem Below.four {B g:Nat} {w w':World} (h:Below B w w') (hg:B ≤ g) (y0 y1 y2 y3:Value) :
 Below B w ((((w'.setCell ⟨g,0,none⟩ y0).setCell ⟨g,1,none⟩ y1).setCell ⟨g,2,none⟩ y2).setCell ⟨g,3,none⟩ y3) :=
 (((h.setCell hg _).setCell hg _).setCell hg _).setCell hg _
set_option maxRecDepth 100000 in
set_option maxHeartbeats 1000000 in
theorem quarter_lit (a b c d:Int) (w:World) :
 Calls Tryz.prog 157 #[.agg #[.int .u32 a,.int .u32 b,.int .u32 c,.int .u32 d]] w
  fun e' w' => e' = .returned (.agg (u32s [qa2 a b c d,qb2 a b c d,qc2 a b c d,qd2 a b c d])) ∧ Below w.heap.size w w':=by
 go_enter Tryz.func157,Tryz.ntmps157
 go_wp2
 go_quiet (fail)
 go_wp2_with (go_at_call 166; refine (rotl_same _ _ (by decide) (by decide) _).mono ?_; rintro e0 w0 ⟨rfl,rfl⟩)
 have low:Below w.heap.size w (((w.alloc (.cells #[.int .u32 a,.int .u32 b,.int .u32 c,.int .u32 d] 204)).alloc (.cells #[.int .u32 0,.int .u32 0,.int .u32 0,.int .u32 0] 204)).drewN nq) :=
  Below.drewN (((Below.refl _ _).alloc (Nat.le_refl _) _).alloc (by simp) _) nq
 have hrow:(((w.alloc (.cells #[.int .u32 a,.int .u32 b,.int .u32 c,.int .u32 d] 204)).alloc (.cells #[.int .u32 0,.int .u32 0,.int .u32 0,.int .u32 0] 204)).drewN nq).heap[w.heap.size + 1]? = some (.cells #[.int .u32 0,.int .u32 0,.int .u32 0,.int .u32 0] 204 (0,0)):=(two_new _ _ _).2
 exact bodyPost_ret (v:=.agg (u32s [qa2 a b c d,qb2 a b c d,qc2 a b c d,qd2 a b c d])) (results_cell_row rfl _ _ (w.heap.size + 1) 204 _ (0,0) _ rfl (four_row _ _ _ _ hrow) Tryz.underlying204 rfl infoQ) rfl ⟨rfl,Below.four low (by omega) _ _ _ _⟩
theorem quarter_any (l:List Int) (hl:l.length = 4) (w:World) :
 Calls Tryz.prog 157 #[.agg (u32s l)] w fun e' w' => e' = .returned (.agg (u32s (quarterL l))) ∧ Below w.heap.size w w':=by
 have h:=quarter_lit (l.getD 0 0) (l.getD 1 0) (l.getD 2 0) (l.getD 3 0) w
 have e:u32s l = #[.int .u32 (l.getD 0 0),.int .u32 (l.getD 1 0),.int .u32 (l.getD 2 0),.int .u32 (l.getD 3 0)]:=by
  match l,hl with
  | [a,b,c,d],_ => rfl
 rw [e]
 exact h
set_option maxHeartbeats 400000 in
theorem word_any (g off len cap:Nat) (a b c d:Int) (hl:4 ≤ len) (w:World)
 (h0:w.cell? ⟨g,off,none⟩ = some (.int .u8 a)) (h1:w.cell? ⟨g,off + 1,none⟩ = some (.int .u8 b)) (h2:w.cell? ⟨g,off + 2,none⟩ = some (.int .u8 c)) (h3:w.cell? ⟨g,off + 3,none⟩ = some (.int .u8 d))
 (ha:0 ≤ a ∧ a < 256) (hb:0 ≤ b ∧ b < 256) (hc:0 ≤ c ∧ c < 256) (hd:0 ≤ d ∧ d < 256) :
 Calls Tryz.prog 156 #[.slice (some ⟨g,off,none⟩) len cap] w fun e w' => e = .returned (.int .u32 (word4 a b c d)) ∧ ∃ n,w' = w.drewN n:=by
 obtain ⟨ha0,ha1⟩:=ha
 obtain ⟨hb0,hb1⟩:=hb
 obtain ⟨hc0,hc1⟩:=hc
 obtain ⟨hd0,hd1⟩:=hd
 have l0:(0:Int) < len:=by omega
 have l1:(1:Int) < len:=by omega
 have l2:(2:Int) < len:=by omega
 have l3:(3:Int) < len:=by omega
 go_enter Tryz.func156,Tryz.ntmps156
 go_wp2
 go_quiet (fail)
 go_wp2
 go_ret
 exact ⟨rfl,nq,rfl⟩
theorem slice_arr {T:Nat} (n:Nat) (hu:Tryz.prog.underlying T = some (.array n 5)) (wr:World) (g k:Nat) (h:4 * k < n):(Instr.sliceAt T (.pointer (some ⟨g,0,none⟩)) (some (.int .i64 (4 * (k:Int)))) none none).run Tryz.prog wr = .ok (.slice (some ⟨g,4 * k,none⟩) (n - 4 * k) (n - 4 * k)) wr:=by
 have h1:(4 * (k:Int)).toNat = 4 * k:=by omega
 have h2:¬ n = 4 * k:=by omega
 have h3:0 ≤ 4 * (k:Int):=by omega
 have h4:4 * (k:Int) ≤ n:=by omega
 have hs:∀ w',(sizeOf 5).run Tryz.prog w' = .ok 1 w':=fun _ => by kernel_rfl
 simp [Instr.sliceAt,Instr.sureAddr,run_underlying hu,Instr.sliceBounds,Instr.sliceBound,asIntOf,h1,h2,h3,h4,hs,Addr.add]
 intro h
 exact h.symm
structure SInv (K Nn l:List Int) (B:Nat) (w wr:World):Prop where
 key:wr.heap[B]? = some (.cells (u8s K) 24 (0,0))
 nonce:wr.heap[B + 1]? = some (.cells (u8s Nn) 160 (0,0))
 res:∃ Z:List Int,Z.length = 16 ∧ wr.heap[B + 1 + 1]? = some (.cells (u32s Z) 187 (0,0))
 row:wr.heap[B + 1 + 1 + 1]? = some (.cells (u32s l) 187 (0,0))
 low:Below B w wr
theorem SInv.drewN {K Nn l:List Int} {B:Nat} {w wr:World} (h:SInv K Nn l B w wr) (n:Nat):SInv K Nn l B w (wr.drewN n):=⟨h.key,h.nonce,h.res,h.row,Below.drewN h.low n⟩
theorem SInv.set {K Nn l:List Int} {B:Nat} {w wr:World} (h:SInv K Nn l B w wr) (k:Nat) (v:Int):SInv K Nn (l.set k v) B w (wr.setCell ⟨B + 1 + 1 + 1,k,none⟩ (.int .u32 v)):=by
 obtain ⟨Z,hZ,hz⟩:=h.res
 refine ⟨?_,?_,⟨Z,hZ,?_⟩,row32_set h.row k v,h.low.setCell (by simp; omega) _⟩
 · rw [heap_setCell_other _ _ _ _ (by simp; omega)]; exact h.key
 · rw [heap_setCell_other _ _ _ _ (by simp)]; exact h.nonce
 · rw [heap_setCell_other _ _ _ _ (by simp)]; exact hz
theorem infoS:(Tryz.prog.info? 187).map (·.size) = some 16:=by kernel_rfl
set_option maxRecDepth 100000 in
set_option maxHeartbeats 1000000 in
theorem stateOf_any (K Nn:List Int) (c:Int) (hK:K.length = 32) (hN:Nn.length = 12) (bK:InB K) (bN:InB Nn) (w:World) :
 Calls Tryz.prog 143 #[.agg (u8s K),.int .u32 c,.agg (u8s Nn)] w fun e' w' => e' = .returned (.agg (u32s (stL K c Nn))) ∧ Below w.heap.size w w':=by
 have HK:=Lib.hid hK
 have HN:=Lib.hid hN
 have BK:=Lib.hid bK
 have BN:=Lib.hid bN
 clear hK hN bK bN
 go_enter Tryz.func143,Tryz.ntmps143
 go_wp2
 go_loopw [12] (fun i wr => ∃ k:Nat,k ≤ 8 ∧ i = .int .i64 k ∧ SInv K Nn (stK K c k) w.heap.size w wr) (fun i _ => 8 - (intOf i).toNat)
 case atStart =>
  have h4:=four_new w
  exact ⟨0,Nat.zero_le _,rfl,(h4 _ _ _ _).1,(h4 _ _ _ _).2.1,⟨[0,0,0,0,0,0,0,0,0,0,0,0,0,0,0,0],rfl,(h4 _ _ _ _).2.2.1⟩,(h4 _ _ _ _).2.2.2,below4 _ _ _ _ _⟩
 case round =>
  obtain ⟨k,hk,rfl,hinv⟩:=hrel
  by_cases hlt:k < 8
  · have c0:=row8_cell hinv.key (4 * k) (by rw [HK.out]; omega)
    have c1:=row8_cell hinv.key (4 * k + 1) (by rw [HK.out]; omega)
    have c2:=row8_cell hinv.key (4 * k + 2) (by rw [HK.out]; omega)
    have c3:=row8_cell hinv.key (4 * k + 3) (by rw [HK.out]; omega)
    have Hc:Hid (Calls Tryz.prog 156 #[.slice (some ⟨w.heap.size,4 * k,none⟩) (32 - 4 * k) (32 - 4 * k)] wr fun e w' => e = .returned (.int .u32 (wordAt K k)) ∧ ∃ n,w' = wr.drewN n) :=
     word_any _ _ _ _ _ _ _ _ (by omega) _ c0 c1 c2 c3 (BK.out _) (BK.out _) (BK.out _) (BK.out _)
    have hsl:=slice_arr 32 Tryz.underlying24 wr w.heap.size k (by omega)
    have hv:=row32_cell hinv.row (4 + k) (by rw [stK_length]; omega)
    have hfz:=free_row hinv.row (4 + k)
    clear c0 c1 c2 c3
    go_wp2_with (go_at_call 156; refine Hc.out.mono ?_; rintro e w' ⟨rfl,n,rfl⟩)
    go_roundw
    case rel => exact ⟨k + 1,by omega,by go_num,((hinv.drewN _).set _ _)⟩
    case measure => simp [intOf]; omega
  · have h8:k = 8:=by omega
    rw [h8] at hinv
    have H8:=Lib.hid h8
    clear h8 hk
    obtain ⟨w1,hw1⟩:∃ w1,w1 = wr:=⟨_,rfl⟩
    subst hw1
    go_wp2
    go_loopw [23] (fun i wr => ∃ k:Nat,k ≤ 3 ∧ i = .int .i64 k ∧ SInv K Nn (stN K c Nn k) w.heap.size w wr) (fun i _ => 3 - (intOf i).toNat)
    case atStart => exact ⟨0,Nat.zero_le _,rfl,hinv⟩
    case round =>
     clear hinv
     obtain ⟨k,hk,rfl,hinv⟩:=hrel
     by_cases hlt:k < 3
     · have c0:=row8_cell hinv.nonce (4 * k) (by rw [HN.out]; omega)
       have c1:=row8_cell hinv.nonce (4 * k + 1) (by rw [HN.out]; omega)
       have c2:=row8_cell hinv.nonce (4 * k + 2) (by rw [HN.out]; omega)
       have c3:=row8_cell hinv.nonce (4 * k + 3) (by rw [HN.out]; omega)
       have Hc:Hid (Calls Tryz.prog 156 #[.slice (some ⟨w.heap.size + 1,4 * k,none⟩) (12 - 4 * k) (12 - 4 * k)] wr fun e w' => e = .returned (.int .u32 (wordAt Nn k)) ∧ ∃ n,w' = wr.drewN n) :=
        word_any _ _ _ _ _ _ _ _ (by omega) _ c0 c1 c2 c3 (BN.out _) (BN.out _) (BN.out _) (BN.out _)
       have hsl:=slice_arr 12 Tryz.underlying160 wr (w.heap.size + 1) k (by omega)
       have hv:=row32_cell hinv.row (13 + k) (by rw [stN_length]; omega)
       have hfz:=free_row hinv.row (13 + k)
       clear c0 c1 c2 c3
       go_wp2_with (go_at_call 156; refine Hc.out.mono ?_; rintro e w' ⟨rfl,n,rfl⟩)
       go_roundw
       case rel => exact ⟨k + 1,by omega,by go_num,((hinv.drewN _).set _ _)⟩
       case measure => simp [intOf]; omega
     · have h8:k = 3:=by omega
       rw [h8] at hinv
       have H3:=Lib.hid h8
       clear h8 hk
       obtain ⟨Z,hZ,hz⟩:=hinv.res
       have hr:wr.heap[w.heap.size + 1 + 1 + 1]? = some (.cells (u32s (stL K c Nn)) 187 (0,0)):=hinv.row
       have low:=hinv.low
       have hrow:=setRow_heap wr _ _ (u32s (stL K c Nn)) _ _ hz
       have hlow:Below w.heap.size w (wr.setRow (w.heap.size + 1 + 1) (u32s (stL K c Nn))):=below_setRow low (by omega) _
       have hsz:(Tryz.prog.info? 187).map (·.size) = some (u32s (stL K c Nn)).size:=by rw [u32s_size,stL_length]; exact infoS
       have hzz:(u32s Z).size = (u32s (stL K c Nn)).size:=by rw [u32s_size,u32s_size,stL_length,hZ]
       have Hsz:=Lib.hid hsz
       have Hzz:=Lib.hid hzz
       have Hr:=Lib.hid hr
       have Hz:=Lib.hid hz
       have Hrow:=Lib.hid hrow
       clear hsz hzz hr hz hrow hZ hinv
       go_wp2_with (first | (with_reducible refine wpList_load_row rfl 187 (.tmp 7) rfl (w.heap.size + 1 + 1 + 1) rfl 187 (u32s (stL K c Nn)) (0,0) _ Hr.out Tryz.underlying187 rfl Hsz.out ?_) | (with_reducible refine wpList_store_row rfl 187 (.tmp 6) (.tmp 34) rfl (w.heap.size + 1 + 1) (u32s (stL K c Nn)) rfl rfl 187 (u32s Z) Hz.out Hsz.out Hzz.out (u32s_one _) ?_))
       exact bodyPost_ret (v:=.agg (u32s (stL K c Nn))) (results_cell_row rfl _ _ (w.heap.size + 1 + 1) 187 _ (0,0) _ rfl Hrow.out Tryz.underlying187 rfl Hsz.out) rfl ⟨rfl,hlow⟩
end Go.Proofs.YteeghgjkjicjoaaGreatDoor.Cha
namespace Go.Proofs.YteeghgjkjicjoaaGreatDoor.Arr
open Go.RowKit
def nums (k:IntKind) (l:List Int):Array Value:=(l.map (Value.int k)).toArray
theorem nums_get (k:IntKind) (l:List Int) (j:Nat) (h:j < l.length):(nums k l)[j]? = some (.int k (l.getD j 0)):=by simp [nums,h]
section
variable {E:Nat} {k:IntKind} (hE:Tryz.prog.underlying E = some (.int k)) (hc:Tryz.prog.cellsOf E = 1) (hg:∀ w':World,(isAgg E).run Tryz.prog w' = .ok false w')
include hg in
theorem part_num (l:List Int) (i:Nat) (h:i < l.length) (w:World):(part E (nums k l) i).run Tryz.prog w = .ok (.int k (l.getD i 0)) w:=by
 simp [part,hg,nums_get k l i h]
include hE hc hg in
theorem eqItems_num (d n:Nat) (l m:List Int) (hl:l.length = n) (hm:m.length = n):∀ (is:List Nat) (w:World),(∀ i ∈ is,i < n) →
 (Op.eqItems (d + 1) E (Tryz.prog.cellsOf E) (nums k l) (nums k m) is).run Tryz.prog w = .ok (is.all fun i => l.getD i 0 == m.getD i 0) w
 | [],w,_ => by simp [Op.eqItems]
 | i :: is,w,h => by
   have hi:=h i (List.mem_cons_self ..)
   have ih:=eqItems_num d n l m hl hm is w (fun j hj => h j (List.mem_cons_of_mem _ hj))
   rw [hc] at ih ⊢
   simp only [Op.eqItems,Sem.run_bind,Nat.mul_one,part_num hg l i (by omega) w,part_num hg m i (by omega) w,Result.andThen_ok,run_equalIn_int w d E k k _ _ hE]
   by_cases e:(l.getD i 0 == m.getD i 0) = true
   · simp only [e,Bool.not_true,Bool.false_eq_true,if_false,List.all_cons,Bool.true_and]
     exact ih
   · have e':(l.getD i 0 == m.getD i 0) = false:=by simpa using e
     simp only [e',Bool.not_false,if_true,List.all_cons,Bool.false_and,Sem.run_pure]
theorem all_same (l m:List Int) (n:Nat) (hl:l.length = n) (hm:m.length = n):((List.range n).all fun i => l.getD i 0 == m.getD i 0) = decide (l = m):=by
 by_cases e:l = m
 · subst e; simp
 · rw [decide_eq_false e,Bool.eq_false_iff]
   intro h
   apply e
   apply List.ext_getElem (by omega)
   intro j h1 h2
   have:=List.all_eq_true.1 h j (List.mem_range.2 (by omega))
   simpa [List.getD_eq_getElem?_getD,h1,h2] using this
include hE hc hg in
theorem eql_arr {T n:Nat} (hT:Tryz.prog.underlying T = some (.array n E)) (hi:(Tryz.prog.info? E).isSome = true) (l m:List Int) (hl:l.length = n) (hm:m.length = n) (w:World) :
 (binOp .eql T (.agg (nums k l)) (.agg (nums k m))).run Tryz.prog w = .ok (.bool (decide (l = m))) w:=by
 obtain ⟨i,hq⟩:=Option.isSome_iff_exists.1 hi
 rw [run_eql_struct,run_equalIn_array w 9999 (nums k l) (nums k m) hT hq,eqItems_num hE hc hg 9998 n l m hl hm _ w (fun i hi => List.mem_range.1 hi),all_same l m n hl hm]
 rfl
end
end Go.Proofs.YteeghgjkjicjoaaGreatDoor.Arr
namespace Go.Proofs.YteeghgjkjicjoaaGreatDoor
def upd (s:Nat → Value) (d:Nat) (v:Value):Nat → Value:=fun x => if x = d then v else s x
def Holding (dsts:List Nat) (vl:List (Option Value)) (l:Array Bool) (s:Nat → Value):Prop:=∀ j v,l.getD j false = true → vl.getD j none = some v → s (dsts.getD j 0) = v
def apartB (dsts:List Nat):Bool:=(List.range dsts.length).all fun i => (List.range dsts.length).all fun j => i == j || dsts.getD i 0 != dsts.getD j 0
theorem apart_of {dsts:List Nat} (h:apartB dsts = true) {i j:Nat} (hi:i < dsts.length) (hj:j < dsts.length) (e:dsts.getD j 0 = dsts.getD i 0):j = i:=by
 have:=List.all_eq_true.1 (List.all_eq_true.1 h j (List.mem_range.2 hj)) i (List.mem_range.2 hi)
 simp only [Bool.or_eq_true,beq_iff_eq,bne_iff_ne,ne_eq] at this
 exact this.resolve_right (fun hn => hn e)
theorem Holding.start {dsts:List Nat} {vl:List (Option Value)} {n:Nat} {s:Nat → Value}:Holding dsts vl (Array.replicate n false) s:=fun j v h => by
 by_cases hj:j < n
 · simp [Array.getD_eq_getD_getElem?,hj] at h
 · simp [Array.getD_eq_getD_getElem?,hj] at h
theorem Holding.next {dsts:List Nat} {vl:List (Option Value)} {l:Array Bool} {s:Nat → Value} (h:Holding dsts vl l s) (hd:apartB dsts = true) (hs:l.size = dsts.length) (i:Nat) (hi:i < dsts.length) (v:Value) (hv:∀ v',vl.getD i none = some v' → v = v') :
 Holding dsts vl (l.setIfInBounds i true) (upd s (dsts.getD i 0) v):=fun j v' hl hj => by
 by_cases e:j = i
 · subst e
   unfold upd
   rw [if_pos rfl]
   exact hv v' hj
 · have hl':=(getD_listed hl).resolve_left e
   have hjn:j < dsts.length:=by
    by_cases hj':j < dsts.length
    · exact hj'
    · rw [Array.getD_eq_getD_getElem?,Array.getElem?_eq_none (by omega)] at hl'
      cases hl'
   unfold upd
   rw [if_neg]
   · exact h j v' hl' hj
   · intro he
     exact e (apart_of hd hi hjn he)
theorem Holding.pass {dsts:List Nat} {vl:List (Option Value)} {l:Array Bool} {s:Nat → Value} (h:Holding dsts vl l s) (i:Nat) (hv:vl.getD i none = none):Holding dsts vl (l.setIfInBounds i true) s:=fun j v' hl hj => by
 by_cases e:j = i
 · subst e; rw [hv] at hj; cases hj
 · exact h j v' ((getD_listed hl).resolve_left e) hj
end Go.Proofs.YteeghgjkjicjoaaGreatDoor
