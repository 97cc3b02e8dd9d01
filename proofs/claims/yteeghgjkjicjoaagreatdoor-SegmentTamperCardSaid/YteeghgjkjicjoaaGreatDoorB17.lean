/- Texts of ours, merged. -/
import Derived.Test.YteeghgjkjicjoaaGreatDoorB16
namespace Go.Proofs.YteeghgjkjicjoaaGreatDoor.Epo
open Go.RowKit Dsk
structure CV where
 f:Nat
 bd:Nat
 v:Nat
structure Ct (w:World) (K:DK) (g:Nat) (C:CV):Prop where
 row:w.heap[g]? = some (.cells #[.pointer (some ⟨g,0,none⟩),K.ptr,.int .i64 C.f,.int .i64 C.bd,.int .i64 C.v] 123 (0,0))
 le:C.v ≤ C.bd
 mod:C.bd % 128 = 0
 most:C.f * 128 + C.bd ≤ 2097152
theorem Ct.lt {w:World} {K:DK} {g:Nat} {C:CV} (h:Ct w K g C):g < w.heap.size:=(Array.getElem?_eq_some_iff.1 h.row).1
theorem Ct.chg {w w':World} {K:DK} {g:Nat} {C:CV} {S:List Nat} (h:Ct w K g C) (hc:Chg S w w') (hg:g ∉ S):Ct w' K g C:=⟨hc.at h.row hg,h.le,h.mod,h.most⟩
theorem Ct.later {w w':World} {K:DK} {g:Nat} {C:CV} (h:Ct w K g C) (hb:Below w.heap.size w w'):Ct w' K g C:=h.chg (S:=[]) (Chg.of_below hb) (by simp)
theorem Ct.cells {w:World} {K:DK} {g:Nat} {C:CV} (h:Ct w K g C):w.cell? ⟨g,0,none⟩ = some (.pointer (some ⟨g,0,none⟩)) ∧ w.cell? ⟨g,1,none⟩ = some K.ptr ∧ w.cell? ⟨g,2,none⟩ = some (.int .i64 C.f) ∧ w.cell? ⟨g,3,none⟩ = some (.int .i64 C.bd) ∧ w.cell? ⟨g,4,none⟩ = some (.int .i64 C.v) :=
 ⟨cell_row h.row 0,cell_row h.row 1,cell_row h.row 2,cell_row h.row 3,cell_row h.row 4⟩
theorem ceq_same (a:Addr) (w:World):(binOp .eql 89 (.pointer (some a)) (.pointer (some a))).run Tryz.prog w = .ok (.bool true) w:=by
 obtain ⟨j,hj⟩:∃ j,Tryz.prog.info? 123 = some j:=Option.isSome_iff_exists.1 (by kernel_rfl)
 exact Go.run_eql_ptr_same w a (te := 123) Tryz.underlying89 hj
theorem ct_made {w:World} {K:DK} {g:Nat} {C:CV} (h:Ct w K g C):Calls Tryz.prog 80 #[.pointer (some ⟨g,0,none⟩)] w fun e w' => e = .returned (.bool true) ∧ w = w':=by
 obtain ⟨c0,_⟩:=h.cells
 have he:=ceq_same ⟨g,0,none⟩
 clear h
 go_enter Tryz.func80,Tryz.ntmps80
 go_wp2
 go_ret
 exact ⟨rfl,rfl⟩
theorem value_any {w:World} {K:DK} {g:Nat} {C:CV} (h:Ct w K g C):Calls Tryz.prog 45 #[.pointer (some ⟨g,0,none⟩)] w fun e w' => e = .returned (.int .i64 C.v) ∧ w = w':=by
 obtain ⟨_,_,_,_,c4⟩:=h.cells
 have Hm:=Lib.hid (ct_made h)
 clear h
 go_enter Tryz.func45,Tryz.ntmps45
 go_wp2_with (go_at_call 80; refine Hm.out.mono ?_; rintro e w' ⟨rfl,rfl⟩)
 go_ret
 exact ⟨rfl,rfl⟩
theorem open_no {w:World} {K:DK} {D:DS} (h:Dsk w K D) (k n:Int) (hk:k ≤ 9223372036854775807) (e0:refE D (withinI k n D.secs) ≠ 0):Calls Tryz.prog 40 #[K.ptr,.int .i64 k,.int .i64 n] w fun e w' => e = .returned (.tuple #[.pointer none,.int .i64 (refE D (withinI k n D.secs))]) ∧ w = w':=by
 have Hr:=Lib.hid (read_no h k n hk e0)
 obtain ⟨E,hE⟩:∃ E,E = refE D (withinI k n D.secs):=⟨_,rfl⟩
 rw [← hE] at Hr e0 ⊢
 unfold DK.ptr at *
 clear h hE hk
 go_enter Tryz.func40,Tryz.ntmps40
 go_wp2_with (go_at_call 74; refine Hr.out.mono ?_; rintro e w' ⟨rfl,rfl⟩)
 go_ret2
 exact ⟨rfl,rfl⟩
theorem read_reg {w:World} {K:DK} {D:DS} (h:Dsk w K D) (f n:Nat) (h1:1 ≤ n) (hk:f + n ≤ D.secs) (ho:D.off = false):Calls Tryz.prog 74 #[K.ptr,.int .i64 f,.int .i64 n] w fun e w' => ∃ g c,e = .returned (.tuple #[.slice (some ⟨g,0,none⟩) (n * 128) c,.int .i64 0]) ∧ Below w.heap.size w w' ∧ w.heap.size ≤ g ∧ w'.ownsRow w.heap.size 5 1 (.slice (some ⟨g,0,none⟩) (n * 128) c) (n * 128) (vals (regL D f (n * 128))) ∧ Byt w' (some ⟨g,0,none⟩) c (regL D f (n * 128)) ∧ (regL D f (n * 128)).length = n * 128:=by
 refine (read_own h f n hk ho).mono ?_
 rintro e w' ⟨v,rfl,hb,hown⟩
 have hl:((D.data.drop (f * 128)).take (n * 128)).length = n * 128:=by have:=h.ok.whole128; simp; omega
 obtain ⟨m,hm⟩:∃ m,n * 128 = m + 1:=⟨n * 128 - 1,by omega⟩
 have hown':=hown
 rw [hm] at hown'
 obtain ⟨g,c,rfl⟩:=ownsRow_succ hown'
 obtain ⟨A,c',e,hB⟩:=own_sl hown hl
 rw [hl,← hm] at e
 cases e
 rw [← hm] at *
 exact ⟨g,c,rfl,hb,(hown.lt g (by simp [Value.ownBlock])).1,hown,hB,hl⟩
theorem open_bad {w:World} {K:DK} {D:DS} (h:Dsk w K D) (f n:Nat) (h1:1 ≤ n) (hk:f + n ≤ D.secs) (ho:D.off = false) (ht:tellE (regL D f (n * 128)) = 9):Calls Tryz.prog 40 #[K.ptr,.int .i64 f,.int .i64 n] w fun e w' => e = .returned (.tuple #[.pointer none,.int .i64 9]) ∧ Below w.heap.size w w':=by
 have hm:=h.ok.most
 have Hr:=Lib.hid (read_reg h f n h1 hk ho)
 obtain ⟨R,hR⟩:∃ R,R = regL D f (n * 128):=⟨_,rfl⟩
 rw [← hR] at Hr ht
 have Ht:=Lib.hid ht
 have hnI:¬ (n:Int) < 1:=by omega
 unfold DK.ptr at *
 clear h hR ht ho
 go_enter Tryz.func40,Tryz.ntmps40
 go_wp2_with (first
  | (go_at_call 74; refine Hr.out.mono ?_; rintro e w1 ⟨g,c,rfl,hb,_,_,hB,hl⟩; have Low:=Lib.hid hb; have HB:=Lib.hid hB; have Hl:=Lib.hid hl; clear hb hB hl)
  | (go_at_call 75; refine (valueOf_any _ _ _ _ R HB.out Hl.out (by omega)).mono ?_; rw [Ht.out]; rintro e w2 ⟨rfl,hb2⟩; have Low2:=Lib.hid hb2; clear hb2))
 go_ret2
 exact ⟨rfl,Low.out.trans (Low2.out.mono Low.out.size)⟩
theorem open_ok {w:World} {K:DK} {D:DS} (h:Dsk w K D) (f n v:Nat) (h1:1 ≤ n) (hk:f + n ≤ D.secs) (ho:D.off = false) (ht:Cnt (regL D f (n * 128)) v):Calls Tryz.prog 40 #[K.ptr,.int .i64 f,.int .i64 n] w fun e w' => ∃ g,e = .returned (.tuple #[.pointer (some ⟨g,0,none⟩),.int .i64 0]) ∧ w.heap.size ≤ g ∧ Ct w' K g ⟨f,n * 128,v⟩ ∧ Below w.heap.size w w':=by
 have hm:=h.ok.most
 have Hr:=Lib.hid (read_reg h f n h1 hk ho)
 obtain ⟨R,hR⟩:∃ R,R = regL D f (n * 128):=⟨_,rfl⟩
 rw [← hR] at Hr ht
 have Ht:=Lib.hid ht
 have hnI:¬ (n:Int) < 1:=by omega
 unfold DK.ptr at *
 clear h hR ht ho
 go_enter Tryz.func40,Tryz.ntmps40
 go_upto_region 9 with (first
  | (go_at_call 74; refine Hr.out.mono ?_; rintro e w1 ⟨g,c,rfl,hb,_,_,hB,hl⟩; have Low:=Lib.hid hb; have HB:=Lib.hid hB; have Hl:=Lib.hid hl; clear hb hB hl)
  | (go_at_call 75; refine (valueOf_any _ _ _ _ R HB.out Hl.out (by omega)).mono ?_; rw [Ht.out.te,Ht.out.tv]; rintro e w2 ⟨rfl,hb2⟩; have Low2:=Lib.hid (Low.out.trans (hb2.mono Low.out.size)); clear hb2))
 go_wp2
 go_ret2
 have h2:=Go.heap_alloc_new w2 (.cells #[Value.pointer (some ⟨w2.heap.size,0,none⟩),.pointer (some ⟨K.g,0,none⟩),.int .i64 (f:Nat),.int .i64 ((n:Nat) * 128),.int .i64 (v:Nat)] 123)
 have h3:=Low2.out.alloc Low2.out.size (.cells #[Value.pointer (some ⟨w2.heap.size,0,none⟩),.pointer (some ⟨K.g,0,none⟩),.int .i64 (f:Nat),.int .i64 ((n:Nat) * 128),.int .i64 (v:Nat)] 123)
 refine ⟨_,rfl,Low2.out.size,⟨?_,?_,?_,?_⟩,h3⟩
 · refine h2.trans ?_
   simp [DK.ptr]
 · have:=Ht.out.le
   rw [Hl.out] at this
   exact this
 · show n * 128 % 128 = 0
   omega
 · show f * 128 + n * 128 ≤ 2097152
   omega
theorem next_full {w:World} {K:DK} {g:Nat} {C:CV} (h:Ct w K g C) (hv:C.v = C.bd):Calls Tryz.prog 81 #[.pointer (some ⟨g,0,none⟩)] w fun e w' => e = .returned (.int .i64 13) ∧ Below w.heap.size w w':=by
 obtain ⟨_,_,_,c3,c4⟩:=h.cells
 rw [hv] at c4
 have Hm:=Lib.hid (ct_made h)
 clear h
 go_enter Tryz.func81,Tryz.ntmps81
 go_upto_region 3 with (go_at_call 80; refine Hm.out.mono ?_; rintro e w' ⟨rfl,rfl⟩)
 go_quiet (fail)
 go_wp2
 go_ret
 exact ⟨rfl,Below.drewN (Below.refl _ _) _⟩
theorem count_off {w:World} {K:DK} {g:Nat} {C:CV} {D:DS} (h:Dsk w K D) (hc:Ct w K g C) (hlt:C.v < C.bd) (hfit:C.f * 128 + C.bd ≤ D.data.length) (ho:D.off = true):Calls Tryz.prog 110 #[.pointer (some ⟨g,0,none⟩)] w fun e w' => e = .returned (.int .i64 12) ∧ Below w.heap.size w w':=by
 obtain ⟨_,c1,c2,_,c4⟩:=hc.cells
 have hmost:=hc.most
 have he:refE D (withinI ((C.f + C.v / 128:Nat):Int) 1 D.secs) = 12:=by
  have:withinI ((C.f + C.v / 128:Nat):Int) 1 D.secs = true:=within_of (b:=1) (by have:=h.ok.whole128; omega)
  rw [this,refE,ho]; rfl
 have Hr:Hid (∀ n,Calls Tryz.prog 74 #[K.ptr,.int .i64 ((C.f:Int) + (C.v:Int) / 128),.int .i64 1] (w.drewN n) fun e w' => e = .returned (.tuple #[.slice none 0 0,.int .i64 12]) ∧ w.drewN n = w'):=fun n => by
  have hr:=read_no (h.later (Below.drewN (Below.refl _ _) n)) ((C.f + C.v / 128:Nat):Int) 1 (by have:=h.ok.most; have:=h.ok.whole128; omega) (by rw [he]; decide)
  rw [he] at hr
  exact hr
 unfold DK.ptr at *
 clear h hc he hfit ho
 go_enter Tryz.func110,Tryz.ntmps110
 go_upto_region 1 with (fail)
 go_quiet (fail)
 go_wp2_with (go_at_call 74; refine (Hr.out _).mono ?_; rintro e w' ⟨rfl,rfl⟩)
 go_ret
 exact ⟨rfl,Below.drewN (Below.refl _ _) _⟩
theorem own_there {w:World} {base n g c:Nat} {L:List Int} (h:w.ownsRow base 5 1 (.slice (some ⟨g,0,none⟩) n c) n (vals L)) (i:Nat) (hi:i < n):n ≤ c ∧ g < w.heap.size ∧ (∃ x,w.cell? ⟨g,i,none⟩ = some x) ∧ w.frozen? ⟨g,i,none⟩ = false:=by
 rcases h.2 with ⟨e,_⟩ | ⟨g',cap,cur,e,_,hrow,hn,_,hs,_⟩
 · cases e
 · cases e
   have hlt:i < cur.size:=by omega
   exact ⟨hn,(Array.getElem?_eq_some_iff.1 hrow).1,⟨cur[i],(cell_row hrow i).trans (Array.getElem?_eq_getElem hlt)⟩,free_row hrow i⟩
theorem own_stored {w:World} {base n c g:Nat} {L:List Int} (h:w.ownsRow base 5 1 (.slice (some ⟨g,0,none⟩) n c) n (vals L)) (i:Nat) (y:Int) :
 (w.setCell ⟨g,i,none⟩ (.int .u8 y)).ownsRow base 5 1 (.slice (some ⟨g,0,none⟩) n c) n (vals (L.set i y)):=by
 have:=(h.stored i (.int .u8 y)).1
 rwa [show (vals L).set i (.int .u8 y) = vals (L.set i y) by simp [vals]] at this
theorem inb_set {L:List Int} (h:InB L) (i:Nat) (y:Int) (hy:0 ≤ y ∧ y < 256):InB (L.set i y):=by
 intro j
 have:=h j
 rw [List.getD_eq_getElem?_getD,List.getElem?_set]
 rw [List.getD_eq_getElem?_getD] at this
 split
 · split
   · exact hy
   · simp
 · exact this
theorem count_on {w:World} {K:DK} {g:Nat} {C:CV} {D:DS} (h:Dsk w K D) (hc:Ct w K g C) (hg:g ∉ K.bl) (hlt:C.v < C.bd) (hfit:C.f * 128 + C.bd ≤ D.data.length) (ho:D.off = false) (hw:D.writes ≤ 1152921504606846976):Calls Tryz.prog 110 #[.pointer (some ⟨g,0,none⟩)] w fun e w' => e = .returned (.int .i64 (nextD D C.f C.v).2) ∧ Dsk w' K (nextD D C.f C.v).1 ∧ Chg K.bl w w':=by
 obtain ⟨_,c1,c2,_,c4⟩:=hc.cells
 have hmost:=hc.most
 have hq:C.f + C.v / 128 + 1 ≤ D.secs:=by have:=h.ok.whole128; omega
 have Hr:Hid (∀ n,Calls Tryz.prog 74 #[K.ptr,.int .i64 ((C.f:Int) + (C.v:Int) / 128),.int .i64 1] (w.drewN n) fun e w' => ∃ b c,e = .returned (.tuple #[.slice (some ⟨b,0,none⟩) 128 c,.int .i64 0]) ∧ Below w.heap.size w w' ∧ w.heap.size ≤ b ∧ w'.ownsRow w.heap.size 5 1 (.slice (some ⟨b,0,none⟩) 128 c) 128 (vals (secL D.data (C.f + C.v / 128)))):=fun n => by
  refine (read_reg (h.later (Below.drewN (Below.refl _ _) n)) (C.f + C.v / 128) 1 (by decide) hq ho).mono ?_
  rintro e w' ⟨b,c,rfl,hb,hbl,hown,_,_⟩
  exact ⟨b,c,rfl,(Below.drewN (Below.refl _ _) n).trans hb,hbl,hown⟩
 have Hh:=Lib.hid h
 have hlen:=secL_len D.data (C.f + C.v / 128) (by have:=h.ok.whole128; omega)
 have hin:InB (secL D.data (C.f + C.v / 128)):=secL_in h.ok.inb _
 unfold nextD nextB
 obtain ⟨S,hS⟩:∃ S,S = secL D.data (C.f + C.v / 128):=⟨_,rfl⟩
 rw [← hS] at Hr hlen hin ⊢
 have Hl:=Lib.hid hlen
 have Hi:=Lib.hid hin
 have Hg:=Lib.hid hg
 have hglt:=hc.lt
 have Hq:=Lib.hid hq
 have Hw:=Lib.hid hw
 have Ho:=Lib.hid ho
 unfold DK.ptr at *
 clear h hc ho hS hlen hin hg hq hw hfit
 go_enter Tryz.func110,Tryz.ntmps110
 go_upto_region 1 with (fail)
 go_quiet (fail)
 go_upto_region 5 with (go_at_call 74; refine (Hr.out _).mono ?_; rintro e w1 ⟨b,c,rfl,hb,hbl,hown⟩; have Low:=Lib.hid hb; have Own:=Lib.hid hown; have Hbl:=Lib.hid hbl; clear hb hown hbl)
 have e1:=(Low.out.cell (p:=⟨g,1,none⟩) hglt).trans c1
 have e4:=(Low.out.cell (p:=⟨g,4,none⟩) hglt).trans c4
 obtain ⟨hc128,hblt,⟨x,hx⟩,hfz⟩:=own_there Own.out (C.v % 128) (by omega)
 obtain ⟨k,hk⟩:∃ k,k = C.v % 128:=⟨_,rfl⟩
 have hkI:(C.v:Int) % 128 = (k:Nat):=by omega
 have Hk:=Lib.hid hk
 rw [← hk] at hx hfz
 have hk128:k < 128:=by omega
 have Hst:=Lib.hid (own_stored Own.out k 1)
 clear hk
 go_upto_region 6 with (fail)
 obtain ⟨w2,hw2⟩:∃ w2,w2 = w1.setCell ⟨b,k,none⟩ (.int .u8 1):=⟨_,rfl⟩
 have hb2:Below w.heap.size w w2:=by rw [hw2]; exact Low.out.setCell (p:=⟨b,k,none⟩) Hbl.out _
 rw [← hw2] at Hst ⊢
 have hl2:(S.set k 1).length = 128:=by rw [List.length_set]; exact Hl.out
 have hsl:(S.set (C.v % 128) 1).length = 128:=by rw [List.length_set]; exact Hl.out
 have hB2:Byt w2 (some ⟨b,0,none⟩) c (S.set (C.v % 128) 1):=by
  have h9:=Hst.out
  rw [Hk.out] at h9
  obtain ⟨A,c',e,h8⟩:=own_sl h9 hsl
  rw [hsl] at e
  cases e
  exact h8
 have hkb:b ∉ K.bl:=fun hm => by
  have h7:=Hbl.out
  have h5:=Hh.out.glt
  have h6:=Hh.out.hlt
  simp [DK.bl] at hm
  omega
 have HW:=Lib.hid (write_ok (Hh.out.later hb2) (C.f + C.v / 128) 1 128 Hq.out Ho.out (some ⟨b,0,none⟩) c (S.set (C.v % 128) 1) rfl hsl (inb_set Hi.out _ _ (by decide)) hB2 (fun a e => by cases e; exact hkb) Hw.out)
 have e1':=(hb2.cell (p:=⟨g,1,none⟩) hglt).trans c1
 have Hb2:=Lib.hid hb2
 unfold DK.ptr at HW
 clear hw2 hb2 hl2 hsl hB2 hkb e1 e4 hx hfz hblt Hst
 go_wp2_with (go_at_call 118; refine HW.out.mono ?_; rintro e w3 ⟨rfl,hd,hc⟩; have Hd:=Lib.hid hd; have Hc:=Lib.hid hc; clear hd hc)
 go_ret
 exact ⟨rfl,Hd.out,(Chg.of_below Hb2.out).trans Hc.out⟩
theorem next_off {w:World} {K:DK} {g:Nat} {C:CV} {D:DS} (h:Dsk w K D) (hc:Ct w K g C) (hlt:C.v < C.bd) (hfit:C.f * 128 + C.bd ≤ D.data.length) (ho:D.off = true):Calls Tryz.prog 81 #[.pointer (some ⟨g,0,none⟩)] w fun e w' => e = .returned (.int .i64 12) ∧ Below w.heap.size w w':=by
 obtain ⟨_,_,_,c3,c4⟩:=hc.cells
 have Hm:=Lib.hid (ct_made hc)
 have Hn:Hid (∀ n,Calls Tryz.prog 110 #[.pointer (some ⟨g,0,none⟩)] (w.drewN n) fun e w' => e = .returned (.int .i64 12) ∧ Below w.heap.size w w'):=fun n =>
  (count_off (h.later (Below.drewN (Below.refl _ _) n)) (hc.later (Below.drewN (Below.refl _ _) n)) hlt hfit ho).mono (fun e w' h => ⟨h.1,(Below.drewN (Below.refl _ _) n).trans h.2⟩)
 have hne:((C.v:Int) == (C.bd:Int)) = false:=by rw [beq_eq_false_iff_ne]; omega
 clear h hc hfit ho
 go_enter Tryz.func81,Tryz.ntmps81
 go_upto_region 3 with (go_at_call 80; refine Hm.out.mono ?_; rintro e w' ⟨rfl,rfl⟩)
 go_quiet (fail)
 go_wp2_with (go_at_call 110; refine (Hn.out _).mono ?_; rintro e w1 ⟨rfl,hb⟩; have Low:=Lib.hid hb; clear hb)
 go_ret
 exact ⟨rfl,Low.out⟩
def CV.step (C:CV) (e:Int):CV:=if e = 0 then { C with v:=C.v + 1 } else C
set_option maxRecDepth 100000 in
theorem next_on {w:World} {K:DK} {g:Nat} {C:CV} {D:DS} (h:Dsk w K D) (hc:Ct w K g C) (hg:g ∉ K.bl) (hlt:C.v < C.bd) (hfit:C.f * 128 + C.bd ≤ D.data.length) (ho:D.off = false) (hw:D.writes ≤ 1152921504606846976):Calls Tryz.prog 81 #[.pointer (some ⟨g,0,none⟩)] w fun e w' => e = .returned (.int .i64 (nextD D C.f C.v).2) ∧ Dsk w' K (nextD D C.f C.v).1 ∧ Ct w' K g (C.step (nextD D C.f C.v).2) ∧ Chg (g :: K.bl) w w':=by
 obtain ⟨_,_,_,c3,c4⟩:=hc.cells
 have Hm:=Lib.hid (ct_made hc)
 have Hn:Hid (∀ n,Calls Tryz.prog 110 #[.pointer (some ⟨g,0,none⟩)] (w.drewN n) fun e w' => e = .returned (.int .i64 (nextD D C.f C.v).2) ∧ Dsk w' K (nextD D C.f C.v).1 ∧ Ct w' K g C ∧ Chg K.bl w w'):=fun n =>
  (count_on (h.later (Below.drewN (Below.refl _ _) n)) (hc.later (Below.drewN (Below.refl _ _) n)) hg hlt hfit ho hw).mono (fun e w' h =>
   have hch:Chg K.bl w w':=(Chg.of_below (Below.drewN (Below.refl _ _) n)).trans h.2.2
   ⟨h.1,h.2.1,hc.chg hch hg,hch⟩)
 have hne:((C.v:Int) == (C.bd:Int)) = false:=by rw [beq_eq_false_iff_ne]; omega
 have Hlt:=Lib.hid hlt
 have hmost:=hc.most
 have hmod:=hc.mod
 have Hg:=Lib.hid hg
 obtain ⟨R,hR⟩:∃ R,R = nextD D C.f C.v:=⟨_,rfl⟩
 rw [← hR] at Hn ⊢
 obtain ⟨E,hE⟩:∃ E,E = R.2:=⟨_,rfl⟩
 rw [← hE] at Hn ⊢
 have hv62:(C.v:Int) + 1 ≤ 2097152:=by omega
 clear h hc hfit ho hR hE hg hw
 by_cases e0:E = 0
 · have hs:C.step E = { C with v:=C.v + 1 }:=by rw [CV.step,if_pos e0]
   rw [hs]
   subst e0
   go_enter Tryz.func81,Tryz.ntmps81
   go_upto_region 3 with (go_at_call 80; refine Hm.out.mono ?_; rintro e w' ⟨rfl,rfl⟩)
   go_quiet (fail)
   go_upto_region 8 with (go_at_call 110; refine (Hn.out _).mono ?_; rintro e w1 ⟨rfl,hd,hc,hch⟩; have Hd:=Lib.hid hd; have Hc:=Lib.hid hc; have Hch:=Lib.hid hch; clear hd hc hch)
   obtain ⟨_,_,_,_,d4⟩:=Hc.out.cells
   have hfz:=free_row Hc.out.row 4
   go_wp2
   go_ret
   refine ⟨rfl,Hd.out.chg (chg_one _ g 4 _) ?_ ?_,⟨?_,?_,hmod,hmost⟩,(Hch.out.mono (fun k hk => .inl (List.mem_cons_of_mem _ hk))).setCell (p:=⟨g,4,none⟩) (List.mem_cons_self ..) _⟩
   · have:=Hg.out
     simp [DK.bl] at this ⊢
     omega
   · have:=Hg.out
     simp [DK.bl] at this ⊢
     omega
   · rw [heap_setCell_same _ _ 4 _ _ _ Hc.out.row]
     simp
   · exact Hlt.out
 · have hs:C.step E = C:=by rw [CV.step,if_neg e0]
   rw [hs]
   clear hs
   go_enter Tryz.func81,Tryz.ntmps81
   go_upto_region 3 with (go_at_call 80; refine Hm.out.mono ?_; rintro e w' ⟨rfl,rfl⟩)
   go_quiet (fail)
   have Hnq:=Lib.hid (Hn.out nq)
   clear Hn
   generalize w.drewN nq = wa at Hnq ⊢
   go_upto_region 6 with (go_at_call 110; refine Hnq.out.mono ?_; rintro e w1 ⟨rfl,hd,hc,hch⟩; have Hd:=Lib.hid hd; have Hc:=Lib.hid hc; have Hch:=Lib.hid hch; clear hd hc hch)
   clear hne hmost hmod hv62 c3 c4 Hnq
   go_wp2
   go_ret
   exact ⟨rfl,Hd.out,Hc.out,Hch.out.mono (fun k hk => .inl (List.mem_cons_of_mem _ hk))⟩
end Go.Proofs.YteeghgjkjicjoaaGreatDoor.Epo
namespace Go.Proofs.YteeghgjkjicjoaaGreatDoor.Sgm
open Go.RowKit
theorem enter_of {K:Nat} {fn:Func} {c:Code} (hf:Tryz.prog.funcs[K]? = some fn) (hname:(fn.name == "runtime.NumGoroutine") = false) (hb:fn.body = some c) (x:Array Value) (w:World):(callFunc K x).run Tryz.prog w = .ok (.enter K x) w:=by
 have h1:fn.name ≠ "runtime.NumGoroutine" := by simpa using hname
 simp [callFunc,hf,h1,hb]
def StepQ (I:World → Prop) (Q:Int → World → Prop) (e:Ending) (w':World):Prop:=∃ x,e = .returned (.int .i64 x) ∧ ((x = 0 ∧ I w') ∨ (x ≠ 0 ∧ Q x w'))
set_option maxHeartbeats 1000000 in
theorem first_any {m g:Nat} (hm:m ≤ 100) (K:Nat → Nat) (hK:∀ i,i < m → ∀ x w,(callFunc (K i) x).run Tryz.prog w = .ok (.enter (K i) x) w) (cp:Nat → Array Value) (I:Nat → World → Prop) (Q:Int → World → Prop)
 (hrow:∀ i w,i < m → I i w → w.cell? ⟨g,i,none⟩ = some (.func (.func (K i)) #[] (cp i)))
 (hst:∀ i w,i < m → I i w → Calls Tryz.prog (K i) (cp i) w (StepQ (I (i + 1)) Q)) (w:World) (h:I 0 w) :
 Calls Tryz.prog 38 #[.slice (some ⟨g,0,none⟩) m m] w (StepQ (I m) Q):=by
 have HK:=Lib.hid hK
 have HR:=Lib.hid hrow
 have HS:=Lib.hid hst
 have H:=Lib.hid h
 have hmI:(m:Int) ≤ 100:=by omega
 clear hK hrow hst h hm
 go_enter Tryz.func38,Tryz.ntmps38
 go_wp2
 go_loopw [8] (fun v wr => ∃ i:Nat,i ≤ m ∧ v = .int .i64 i ∧ Hid (I i wr)) (fun v _ => m - (intOf v).toNat)
 case atStart => exact ⟨0,Nat.zero_le _,rfl,H.out⟩
 case round =>
  clear H
  obtain ⟨i,hi,rfl,hI⟩:=hrel
  by_cases hlt:i < m
  · have hltI:(i:Int) < (m:Int):=by omega
    have hc:=HR.out i wr hlt hI.out
    have hk:=HK.out i hlt
    have Hs:=Lib.hid (HS.out i wr hlt hI.out)
    obtain ⟨k,hk2⟩:∃ k,k = K i:=⟨_,rfl⟩
    obtain ⟨c,hc2⟩:∃ c,c = cp i:=⟨_,rfl⟩
    rw [← hk2,← hc2] at hc
    rw [← hk2] at hk
    rw [← hk2,← hc2] at Hs
    clear hk2 hc2 hI
    go_wp2_with (refine Hs.out.mono ?_; rintro e w2 ⟨x,rfl,hx⟩; have Hx:=Lib.hid hx; clear hx)
    · have he0:(x != 0) = true:=by assumption
      have he:x ≠ 0:=by simpa using he0
      have hq:Q x w2:=by
       rcases Hx.out with h | h
       · exact absurd h.1 he
       · exact h.2
      clear he0 Hx
      go_ret
      exact ⟨x,rfl,.inr ⟨he,hq⟩⟩
    · have he0:(x != 0) = false:=by assumption
      have he:x = 0:=by simpa using he0
      have hq:I (i + 1) w2:=by
       rcases Hx.out with h | h
       · exact h.2
       · exact absurd he h.1
      exact ⟨⟨i + 1,by omega,by go_num,hq⟩,by simp [intOf]; omega⟩
  · obtain rfl:i = m:=by omega
    have hltI:¬ (i:Int) < (i:Int):=by omega
    go_wp2
    go_ret
    exact ⟨0,rfl,.inl ⟨rfl,hI.out⟩⟩
end Go.Proofs.YteeghgjkjicjoaaGreatDoor.Sgm
namespace Go.Proofs.YteeghgjkjicjoaaGreatDoor.Sgm
open Go.RowKit Dsk Slt Epo
structure GK where
 g:Nat
 v:Value
 ts:List Value
 A:Option Addr
 c:Nat
structure GV where
 key:List Int
 C:List Int
 ep:Nat
 T:List (List Int)
 lost:Bool
def GK.ptr (G:GK):Value:=.pointer (some ⟨G.g,0,none⟩)
def GK.bl (G:GK):List Nat:=G.g :: G.v.ownBlock.toList
def GK.tx (G:GK):List Nat:=(G.A.map (·.block)).toList ++ G.ts.flatMap fun v => v.ownBlock.toList
def rowG (self:Option Addr) (K:DK) (lg:Option Addr) (key:List Int) (cx:Value) (ep:Nat) (tv:Value) (lost:Bool):Array Value :=
 (.pointer self :: K.ptr :: .pointer lg :: (vals key ++ [cx,.int .u32 (ep:Nat),tv,.bool lost])).toArray
section
variable {self lg:Option Addr} {K:DK} {key:List Int} {cx tv:Value} {ep:Nat} {lost:Bool}
theorem tail_at {key:List Int} (hk:key.length = 32) (R:List Value) (j:Nat):(vals key ++ R)[32 + j]? = R[j]?:=by
 rw [List.getElem?_append_right (by rw [vals_length]; omega),vals_length,hk,Nat.add_sub_cancel_left]
theorem rowG_get (j:Nat):(rowG self K lg key cx ep tv lost)[j + 3]? = (vals key ++ [cx,.int .u32 (ep:Nat),tv,.bool lost])[j]?:=by
 unfold rowG
 rw [List.getElem?_toArray,List.getElem?_cons_succ,List.getElem?_cons_succ,List.getElem?_cons_succ]
theorem rowG_at (hk:key.length = 32):(rowG self K lg key cx ep tv lost)[0]? = some (.pointer self) ∧ (rowG self K lg key cx ep tv lost)[1]? = some K.ptr ∧ (rowG self K lg key cx ep tv lost)[2]? = some (.pointer lg) ∧ (rowG self K lg key cx ep tv lost)[35]? = some cx ∧ (rowG self K lg key cx ep tv lost)[36]? = some (.int .u32 (ep:Nat)) ∧ (rowG self K lg key cx ep tv lost)[37]? = some tv ∧ (rowG self K lg key cx ep tv lost)[38]? = some (.bool lost):=by
 refine ⟨rfl,rfl,rfl,?_,?_,?_,?_⟩
 · exact (rowG_get 32).trans (tail_at hk _ 0)
 · exact (rowG_get 33).trans (tail_at hk _ 1)
 · exact (rowG_get 34).trans (tail_at hk _ 2)
 · exact (rowG_get 35).trans (tail_at hk _ 3)
theorem tail_set {key:List Int} (hk:key.length = 32) (R:List Value) (j:Nat) (x:Value):(vals key ++ R).set (32 + j) x = vals key ++ R.set j x:=by
 rw [List.set_append_right _ _ (by rw [vals_length]; omega),vals_length,hk,Nat.add_sub_cancel_left]
theorem rowG_set0 (x:Option Addr):(rowG self K lg key cx ep tv lost).setIfInBounds 0 (.pointer x) = rowG x K lg key cx ep tv lost:=by
 unfold rowG; rw [List.setIfInBounds_toArray]; rfl
theorem rowG_set2 (x:Option Addr):(rowG self K lg key cx ep tv lost).setIfInBounds 2 (.pointer x) = rowG self K x key cx ep tv lost:=by
 unfold rowG; rw [List.setIfInBounds_toArray]; rfl
theorem rowG_set36 (hk:key.length = 32) (x:Nat):(rowG self K lg key cx ep tv lost).setIfInBounds 36 (.int .u32 (x:Nat)) = rowG self K lg key cx x tv lost:=by
 unfold rowG; rw [List.setIfInBounds_toArray]; exact congrArg (fun l => (Value.pointer self :: K.ptr :: Value.pointer lg :: l).toArray) (tail_set hk _ 1 _)
theorem rowG_set37 (hk:key.length = 32) (x:Value):(rowG self K lg key cx ep tv lost).setIfInBounds 37 x = rowG self K lg key cx ep x lost:=by
 unfold rowG; rw [List.setIfInBounds_toArray]; exact congrArg (fun l => (Value.pointer self :: K.ptr :: Value.pointer lg :: l).toArray) (tail_set hk _ 2 _)
theorem rowG_set38 (hk:key.length = 32) (x:Bool):(rowG self K lg key cx ep tv lost).setIfInBounds 38 (.bool x) = rowG self K lg key cx ep tv x:=by
 unfold rowG; rw [List.setIfInBounds_toArray]; exact congrArg (fun l => (Value.pointer self :: K.ptr :: Value.pointer lg :: l).toArray) (tail_set hk _ 3 _)
theorem rowG_key {w:World} {g:Nat} {T:TypeId} {fr:Nat × Nat} (h:w.heap[g]? = some (.cells (rowG self K lg key cx ep tv lost) T fr)):∀ j u,(vals key)[j]? = some u → w.cell? ⟨g,3 + j,none⟩ = some u:=by
 intro j u hu
 rw [cell_row h,Nat.add_comm 3 j,rowG_get,List.getElem?_append_left (List.getElem?_eq_some_iff.1 hu).1]
 exact hu
end
structure Txs (w:World) (v:Value) (ts:List Value) (T:List (List Int)):Prop where
 own:w.ownsRow 0 38 1 v T.length ts
 txt:∀ i,i < T.length → SlB (T.getD i []) (ts.getD i undef) w
structure Sg (w:World) (K:DK) (J:LK) (G:GK) (S:LS) (V:GV):Prop where
 row:w.heap[G.g]? = some (.cells (rowG (some ⟨G.g,0,none⟩) K (some ⟨J.g,0,none⟩) V.key (.slice G.A V.C.length G.c) V.ep G.v V.lost) 88 (0,0))
 lg:Lg w K J S
 tx:Txs w G.v G.ts V.T
 gv:∀ q,G.v.ownBlock = some q → q ≠ G.g
 ctx:Byt w G.A G.c V.C
 klen:V.key.length = 32
 kin:InB V.key
 cin:InB V.C
 clen:V.C.length ≤ 1000
 ep32:V.ep < 4294967296
 tlt:∀ q ∈ G.tx,q < w.heap.size
 tap:∀ q ∈ G.tx,q ∉ K.bl ∧ q ∉ J.bl ∧ q ∉ G.bl
 kap:∀ q ∈ G.bl,q ∉ K.bl ∧ q ∉ J.bl ∧ q ∉ J.tx
 inb:∀ t ∈ V.T,InB t ∧ t.length ≤ 131068
theorem Sg.glt {w:World} {K:DK} {J:LK} {G:GK} {S:LS} {V:GV} (h:Sg w K J G S V):G.g < w.heap.size:=(Array.getElem?_eq_some_iff.1 h.row).1
theorem ts_mem {ts:List Value} {i:Nat} {a:Addr} {n c:Nat} (hi:ts.getD i undef = .slice (some a) n c) (hl:i < ts.length):a.block ∈ ts.flatMap fun v => v.ownBlock.toList:=by
 rw [List.mem_flatMap]
 refine ⟨ts.getD i undef,?_,by rw [hi]; simp [Value.ownBlock]⟩
 rw [List.getD_eq_getElem?_getD,List.getElem?_eq_getElem hl,Option.getD_some]
 exact List.getElem_mem hl
theorem Txs.len {w:World} {v:Value} {ts:List Value} {T:List (List Int)} (h:Txs w v ts T):ts.length = T.length:=by have:=h.own.1; omega
theorem Txs.chg {X:List Nat} {w w':World} {v:Value} {ts:List Value} {T:List (List Int)} (h:Txs w v ts T) (hc:Chg X w w') (h1:∀ q,v.ownBlock = some q → q ∉ X) (h2:∀ q ∈ ts.flatMap (fun v => v.ownBlock.toList),q ∉ X):Txs w' v ts T where
 own:=own_chg h.own hc h1
 txt i hi:=by
  obtain ⟨A,c,e,hB⟩:=h.txt i hi
  exact ⟨A,c,e,hB.chg hc (fun a ha => h2 _ (ts_mem (by rw [e,ha]) (by rw [h.len]; exact hi)))⟩
theorem Sg.chg {X:List Nat} {w w':World} {K:DK} {J:LK} {G:GK} {S:LS} {V:GV} (h:Sg w K J G S V) (hc:Chg X w w') (h1:∀ q ∈ J.bl,q ∉ X) (h2:∀ q ∈ J.tx,q ∉ X) (h3:∀ q ∈ G.bl,q ∉ X) (h4:∀ q ∈ G.tx,q ∉ X):Sg w' K J G S V where
 row:=hc.at h.row (h3 _ (by simp [GK.bl]))
 lg:=h.lg.chg hc h1 h2
 tx:=h.tx.chg hc (fun q hq => h3 q (by simp [GK.bl,hq])) (fun q hq => h4 q (by unfold GK.tx; rw [List.mem_append]; exact .inr hq))
 gv:=h.gv
 ctx:=h.ctx.chg hc (fun a ha => h4 _ (by simp [GK.tx,ha]))
 klen:=h.klen
 kin:=h.kin
 cin:=h.cin
 clen:=h.clen
 ep32:=h.ep32
 tlt q hq:=Nat.lt_of_lt_of_le (h.tlt q hq) hc.size
 tap:=h.tap
 kap:=h.kap
 inb:=h.inb
theorem Sg.later {w w':World} {K:DK} {J:LK} {G:GK} {S:LS} {V:GV} (h:Sg w K J G S V) (hb:Below w.heap.size w w'):Sg w' K J G S V :=
 h.chg (X:=[]) (Chg.of_below hb) (by simp) (by simp) (by simp) (by simp)
theorem Sg.disk {w w':World} {K:DK} {J:LK} {G:GK} {S:LS} {V:GV} (h:Sg w K J G S V) (hc:Chg K.bl w w'):Sg w' K J G S V :=
 h.chg hc h.lg.kap (fun q hq => (h.lg.tap q hq).1) (fun q hq => (h.kap q hq).1) (fun q hq => (h.tap q hq).1)
theorem Sg.cells {w:World} {K:DK} {J:LK} {G:GK} {S:LS} {V:GV} (h:Sg w K J G S V):w.cell? ⟨G.g,0,none⟩ = some (.pointer (some ⟨G.g,0,none⟩)) ∧ w.cell? ⟨G.g,1,none⟩ = some (.pointer (some ⟨K.g,0,none⟩)) ∧ w.cell? ⟨G.g,2,none⟩ = some (.pointer (some ⟨J.g,0,none⟩)) ∧ w.cell? ⟨G.g,35,none⟩ = some (.slice G.A V.C.length G.c) ∧ w.cell? ⟨G.g,36,none⟩ = some (.int .u32 (V.ep:Nat)) ∧ w.cell? ⟨G.g,37,none⟩ = some G.v ∧ w.cell? ⟨G.g,38,none⟩ = some (.bool V.lost):=by
 obtain ⟨h0,h1,h2,h3,h4,h5,h6⟩:=rowG_at (self:=some ⟨G.g,0,none⟩) (K:=K) (lg:=some ⟨J.g,0,none⟩) (cx:=.slice G.A V.C.length G.c) (ep:=V.ep) (tv:=G.v) (lost:=V.lost) h.klen
 refine ⟨?_,?_,?_,?_,?_,?_,?_⟩ <;> rw [cell_row h.row] <;> assumption
theorem seq_same (a:Addr) (w:World):(binOp .eql 42 (.pointer (some a)) (.pointer (some a))).run Tryz.prog w = .ok (.bool true) w:=by
 obtain ⟨j,hj⟩:∃ j,Tryz.prog.info? 88 = some j:=Option.isSome_iff_exists.1 (by kernel_rfl)
 exact Go.run_eql_ptr_same w a (te := 88) Tryz.underlying42 hj
theorem smade_any {w:World} {K:DK} {J:LK} {G:GK} {S:LS} {V:GV} (h:Sg w K J G S V):Calls Tryz.prog 48 #[G.ptr] w fun e w' => e = .returned (.bool true) ∧ w = w':=by
 obtain ⟨c0,_⟩:=h.cells
 have he:=seq_same ⟨G.g,0,none⟩
 unfold GK.ptr
 clear h
 go_enter Tryz.func48,Tryz.ntmps48
 go_wp2
 go_ret
 exact ⟨rfl,rfl⟩
theorem epoch_any {w:World} {K:DK} {J:LK} {G:GK} {S:LS} {V:GV} (h:Sg w K J G S V):Calls Tryz.prog 23 #[G.ptr] w fun e w' => e = .returned (.int .i64 (V.ep:Nat)) ∧ w = w':=by
 have Hm:=Lib.hid (smade_any h)
 obtain ⟨_,_,_,_,c4,_,_⟩:=h.cells
 have hep:=h.ep32
 obtain ⟨ep,he⟩:∃ ep,ep = V.ep:=⟨_,rfl⟩
 rw [← he] at c4 hep ⊢
 have hI:(ep:Int) < 4294967296:=by omega
 have hw:IntKind.i64.wrap (ep:Int) = ep:=by simp [IntKind.wrap,IntKind.bits,IntKind.signed]; omega
 unfold GK.ptr at *
 clear h he hep
 go_enter Tryz.func23,Tryz.ntmps23
 go_wp2_with (go_at_call 48; refine Hm.out.mono ?_; rintro e w' ⟨rfl,rfl⟩)
 go_ret
 exact ⟨rfl,rfl⟩
end Go.Proofs.YteeghgjkjicjoaaGreatDoor.Sgm
