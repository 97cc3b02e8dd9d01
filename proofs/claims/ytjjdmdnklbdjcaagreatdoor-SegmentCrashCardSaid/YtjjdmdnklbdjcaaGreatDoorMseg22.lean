/- DERIVED. Texts of ours, merged: XEpoCt XEpoMath XSealBack XRefSealNum XRef1Math XRef1Primes. -/
import Derived.Test.YtjjdmdnklbdjcaaGreatDoorMseg21
import Derived.Test.YtjjdmdnklbdjcaaGreatDoorMseg19
import Derived.RangeFuncBox
import Derived.BigQuiet
import Derived.Test.YtjjdmdnklbdjcaaGreatDoorMseg13
import Derived.Test.YtjjdmdnklbdjcaaGreatDoorMseg1
import Derived.Test.YtjjdmdnklbdjcaaGreatDoorProg
import Derived.Test.YtjjdmdnklbdjcaaGreatDoorMseg16
import Derived.Deep.QuietTactic
/- DERIVED. A counter in memory; the contracts of Open, Value, Next. -/
namespace Go.Proofs.YtjjdmdnklbdjcaaGreatDoor.Epo
open Go.RowKit Dsk
/-- what a counter is: from, bound, value. -/
structure CV where
  f : Nat
  bd : Nat
  v : Nat
/-- a counter at g, of the disk K. -/
structure Ct (w : World) (K : DK) (g : Nat) (C : CV) : Prop where
  row : w.heap[g]? = some (.cells #[.pointer (some ⟨g, 0, none⟩), K.ptr, .int .i64 C.f, .int .i64 C.bd, .int .i64 C.v] 127 (0, 0))
  le : C.v ≤ C.bd
  mod : C.bd % 128 = 0
  most : C.f * 128 + C.bd ≤ 2097152
theorem Ct.lt {w : World} {K : DK} {g : Nat} {C : CV} (h : Ct w K g C) : g < w.heap.size := (Array.getElem?_eq_some_iff.1 h.row).1
theorem Ct.chg {w w' : World} {K : DK} {g : Nat} {C : CV} {S : List Nat} (h : Ct w K g C) (hc : Chg S w w') (hg : g ∉ S) : Ct w' K g C := ⟨hc.at h.row hg, h.le, h.mod, h.most⟩
theorem Ct.later {w w' : World} {K : DK} {g : Nat} {C : CV} (h : Ct w K g C) (hb : Below w.heap.size w w') : Ct w' K g C := h.chg (S := []) (Chg.of_below hb) (by simp)
theorem Ct.cells {w : World} {K : DK} {g : Nat} {C : CV} (h : Ct w K g C) : w.cell? ⟨g, 0, none⟩ = some (.pointer (some ⟨g, 0, none⟩)) ∧ w.cell? ⟨g, 1, none⟩ = some K.ptr ∧ w.cell? ⟨g, 2, none⟩ = some (.int .i64 C.f) ∧ w.cell? ⟨g, 3, none⟩ = some (.int .i64 C.bd) ∧ w.cell? ⟨g, 4, none⟩ = some (.int .i64 C.v) :=
  ⟨cell_row h.row 0, cell_row h.row 1, cell_row h.row 2, cell_row h.row 3, cell_row h.row 4⟩
theorem ceq_same (a : Addr) (w : World) : (binOp .eql 88 (.pointer (some a)) (.pointer (some a))).run Tryz.prog w = .ok (.bool true) w := by
  obtain ⟨j, hj⟩ : ∃ j, Tryz.prog.info? 127 = some j := Option.isSome_iff_exists.1 (by kernel_rfl)
  exact Go.run_eql_ptr_same w a (te := 127) Tryz.underlying88 hj
theorem ct_made {w : World} {K : DK} {g : Nat} {C : CV} (h : Ct w K g C) : Calls Tryz.prog 84 #[.pointer (some ⟨g, 0, none⟩)] w fun e w' => e = .returned (.bool true) ∧ w = w' := by
  obtain ⟨c0, _⟩ := h.cells
  have he := ceq_same ⟨g, 0, none⟩
  clear h
  go_enter Tryz.func84, Tryz.ntmps84
  go_wp2
  go_ret
  exact ⟨rfl, rfl⟩
theorem value_any {w : World} {K : DK} {g : Nat} {C : CV} (h : Ct w K g C) : Calls Tryz.prog 46 #[.pointer (some ⟨g, 0, none⟩)] w fun e w' => e = .returned (.int .i64 C.v) ∧ w = w' := by
  obtain ⟨_, _, _, _, c4⟩ := h.cells
  have Hm := Lib.hid (ct_made h)
  clear h
  go_enter Tryz.func46, Tryz.ntmps46
  go_wp2_with (go_at_call 84; refine Hm.out.mono ?_; rintro e w' ⟨rfl, rfl⟩)
  go_ret
  exact ⟨rfl, rfl⟩
/-- Open of sectors that Read refuses. -/
theorem open_no {w : World} {K : DK} {D : DS} (h : Dsk w K D) (k n : Int) (hk : k ≤ 9223372036854775807) (e0 : refE D (withinI k n D.secs) ≠ 0) : Calls Tryz.prog 41 #[K.ptr, .int .i64 k, .int .i64 n] w fun e w' => e = .returned (.tuple #[.pointer none, .int .i64 (refE D (withinI k n D.secs))]) ∧ w = w' := by
  have Hr := Lib.hid (read_no h k n hk e0)
  obtain ⟨E, hE⟩ : ∃ E, E = refE D (withinI k n D.secs) := ⟨_, rfl⟩
  rw [← hE] at Hr e0 ⊢
  unfold DK.ptr at *
  clear h hE hk
  go_enter Tryz.func41, Tryz.ntmps41
  go_wp2_with (go_at_call 78; refine Hr.out.mono ?_; rintro e w' ⟨rfl, rfl⟩)
  go_ret2
  exact ⟨rfl, rfl⟩
/-- Open of no sectors. -/
theorem open_zero {w : World} {K : DK} {D : DS} (h : Dsk w K D) (k : Nat) (hk : k ≤ D.secs) (ho : D.off = false) : Calls Tryz.prog 41 #[K.ptr, .int .i64 k, .int .i64 0] w fun e w' => e = .returned (.tuple #[.pointer none, .int .i64 2]) ∧ Below w.heap.size w w' := by
  have Hr := Lib.hid (read_own h k 0 (by omega) ho)
  unfold DK.ptr at *
  clear h hk ho
  go_enter Tryz.func41, Tryz.ntmps41
  go_wp2_with (go_at_call 78; refine Hr.out.mono ?_; rintro e w' ⟨v, rfl, hb, _⟩; have Low := Lib.hid hb; clear hb)
  go_ret2
  exact ⟨rfl, Low.out⟩
theorem read_reg {w : World} {K : DK} {D : DS} (h : Dsk w K D) (f n : Nat) (h1 : 1 ≤ n) (hk : f + n ≤ D.secs) (ho : D.off = false) : Calls Tryz.prog 78 #[K.ptr, .int .i64 f, .int .i64 n] w fun e w' => ∃ g c, e = .returned (.tuple #[.slice (some ⟨g, 0, none⟩) (n * 128) c, .int .i64 0]) ∧ Below w.heap.size w w' ∧ w.heap.size ≤ g ∧ w'.ownsRow w.heap.size 5 1 (.slice (some ⟨g, 0, none⟩) (n * 128) c) (n * 128) (vals (regL D f (n * 128))) ∧ Byt w' (some ⟨g, 0, none⟩) c (regL D f (n * 128)) ∧ (regL D f (n * 128)).length = n * 128 := by
  refine (read_own h f n hk ho).mono ?_
  rintro e w' ⟨v, rfl, hb, hown⟩
  have hl : ((D.data.drop (f * 128)).take (n * 128)).length = n * 128 := by have := h.ok.whole128; simp; omega
  obtain ⟨m, hm⟩ : ∃ m, n * 128 = m + 1 := ⟨n * 128 - 1, by omega⟩
  have hown' := hown
  rw [hm] at hown'
  obtain ⟨g, c, rfl⟩ := ownsRow_succ hown'
  obtain ⟨A, c', e, hB⟩ := own_sl hown hl
  rw [hl, ← hm] at e
  cases e
  rw [← hm] at *
  exact ⟨g, c, rfl, hb, (hown.lt g (by simp [Value.ownBlock])).1, hown, hB, hl⟩
/-- Open of bytes that are no counter's. -/
theorem open_bad {w : World} {K : DK} {D : DS} (h : Dsk w K D) (f n : Nat) (h1 : 1 ≤ n) (hk : f + n ≤ D.secs) (ho : D.off = false) (ht : tellE (regL D f (n * 128)) = 9) : Calls Tryz.prog 41 #[K.ptr, .int .i64 f, .int .i64 n] w fun e w' => e = .returned (.tuple #[.pointer none, .int .i64 9]) ∧ Below w.heap.size w w' := by
  have hm := h.ok.most
  have Hr := Lib.hid (read_reg h f n h1 hk ho)
  obtain ⟨R, hR⟩ : ∃ R, R = regL D f (n * 128) := ⟨_, rfl⟩
  rw [← hR] at Hr ht
  have Ht := Lib.hid ht
  have hnI : ¬ (n : Int) < 1 := by omega
  unfold DK.ptr at *
  clear h hR ht ho
  go_enter Tryz.func41, Tryz.ntmps41
  go_wp2_with (first
    | (go_at_call 78; refine Hr.out.mono ?_; rintro e w1 ⟨g, c, rfl, hb, _, _, hB, hl⟩; have Low := Lib.hid hb; have HB := Lib.hid hB; have Hl := Lib.hid hl; clear hb hB hl)
    | (go_at_call 79; refine (valueOf_any _ _ _ _ R HB.out Hl.out (by omega)).mono ?_; rw [Ht.out]; rintro e w2 ⟨rfl, hb2⟩; have Low2 := Lib.hid hb2; clear hb2))
  go_ret2
  exact ⟨rfl, Low.out.trans (Low2.out.mono Low.out.size)⟩
/-- Open of a counter's bytes. -/
theorem open_ok {w : World} {K : DK} {D : DS} (h : Dsk w K D) (f n v : Nat) (h1 : 1 ≤ n) (hk : f + n ≤ D.secs) (ho : D.off = false) (ht : Cnt (regL D f (n * 128)) v) : Calls Tryz.prog 41 #[K.ptr, .int .i64 f, .int .i64 n] w fun e w' => ∃ g, e = .returned (.tuple #[.pointer (some ⟨g, 0, none⟩), .int .i64 0]) ∧ w.heap.size ≤ g ∧ Ct w' K g ⟨f, n * 128, v⟩ ∧ Below w.heap.size w w' := by
  have hm := h.ok.most
  have Hr := Lib.hid (read_reg h f n h1 hk ho)
  obtain ⟨R, hR⟩ : ∃ R, R = regL D f (n * 128) := ⟨_, rfl⟩
  rw [← hR] at Hr ht
  have Ht := Lib.hid ht
  have hnI : ¬ (n : Int) < 1 := by omega
  unfold DK.ptr at *
  clear h hR ht ho
  go_enter Tryz.func41, Tryz.ntmps41
  go_upto_region 9 with (first
    | (go_at_call 78; refine Hr.out.mono ?_; rintro e w1 ⟨g, c, rfl, hb, _, _, hB, hl⟩; have Low := Lib.hid hb; have HB := Lib.hid hB; have Hl := Lib.hid hl; clear hb hB hl)
    | (go_at_call 79; refine (valueOf_any _ _ _ _ R HB.out Hl.out (by omega)).mono ?_; rw [Ht.out.te, Ht.out.tv]; rintro e w2 ⟨rfl, hb2⟩; have Low2 := Lib.hid (Low.out.trans (hb2.mono Low.out.size)); clear hb2))
  go_wp2
  go_ret2
  have h2 := Go.heap_alloc_new w2 (.cells #[Value.pointer (some ⟨w2.heap.size, 0, none⟩), .pointer (some ⟨K.g, 0, none⟩), .int .i64 (f : Nat), .int .i64 ((n : Nat) * 128), .int .i64 (v : Nat)] 127)
  have h3 := Low2.out.alloc Low2.out.size (.cells #[Value.pointer (some ⟨w2.heap.size, 0, none⟩), .pointer (some ⟨K.g, 0, none⟩), .int .i64 (f : Nat), .int .i64 ((n : Nat) * 128), .int .i64 (v : Nat)] 127)
  refine ⟨_, rfl, Low2.out.size, ⟨?_, ?_, ?_, ?_⟩, h3⟩
  · refine h2.trans ?_
    simp [DK.ptr]
  · have := Ht.out.le
    rw [Hl.out] at this
    exact this
  · show n * 128 % 128 = 0
    omega
  · show f * 128 + n * 128 ≤ 2097152
    omega
/-- Next at the bound. -/
theorem next_full {w : World} {K : DK} {g : Nat} {C : CV} (h : Ct w K g C) (hv : C.v = C.bd) : Calls Tryz.prog 85 #[.pointer (some ⟨g, 0, none⟩)] w fun e w' => e = .returned (.int .i64 13) ∧ Below w.heap.size w w' := by
  obtain ⟨_, _, _, c3, c4⟩ := h.cells
  rw [hv] at c4
  have Hm := Lib.hid (ct_made h)
  clear h
  go_enter Tryz.func85, Tryz.ntmps85
  go_upto_region 3 with (go_at_call 84; refine Hm.out.mono ?_; rintro e w' ⟨rfl, rfl⟩)
  go_quiet (fail)
  go_wp2
  go_ret
  exact ⟨rfl, Below.drewN (Below.refl _ _) _⟩
theorem count_off {w : World} {K : DK} {g : Nat} {C : CV} {D : DS} (h : Dsk w K D) (hc : Ct w K g C) (hlt : C.v < C.bd) (hfit : C.f * 128 + C.bd ≤ D.data.length) (ho : D.off = true) : Calls Tryz.prog 115 #[.pointer (some ⟨g, 0, none⟩)] w fun e w' => e = .returned (.int .i64 12) ∧ Below w.heap.size w w' := by
  obtain ⟨_, c1, c2, _, c4⟩ := hc.cells
  have hmost := hc.most
  have he : refE D (withinI ((C.f + C.v / 128 : Nat) : Int) 1 D.secs) = 12 := by
    have : withinI ((C.f + C.v / 128 : Nat) : Int) 1 D.secs = true := within_of (b := 1) (by have := h.ok.whole128; omega)
    rw [this, refE, ho]; rfl
  have Hr : Hid (∀ n, Calls Tryz.prog 78 #[K.ptr, .int .i64 ((C.f : Int) + (C.v : Int) / 128), .int .i64 1] (w.drewN n) fun e w' => e = .returned (.tuple #[.slice none 0 0, .int .i64 12]) ∧ w.drewN n = w') := fun n => by
    have hr := read_no (h.later (Below.drewN (Below.refl _ _) n)) ((C.f + C.v / 128 : Nat) : Int) 1 (by have := h.ok.most; have := h.ok.whole128; omega) (by rw [he]; decide)
    rw [he] at hr
    exact hr
  unfold DK.ptr at *
  clear h hc he hfit ho
  go_enter Tryz.func115, Tryz.ntmps115
  go_upto_region 1 with (fail)
  go_quiet (fail)
  go_wp2_with (go_at_call 78; refine (Hr.out _).mono ?_; rintro e w' ⟨rfl, rfl⟩)
  go_ret
  exact ⟨rfl, Below.drewN (Below.refl _ _) _⟩
theorem own_there {w : World} {base n g c : Nat} {L : List Int} (h : w.ownsRow base 5 1 (.slice (some ⟨g, 0, none⟩) n c) n (vals L)) (i : Nat) (hi : i < n) : n ≤ c ∧ g < w.heap.size ∧ (∃ x, w.cell? ⟨g, i, none⟩ = some x) ∧ w.frozen? ⟨g, i, none⟩ = false := by
  rcases h.2 with ⟨e, _⟩ | ⟨g', cap, cur, e, _, hrow, hn, _, hs, _⟩
  · cases e
  · cases e
    have hlt : i < cur.size := by omega
    exact ⟨hn, (Array.getElem?_eq_some_iff.1 hrow).1, ⟨cur[i], (cell_row hrow i).trans (Array.getElem?_eq_getElem hlt)⟩, free_row hrow i⟩
theorem own_stored {w : World} {base n c g : Nat} {L : List Int} (h : w.ownsRow base 5 1 (.slice (some ⟨g, 0, none⟩) n c) n (vals L)) (i : Nat) (y : Int) :
    (w.setCell ⟨g, i, none⟩ (.int .u8 y)).ownsRow base 5 1 (.slice (some ⟨g, 0, none⟩) n c) n (vals (L.set i y)) := by
  have := (h.stored i (.int .u8 y)).1
  rwa [show (vals L).set i (.int .u8 y) = vals (L.set i y) by simp [vals]] at this
theorem inb_set {L : List Int} (h : InB L) (i : Nat) (y : Int) (hy : 0 ≤ y ∧ y < 256) : InB (L.set i y) := by
  intro j
  have := h j
  rw [List.getD_eq_getElem?_getD, List.getElem?_set]
  rw [List.getD_eq_getElem?_getD] at this
  split
  · split
    · exact hy
    · simp
  · exact this
theorem count_on {w : World} {K : DK} {g : Nat} {C : CV} {D : DS} (h : Dsk w K D) (hc : Ct w K g C) (hg : g ∉ K.bl) (hlt : C.v < C.bd) (hfit : C.f * 128 + C.bd ≤ D.data.length) (ho : D.off = false) (hw : D.writes ≤ 1152921504606846976) : Calls Tryz.prog 115 #[.pointer (some ⟨g, 0, none⟩)] w fun e w' => e = .returned (.int .i64 (nextD D C.f C.v).2) ∧ Dsk w' K (nextD D C.f C.v).1 ∧ Chg K.bl w w' := by
  obtain ⟨_, c1, c2, _, c4⟩ := hc.cells
  have hmost := hc.most
  have hq : C.f + C.v / 128 + 1 ≤ D.secs := by have := h.ok.whole128; omega
  have Hr : Hid (∀ n, Calls Tryz.prog 78 #[K.ptr, .int .i64 ((C.f : Int) + (C.v : Int) / 128), .int .i64 1] (w.drewN n) fun e w' => ∃ b c, e = .returned (.tuple #[.slice (some ⟨b, 0, none⟩) 128 c, .int .i64 0]) ∧ Below w.heap.size w w' ∧ w.heap.size ≤ b ∧ w'.ownsRow w.heap.size 5 1 (.slice (some ⟨b, 0, none⟩) 128 c) 128 (vals (secL D.data (C.f + C.v / 128)))) := fun n => by
    refine (read_reg (h.later (Below.drewN (Below.refl _ _) n)) (C.f + C.v / 128) 1 (by decide) hq ho).mono ?_
    rintro e w' ⟨b, c, rfl, hb, hbl, hown, _, _⟩
    exact ⟨b, c, rfl, (Below.drewN (Below.refl _ _) n).trans hb, hbl, hown⟩
  have Hh := Lib.hid h
  have hlen := secL_len D.data (C.f + C.v / 128) (by have := h.ok.whole128; omega)
  have hin : InB (secL D.data (C.f + C.v / 128)) := secL_in h.ok.inb _
  unfold nextD nextB
  obtain ⟨S, hS⟩ : ∃ S, S = secL D.data (C.f + C.v / 128) := ⟨_, rfl⟩
  rw [← hS] at Hr hlen hin ⊢
  have Hl := Lib.hid hlen
  have Hi := Lib.hid hin
  have Hg := Lib.hid hg
  have hglt := hc.lt
  have Hq := Lib.hid hq
  have Hw := Lib.hid hw
  have Ho := Lib.hid ho
  unfold DK.ptr at *
  clear h hc ho hS hlen hin hg hq hw hfit
  go_enter Tryz.func115, Tryz.ntmps115
  go_upto_region 1 with (fail)
  go_quiet (fail)
  go_upto_region 5 with (go_at_call 78; refine (Hr.out _).mono ?_; rintro e w1 ⟨b, c, rfl, hb, hbl, hown⟩; have Low := Lib.hid hb; have Own := Lib.hid hown; have Hbl := Lib.hid hbl; clear hb hown hbl)
  have e1 := (Low.out.cell (p := ⟨g, 1, none⟩) hglt).trans c1
  have e4 := (Low.out.cell (p := ⟨g, 4, none⟩) hglt).trans c4
  obtain ⟨hc128, hblt, ⟨x, hx⟩, hfz⟩ := own_there Own.out (C.v % 128) (by omega)
  obtain ⟨k, hk⟩ : ∃ k, k = C.v % 128 := ⟨_, rfl⟩
  have hkI : (C.v : Int) % 128 = (k : Nat) := by omega
  have Hk := Lib.hid hk
  rw [← hk] at hx hfz
  have hk128 : k < 128 := by omega
  have Hst := Lib.hid (own_stored Own.out k 1)
  clear hk
  go_upto_region 6 with (fail)
  obtain ⟨w2, hw2⟩ : ∃ w2, w2 = w1.setCell ⟨b, k, none⟩ (.int .u8 1) := ⟨_, rfl⟩
  have hb2 : Below w.heap.size w w2 := by rw [hw2]; exact Low.out.setCell (p := ⟨b, k, none⟩) Hbl.out _
  rw [← hw2] at Hst ⊢
  have hl2 : (S.set k 1).length = 128 := by rw [List.length_set]; exact Hl.out
  have hsl : (S.set (C.v % 128) 1).length = 128 := by rw [List.length_set]; exact Hl.out
  have hB2 : Byt w2 (some ⟨b, 0, none⟩) c (S.set (C.v % 128) 1) := by
    have h9 := Hst.out
    rw [Hk.out] at h9
    obtain ⟨A, c', e, h8⟩ := own_sl h9 hsl
    rw [hsl] at e
    cases e
    exact h8
  have hkb : b ∉ K.bl := fun hm => by
    have h7 := Hbl.out
    have h5 := Hh.out.glt
    have h6 := Hh.out.hlt
    simp [DK.bl] at hm
    omega
  have HW := Lib.hid (write_ok (Hh.out.later hb2) (C.f + C.v / 128) 1 128 Hq.out Ho.out (some ⟨b, 0, none⟩) c (S.set (C.v % 128) 1) rfl hsl (inb_set Hi.out _ _ (by decide)) hB2 (fun a e => by cases e; exact hkb) Hw.out)
  have e1' := (hb2.cell (p := ⟨g, 1, none⟩) hglt).trans c1
  have Hb2 := Lib.hid hb2
  unfold DK.ptr at HW
  clear hw2 hb2 hl2 hsl hB2 hkb e1 e4 hx hfz hblt Hst
  go_wp2_with (go_at_call 121; refine HW.out.mono ?_; rintro e w3 ⟨rfl, hd, hc⟩; have Hd := Lib.hid hd; have Hc := Lib.hid hc; clear hd hc)
  go_ret
  exact ⟨rfl, Hd.out, (Chg.of_below Hb2.out).trans Hc.out⟩
theorem next_off {w : World} {K : DK} {g : Nat} {C : CV} {D : DS} (h : Dsk w K D) (hc : Ct w K g C) (hlt : C.v < C.bd) (hfit : C.f * 128 + C.bd ≤ D.data.length) (ho : D.off = true) : Calls Tryz.prog 85 #[.pointer (some ⟨g, 0, none⟩)] w fun e w' => e = .returned (.int .i64 12) ∧ Below w.heap.size w w' := by
  obtain ⟨_, _, _, c3, c4⟩ := hc.cells
  have Hm := Lib.hid (ct_made hc)
  have Hn : Hid (∀ n, Calls Tryz.prog 115 #[.pointer (some ⟨g, 0, none⟩)] (w.drewN n) fun e w' => e = .returned (.int .i64 12) ∧ Below w.heap.size w w') := fun n =>
    (count_off (h.later (Below.drewN (Below.refl _ _) n)) (hc.later (Below.drewN (Below.refl _ _) n)) hlt hfit ho).mono (fun e w' h => ⟨h.1, (Below.drewN (Below.refl _ _) n).trans h.2⟩)
  have hne : ((C.v : Int) == (C.bd : Int)) = false := by rw [beq_eq_false_iff_ne]; omega
  clear h hc hfit ho
  go_enter Tryz.func85, Tryz.ntmps85
  go_upto_region 3 with (go_at_call 84; refine Hm.out.mono ?_; rintro e w' ⟨rfl, rfl⟩)
  go_quiet (fail)
  go_wp2_with (go_at_call 115; refine (Hn.out _).mono ?_; rintro e w1 ⟨rfl, hb⟩; have Low := Lib.hid hb; clear hb)
  go_ret
  exact ⟨rfl, Low.out⟩
/-- Next: the counter behind it. -/
def CV.step (C : CV) (e : Int) : CV := if e = 0 then { C with v := C.v + 1 } else C
set_option maxRecDepth 100000 in
theorem next_on {w : World} {K : DK} {g : Nat} {C : CV} {D : DS} (h : Dsk w K D) (hc : Ct w K g C) (hg : g ∉ K.bl) (hlt : C.v < C.bd) (hfit : C.f * 128 + C.bd ≤ D.data.length) (ho : D.off = false) (hw : D.writes ≤ 1152921504606846976) : Calls Tryz.prog 85 #[.pointer (some ⟨g, 0, none⟩)] w fun e w' => e = .returned (.int .i64 (nextD D C.f C.v).2) ∧ Dsk w' K (nextD D C.f C.v).1 ∧ Ct w' K g (C.step (nextD D C.f C.v).2) ∧ Chg (g :: K.bl) w w' := by
  obtain ⟨_, _, _, c3, c4⟩ := hc.cells
  have Hm := Lib.hid (ct_made hc)
  have Hn : Hid (∀ n, Calls Tryz.prog 115 #[.pointer (some ⟨g, 0, none⟩)] (w.drewN n) fun e w' => e = .returned (.int .i64 (nextD D C.f C.v).2) ∧ Dsk w' K (nextD D C.f C.v).1 ∧ Ct w' K g C ∧ Chg K.bl w w') := fun n =>
    (count_on (h.later (Below.drewN (Below.refl _ _) n)) (hc.later (Below.drewN (Below.refl _ _) n)) hg hlt hfit ho hw).mono (fun e w' h =>
      have hch : Chg K.bl w w' := (Chg.of_below (Below.drewN (Below.refl _ _) n)).trans h.2.2
      ⟨h.1, h.2.1, hc.chg hch hg, hch⟩)
  have hne : ((C.v : Int) == (C.bd : Int)) = false := by rw [beq_eq_false_iff_ne]; omega
  have Hlt := Lib.hid hlt
  have hmost := hc.most
  have hmod := hc.mod
  have Hg := Lib.hid hg
  obtain ⟨R, hR⟩ : ∃ R, R = nextD D C.f C.v := ⟨_, rfl⟩
  rw [← hR] at Hn ⊢
  obtain ⟨E, hE⟩ : ∃ E, E = R.2 := ⟨_, rfl⟩
  rw [← hE] at Hn ⊢
  have hv62 : (C.v : Int) + 1 ≤ 2097152 := by omega
  clear h hc hfit ho hR hE hg hw
  by_cases e0 : E = 0
  · have hs : C.step E = { C with v := C.v + 1 } := by rw [CV.step, if_pos e0]
    rw [hs]
    subst e0
    go_enter Tryz.func85, Tryz.ntmps85
    go_upto_region 3 with (go_at_call 84; refine Hm.out.mono ?_; rintro e w' ⟨rfl, rfl⟩)
    go_quiet (fail)
    go_upto_region 8 with (go_at_call 115; refine (Hn.out _).mono ?_; rintro e w1 ⟨rfl, hd, hc, hch⟩; have Hd := Lib.hid hd; have Hc := Lib.hid hc; have Hch := Lib.hid hch; clear hd hc hch)
    obtain ⟨_, _, _, _, d4⟩ := Hc.out.cells
    have hfz := free_row Hc.out.row 4
    go_wp2
    go_ret
    refine ⟨rfl, Hd.out.chg (chg_one _ g 4 _) ?_ ?_, ⟨?_, ?_, hmod, hmost⟩, (Hch.out.mono (fun k hk => .inl (List.mem_cons_of_mem _ hk))).setCell (p := ⟨g, 4, none⟩) (List.mem_cons_self ..) _⟩
    · have := Hg.out
      simp [DK.bl] at this ⊢
      omega
    · have := Hg.out
      simp [DK.bl] at this ⊢
      omega
    · rw [heap_setCell_same _ _ 4 _ _ _ Hc.out.row]
      simp
    · exact Hlt.out
  · have hs : C.step E = C := by rw [CV.step, if_neg e0]
    rw [hs]
    clear hs
    go_enter Tryz.func85, Tryz.ntmps85
    go_upto_region 3 with (go_at_call 84; refine Hm.out.mono ?_; rintro e w' ⟨rfl, rfl⟩)
    go_quiet (fail)
    have Hnq := Lib.hid (Hn.out nq)
    clear Hn
    generalize w.drewN nq = wa at Hnq ⊢
    go_upto_region 6 with (go_at_call 115; refine Hnq.out.mono ?_; rintro e w1 ⟨rfl, hd, hc, hch⟩; have Hd := Lib.hid hd; have Hc := Lib.hid hc; have Hch := Lib.hid hch; clear hd hc hch)
    clear hne hmost hmod hv62 c3 c4 Hnq
    go_wp2
    go_ret
    exact ⟨rfl, Hd.out, Hc.out, Hch.out.mono (fun k hk => .inl (List.mem_cons_of_mem _ hk))⟩
end Go.Proofs.YtjjdmdnklbdjcaaGreatDoor.Epo
/- DERIVED. A step of a counter, on lists. No program. -/
namespace Go.Proofs.YtjjdmdnklbdjcaaGreatDoor.Epo
open Go.RowKit Dsk
theorem sec0 {b : List Int} (h : b.length = 128) : secL b 0 = b := by
  unfold secL
  rw [Nat.zero_mul, List.drop_zero, List.take_of_length_le (by omega)]
theorem set_getD (L : List Int) (i j : Nat) (y : Int) (hi : i < L.length) : (L.set i y).getD j 0 = if j = i then y else L.getD j 0 := by
  rw [List.getD_eq_getElem?_getD, List.getElem?_set]
  by_cases e : i = j
  · subst e
    rw [if_pos rfl, if_pos hi, if_pos rfl]; rfl
  · rw [if_neg e, if_neg (fun h => e h.symm), ← List.getD_eq_getElem?_getD]
structure NextQ (D : DS) (f v : Nat) (R : DS × Int) : Prop where
  len : R.1.data.length = D.data.length
  wr : R.1.writes = D.writes + 1
  at_ : ∀ j, R.1.data.getD j 0 = if j = f * 128 + v ∧ (D.due = false ∨ bitM D.mask (v % 128) = true) then 1 else D.data.getD j 0
  yes : D.due = false → R.2 = 0 ∧ R.1.off = false ∧ R.1.laid = D.laid ∧ R.1.whole = (if D.laid then D.whole - 1 else D.whole) ∧ R.1.mask = D.mask
  no : D.due = true → R.2 = 12 ∧ R.1.off = true
theorem next_q (D : DS) (f v : Nat) (ho : D.off = false) (hfit : (f + v / 128) * 128 + 128 ≤ D.data.length) : NextQ D f v (nextD D f v) := by
  have hl : (secL D.data (f + v / 128)).length = 128 := secL_len _ _ hfit
  have hB : (nextB D f v).length = 128 := by rw [nextB, List.length_set, hl]
  rw [nextD_eq, sec0 hB]
  have hkv : (f + v / 128) * 128 + v % 128 = f * 128 + v := by omega
  have hm : v % 128 < 128 := by omega
  have hget : ∀ j, j < 128 → (nextB D f v).getD j 0 = if j = v % 128 then 1 else D.data.getD ((f + v / 128) * 128 + j) 0 := fun j hj => by
    rw [nextB, set_getD _ _ _ _ (by omega), secL_get _ _ _ hj]
  obtain ⟨k, hk⟩ : ∃ k, k = f + v / 128 := ⟨_, rfl⟩
  rw [← hk] at hfit hget hkv ⊢
  unfold stepD
  by_cases hd : D.due = true
  · rw [if_pos hd]
    have ht : (tornL D.mask (secL D.data k) (nextB D f v)).length = 128 := torn_len _ _ _
    refine ⟨splice_len _ _ _ (by rw [ht]; exact hfit), rfl, fun j => ?_, (fun h => by rw [hd] at h; cases h), fun _ => ⟨rfl, rfl⟩⟩
    show (splice D.data (k * 128) (tornL D.mask (secL D.data k) (nextB D f v))).getD j 0 = _
    rw [splice_getD _ _ _ (by rw [ht]; exact hfit), ht]
    by_cases h1 : j < k * 128
    · rw [if_pos h1, if_neg (fun h => by omega)]
    · rw [if_neg h1]
      by_cases h2 : j < k * 128 + 128
      · rw [if_pos h2, torn_get _ _ _ _ (by omega), hget _ (by omega), secL_get _ _ _ (by omega), show k * 128 + (j - k * 128) = j by omega]
        by_cases e : j = f * 128 + v
        · have e2 : j - k * 128 = v % 128 := by omega
          rw [e2, if_pos rfl]
          by_cases hb : bitM D.mask (v % 128) = true
          · rw [if_pos hb, if_pos ⟨e, .inr hb⟩]
          · rw [if_neg hb, if_neg (fun h => by rcases h.2 with h | h; rw [hd] at h; cases h; exact hb h)]
        · rw [if_neg (show ¬ j - k * 128 = v % 128 by omega), ite_self, if_neg (fun h => e h.1)]
      · rw [if_neg h2, if_neg (fun h => by omega)]
  · have hd' : D.due = false := by simpa using hd
    rw [if_neg hd]
    refine ⟨splice_len _ _ _ (by rw [hB]; exact hfit), rfl, fun j => ?_, (fun _ => ⟨by simp only [ho]; rfl, ho, rfl, rfl, rfl⟩), fun h => absurd h hd⟩
    show (splice D.data (k * 128) (nextB D f v)).getD j 0 = _
    rw [splice_getD _ _ _ (by rw [hB]; exact hfit), hB]
    by_cases h1 : j < k * 128
    · rw [if_pos h1, if_neg (fun h => by omega)]
    · rw [if_neg h1]
      by_cases h2 : j < k * 128 + 128
      · rw [if_pos h2, hget _ (by omega), show k * 128 + (j - k * 128) = j by omega]
        by_cases e : j = f * 128 + v
        · rw [if_pos (by omega), if_pos ⟨e, .inl hd'⟩]
        · rw [if_neg (by omega), if_neg (fun h => e h.1)]
      · rw [if_neg h2, if_neg (fun h => by omega)]
theorem reg_len {D : DS} {f n : Nat} (h : f * 128 + n ≤ D.data.length) : (regL D f n).length = n := by
  simp [regL]; omega
theorem reg_get {D : DS} {f n j : Nat} (hj : j < n) : (regL D f n).getD j 0 = D.data.getD (f * 128 + j) 0 := by
  simp [regL, List.getD_eq_getElem?_getD, hj]
theorem cnt_reg {D : DS} {f n v : Nat} (h : f * 128 + n ≤ D.data.length) : Cnt (regL D f n) v ↔ v ≤ n ∧ ∀ j, j < n → D.data.getD (f * 128 + j) 0 = if j < v then 1 else 0 := by
  constructor
  · rintro ⟨h1, h2⟩
    rw [reg_len h] at h1 h2
    exact ⟨h1, fun j hj => by rw [← h2 j hj, reg_get hj]⟩
  · rintro ⟨h1, h2⟩
    exact ⟨by rw [reg_len h]; exact h1, fun j hj => by rw [reg_len h] at hj; rw [reg_get hj]; exact h2 j hj⟩
/-- a counter's bytes behind its step. -/
theorem NextQ.cnt {D : DS} {f v n : Nat} {R : DS × Int} (q : NextQ D f v R) (hn : f * 128 + n ≤ D.data.length) (hv : v < n) (h : Cnt (regL D f n) v) : Cnt (regL R.1 f n) (if D.due = false ∨ bitM D.mask (v % 128) = true then v + 1 else v) := by
  rw [cnt_reg hn] at h
  rw [cnt_reg (by rw [q.len]; exact hn)]
  by_cases hc : D.due = false ∨ bitM D.mask (v % 128) = true
  · rw [if_pos hc]
    refine ⟨hv, fun j hj => ?_⟩
    rw [q.at_, h.2 j hj]
    by_cases e : j = v
    · rw [if_pos ⟨by omega, hc⟩, if_pos (by omega)]
    · rw [if_neg (fun h => e (by omega))]
      by_cases h2 : j < v
      · rw [if_pos h2, if_pos (by omega)]
      · rw [if_neg h2, if_neg (by omega)]
  · rw [if_neg hc]
    refine ⟨h.1, fun j hj => ?_⟩
    rw [q.at_, h.2 j hj, if_neg (fun h => hc h.2)]
/-- bytes elsewhere stay. -/
theorem NextQ.other {D : DS} {f v f' n' : Nat} {R : DS × Int} (q : NextQ D f v R) (hn : f' * 128 + n' ≤ D.data.length) (ho : ∀ j, j < n' → f' * 128 + j ≠ f * 128 + v) {x : Nat} (h : Cnt (regL D f' n') x) : Cnt (regL R.1 f' n') x := by
  rw [cnt_reg hn] at h
  rw [cnt_reg (by rw [q.len]; exact hn)]
  exact ⟨h.1, fun j hj => by rw [q.at_, h.2 j hj, if_neg (fun h => ho j hj h.1)]⟩
end Go.Proofs.YtjjdmdnklbdjcaaGreatDoor.Epo
/- DERIVED. (The place of seal.SealBack at this seat.) -/
/- DERIVED. The document's answer of layer 11: Number. -/
namespace Go.Proofs.YtjjdmdnklbdjcaaGreatDoor.Seal
open Go.RowKit
theorem own_row {w : World} {g k : Nat} {L : List Int} (h : w.heap[g]? = some (.cells (u8s L) 5 (0, 0))) (hl : L.length = k) (hk : k ≤ maxLen) {B : Nat} (hB : B ≤ g) : OwnB B L (.slice (some ⟨g, 0, none⟩) k k) w := by
  subst hl
  exact ⟨by rw [vals_length, Nat.mul_one], .inr ⟨g, L.length, u8s L, rfl, hB, h, Nat.le_refl _, hk, by rw [u8s_size, Nat.mul_one], by rw [Nat.mul_one, show (u8s L).toList = vals L from rfl]; exact List.take_of_length_le (by rw [vals_length]; exact Nat.le_refl _)⟩⟩
theorem div_pow (n j : Nat) : n / 256 ^ j / 256 = n / 256 ^ (j + 1) := by rw [Nat.div_div_eq_div_mul, Nat.pow_succ]
set_option maxRecDepth 100000 in
set_option maxHeartbeats 1000000 in
theorem rnumber_any (n k : Nat) (hk : k ≤ 8) (hn : n < 18446744073709551616) (w : World) : Calls Tryz.prog 100 #[.int .u64 (n : Int), .int .i64 (k : Int)] w fun e w' => ∃ v, e = .returned v ∧ OwnB w.heap.size (numL n k) v w' ∧ Below w.heap.size w w' := by
  have km := mk_any k (by omega) w
  have hkI : (k : Int) ≤ 8 := by omega
  have HN := Lib.hid hn
  clear hn
  go_enter Tryz.func100, Tryz.ntmps100
  go_upto_region 3 with (fail)
  have r0 := Go.heap_alloc_new w (.cells (u8s (zeros k)) 5)
  have b0 : Below w.heap.size w (w.alloc (.cells (u8s (zeros k)) 5)) := (Below.refl _ _).alloc (Nat.le_refl _) _
  clear km
  generalize w.alloc _ = w0 at r0 b0 ⊢
  go_loopw [0, 6] (fun v x wr => ∃ j : Nat, j ≤ k ∧ v = .int .u64 ((n / 256 ^ j : Nat) : Int) ∧ x = .int .i64 ((k : Int) - 1 - j) ∧ Hid (wr.heap[w.heap.size]? = some (.cells (u8s (numI n k j)) 5 (0, 0))) ∧ Hid (Below w.heap.size w wr)) (fun _ x _ => (intOf x + 1).toNat)
  case atStart => exact ⟨0, Nat.zero_le _, by simp, by simp, by show _ = _; rw [r0]; simp [numI, numL], b0⟩
  case round =>
    obtain ⟨j, hj, rfl, rfl, hr, hb⟩ := hrel
    clear r0 b0
    by_cases hlt : j < k
    · obtain ⟨i, hi⟩ : ∃ i, i = k - 1 - j := ⟨_, rfl⟩
      have e : (k : Int) - 1 - (j : Int) = (i : Int) := by omega
      have hik : (i : Int) < (k : Int) := by omega
      have hin : i < k := by omega
      have hset := numI_set (n := n) hlt
      rw [← hi] at hset
      obtain ⟨m, hm⟩ : ∃ m : Nat, m = n / 256 ^ j := ⟨_, rfl⟩
      have hdp := div_pow n j
      rw [← hm] at hset hdp
      have hc := row8_cell hr.out i (by rw [numI_length hj]; exact hin)
      have hf := free_row hr.out i
      have Hr2 := row8_set hr.out i ((m % 256 : Nat) : Int)
      rw [hset] at Hr2
      have HR := Lib.hid Hr2
      have Hdp := Lib.hid hdp
      have Hm2 : Hid (m < 18446744073709551616) := by show _ < _; rw [hm]; exact Nat.lt_of_le_of_lt (Nat.div_le_self _ _) HN.out
      have he : (k : Int) - 1 - ((j + 1 : Nat) : Int) = (i : Int) - 1 := by omega
      have He := Lib.hid he
      rw [e, ← hm]
      clear Hr2 hset hi e hm hdp he
      go_wp2
      have hw : IntKind.u64.wrap ((m : Int) / 256) = ((n / 256 ^ (j + 1) : Nat) : Int) := by
        rw [← Hdp.out]
        have := Hm2.out
        simp [IntKind.wrap, IntKind.bits, IntKind.signed]; omega
      rw [hw]
      have hcast : ((m % 256 : Nat) : Int) = (m : Int) % 256 := by omega
      have hR := HR.out
      rw [hcast] at hR
      exact ⟨⟨j + 1, by omega, rfl, by rw [He.out], hR, Below.setCell (p := ⟨w.heap.size, i, none⟩) hb.out (Nat.le_refl _) _⟩, by simp [intOf]⟩
    · have e : (k : Int) - 1 - (j : Int) = -1 := by omega
      obtain rfl : j = k := by omega
      rw [e]
      clear e
      go_wp2
      go_ret
      refine ⟨_, rfl, own_row (k := j) (by have := hr.out; rwa [numI, Nat.sub_self, zeros, List.replicate_zero, List.nil_append] at this) (numL_length n j) (by unfold maxLen; omega) (Nat.le_refl _), hb.out⟩
end Go.Proofs.YtjjdmdnklbdjcaaGreatDoor.Seal
/- DERIVED. PLAIN MATHEMATICS: the primes and the roots' digits that the reference of layer 1 looks for, and that what it does step by step ends at them. No program. -/
namespace Go.Proofs.YtjjdmdnklbdjcaaGreatDoor
/-- the first 64 primes; the roots of the first 8, and the third roots of all, with 32 binary digits behind the point. -/
def PR : List Int := [2, 3, 5, 7, 11, 13, 17, 19, 23, 29, 31, 37, 41, 43, 47, 53, 59, 61, 67, 71, 73, 79, 83, 89, 97, 101, 103, 107, 109, 113, 127, 131, 137, 139, 149, 151, 157, 163, 167, 173, 179, 181, 191, 193, 197, 199, 211, 223, 227, 229, 233, 239, 241, 251, 257, 263, 269, 271, 277, 281, 283, 293, 307, 311]
def R2 : List Int := [6074000999, 7439101573, 9603838834, 11363415354, 14244795007, 15485724812, 17708603819, 18721328409]
def R3 : List Int := [5411319704, 6194414737, 7344290767, 8215976869, 9551921755, 10098905585, 11043570340, 11460697813, 12214315672, 13195500289, 13492127166, 14311783875, 14809980276, 15046980094, 15499789991, 16133124468, 16720292289, 16907126662, 17444216262, 17784676812, 17950125167, 18429019306, 18734950876, 19175934170, 19734090066, 20001703533, 20132865992, 20390182855, 20516441075, 20764397895, 21588763473, 21813078375, 22141143685, 22248366392, 22769593852, 22871018771, 23170020180, 23461497531, 23651862830, 23931792517, 24205322401, 24295138891, 24734567280, 24820601251, 24990902297, 25075189284, 25569408389, 26045227120, 26200031510, 26276752392, 26428864332, 26653801653, 26727943347, 27092625994, 27306805839, 27517677555, 27725365998, 27793908591, 27997534228, 28131656200, 28198240250, 28526537963, 28973835255, 29099129074]
/-- is a number no multiple of those of the list whose squares are not above it? -/
def runP : List Int → Int → Bool
  | [], _ => true
  | x :: r, c => if x * x ≤ c then (if c % x = 0 then false else runP r c) else true
/-- the primes below k + 2. -/
def prN (k : Nat) : List Int := PR.filter fun p => decide (p < (k : Int) + 2)
theorem prN_step_all : ∀ k : Fin 311, prN (k.val + 1) = if runP (prN k.val) ((k.val : Int) + 2) = true then prN k.val ++ [(k.val : Int) + 2] else prN k.val := by decide +kernel
theorem prN_take_all : ∀ k : Fin 312, prN k.val = PR.take (prN k.val).length := by decide +kernel
theorem prN_few_all : ∀ k : Fin 312, (prN k.val).length < 64 → k.val < 310 := by decide +kernel
theorem prN_in_all : ∀ k : Fin 312, (prN k.val).length ≤ 64 := by decide +kernel
theorem prN_step (k : Nat) (h : k < 311) : prN (k + 1) = if runP (prN k) ((k : Int) + 2) = true then prN k ++ [(k : Int) + 2] else prN k := prN_step_all ⟨k, h⟩
theorem prN_take (k : Nat) (h : k < 312) : prN k = PR.take (prN k).length := prN_take_all ⟨k, h⟩
theorem prN_few (k : Nat) (h : k < 312) (hl : (prN k).length < 64) : k < 310 := prN_few_all ⟨k, h⟩ hl
theorem PR_in_all : ∀ j : Fin 64, 2 ≤ PR.getD j.val 0 ∧ PR.getD j.val 0 < 312 := by decide +kernel
theorem PR_in (j : Nat) (h : j < 64) : 2 ≤ PR.getD j 0 ∧ PR.getD j 0 < 312 := PR_in_all ⟨j, h⟩
theorem PR_length : PR.length = 64 := rfl
theorem prN_zero : prN 0 = [] := by decide +kernel
/-- the loop's tests from the j-th on. -/
theorem runP_step {l : List Int} {c : Int} (j : Nat) (h : j < l.length) : runP (l.drop j) c = if l.getD j 0 * l.getD j 0 ≤ c then (if c % l.getD j 0 = 0 then false else runP (l.drop (j + 1)) c) else true := by
  rw [List.drop_eq_getElem_cons h]
  have e : l.getD j 0 = l[j] := by simp [List.getD_eq_getElem?_getD, h]
  rw [e]
  rfl
theorem runP_end {l : List Int} {c : Int} (j : Nat) (h : l.length ≤ j) : runP (l.drop j) c = true := by
  rw [List.drop_eq_nil_of_le h]; rfl
end Go.Proofs.YtjjdmdnklbdjcaaGreatDoor
/- DERIVED. The contract of the reference's Primes of layer 1: the first so many. -/
namespace Go.Proofs.YtjjdmdnklbdjcaaGreatDoor
open Go.RowKit
theorem info64 : (Tryz.prog.info? 25).map (fun i => (i.zero, i.size, i.bytes)) = some (some (.int .u64 0), 1, 8) := by kernel_rfl
theorem info32k : (Tryz.prog.info? 47).map (fun i => (i.zero, i.size, i.bytes)) = some (some (.int .u32 0), 1, 4) := by kernel_rfl
theorem info8k : (Tryz.prog.info? 5).map (fun i => (i.zero, i.size, i.bytes)) = some (some (.int .u8 0), 1, 1) := by kernel_rfl
theorem prN_at (k : Nat) (h : k < 312) (j : Nat) (hj : j < (prN k).length) : 2 ≤ (prN k).getD j 0 ∧ (prN k).getD j 0 < 312 := by
  have hl := prN_in_all ⟨k, h⟩
  have e := prN_take k h
  have : (prN k).getD j 0 = PR.getD j 0 := by
    rw [e]
    simp only [List.getD_eq_getElem?_getD, List.getElem?_take, if_pos hj]
  rw [this]
  exact PR_in j (by simp only at hl; omega)
attribute [local irreducible] prN runP
set_option maxRecDepth 100000 in
set_option maxHeartbeats 2000000 in
theorem primes_any (m : Nat) (hm0 : 0 < m) (hm : m ≤ 64) (w : World) :
    Calls Tryz.prog 168 #[.int .i64 (m : Int)] w fun e w' => ∃ g cap, e = .returned (.slice (some ⟨g, 0, none⟩) m cap) ∧ w.heap.size ≤ g ∧ RowK .u64 w' g (PR.take m) ∧ Below w.heap.size w w' := by
  obtain ⟨i64, hi64, hz640, hz641, hz642⟩ := partsK info64
  have gi := Lib.hid hi64
  have gz0 := Lib.hid hz640
  have gz1 := Lib.hid hz641
  have gz2 := Lib.hid hz642
  clear hi64 hz640 hz641 hz642
  go_enter Tryz.func168, Tryz.ntmps168
  go_wp2
  go_loopw [3, 4] (fun v c wr => ∃ k : Nat, k ≤ 310 ∧ c = .int .u64 ((k : Int) + 2) ∧ Hid (wr.ownsRow w.heap.size 25 1 v (prN k).length (valsK .u64 (prN k)) ∧ Below w.heap.size w wr ∧ (prN k).length ≤ m)) (fun _ c _ => 400 - (intOf c).toNat)
  case atStart => exact ⟨0, by omega, rfl, by { have := World.ownsRow_nil w w.heap.size 25 1; rw [prN_zero]; exact this }, Below.refl _ _, by rw [prN_zero]; exact Nat.zero_le _⟩
  case round =>
    obtain ⟨k, hk, rfl, hr⟩ := hrel
    obtain ⟨A, cap, rfl⟩ := own_nilK hr.out.1
    obtain ⟨n, hn⟩ : ∃ n, (prN k).length = n := ⟨_, rfl⟩
    have Hn := Lib.hid hn
    have hnm : n ≤ m := by rw [← hn]; exact hr.out.2.2
    by_cases hlt : n < m
    · have hk2 : k < 310 := prN_few k (by omega) (by omega)
      obtain ⟨c, hc⟩ : ∃ c, c = (k : Int) + 2 := ⟨_, rfl⟩
      have c0 : 2 ≤ c := by omega
      have c1 : c < 400 := by omega
      have hltI : (n : Int) < m := by omega
      have Hc := Lib.hid hc
      rw [← hc]
      rw [hn]
      have own : Hid (wr.ownsRow w.heap.size 25 1 (.slice A n cap) n (valsK .u64 (prN k))) := by have h := hr.out.1; rw [hn] at h; exact h
      have low := Lib.hid hr.out.2.1
      clear hc hr hn
      obtain ⟨wo, hwo⟩ : ∃ wo, wo = wr := ⟨_, rfl⟩
      subst hwo
      go_wp2
      go_loopw [5, 6] (fun b i wx => ∃ (j : Nat) (t : Bool), j ≤ n ∧ i = .int .i64 j ∧ b = .bool t ∧ Hid (∃ q, wx = wo.drewN q) ∧ Hid (runP (prN k) c = if t = true then runP ((prN k).drop j) c else false)) (fun _ i _ => n - (intOf i).toNat)
      case atStart => exact ⟨0, true, by omega, rfl, rfl, ⟨0, rfl⟩, by show _ = _; simp⟩
      case round =>
        obtain ⟨j, t, hj, rfl, rfl, hwx, hru⟩ := hrel
        obtain ⟨q0, hwq⟩ := hwx.out
        have Hwx := Lib.hid hwq
        clear hwx hwq
        cases t with
        | false =>
          have hstep : prN (k + 1) = prN k := by
            rw [prN_step k (by omega), ← Hc.out, hru.out]; rfl
          have Hst := Lib.hid hstep
          have hcn : ((k + 1 : Nat) : Int) + 2 = c + 1 := by rw [Hc.out]; omega
          have Hcn := Lib.hid hcn
          have fin : ∀ q, ((wo.drewN q).ownsRow w.heap.size 25 1 (.slice A n cap) (prN (k + 1)).length (valsK .u64 (prN (k + 1))) ∧ Below w.heap.size w (wo.drewN q) ∧ (prN (k + 1)).length ≤ m) := fun q => by
            rw [hstep, Hn.out]; exact ⟨own_stays own.out (Below.drewN (Below.refl _ _) q), Below.drewN low.out q, hnm⟩
          have Fin := Lib.hid fin
          clear hstep hcn fin
          by_cases hjn : j < n
          · have hjI : (j : Int) < n := by omega
            go_wp2
            go_quiet (fail)
            go_wp2
            go_roundw
            case rel => exact ⟨k + 1, by omega, by rw [Hcn.out], by rw [Hwx.out, World.drewN_drewN]; exact Fin.out _⟩
            case measure => simp [intOf]; omega
          · have hjI : ¬ (j : Int) < n := by omega
            go_wp2
            go_quiet (fail)
            go_wp2
            go_roundw
            case rel => exact ⟨k + 1, by omega, by rw [Hcn.out], by rw [Hwx.out, World.drewN_drewN]; exact Fin.out _⟩
            case measure => simp [intOf]; omega
        | true =>
          by_cases hjn : j < n
          · obtain ⟨g, c2, hv, _, hg, hrow⟩ := own_rowK own.out Hn.out (by omega)
            injection hv with hA hn2 hc2
            subst hA hc2
            obtain ⟨x, hx⟩ : ∃ x, (prN k).getD j 0 = x := ⟨_, rfl⟩
            have hxr := prN_at k (by omega) j (by rw [Hn.out]; exact hjn)
            rw [hx] at hxr
            obtain ⟨x0, x1⟩ := hxr
            have cell : wr.cell? ⟨g, j, none⟩ = some (.int .u64 x) := by rw [Hwx.out, ← hx]; exact hrow.2 j (by rw [Hn.out]; exact hjn)
            have hrs := hru.out
            simp only [if_true] at hrs
            rw [runP_step j (by rw [Hn.out]; exact hjn), hx] at hrs
            have hjI : (j : Int) < n := by omega
            have hxx0 : 0 ≤ x * x := Int.mul_nonneg (by omega) (by omega)
            have hxx1 : x * x < 100000 := by
              have h1 : x * x ≤ 311 * x := Int.mul_le_mul_of_nonneg_right (by omega) (by omega)
              omega
            have hxw : IntKind.u64.wrap (x * x) = x * x := by rw [show IntKind.u64.wrap (x * x) = (x * x) % 18446744073709551616 by simp [IntKind.wrap, IntKind.bits, IntKind.signed]]; omega
            have Hrs := Lib.hid hrs
            have hmod0 : 0 ≤ c % x := Int.emod_nonneg c (by omega)
            have hmod1 : c % x < x := Int.emod_lt_of_pos c (by omega)
            clear hx hrs hrow hg hru
            by_cases hsq : x * x ≤ c
            · by_cases hmod : c % x = 0
              · go_wp2
                go_quiet (fail)
                go_wp2
                go_roundw
                case rel => exact ⟨j + 1, false, by omega, by go_num, by simp, ⟨q0 + nq, by rw [Hwx.out, World.drewN_drewN]⟩, by show _ = _; rw [Hrs.out, if_pos hsq, if_pos hmod]; simp⟩
                case measure => simp [intOf]; omega
              · go_wp2
                go_quiet (fail)
                go_wp2
                go_roundw
                case rel => exact ⟨j + 1, true, by omega, by go_num, by simp [hmod], ⟨q0 + nq, by rw [Hwx.out, World.drewN_drewN]⟩, by show _ = _; rw [Hrs.out, if_pos hsq, if_neg hmod]; simp⟩
                case measure => simp [intOf]; omega
            · have hrt : runP (prN k) c = true := by rw [Hrs.out, if_neg hsq]
              have hstep : prN (k + 1) = prN k ++ [c] := by
                rw [prN_step k (by omega), ← Hc.out, hrt]; rfl
              have Hst := Lib.hid hstep
              have hcn : ((k + 1 : Nat) : Int) + 2 = c + 1 := by rw [Hc.out]; omega
              have Hcn := Lib.hid hcn
              have own2 := fun q => own_stays own.out (Below.drewN (Below.refl wo.heap.size wo) q)
              have low2 := fun q => Below.drewN low.out q
              have Own2 := Lib.hid own2
              have Low2 := Lib.hid low2
              clear hstep hcn hrt own2 low2
              go_wp2
              go_quiet (fail)
              go_wp2_with (at_builtin; refine wpList_append_mine rfl (.tmp 43) (.tmp 45) 216 rfl w.heap.size 25 i64 (.int .u64 0) 8 Tryz.underlying216 gi.out gz0.out gz1.out gz2.out rfl (by decide) _ n (prN k) c rfl (by rw [Hwx.out, World.drewN_drewN]; exact Own2.out _) rfl (by omega) (by rw [Hwx.out, World.drewN_drewN]; exact (Low2.out _).size) ?_; intro v' w' hg; have Hg := Lib.hid hg; clear hg)
              go_roundw
              case rel => exact ⟨k + 1, by omega, by rw [Hcn.out], by rw [Hst.out, List.length_append, Hn.out]; exact ⟨Hg.out.own, Hg.out.low _ _ (by rw [Hwx.out, World.drewN_drewN]; exact Low2.out _) (Nat.le_refl _), by simp; omega⟩⟩
              case measure => simp [intOf]; omega
          · obtain rfl : n = j := by omega
            have hrs := hru.out
            simp only [if_true] at hrs
            rw [runP_end _ (by rw [Hn.out]; exact Nat.le_refl _)] at hrs
            have hrt := hrs
            clear hrs hru
            have hstep : prN (k + 1) = prN k ++ [c] := by
              rw [prN_step k (by omega), ← Hc.out, hrt]; rfl
            have Hst := Lib.hid hstep
            have hcn : ((k + 1 : Nat) : Int) + 2 = c + 1 := by rw [Hc.out]; omega
            have Hcn := Lib.hid hcn
            have own2 := fun q => own_stays own.out (Below.drewN (Below.refl wo.heap.size wo) q)
            have low2 := fun q => Below.drewN low.out q
            have Own2 := Lib.hid own2
            have Low2 := Lib.hid low2
            clear hstep hcn hrt own2 low2
            go_wp2
            go_quiet (fail)
            go_wp2_with (at_builtin; refine wpList_append_mine rfl (.tmp 43) (.tmp 45) 216 rfl w.heap.size 25 i64 (.int .u64 0) 8 Tryz.underlying216 gi.out gz0.out gz1.out gz2.out rfl (by decide) _ n (prN k) c rfl (by rw [Hwx.out, World.drewN_drewN]; exact Own2.out _) rfl (by omega) (by rw [Hwx.out, World.drewN_drewN]; exact (Low2.out _).size) ?_; intro v' w' hg; have Hg := Lib.hid hg; clear hg)
            go_roundw
            case rel => exact ⟨k + 1, by omega, by rw [Hcn.out], by rw [Hst.out, List.length_append, Hn.out]; exact ⟨Hg.out.own, Hg.out.low _ _ (by rw [Hwx.out, World.drewN_drewN]; exact Low2.out _) (Nat.le_refl _), by simp; omega⟩⟩
            case measure => simp [intOf]; omega
    · have e : n = m := by omega
      subst e
      have hrow := hr.out.1
      have low := hr.out.2.1
      obtain ⟨g, c2, hv, _, hg, hrw⟩ := own_rowK hrow rfl (by omega)
      rw [hn] at hv
      injection hv with hA hn2 hc2
      subst hA hc2
      rw [prN_take k (by omega), hn] at hrw
      rw [hn]
      have Hrw := Lib.hid hrw
      have Low := Lib.hid low
      have hltI : ¬ (n : Int) < n := by omega
      clear hrw low hrow hr hn Hn
      go_wp2
      go_ret
      exact ⟨g, ⟨cap, rfl⟩, hg, Hrw.out, Low.out⟩
end Go.Proofs.YtjjdmdnklbdjcaaGreatDoor
