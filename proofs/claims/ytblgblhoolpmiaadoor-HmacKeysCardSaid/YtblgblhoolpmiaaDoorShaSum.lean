/- DERIVED. The contract of sha.finish: some bytes and the padding, mixed into a state, as a digest. -/
import Derived.Test.YtblgblhoolpmiaaDoorShaBlocks
import Derived.Deep.RegionWith
namespace Go.Proofs.YtblgblhoolpmiaaDoor
open Go.RowKit
/-- a state's words, loaded and stored as a whole. -/
noncomputable def opLoad (v : Value) (w : World) : Result Next := (do pure (.value (← Instr.loadAt 24 v)) : Sem Next).run Tryd.prog w
noncomputable def opStore (v x : Value) (w : World) : Result Next := (do Instr.storeAt 24 v x; pure .skip : Sem Next).run Tryd.prog w
theorem exec_load24 (ρ : Operand → Value) (d : Option Tmp) (x : Operand) (t : TypeId) (p : String) (af : Array Edge) (gd : Option (Nat × Bool)) (w : World) :
    (execOp ρ { dst := d, op := Op.load 24 x, type := t, pos := p, after := af, guard := gd }).run Tryd.prog w = opLoad (ρ x) w := rfl
theorem exec_store24 (ρ : Operand → Value) (d : Option Tmp) (x y : Operand) (t : TypeId) (p : String) (af : Array Edge) (gd : Option (Nat × Bool)) (w : World) :
    (execOp ρ { dst := d, op := Op.store 24 x y, type := t, pos := p, after := af, guard := gd }).run Tryd.prog w = opStore (ρ x) (ρ y) w := rfl
theorem opLoad_eq {w : World} {g : Nat} {s : W8} (h : w.heap[g]? = some (.cells (u32s s.list) 24 (0, 0))) : opLoad (.pointer (some ⟨g, 0, none⟩)) w = .ok (.value (.agg (u32s s.list))) w := by
  unfold opLoad
  simp only [Instr.loadAt, Instr.sureAddr, Sem.run_bind, Sem.run_pure, Result.andThen_ok, run_loadVar_row w g 24 24 _ (0, 0) _ h Tryd.underlying24 rfl info24]
theorem opStore_eq {w : World} {g : Nat} {s t : W8} (h : w.heap[g]? = some (.cells (u32s s.list) 24 (0, 0))) : opStore (.pointer (some ⟨g, 0, none⟩)) (.agg (u32s t.list)) w = .ok .skip (w.setRow g (u32s t.list)) := by
  unfold opStore
  simp only [Instr.storeAt, Instr.sureAddr, Sem.run_bind, Sem.run_pure, Result.andThen_ok, run_storeVar_row w g 24 24 _ (u32s t.list) h info24 rfl (u32s_one _)]
attribute [irreducible] opLoad opStore
attribute [local go_sem ↓] exec_load24 exec_store24
/-- the state behind all blocks of the bytes. -/
def foldAll (s : W8) (L : List Int) : W8 := foldB s L (L.length / 64)
/-- what finish tells: the bytes L mixed into s, and the padding behind n bytes. -/
def fin (s : W8) (L : List Int) (n : Nat) : List Int := hashL (foldAll (foldAll s L) (L.drop (64 * (L.length / 64)) ++ padL n)).list
def zero32 : Array Value := #[.int .u8 0, .int .u8 0, .int .u8 0, .int .u8 0, .int .u8 0, .int .u8 0, .int .u8 0, .int .u8 0, .int .u8 0, .int .u8 0, .int .u8 0, .int .u8 0, .int .u8 0, .int .u8 0, .int .u8 0, .int .u8 0, .int .u8 0, .int .u8 0, .int .u8 0, .int .u8 0, .int .u8 0, .int .u8 0, .int .u8 0, .int .u8 0, .int .u8 0, .int .u8 0, .int .u8 0, .int .u8 0, .int .u8 0, .int .u8 0, .int .u8 0, .int .u8 0]
/-- what finish keeps: its own state's row, its result's row. -/
structure FInv (t : W8) (N : Nat) (w wr : World) : Prop where
  st : wr.heap[N]? = some (.cells (u32s t.list) 24 (0, 0))
  res : ∃ Z : Array Value, Z.size = 32 ∧ wr.heap[N + 1]? = some (.cells Z 35 (0, 0))
  low : Below N w wr
theorem FInv.size {t : W8} {N : Nat} {w wr : World} (h : FInv t N w wr) : N + 2 ≤ wr.heap.size := by
  obtain ⟨Z, _, hz⟩ := h.res
  have := (Array.getElem?_eq_some_iff.1 hz).1
  omega
theorem FInv.below {t : W8} {N : Nat} {w wr w' : World} (h : FInv t N w wr) (hb : Below wr.heap.size wr w') : FInv t N w w' := by
  have hs := h.size
  obtain ⟨Z, hZ, hz⟩ := h.res
  exact ⟨(hb.block _ (by omega)).trans h.st, ⟨Z, hZ, (hb.block _ (by omega)).trans hz⟩, h.low.trans (hb.mono (by omega))⟩
theorem FInv.drew {t : W8} {N : Nat} {w wr : World} (h : FInv t N w wr) : FInv t N w wr.drew := h.below ((Below.refl _ _).drew)
theorem FInv.alloc {t : W8} {N : Nat} {w wr : World} (h : FInv t N w wr) (o : Obj) : FInv t N w (wr.alloc o) := h.below ((Below.refl _ _).alloc (Nat.le_refl _) _)
theorem FInv.set {t : W8} {N : Nat} {w wr : World} (h : FInv t N w wr) (t' : W8) : FInv t' N w (wr.setRow N (u32s t'.list)) := by
  obtain ⟨Z, hZ, hz⟩ := h.res
  exact ⟨setRow_heap wr _ _ _ _ _ h.st, ⟨Z, hZ, by rw [setRow_other wr _ _ _ (by omega)]; exact hz⟩, below_setRow h.low (Nat.le_refl _) _⟩
theorem FInv.load {t : W8} {N : Nat} {w wr : World} (h : FInv t N w wr) : opLoad (.pointer (some ⟨N, 0, none⟩)) wr = .ok (.value (.agg (u32s t.list))) wr := opLoad_eq h.st
theorem FInv.store {t : W8} {N : Nat} {w wr : World} (h : FInv t N w wr) (t' : W8) : opStore (.pointer (some ⟨N, 0, none⟩)) (.agg (u32s t'.list)) wr = .ok .skip (wr.setRow N (u32s t'.list)) := opStore_eq h.st
theorem FInv.cells {a b c d e f g h : Int} {N : Nat} {w wr : World} (k : FInv ⟨a, b, c, d, e, f, g, h⟩ N w wr) :
    wr.cell? ⟨N, 0, none⟩ = some (.int .u32 a) ∧ wr.cell? ⟨N, 1, none⟩ = some (.int .u32 b) ∧ wr.cell? ⟨N, 2, none⟩ = some (.int .u32 c) ∧ wr.cell? ⟨N, 3, none⟩ = some (.int .u32 d) ∧
    wr.cell? ⟨N, 4, none⟩ = some (.int .u32 e) ∧ wr.cell? ⟨N, 5, none⟩ = some (.int .u32 f) ∧ wr.cell? ⟨N, 6, none⟩ = some (.int .u32 g) ∧ wr.cell? ⟨N, 7, none⟩ = some (.int .u32 h) ∧ N < wr.heap.size :=
  ⟨cell_row k.st 0, cell_row k.st 1, cell_row k.st 2, cell_row k.st 3, cell_row k.st 4, cell_row k.st 5, cell_row k.st 6, cell_row k.st 7, by have := k.size; omega⟩
theorem FInv.free {t : W8} {N : Nat} {w wr : World} (k : FInv t N w wr) :
    wr.frozen? ⟨N, 0, none⟩ = false ∧ wr.frozen? ⟨N, 1, none⟩ = false ∧ wr.frozen? ⟨N, 2, none⟩ = false ∧ wr.frozen? ⟨N, 3, none⟩ = false ∧ wr.frozen? ⟨N, 4, none⟩ = false ∧ wr.frozen? ⟨N, 5, none⟩ = false ∧ wr.frozen? ⟨N, 6, none⟩ = false ∧ wr.frozen? ⟨N, 7, none⟩ = false :=
  ⟨free_row k.st 0, free_row k.st 1, free_row k.st 2, free_row k.st 3, free_row k.st 4, free_row k.st 5, free_row k.st 6, free_row k.st 7⟩
/-- the same, the row whatever. -/
structure RInv (C : Array Value) (N : Nat) (w wr : World) : Prop where
  st : wr.heap[N]? = some (.cells C 24 (0, 0))
  res : ∃ Z : Array Value, Z.size = 32 ∧ wr.heap[N + 1]? = some (.cells Z 35 (0, 0))
  low : Below N w wr
theorem RInv.set {C : Array Value} {N : Nat} {w wr : World} (k : RInv C N w wr) (i : Nat) (v : Value) : RInv (C.setIfInBounds i v) N w (wr.setCell ⟨N, i, none⟩ v) := by
  obtain ⟨Z, hZ, hz⟩ := k.res
  exact ⟨heap_setCell_same _ _ _ _ _ _ k.st, ⟨Z, hZ, by rw [heap_setCell_other _ _ _ _ (by simp)]; exact hz⟩, k.low.setCell (by simp) _⟩
theorem eight_row (s : W8) (a b c d e f g h : Int) : ((((((((u32s s.list).setIfInBounds 0 (.int .u32 a)).setIfInBounds 1 (.int .u32 b)).setIfInBounds 2 (.int .u32 c)).setIfInBounds 3 (.int .u32 d)).setIfInBounds 4 (.int .u32 e)).setIfInBounds 5 (.int .u32 f)).setIfInBounds 6 (.int .u32 g)).setIfInBounds 7 (.int .u32 h) = u32s (W8.mk a b c d e f g h).list := by
  simp [u32s, W8.list]
theorem FInv.eight {s : W8} {N : Nat} {w wr : World} (k : FInv s N w wr) (a b c d e f g h : Int) :
    FInv ⟨a, b, c, d, e, f, g, h⟩ N w ((((((((wr.setCell ⟨N, 0, none⟩ (.int .u32 a)).setCell ⟨N, 1, none⟩ (.int .u32 b)).setCell ⟨N, 2, none⟩ (.int .u32 c)).setCell ⟨N, 3, none⟩ (.int .u32 d)).setCell ⟨N, 4, none⟩ (.int .u32 e)).setCell ⟨N, 5, none⟩ (.int .u32 f)).setCell ⟨N, 6, none⟩ (.int .u32 g)).setCell ⟨N, 7, none⟩ (.int .u32 h)) := by
  have r : RInv (u32s s.list) N w wr := ⟨k.st, k.res, k.low⟩
  have r8 := (((((((r.set 0 (.int .u32 a)).set 1 (.int .u32 b)).set 2 (.int .u32 c)).set 3 (.int .u32 d)).set 4 (.int .u32 e)).set 5 (.int .u32 f)).set 6 (.int .u32 g)).set 7 (.int .u32 h)
  rw [eight_row] at r8
  exact ⟨r8.st, r8.res, r8.low⟩
theorem byt_row {w : World} {g : Nat} {l : List Int} (h : w.heap[g]? = some (.cells (u8s l) 5 (0, 0))) : Byt w (some ⟨g, 0, none⟩) l.length l :=
  ⟨Nat.le_refl _, (fun h => by cases h), fun _ => ⟨g, 0, rfl, (Array.getElem?_eq_some_iff.1 h).1, fun j hj => by rw [Nat.zero_add, cell_row h, u8s_get l j hj]⟩⟩
theorem padF_in (n j : Nat) : 0 ≤ padF n j ∧ padF n j < 256 := by
  by_cases h : j < padLen n
  · by_cases h0 : j = 0
    · rw [h0, padF_zero]; omega
    · by_cases h1 : j < 1 + zeros n
      · rw [padF_mid n j h0 h1]; omega
      · have := padF_tail n (padLen n - 1 - j) (by unfold padLen; omega)
        rw [show padLen n - 1 - (padLen n - 1 - j) = j by omega] at this
        rw [this]; omega
  · have : padF n j = padF n j := rfl
    unfold padF
    split
    · omega
    · split
      · omega
      · omega
theorem padL_in (n : Nat) : InB (padL n) := by
  intro j
  by_cases h : j < padLen n
  · rw [← padL_getD n j h]; exact padF_in n j
  · rw [getD_out _ _ (by rw [padL_length]; omega)]; omega
set_option maxRecDepth 100000 in
set_option maxHeartbeats 2000000 in
theorem finish_any (s : W8) (L : List Int) (A : Option Addr) (c m n : Nat) (w : World) (hm : L.length = m) (hb : InB L) (hB : Byt w A c L) (hL : Laid w) (hn : n < 2305843009213693952) :
    Calls Tryd.prog 34 #[.agg (u32s s.list), .slice A m c, .int .u64 (n : Int)] w fun e' w' => e' = .returned (.agg (u8s (fin s L n))) ∧ Below w.heap.size w w' := by
  have Hm := Lib.hid hm
  have Hb := Lib.hid hb
  have HB := Lib.hid hB
  have HL := Lib.hid hL
  have Hn := Lib.hid hn
  have hsz := hL.sz
  have h2 := Lib.hid (two_new w (.cells (u32s s.list) 24))
  clear hm hb hB hL hn
  go_enter Tryd.func34, Tryd.ntmps34
  have i0 : ∀ Z : Array Value, Z.size = 32 → FInv s w.heap.size w ((w.alloc (.cells (u32s s.list) 24)).alloc (.cells Z 35)) := fun Z hZ => ⟨(h2.out _).1, ⟨Z, hZ, (h2.out _).2⟩, ((Below.refl _ _).alloc (Nat.le_refl _) _).alloc (by simp) _⟩
  have l0 := fun Z hZ => (i0 Z hZ).load
  have I0 := Lib.hid i0
  clear i0 h2
  have l0' := l0 zero32 rfl
  unfold zero32 at l0'
  clear l0
  go_wp2_with fail
  have i0 := I0.out zero32 rfl
  unfold zero32 at i0
  refine (mixBlocks_any s L A c m w _ Hm.out Hb.out HB.out i0.low (HL.out.below i0.low hsz)).mono ?_
  rintro e w1 ⟨A', c', rfl, byt1, low1⟩
  have i1 := i0.below low1
  have s1 := i1.store (foldB s L (m / 64))
  have j1 := (i1.set (foldB s L (m / 64)))
  obtain ⟨t, ht⟩ : ∃ t, t = foldB s L (m / 64) := ⟨_, rfl⟩
  rw [← ht] at s1 j1
  rw [← ht]
  obtain ⟨v1, hv1⟩ : ∃ v1, v1 = w1.setRow w.heap.size (u32s t.list) := ⟨_, rfl⟩
  rw [← hv1] at s1 j1
  have HT := Lib.hid ht
  have Byt1 := Lib.hid byt1
  have hs1 := j1.size
  clear ht hv1 byt1 i0 i1 low1 l0'
  go_wp2_with fail
  obtain ⟨ta, tb, tc, td, te, tf, tg, th⟩ := t
  obtain ⟨p0, p1, p2, p3, p4, p5, p6, p7, p8⟩ := j1.cells
  have hlow1 := Lib.hid j1.low
  have Hd : Hid ((L.drop (64 * (m / 64))).length = m % 64) := by show _ = _; rw [List.length_drop, Hm.out]; omega
  have hpl : padLen n ≤ 72 := by have := zeros_lt n; unfold padLen; omega
  have hpl2 : 0 < m % 64 + padLen n := by unfold padLen; omega
  have hmod : m % 64 ≤ 50000 := by omega
  go_region_with (first
    | (go_at_call 32; refine (padding_any n Hn.out _).mono ?_; rintro e w2 ⟨rfl, hp2, low2⟩; have j2 := j1.drew.below low2; obtain ⟨q0, q1, q2, q3, q4, q5, q6, q7, q8⟩ := j2.cells; have Hp2 := Lib.hid (byt_row hp2); clear hp2 low2)
    | (go_at_call 40; refine (concat_any A' (some ⟨v1.heap.size, 0, none⟩) c' (padLen n) w2.heap.size (m % 64) (padLen n) (L.drop (64 * (m / 64))) (padL n) _ Hd.out (padL_length n) hmod (by omega) hpl2 (Go.heap_alloc_new w2 _) (Byt1.out.below (j2.alloc _).low (Nat.le_refl _)) (by have := Hp2.out; rw [padL_length] at this; exact this.alloc _)).mono ?_; rintro e w3 ⟨g3, c3, rfl, byt3, low3⟩; have j3 := (j2.alloc _).below low3; obtain ⟨r0, r1, r2, r3, r4, r5, r6, r7, r8⟩ := j3.cells; have Byt3 := Lib.hid byt3; clear byt3 low3)
    | (go_at_call 51; refine (mixBlocks_any ⟨ta, tb, tc, td, te, tf, tg, th⟩ (L.drop (64 * (m / 64)) ++ padL n) (some ⟨g3, 0, none⟩) c3 (m % 64 + padLen n) w3 w3 (by rw [List.length_append, Hd.out, padL_length]) ((Hb.out.drop _).append (padL_in n)) Byt3.out (Below.refl _ _) (HL.out.below j3.low hsz)).mono ?_; rintro e w4 ⟨A4, c4, rfl, byt4, low4⟩; have j4 := j3.below low4; obtain ⟨y0, y1, y2, y3, y4, y5, y6, y7, y8⟩ := j4.cells; obtain ⟨z0, z1, z2, z3, z4, z5, z6, z7⟩ := j4.free; generalize hq : foldB _ _ _ = q; obtain ⟨qa, qb, qc, qd, qe, qf, qg, qh⟩ := q; have HQ := Lib.hid hq; simp only [u32s, W8.list, List.map_cons, List.map_nil]; clear hq byt4 low4))
  all_goals
    have f5 := j4.eight qa qb qc qd qe qf qg qh
    obtain ⟨w5, hw5⟩ : ∃ w5, w5 = ((((((((w4.setCell ⟨w.heap.size, 0, none⟩ (.int .u32 qa)).setCell ⟨w.heap.size, 1, none⟩ (.int .u32 qb)).setCell ⟨w.heap.size, 2, none⟩ (.int .u32 qc)).setCell ⟨w.heap.size, 3, none⟩ (.int .u32 qd)).setCell ⟨w.heap.size, 4, none⟩ (.int .u32 qe)).setCell ⟨w.heap.size, 5, none⟩ (.int .u32 qf)).setCell ⟨w.heap.size, 6, none⟩ (.int .u32 qg)).setCell ⟨w.heap.size, 7, none⟩ (.int .u32 qh)) := ⟨_, rfl⟩
    rw [← hw5] at f5 ⊢
    clear hw5 y0 y1 y2 y3 y4 y5 y6 y7 y8 z0 z1 z2 z3 z4 z5 z6 z7 r0 r1 r2 r3 r4 r5 r6 r7 r8 q0 q1 q2 q3 q4 q5 q6 q7 q8 p0 p1 p2 p3 p4 p5 p6 p7 p8 j1 j2 j3 j4
    obtain ⟨Z, hZ, hz⟩ := f5.res
    have Hz := Lib.hid hz
    have HZ := Lib.hid hZ
    have F5 := Lib.hid f5
    have H35 : Hid ((Tryd.prog.info? 35).map (·.size) = some (u8s (hashL (W8.mk qa qb qc qd qe qf qg qh).list)).size) := by show _ = _; rw [u8s_size, hashL_length]; exact info35
    have H8 : Hid ((Tryd.prog.info? 24).map (·.size) = some (u32s (W8.mk qa qb qc qd qe qf qg qh).list).size) := info24
    clear hz hZ f5
    go_wp2_with (first
      | (refine wpList_load_row rfl 24 (.tmp 3) rfl w.heap.size rfl 24 (u32s (W8.mk qa qb qc qd qe qf qg qh).list) (0, 0) _ F5.out.st Tryd.underlying24 rfl H8.out ?_)
      | (go_at_call 52; refine (hashOf_any (W8.mk qa qb qc qd qe qf qg qh).list rfl _).mono ?_; rintro e w6 ⟨rfl, low6⟩)
      | (refine wpList_store_row rfl 35 (.tmp 6) (.tmp 25) rfl (w.heap.size + 1) (u8s (hashL (W8.mk qa qb qc qd qe qf qg qh).list)) rfl rfl 35 Z ((low6.block _ (Array.getElem?_eq_some_iff.1 Hz.out).1).trans Hz.out) H35.out (by rw [u8s_size, hashL_length, HZ.out]) (u8s_one _) ?_))
    have hfin : hashL (W8.mk qa qb qc qd qe qf qg qh).list = fin s L n := by
      unfold fin foldAll
      rw [Hm.out, List.length_append, Hd.out, padL_length, ← HT.out, HQ.out]
    refine bodyPost_ret (v := .agg (u8s (hashL (W8.mk qa qb qc qd qe qf qg qh).list))) (results_cell_row rfl _ _ (w.heap.size + 1) 35 _ (0, 0) _ rfl (setRow_heap w6 _ _ _ _ _ ((low6.block _ (Array.getElem?_eq_some_iff.1 Hz.out).1).trans Hz.out)) Tryd.underlying35 rfl H35.out) rfl ?_
    rw [hfin]
    exact ⟨rfl, below_setRow (F5.out.low.trans (low6.mono F5.out.low.size)) (by omega) _⟩
end Go.Proofs.YtblgblhoolpmiaaDoor
