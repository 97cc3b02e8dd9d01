/- DERIVED. Texts of ours, merged: XSltOpen XSltUse XSltOpened. -/
import Derived.Test.YtkjhoanlkkcfkaaGreatDoorMseg19
/- DERIVED. The contract of slots.Open where it refuses. -/
namespace Go.Proofs.YtkjhoanlkkcfkaaGreatDoor.Slt
open Go.RowKit Dsk
/-- what Open returns lies in two cells. -/
theorem open_results {fn : Func} (h : fn.results = #[.cell 6 90, .cell 7 33]) {tmps : Array Value} {w : World} {a b : Nat} {x : Option Addr} {y : Int} (ha : tmps.getD 6 undef = .pointer (some ⟨a, 0, none⟩)) (hb : tmps.getD 7 undef = .pointer (some ⟨b, 0, none⟩)) (hx : w.cell? ⟨a, 0, none⟩ = some (.pointer x)) (hy : w.cell? ⟨b, 0, none⟩ = some (.int .i64 y)) :
    (results fn tmps).run Tryz.prog w = .ok (.tuple #[.pointer x, .int .i64 y]) w := by
  have ha' : tmps[6]?.getD undef = .pointer (some ⟨a, 0, none⟩) := by simpa using ha
  have hb' : tmps[7]?.getD undef = .pointer (some ⟨b, 0, none⟩) := by simpa using hb
  simp [results, h, ha', hb', go_sem, hx, hy]
theorem two_boxes (w : World) (x : Option Addr) (y : Int) : ((w.alloc (.cells #[.pointer x] 90)).alloc (.cells #[.int .i64 y] 33)).cell? ⟨w.heap.size, 0, none⟩ = some (.pointer x) ∧ ((w.alloc (.cells #[.pointer x] 90)).alloc (.cells #[.int .i64 y] 33)).cell? ⟨w.heap.size + 1, 0, none⟩ = some (.int .i64 y) ∧ Below w.heap.size w ((w.alloc (.cells #[.pointer x] 90)).alloc (.cells #[.int .i64 y] 33)) := by
  have h := two_new w (.cells #[.pointer x] 90) (.cells #[.int .i64 y] 33)
  exact ⟨cell_row h.1 0, cell_row h.2 0, ((Below.refl w.heap.size w).alloc (Nat.le_refl _) _).alloc (by rw [World.size_alloc]; omega) _⟩
theorem open_nil {v : Value} {w : World} (h : BadD v w) (a b : Int) : Calls Tryz.prog 45 #[v, .int .i64 a, .int .i64 b] w fun e w' => e = .returned (.tuple #[.pointer none, .int .i64 1]) ∧ Below w.heap.size w w' := by
  have hs := fun (w' : World) (hb : Below w.heap.size w w') => bad_sectors (h.later hb)
  have Hs := Lib.hid hs
  clear h hs
  go_enter Tryz.func45, Tryz.ntmps45
  go_wp2_with (go_at_call 14; refine (Hs.out _ (((Below.refl w.heap.size w).alloc (Nat.le_refl _) _).alloc (by rw [World.size_alloc]; omega) _)).mono ?_; rintro e w' ⟨rfl, rfl⟩)
  obtain ⟨h1, h2, h3⟩ := two_boxes w none 1
  refine bodyPost_ret (open_results rfl rfl rfl h1 h2) rfl ?_
  exact ⟨rfl, h3⟩
theorem open_few {w : World} {K : DK} {D : DS} (h : Dsk w K D) (a b : Int) (hb : b < 1) : Calls Tryz.prog 45 #[K.ptr, .int .i64 a, .int .i64 b] w fun e w' => e = .returned (.tuple #[.pointer none, .int .i64 2]) ∧ Below w.heap.size w w' := by
  have hs := fun (w' : World) (hb : Below w.heap.size w w') => sectors_count (h.later hb)
  have h1 : 0 < D.secs := h.ok.one
  obtain ⟨s, hs'⟩ : ∃ s, s = D.secs := ⟨_, rfl⟩
  rw [← hs'] at hs h1
  have Hs := Lib.hid hs
  have hsI : ¬ (s : Int) = 0 := by omega
  clear h hs hs'
  unfold DK.ptr at *
  go_enter Tryz.func45, Tryz.ntmps45
  go_wp2_with (go_at_call 14; refine (Hs.out _ (((Below.refl w.heap.size w).alloc (Nat.le_refl _) _).alloc (by rw [World.size_alloc]; omega) _)).mono ?_; rintro e w' ⟨rfl, rfl⟩)
  obtain ⟨h1, h2, h3⟩ := two_boxes w none 2
  refine bodyPost_ret (open_results rfl rfl rfl h1 h2) rfl ?_
  exact ⟨rfl, h3⟩
theorem open_no {w : World} {K : DK} {D : DS} (h : Dsk w K D) (a b : Int) (hb : 1 ≤ b) (ha : a ≤ 9223372036854775807) (e0 : refE D (withinI a b D.secs) ≠ 0) : Calls Tryz.prog 45 #[K.ptr, .int .i64 a, .int .i64 b] w fun e w' => e = .returned (.tuple #[.pointer none, .int .i64 (refE D (withinI a b D.secs))]) ∧ Below w.heap.size w w' := by
  have hs := fun (w' : World) (hb : Below w.heap.size w w') => sectors_count (h.later hb)
  have hr := fun (w' : World) (hb : Below w.heap.size w w') => read_no (h.later hb) a b ha e0
  have h1 : 0 < D.secs := h.ok.one
  obtain ⟨s, hs'⟩ : ∃ s, s = D.secs := ⟨_, rfl⟩
  rw [← hs'] at hs h1 hr e0 ⊢
  obtain ⟨E, hE⟩ : ∃ E, E = refE D (withinI a b s) := ⟨_, rfl⟩
  rw [← hE] at hr e0 ⊢
  have Hs := Lib.hid hs
  have Hr := Lib.hid hr
  have hsI : ¬ (s : Int) = 0 := by omega
  have hEn : ¬ E = 0 := e0
  clear h hs hs' hr hE e0
  unfold DK.ptr at *
  go_enter Tryz.func45, Tryz.ntmps45
  go_wp2_with (first
    | (go_at_call 14; refine (Hs.out _ (((Below.refl w.heap.size w).alloc (Nat.le_refl _) _).alloc (by rw [World.size_alloc]; omega) _)).mono ?_; rintro e w' ⟨rfl, rfl⟩)
    | (go_at_call 77; refine (Hr.out _ (((Below.refl w.heap.size w).alloc (Nat.le_refl _) _).alloc (by rw [World.size_alloc]; omega) _)).mono ?_; rintro e w' ⟨rfl, rfl⟩))
  obtain ⟨h1, h2, h3⟩ := two_boxes w none E
  refine bodyPost_ret (open_results rfl rfl rfl h1 h2) rfl ?_
  exact ⟨rfl, h3⟩
end Go.Proofs.YtkjhoanlkkcfkaaGreatDoor.Slt
/- DERIVED. The records that come up, and the sectors that they use; a log behind the turn of a block that is no cells. -/
namespace Go.Proofs.YtkjhoanlkkcfkaaGreatDoor.Slt
open Go.RowKit Dsk
/-- the sectors of the i-th record. -/
def secR (cs : List (List Int)) (i : Nat) : Nat := tk (lenB (cs.getD i []))
def useR (cs : List (List Int)) (pre : List Nat) : Nat := (pre.map (secR cs)).sum
def txtR (cs : List (List Int)) (pre : List Nat) : List (List Int) := pre.map fun i => textC (cs.getD i [])
theorem useR_next (cs : List (List Int)) (pre : List Nat) (x : Nat) : useR cs (pre ++ [x]) = useR cs pre + secR cs x := by
  unfold useR
  rw [List.map_append, List.sum_append, List.map_cons, List.map_nil, List.sum_cons, List.sum_nil, Nat.add_zero]
theorem txtR_next (cs : List (List Int)) (pre : List Nat) (x : Nat) : txtR cs (pre ++ [x]) = txtR cs pre ++ [textC (cs.getD x [])] := by
  unfold txtR
  rw [List.map_append, List.map_cons, List.map_nil]
theorem useR_le {cs : List (List Int)} (hg : ∀ c ∈ cs, Good c) : ∀ pre : List Nat, (∀ x ∈ pre, x < cs.length) → useR cs pre ≤ pre.length * 2100 := by
  intro pre
  induction pre with
  | nil => intro _; exact Nat.zero_le _
  | cons x pre ih =>
    intro h
    have h1 := ih (fun y hy => h y (by simp [hy]))
    have h2 := (hg _ (getD_mem (h x (by simp)))).2.1
    have h3 : secR cs x ≤ 2100 := by unfold secR tk; omega
    have h4 : useR cs (x :: pre) = secR cs x + useR cs pre := by unfold useR; rw [List.map_cons, List.sum_cons]
    rw [h4, List.length_cons]
    omega
theorem useR_ge (cs : List (List Int)) : ∀ pre : List Nat, pre.length ≤ useR cs pre := by
  intro pre
  induction pre with
  | nil => exact Nat.zero_le _
  | cons x pre ih =>
    have h3 : 1 ≤ secR cs x := tk_pos _
    have h4 : useR cs (x :: pre) = secR cs x + useR cs pre := by unfold useR; rw [List.map_cons, List.sum_cons]
    rw [h4, List.length_cons]
    omega
theorem useR_range {cs : List (List Int)} (hg : ∀ c ∈ cs, Good c) : ∀ n, n ≤ cs.length → useR cs (List.range n) * 128 = posC cs n := by
  intro n
  induction n with
  | zero => intro _; rw [posC_zero]; rfl
  | succ n ih =>
    intro h
    rw [range_next, useR_next, posC_next (by omega), Nat.add_mul, ih (by omega), secR, (hg _ (getD_mem (show n < cs.length by omega))).2.2]
theorem txtR_all (cs : List (List Int)) : txtR cs (List.range cs.length) = cs.map textC := by
  apply List.ext_getElem
  · simp [txtR]
  · intro i h1 h2
    simp only [txtR, List.length_map, List.length_range] at h1
    simp [txtR, List.getD_eq_getElem?_getD, h1]
theorem good_len {cs : List (List Int)} (hg : ∀ c ∈ cs, Good c) : cs.length * 128 ≤ cs.flatten.length := by
  induction cs with
  | nil => simp
  | cons c cs ih =>
    have h1 := (hg c (by simp)).len
    have h2 := ih (fun x hx => hg x (by simp [hx]))
    rw [List.flatten_cons, List.length_append, List.length_cons]
    omega
/-- cells stay where a block that is no cells turns. -/
theorem row_stays {W W' : World} {row : Option Nat} {k : Nat} {cs : Array Value} {t : TypeId} {fr : Nat × Nat} (h : W.heap[k]? = some (.cells cs t fr)) (hg : W.grownBy W' row) (hrow : ∀ r, row = some r → ∃ o : Obj, W.heap[r]? = some o ∧ o.isCells = false) : W'.heap[k]? = some (.cells cs t fr) :=
  (hg.block k (Array.getElem?_eq_some_iff.1 h).1 (fun e => by obtain ⟨o, ho, hc⟩ := hrow k e.symm; rw [h] at ho; cases ho; cases hc)).trans h
theorem byt_stays {W W' : World} {row : Option Nat} {A : Option Addr} {c : Nat} {L : List Int} (h : Byt W A c L) (hg : W.grownBy W' row) (hrow : ∀ r, row = some r → ∃ o : Obj, W.heap[r]? = some o ∧ o.isCells = false) : Byt W' A c L := by
  refine ⟨h.1, h.2.1, fun hl => ?_⟩
  obtain ⟨g, off, hA, hlt, hb⟩ := h.2.2 hl
  exact ⟨g, off, hA, Nat.lt_of_lt_of_le hlt hg.size, fun j hj => cell_kept (hb j hj) hg hrow⟩
theorem own_kept {W W' : World} {row : Option Nat} {base s n : Nat} {t : TypeId} {v : Value} {L : List Value} (h : W.ownsRow base t s v n L) (hg : W.grownBy W' row) (hrow : ∀ r, row = some r → ∃ o : Obj, W.heap[r]? = some o ∧ o.isCells = false) : W'.ownsRow base t s v n L := by
  obtain ⟨h1, h⟩ := h
  refine ⟨h1, ?_⟩
  rcases h with h | ⟨g, cap, cur, h1, h2, h3, h4, h5, h6, h7⟩
  · exact .inl h
  · exact .inr ⟨g, cap, cur, h1, h2, row_stays h3 hg hrow, h4, h5, h6, h7⟩
theorem Lg0.stays {W W' : World} {row : Option Nat} {K : DK} {J : LK} {S : LS} (h : Lg0 W K J S) (hg : W.grownBy W' row) (hrow : ∀ r, row = some r → ∃ o : Obj, W.heap[r]? = some o ∧ o.isCells = false) : Lg0 W' K J S where
  row := row_stays h.row hg hrow
  own := own_kept h.own hg hrow
  gv := h.gv
  txt i hi := by
    obtain ⟨A, c, e, hB⟩ := h.txt i hi
    exact ⟨A, c, e, byt_stays hB hg hrow⟩
  tlt q hq := Nat.lt_of_lt_of_le (h.tlt q hq) hg.size
  tap := h.tap
  kap := h.kap
  inb := h.inb
/-- between two rounds of Open's loop. -/
structure OI (w : World) (K : DK) (a b : Nat) (cs : List (List Int)) (L : List Int) (gb cap G : Nat) (pre : List Nat) (W : World) : Prop where
  r1 : W.heap[w.heap.size]? = some (.cells #[.pointer none] 90 (0, 0))
  r2 : W.heap[w.heap.size + 1]? = some (.cells #[.int .i64 0] 33 (0, 0))
  bl : W.heap[G + 1]? = some (.cells #[.pointer (some ⟨G, 0, none⟩)] 90 (0, 0))
  bb : W.heap[G + 1 + 1]? = some (.cells #[.slice (some ⟨gb, 0, none⟩) (b * 128) cap] 38 (0, 0))
  by_ : Byt W (some ⟨gb, 0, none⟩) cap L
  all : ∀ x ∈ pre, x < cs.length
  lg : ∃ J, J.g = G ∧ Lg0 W K J ⟨a, b, useR cs pre, txtR cs pre, false⟩ ∧ (∀ q ∈ J.bl, q = G ∨ G + 3 ≤ q) ∧ (∀ q ∈ J.tx, G + 3 ≤ q)
  low : Below w.heap.size w W
theorem OI.own {w : World} {K : DK} {a b : Nat} {cs : List (List Int)} {L : List Int} {gb cap G B : Nat} (hB : w.heap.size ≤ B) : OwnFrom B (fun pre W => OI w K a b cs L gb cap G pre W) := by
  intro pre X Y row hs hg hr
  have hr' : ∀ r, row = some r → ∃ o : Obj, X.heap[r]? = some o ∧ o.isCells = false := fun r e => (hr r e).2
  obtain ⟨J, e, hJ, h1, h2⟩ := hs.lg
  exact ⟨row_stays hs.r1 hg hr', row_stays hs.r2 hg hr', row_stays hs.bl hg hr', row_stays hs.bb hg hr', byt_stays hs.by_ hg hr', hs.all, ⟨J, e, hJ.stays hg hr', h1, h2⟩, (ownFrom_below (β := Unit) (w₀ := w) (Nat.le_refl _) hB) () X Y row hs.low hg hr⟩
/-- a round has found the fault. -/
structure OX2 (w : World) (cs : List (List Int)) (c : Code) (pre : List Nat) (W : World) : Prop where
  ret : c = .ret
  r1 : W.heap[w.heap.size]? = some (.cells #[.pointer none] 90 (0, 0))
  r2 : W.heap[w.heap.size + 1]? = some (.cells #[.int .i64 9] 33 (0, 0))
  bad : ∃ x ∈ pre, cs.length ≤ x
  low : Below w.heap.size w W
theorem OX2.own {w : World} {cs : List (List Int)} {c : Code} {B : Nat} (hB : w.heap.size ≤ B) : OwnFrom B (fun pre W => OX2 w cs c pre W) := by
  intro pre X Y row hs hg hr
  have hr' : ∀ r, row = some r → ∃ o : Obj, X.heap[r]? = some o ∧ o.isCells = false := fun r e => (hr r e).2
  exact ⟨hs.ret, row_stays hs.r1 hg hr', row_stays hs.r2 hg hr', hs.bad, (ownFrom_below (β := Unit) (w₀ := w) (Nat.le_refl _) hB) () X Y row hs.low hg hr⟩
end Go.Proofs.YtkjhoanlkkcfkaaGreatDoor.Slt
/- DERIVED. The contract of slots.Open where it opens. -/
namespace Go.Proofs.YtkjhoanlkkcfkaaGreatDoor.Slt
open Go.RowKit Dsk
attribute [local go_sem] Oper.semAt_some
/-- what Open returns of bytes that read so: the error, or a log. -/
def OpenR (w : World) (K : DK) (a b : Nat) (cs : List (List Int)) (e : Bool) (v : Ending) (w' : World) : Prop :=
  (e = true ∧ v = .returned (.tuple #[.pointer none, .int .i64 9])) ∨
  (e = false ∧ ∃ J : LK, v = .returned (.tuple #[.pointer (some ⟨J.g, 0, none⟩), .int .i64 0]) ∧ Lg w' K J ⟨a, b, useR cs (List.range cs.length), cs.map textC, false⟩ ∧ (∀ q ∈ J.bl, w.heap.size ≤ q) ∧ (∀ q ∈ J.tx, w.heap.size ≤ q))
def rowN (K : DK) (a b : Int) : Array Value := #[.pointer none, K.ptr, .int .i64 a, .int .i64 b, .int .i64 0, .slice none 0 0, .bool false]
theorem built_log (K : DK) (a b : Int) : Tryz.prog.built 128 [(1, K.ptr), (2, .int .i64 a), (3, .int .i64 b)] = some (rowN K a b) := by kernel_rfl
theorem records_stops (m Bb : Nat) (hm : 2 ≤ m) (g off n cap : Nat) (L R : List Int) (cs : List (List Int)) (e : Bool) (hn : L.length = n) (hmod : n % 128 = 0) (hsm : n ≤ 4194304) (hi : InB L) (hr : Reads L cs R e) (w : World)
    (hb : Boxed w Bb 38 (.slice (some ⟨g, off, none⟩) n cap)) (hB : Byt w (some ⟨g, off, none⟩) cap L) (hgl : g < w.heap.size) :
    SeqStopsK Fence.wide m Tryz.prog 107 #[.pointer (some ⟨Bb, 0, none⟩)] (encR g off cap cs) (KpR Bb g) (fun ys => ys = (if e then List.range (cs.length + 1) else List.range cs.length)) (PreR cs e) (cs.length + 1) w := fun l J Jx W hW hJ _ hY h0 =>
  records1_in m l Bb hm g off n cap L R cs e hn hmod hsm hi hr J Jx (fun pre W1 W2 h hb => hJ pre W1 W2 none h ⟨hb.os, hb.tape, hb.output, hb.size, fun k hk _ => hb.block k hk⟩ (fun r e => by cases e)) hY W ((hW.block _ hb.lt).trans hb) (hB.below hW (Nat.le_refl _)) (Nat.lt_of_lt_of_le hgl hW.size) h0
theorem others_chg {T : List Nat} {W W' : World} (hc : Chg T W W') (hT : ∀ q ∈ T, ∃ C t fr, W.heap[q]? = some (.cells C t fr)) : KeepsOthers W W' :=
  ⟨hc.size, fun k o hk hn => by
    refine (hc.block k (Array.getElem?_eq_some_iff.1 hk).1 (fun hm => ?_)).trans hk
    obtain ⟨C, t, fr, h⟩ := hT k hm
    rw [hk] at h
    cases h
    cases hn⟩
theorem Lg0.cells_of {w : World} {K : DK} {J : LK} {S : LS} (h : Lg0 w K J S) : ∀ q ∈ J.bl, ∃ C t fr, w.heap[q]? = some (.cells C t fr) := by
  intro q hq
  simp only [LK.bl, List.mem_cons, Option.mem_toList] at hq
  rcases hq with rfl | hq
  · exact ⟨_, _, _, h.row⟩
  · rcases h.own.2 with ⟨e, _⟩ | ⟨g, cap, cur, e, _, hh, _⟩
    · rw [e] at hq; cases hq
    · rw [e] at hq; cases hq; exact ⟨_, _, _, hh⟩
theorem text_sl {W : World} {gb cap : Nat} {L R : List Int} {cs : List (List Int)} {e : Bool} (hB : Byt W (some ⟨gb, 0, none⟩) cap L) (hr : Reads L cs R e) {x : Nat} (hx : x < cs.length) : SlB (textC (cs.getD x [])) (.slice (some ⟨gb, 0 + posC cs x + 5, none⟩) (lenB (cs.getD x [])) (cap - posC cs x - 5)) W := by
  have hg := hr.good _ (getD_mem hx)
  have hl := hg.len
  have h4 := (good_at hr hx).2.2.2.2
  rw [posC_next hx] at h4
  have hcap := hB.1
  have htl := textC_len hg
  have hfit := tk_fit (lenB (cs.getD x []))
  have hcl := hg.2.2
  refine ⟨some ⟨gb, 0 + posC cs x + 5, none⟩, cap - posC cs x - 5, by rw [htl], by rw [htl]; omega, (fun h => by cases h), fun h0 => ?_⟩
  obtain ⟨g', o', e', hlt, hb⟩ := hB.2.2 (by omega)
  cases e'
  refine ⟨gb, 0 + posC cs x + 5, rfl, hlt, fun j hj => ?_⟩
  rw [htl] at hj
  have h1 : (textC (cs.getD x [])).getD j 0 = (cs.getD x []).getD (5 + j) 0 := by
    unfold textC
    rw [getD_take' hj, getD_drop']
  have h2 : L.getD (posC cs x + 5 + j) 0 = (cs.getD x []).getD (5 + j) 0 := by
    rw [Nat.add_assoc, ← getD_drop', drop_cons hr hx, getD_append_lt (by omega)]
  rw [h1, ← h2, Nat.zero_add, ← hb (posC cs x + 5 + j) (by omega)]
  rw [Nat.zero_add]
theorem text_in {L R : List Int} {cs : List (List Int)} {e : Bool} (hi : InB L) (hr : Reads L cs R e) {x : Nat} (hx : x < cs.length) : InB (textC (cs.getD x [])) := by
  have hg := hr.good _ (getD_mem hx)
  have h2 : cs.getD x [] = (L.drop (posC cs x)).take (cs.getD x []).length := by rw [drop_cons hr hx, List.take_left]
  unfold textC
  rw [h2]
  exact (((hi.drop _).take _).drop 5).take _
set_option maxRecDepth 100000 in
set_option maxHeartbeats 4000000 in
theorem open_walk {w : World} {K : DK} {D : DS} (hd : Dsk w K D) (a b : Nat) (hab : a + b ≤ D.secs) (hb1 : 1 ≤ b) (ho : D.off = false) {L R : List Int} {cs : List (List Int)} {e : Bool} (hL : L = (D.data.drop (a * 128)).take (b * 128)) (hr : Reads L cs R e) :
    Calls Tryz.prog 45 #[K.ptr, .int .i64 a, .int .i64 b] w fun v w' => OpenR w K a b cs e v w' ∧ Below w.heap.size w w' := by
  have hs := fun (w' : World) (hb : Below w.heap.size w w') => sectors_count (hd.later hb)
  have hrd := fun (w' : World) (hb : Below w.heap.size w w') => read_own (hd.later hb) a b hab ho
  rw [← hL] at hrd
  have h1 : 0 < D.secs := hd.ok.one
  have hmost := hd.ok.most
  have hn : L.length = b * 128 := by have := hd.ok.whole128; rw [hL, List.length_take, List.length_drop]; omega
  have hi : InB L := by rw [hL]; exact (hd.ok.inb.drop _).take _
  have hgK : ∀ q ∈ K.bl, q < w.heap.size := by
    intro q hq; simp [DK.bl] at hq
    rcases hq with rfl | rfl
    · exact hd.glt
    · exact hd.hlt
  obtain ⟨s, hs'⟩ : ∃ s, s = D.secs := ⟨_, rfl⟩
  rw [← hs'] at hs h1 hab hmost
  have Hs := Lib.hid hs
  have Hrd := Lib.hid hrd
  have HgK := Lib.hid hgK
  have Hr := Lib.hid hr
  have Hn := Lib.hid hn
  have Hi := Lib.hid hi
  have hsI : ¬ (s : Int) = 0 := by omega
  have hbI : ¬ (b : Int) < 1 := by omega
  have hbu := built_log K a b
  clear hs hrd hd hs' hL hr hn hi hgK
  unfold DK.ptr rowN at *
  refine (callsIn_wide (n := 8)).1 ?_
  refine callsIn_of_wp_marks Tryz.func45 rfl trivial ?_ rfl
  simp only [Tryz.ntmps45, List.size_toArray, List.length_cons, List.length_nil, Nat.reduceAdd, Nat.reduceSub, Array.replicate_succ, Array.replicate_zero, List.push_toArray, List.append_toArray, List.nil_append, List.cons_append]
  gi_wp2_with (first
    | (refine ⟨trivial, ?_⟩; gi_at_call 14; refine (callsIn_wide.2 (Hs.out _ (((Below.refl w.heap.size w).alloc (Nat.le_refl _) _).alloc (by rw [World.size_alloc]; omega) _))).mono ?_; rintro e w' ⟨rfl, rfl⟩)
    | (refine ⟨trivial, ?_⟩; gi_at_call 77; refine (callsIn_wide.2 (Hrd.out _ (((Below.refl w.heap.size w).alloc (Nat.le_refl _) _).alloc (by rw [World.size_alloc]; omega) _))).mono ?_; rintro e w1 ⟨v1, rfl, hb1, ho1⟩; obtain ⟨gb, sp, rfl, hgb, hrow1⟩ := own_shape ho1 Hn.out (by omega); have Hb1 := Lib.hid hb1; have Hgb := Lib.hid hgb; have Hrow1 := Lib.hid hrow1; clear hb1 ho1 hgb hrow1)
    | (refine ⟨trivial, ?_⟩; gi_at_call 79; refine (callsIn_wide.2 (records_any _ _ _ _)).mono ?_; rintro e w2 ⟨rfl, rfl⟩))
  have hb1' := Hb1.out
  obtain ⟨q1, q2, q3⟩ := two_boxes w none 0
  have t1 := (two_new w (.cells #[.pointer none] 90) (.cells #[.int .i64 0] 33)).1
  have t2 := (two_new w (.cells #[.pointer none] 90) (.cells #[.int .i64 0] 33)).2
  have hsz2 : ((w.alloc (.cells #[.pointer none] 90)).alloc (.cells #[.int .i64 0] 33)).heap.size = w.heap.size + 2 := by rw [World.size_alloc, World.size_alloc]
  have hgb' := Hgb.out
  rw [hsz2] at hb1' hgb'
  have hw1 : w.heap.size + 2 ≤ w1.heap.size := by have := hb1'.size; rw [hsz2] at this; exact this
  have r1 := (hb1'.block w.heap.size (by omega)).trans t1
  have r2 := (hb1'.block (w.heap.size + 1) (by omega)).trans t2
  have low1 : Below w.heap.size w w1 := q3.trans (hb1'.mono (by omega))
  have hgbl : gb < w1.heap.size := (Array.getElem?_eq_some_iff.1 Hrow1.out).1
  obtain ⟨cap, hcap⟩ : ∃ cap, cap = b * 128 + sp.length := ⟨_, rfl⟩
  have hbyt : Byt w1 (some ⟨gb, 0, none⟩) cap L := ⟨by have := Hn.out; omega, (fun h => by cases h), fun _ => ⟨gb, 0, rfl, hgbl, fun j hj => by
    rw [Nat.zero_add, cell_row Hrow1.out, List.getElem?_toArray, List.getElem?_append_left (by rw [vals_length]; exact hj)]
    simp [vals, hj]⟩⟩
  obtain ⟨G, hG⟩ : ∃ G, G = w1.heap.size := ⟨_, rfl⟩
  rw [← hcap, ← hG]
  have hx3 := three_new w1 (.cells #[.pointer (some ⟨G, 0, none⟩), .pointer (some ⟨K.g, 0, none⟩), .int .i64 a, .int .i64 b, .int .i64 0, .slice none 0 0, .bool false] 128) (.cells #[.pointer (some ⟨G, 0, none⟩)] 90) (.cells #[.slice (some ⟨gb, 0, none⟩) (b * 128) cap] 38)
  have hb3 := below3 w1 (.cells #[.pointer (some ⟨G, 0, none⟩), .pointer (some ⟨K.g, 0, none⟩), .int .i64 a, .int .i64 b, .int .i64 0, .slice none 0 0, .bool false] 128) (.cells #[.pointer (some ⟨G, 0, none⟩)] 90) (.cells #[.slice (some ⟨gb, 0, none⟩) (b * 128) cap] 38)
  obtain ⟨W0, hW0⟩ : ∃ W0, W0 = ((w1.alloc (.cells #[.pointer (some ⟨G, 0, none⟩), .pointer (some ⟨K.g, 0, none⟩), .int .i64 a, .int .i64 b, .int .i64 0, .slice none 0 0, .bool false] 128)).alloc (.cells #[.pointer (some ⟨G, 0, none⟩)] 90)).alloc (.cells #[.slice (some ⟨gb, 0, none⟩) (b * 128) cap] 38) := ⟨_, rfl⟩
  have hW0s : W0.heap.size = G + 3 := by rw [hW0, World.size_alloc, World.size_alloc, World.size_alloc, hG]
  rw [← hW0] at hx3 hb3 ⊢
  rw [← hG] at hx3 hb3 hw1 hgbl
  obtain ⟨x1, x2, x3⟩ := hx3
  have hOI : OI w K a b cs L gb cap G [] W0 := by
    refine ⟨(hb3.block _ (by omega)).trans r1, (hb3.block _ (by omega)).trans r2, x2, x3, hbyt.below hb3 (by omega), by simp, ⟨⟨G, .slice none 0 0, []⟩, rfl, ?_, ?_, ?_⟩, low1.trans (hb3.mono (by omega))⟩
    · exact ⟨x1, World.ownsRow_nil _ _ _ _, (fun q h => by cases h), (fun i hi => absurd hi (Nat.not_lt_zero _)), (fun q h => by simp [LK.tx] at h), (fun q h => by simp [LK.tx] at h), (fun q hq hm => by simp [LK.bl, Value.ownBlock] at hq; have := HgK.out q hm; have := low1.size; omega), (fun t ht => by simp [txtR] at ht)⟩
    · intro q hq; simp [LK.bl, Value.ownBlock] at hq; exact .inl hq
    · intro q hq; simp [LK.tx] at hq
  have HOI := Lib.hid hOI
  have HX3 := Lib.hid x3
  have Hlow1 := Lib.hid low1
  clear hOI x1 x2 x3 hb3 low1 hbyt r1 r2 t1 t2 q1 q2 q3 hb1' hW0 Hrow1 Hb1 hcap hgb'
  have HG := Lib.hid hG
  have Hgbl := Lib.hid hgbl
  have Hw1 := Lib.hid hw1
  clear hG hgbl hw1
  have hbx : Boxed W0 (G + 1 + 1) 38 (.slice (some ⟨gb, 0, none⟩) (b * 128) cap) := HX3.out
  refine wpIn_rangeFunc_ownF rfl (by omega) (gf := 107) (lb := #[.pointer (some ⟨G + 1 + 1, 0, none⟩)]) rfl trivial (Go.Proofs.enters_of Tryz.func107 (by kernel_rfl) rfl)
    (records_stops 7 (G + 1 + 1) (by omega) gb 0 (b * 128) cap L R cs e Hn.out (by omega) (by omega) Hi.out Hr.out W0 hbx HOI.out.by_ (by have := Hgbl.out; omega)) (fun h k => KpR.trans h k)
    (fun W l' o o' hl' ho hc hw => ⟨World.putObj_heap_other (by omega), World.putObj_heap_other (by have := Hgbl.out; omega)⟩) (Below.refl _ _) (fun _ => rfl)
    (fun pre W => OI w K a b cs L gb cap G pre W)
    (fun c pre W => OX2 w cs c pre W)
    (OI.own (by have := HOI.out.low.size; exact this))
    (fun c => OX2.own (by have := HOI.out.low.size; exact this))
    HOI.out
    (fun x => { tmps := #[.pointer (some ⟨K.g, 0, none⟩), .int .i64 a, .int .i64 b, undef, undef, undef, .pointer (some ⟨w.heap.size, 0, none⟩), .pointer (some ⟨w.heap.size + 1, 0, none⟩), .slice (some ⟨gb, 0, none⟩) (b * 128) cap, .int .i64 0, .pointer (some ⟨G + 1, 0, none⟩), recV gb 0 cap cs x, .int .i64 (errR cs x), .bool false, .pointer (some ⟨K.g, 0, none⟩), .int .i64 s, .bool false, .bool (decide ((b : Int) < 1)), .int .i64 b, .bool (decide ((b : Int) < 1)), .tuple #[.slice (some ⟨gb, 0, none⟩) (b * 128) cap, .int .i64 0], .pointer (some ⟨K.g, 0, none⟩), .int .i64 a, .int .i64 b, .tuple #[.slice (some ⟨gb, 0, none⟩) (b * 128) cap, .int .i64 0], .slice (some ⟨gb, 0, none⟩) (b * 128) cap, .int .i64 0, .int .i64 0, .bool false, undef, .pointer (some ⟨K.g, 0, none⟩), .int .i64 a, .int .i64 b, .agg #[.pointer none, .pointer (some ⟨K.g, 0, none⟩), .int .i64 a, .int .i64 b, .int .i64 0, .slice none 0 0, .bool false], .pointer (some ⟨G, 0, none⟩), .pointer (some ⟨G, 0, none⟩), .pointer (some ⟨G, 0, none⟩), .pointer (some ⟨G, 0, none⟩), .pointer (some ⟨G, 0, none⟩), .slice (some ⟨gb, 0, none⟩) (b * 128) cap, .func (.func 107) #[] #[.pointer (some ⟨G + 1 + 1, 0, none⟩)], recV gb 0 cap cs x, .int .i64 (errR cs x), undef, undef, undef, undef, undef, undef, undef], defers := [] }) ?assign ?body ?done ?stop
  case assign =>
    intro l x W K' hK
    unfold encR
    gi_wp2
    exact hK
  case body =>
    rintro l pre x W hI hlen
    have hS : OI w K a b cs L gb cap G pre W := hI
    have hcl : cs.length ≤ 16384 := by
      have h1 := good_len Hr.out.good
      have h2 := congrArg List.length Hr.out.eq
      rw [List.length_append, Hn.out] at h2
      omega
    have hW := hS.low.size
    by_cases hx : x < cs.length
    · dsimp only
      rw [recV_yes hx, errR_yes hx]
      obtain ⟨J, hJg, hJ, hJb, hJt⟩ := hS.lg
      have hul := useR_le Hr.out.good pre hS.all
      have hkeep := keep0 hJ (fun q hq => Nat.lt_of_lt_of_le (HgK.out q hq) hW) (text_sl hS.by_ Hr.out hx) (text_in Hi.out Hr.out hx) (by rw [textC_len (Hr.out.good _ (getD_mem hx))]; exact (Hr.out.good _ (getD_mem hx)).2.1) (by simp only [txtR, List.length_map]; omega) (by show useR cs pre ≤ _; omega)
      unfold LK.ptr at hkeep
      rw [hJg] at hkeep
      have Hkeep := Lib.hid hkeep
      have hbl := cell_row hS.bl 0
      rw [show (#[Value.pointer (some ⟨G, 0, none⟩)] : Array Value)[0]? = some (.pointer (some ⟨G, 0, none⟩)) by rfl] at hbl
      obtain ⟨ox, hox⟩ : ∃ ox, ox = 0 + posC cs x + 5 := ⟨_, rfl⟩
      obtain ⟨lx, hlx⟩ : ∃ lx, lx = lenB (cs.getD x []) := ⟨_, rfl⟩
      obtain ⟨cx, hcx⟩ : ∃ cx, cx = cap - posC cs x - 5 := ⟨_, rfl⟩
      rw [← hox, ← hlx, ← hcx] at hkeep Hkeep ⊢
      have Hlx := Lib.hid hlx
      have HS := Lib.hid hS
      have HJ := Lib.hid hJ
      have HJb := Lib.hid hJb
      have HJt := Lib.hid hJt
      have hlI : (lx : Int) ≤ 262144 := by have := (Hr.out.good _ (getD_mem hx)).2.1; omega
      clear hI hS hJ hJb hJt hkeep hul hox hlx hcx
      gi_wp2_with (refine ⟨trivial, ?_⟩; gi_at_call 80; refine (CallsIn.inRound l (callsIn_wide.2 Hkeep.out)).mono ?_; rintro e2 W3 ⟨rfl, J', hq⟩; have Hq := Lib.hid hq; clear hq)
      have hS := HS.out
      have q := Hq.out
      have hnb : ∀ k, k < G → k ∉ J.bl := fun k hk hm => by rcases HJb.out k hm with h | h <;> omega
      have hn1 : G + 1 ∉ J.bl := fun hm => by rcases HJb.out _ hm with h | h <;> omega
      have hn2 : G + 1 + 1 ∉ J.bl := fun hm => by rcases HJb.out _ hm with h | h <;> omega
      have hbb := (Array.getElem?_eq_some_iff.1 hS.bb).1
      have hw1 := Hw1.out
      have hgbl := Hgbl.out
      have htl : (textC (cs.getD x [])).length = lenB (cs.getD x []) := textC_len (Hr.out.good _ (getD_mem hx))
      refine ⟨others_chg q.chg HJ.out.cells_of, ⟨q.chg.block _ hbb hn2, q.chg.block _ (by omega) (hnb _ hgbl)⟩, q.chg.at hS.r1 (hnb _ (by omega)), q.chg.at hS.r2 (hnb _ (by omega)), q.chg.at hS.bl hn1, q.chg.at hS.bb hn2, byt_chg hS.by_ q.chg (fun _ a ha => by cases ha; exact hnb _ hgbl), ?_, ⟨J', q.g.trans hJg, ?_, ?_, ?_⟩, ?_⟩
      · intro y hy
        rcases List.mem_append.1 hy with hy | hy
        · exact hS.all y hy
        · simp at hy; subst hy; exact hx
      · rw [useR_next, txtR_next]
        have h0 := q.lg0
        rw [htl] at h0
        exact h0
      · intro k hk
        rcases q.bl k hk with h | h
        · exact HJb.out k h
        · right; omega
      · intro k hk
        rcases q.tx k hk with h | h
        · exact HJt.out k h
        · omega
      · exact q.chg.below hS.low (by omega) (fun k hk => by rcases HJb.out k hk with h | h <;> omega)
    · dsimp only
      rw [recV_no hx, errR_no hx]
      have c1 := cell_row hS.r1 0
      have c2 := cell_row hS.r2 0
      have f1 := free_row hS.r1 0
      have f2 := free_row hS.r2 0
      have HS := Lib.hid hS
      clear hI hS
      gi_wp2
      have hS := HS.out
      have hlt := hS.low.size
      have hr1 := (Array.getElem?_eq_some_iff.1 hS.r1).1
      refine ⟨(KeepsOthers.setCell _ _ _).trans (KeepsOthers.setCell _ _ _), rfl, ?_, ?_, ⟨x, by simp, by omega⟩, (hS.low.setCell (Nat.le_refl _) _).setCell (by simp) _⟩
      · rw [heap_setCell_other _ _ _ _ (by simp), heap_setCell_same _ _ _ _ _ _ hS.r1]
        rfl
      · have h2 : (W.setCell ⟨w.heap.size, 0, none⟩ (.pointer none)).heap[w.heap.size + 1]? = some (.cells #[.int .i64 0] 33 (0, 0)) := by
          rw [heap_setCell_other _ _ _ _ (by simp)]; exact hS.r2
        rw [heap_setCell_same _ _ _ _ _ _ h2]
        rfl
  case done =>
    rintro D' ys W hD hys hI hK
    have hS : OI w K a b cs L gb cap G ys W := hI
    cases e with
    | true =>
      have := hS.all cs.length (by rw [hys]; simp)
      omega
    | false =>
      have hys' : ys = List.range cs.length := by simpa using hys
      subst hys'
      have c1 := cell_row hS.r1 0
      have c2 := cell_row hS.r2 0
      have c3 := cell_row hS.bl 0
      have f1 := free_row hS.r1 0
      have f2 := free_row hS.r2 0
      have HS := Lib.hid hS
      have HK := Lib.hid hK
      have HD := Lib.hid hD
      clear hI hS hys hK hD
      gi_wp2
      have hKa := (KeepsOthers.setCell W ⟨w.heap.size, 0, none⟩ (.pointer (some ⟨G, 0, none⟩))).same D' _ HK.out rfl
      have hKb := (KeepsOthers.setCell (W.setCell ⟨w.heap.size, 0, none⟩ (.pointer (some ⟨G, 0, none⟩))) ⟨w.heap.size + 1, 0, none⟩ (.int .i64 0)).same D' _ hKa rfl
      refine ⟨by simp, .inl ⟨_, _, rfl, run_takeDeferred hKb, ?_⟩⟩
      have hS := HS.out
      have hlt := hS.low.size
      have hw1 := Hw1.out
      have hD0 := HD.out
      obtain ⟨J, hJg, hJ, hJb, hJt⟩ := hS.lg
      have g1 : (W.setCell ⟨w.heap.size, 0, none⟩ (.pointer (some ⟨G, 0, none⟩))).heap[w.heap.size]? = some (.cells #[.pointer (some ⟨G, 0, none⟩)] 90 (0, 0)) := by
        rw [heap_setCell_same _ _ _ _ _ _ hS.r1]; rfl
      have g2 : (W.setCell ⟨w.heap.size, 0, none⟩ (.pointer (some ⟨G, 0, none⟩))).heap[w.heap.size + 1]? = some (.cells #[.int .i64 0] 33 (0, 0)) := by
        rw [heap_setCell_other _ _ _ _ (by simp)]; exact hS.r2
      have g3 : ((W.setCell ⟨w.heap.size, 0, none⟩ (.pointer (some ⟨G, 0, none⟩))).setCell ⟨w.heap.size + 1, 0, none⟩ (.int .i64 0)).heap[w.heap.size]? = some (.cells #[.pointer (some ⟨G, 0, none⟩)] 90 (0, 0)) := by
        rw [heap_setCell_other _ _ _ _ (by simp)]; exact g1
      have g4 : ((W.setCell ⟨w.heap.size, 0, none⟩ (.pointer (some ⟨G, 0, none⟩))).setCell ⟨w.heap.size + 1, 0, none⟩ (.int .i64 0)).heap[w.heap.size + 1]? = some (.cells #[.int .i64 0] 33 (0, 0)) := by
        rw [heap_setCell_same _ _ _ _ _ _ g2]; rfl
      have hch : Chg [w.heap.size, w.heap.size + 1] W ((W.setCell ⟨w.heap.size, 0, none⟩ (.pointer (some ⟨G, 0, none⟩))).setCell ⟨w.heap.size + 1, 0, none⟩ (.int .i64 0)) := ((Chg.refl _ W).setCell (by simp) _).setCell (by simp) _
      have hJ5 := hJ.chg hch (fun q hq hm => by simp at hm; rcases hJb q hq with h | h <;> omega) (fun q hq hm => by simp at hm; have := hJt q hq; omega)
      have hlow5 := (hS.low.setCell (p := ⟨w.heap.size, 0, none⟩) (Nat.le_refl _) (.pointer (some ⟨G, 0, none⟩))).setCell (p := ⟨w.heap.size + 1, 0, none⟩) (by simp) (.int .i64 0)
      obtain ⟨W5, hW5⟩ : ∃ W5, W5 = (W.setCell ⟨w.heap.size, 0, none⟩ (.pointer (some ⟨G, 0, none⟩))).setCell ⟨w.heap.size + 1, 0, none⟩ (.int .i64 0) := ⟨_, rfl⟩
      rw [← hW5] at g3 g4 hJ5 hlow5 hKb ⊢
      have hgr := grownBy_putObj' W5 D' (.deferred none)
      have hrw : ∀ r, some D' = some r → ∃ o : Obj, W5.heap[r]? = some o ∧ o.isCells = false := fun r e => by cases e; exact ⟨_, hKb, rfl⟩
      have hJ6 := hJ5.stays hgr hrw
      rw [txtR_all] at hJ6
      have hur := useR_range Hr.out.good cs.length (Nat.le_refl _)
      have hpl := posC_le Hr.out cs.length
      rw [Hn.out] at hpl
      have hge := useR_ge cs (List.range cs.length)
      rw [List.length_range] at hge
      refine ⟨_, open_results rfl rfl rfl (cell_kept (cell_row g3 0) hgr hrw) (cell_kept (cell_row g4 0) hgr hrw), .inr ⟨rfl, J, by rw [hJg], ⟨hJ6, by show useR cs _ ≤ b; omega, by show a + b ≤ 16384; omega, by simp only [List.length_map]; exact hge⟩, ?_, ?_⟩, hlow5.trans (belowK_b (w := w) (Nat.le_refl _) W5 D' _ _ (by omega) hKb rfl rfl)⟩
      · intro q hq
        rcases hJb q hq with h | h <;> omega
      · intro q hq
        have := hJt q hq
        omega
  case stop =>
    rintro D' c pre W hD hpre hI hK
    have hS : OX2 w cs c pre W := hI
    obtain ⟨rfl, r1, r2, ⟨x, hx, hxl⟩, hlow⟩ := hS
    have he : e = true := by
      rcases (hpre : PreR cs e pre) x hx with h | h
      · omega
      · exact h
    subst he
    have HK := Lib.hid hK
    have HD := Lib.hid hD
    clear hI hK hD hpre
    gi_wp2
    refine ⟨by simp, .inl ⟨_, _, rfl, run_takeDeferred HK.out, ?_⟩⟩
    have hgr := grownBy_putObj' W D' (.deferred none)
    have hrw : ∀ r, some D' = some r → ∃ o : Obj, W.heap[r]? = some o ∧ o.isCells = false := fun r e => by cases e; exact ⟨_, HK.out, rfl⟩
    have hlt := HOI.out.low.size
    have hD0 := HD.out
    exact ⟨_, open_results rfl rfl rfl (cell_kept (cell_row r1 0) hgr hrw) (cell_kept (cell_row r2 0) hgr hrw), .inl ⟨rfl, rfl⟩, hlow.trans (belowK_b (w := w) (Nat.le_refl _) W D' _ _ (by omega) HK.out rfl rfl)⟩
end Go.Proofs.YtkjhoanlkkcfkaaGreatDoor.Slt
