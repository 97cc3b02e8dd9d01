/- DERIVED. The walk of the law CodecBack. -/
import Derived.Test.YtigfcmnknijobaaCodEncs
import Derived.Test.YtigfcmnknijobaaCodAppV
import Derived.Test.YtigfcmnknijobaaCodWorks
import Derived.Great.CaseRows
namespace Go.Proofs.Ytigfcmnknijobaa.Cod
open Go.RowKit Str
theorem Val.one (x : Val) : x.cells.all (·.oneCell') = true := by
  rw [Array.all_eq_true_iff_forall_mem]
  intro v hv
  simp only [Val.cells, List.mem_toArray, List.mem_cons, List.mem_append, List.mem_map, List.mem_nil_iff, or_false] at hv
  rcases hv with rfl | rfl | rfl | ⟨_, _, rfl⟩ | rfl | rfl | rfl | rfl <;> rfl
theorem Val.cellsOf (x : Val) : (Value.agg x.cells).cells = x.cells := rfl
theorem chg_all {xs : List Val} (h : ∀ x ∈ xs, x.Ok) : ∀ x ∈ xs.map chgV, x.Ok := by
  intro y hy
  obtain ⟨x, hx, rfl⟩ := List.mem_map.1 hy
  exact (chgV_ok (h x hx)).1
theorem chg_few {xs : List Val} (hok : ∀ x ∈ xs, x.Ok) (h : FewOk xs) : FewOk (xs.map chgV) := by
  refine ⟨by rw [List.length_map]; exact h.1, fun i y hy => ?_⟩
  rw [List.getElem?_map] at hy
  obtain ⟨x, hx, rfl⟩ := Option.map_eq_some_iff.1 hy
  rw [(chgV_ok (hok x (List.mem_of_getElem? hx))).2.2.2]
  exact h.2 i x hx
/-- the bytes of the Values from the k-th on. -/
def encR (xs : List Val) (k : Nat) : List Int := ((xs.drop k).map encV).flatten
theorem encR_zero (xs : List Val) : encVs [] xs xs.length = encR xs 0 := by simp [encVs, encR]
theorem encR_step {xs : List Val} {k : Nat} {x : Val} (h : xs[k]? = some x) : encR xs k = encV x ++ encR xs (k + 1) := by
  unfold encR
  obtain ⟨hk, rfl⟩ := List.getElem?_eq_some_iff.1 h
  rw [List.drop_eq_getElem_cons hk]
  rfl
theorem encR_end (xs : List Val) : encR xs xs.length = [] := by simp [encR]
theorem encR_in {xs : List Val} (hok : ∀ x ∈ xs, x.Ok) (hf : FewOk xs) (k : Nat) : InB (encR xs k) ∧ (encR xs k).length ≤ 6400 := by
  have h : ∀ ys : List Val, (∀ y ∈ ys, y.Ok ∧ y.s.size ≤ 300) → InB ((ys.map encV).flatten) ∧ ((ys.map encV).flatten).length ≤ 320 * ys.length := by
    intro ys
    induction ys with
    | nil => intro _; exact ⟨(fun j => by simp), Nat.le_refl _⟩
    | cons y ys ih =>
      intro h
      have h1 := encV_in (h y (List.mem_cons_self ..)).1 (h y (List.mem_cons_self ..)).2
      have h2 := ih fun z hz => h z (List.mem_cons_of_mem _ hz)
      simp only [List.map_cons, List.flatten_cons, List.length_append, List.length_cons]
      exact ⟨h1.1.append h2.1, by omega⟩
  have h2 := h (xs.drop k) fun y hy => ⟨hok y (List.mem_of_mem_drop hy), by
    obtain ⟨i, hi⟩ := List.mem_iff_getElem?.1 (List.mem_of_mem_drop hy)
    exact hf.2 i y hi⟩
  refine ⟨h2.1, ?_⟩
  have := h2.2
  have := hf.1
  have e : (xs.drop k).length = xs.length - k := List.length_drop
  unfold encR
  omega
theorem OwnV.keep {base D : Nat} {xs : List Val} {v : Value} {w w' : World} (h : OwnV base xs v w) (hb : Below D w w') (hf : ∀ q, v.ownBlock = some q → q < D) : OwnV base xs v w' := by
  refine ⟨h.1, ?_⟩
  rcases h.2 with h2 | ⟨g, cap, cur, hv, h1, h2, h3⟩
  · exact .inl h2
  · exact .inr ⟨g, cap, cur, hv, h1, (hb.block g (hf g (by rw [hv]; rfl))).trans h2, h3⟩
theorem NewB.kept {B : Nat} {M : List Int} {v : Value} {w w' : World} (h : NewB B M v w) {row : Option Nat} (hg : w.grownBy w' row) (hr : ∀ q, row = some q → q < B) : NewB B M v w' := by
  refine World.ownsRow.kept h hg ?_
  cases e : v.ownBlock with
  | none => exact .inl rfl
  | some q => exact .inr fun e2 => by have h1 := (World.ownsRow.lt h q e).1; have h2 := hr q e2.symm; omega
/-- what the first loop holds to. -/
structure BI (xs : List Val) (W : World) (k : Nat) (s5 s6 : Value) (wr : World) (D : Nat) : Prop where
  own : OwnV W.heap.size ((xs.take k).map chgV) s5 wr
  nb : NewB D (encVs [] (xs.map chgV) k) s6 wr
  lo : W.heap.size ≤ D
  hi : D ≤ wr.heap.size
  far : ∀ q, s5.ownBlock = some q → q < D
  low : Below W.heap.size W wr
set_option maxRecDepth 100000 in
set_option maxHeartbeats 8000000 in
theorem back_walk (A A1 : Option Addr) (n c n1 c1 : Nat) (L : List Int) (xs : List Val) (hn : L.length = n) (hn1 : xs.length = n1) (hb : InB L) (hok : ∀ x ∈ xs, x.Ok) (hm : n ≤ maxLen) (hm1 : n1 ≤ maxLen) (w : World) (hB : Byt w A c L) (hX : Vals w A1 c1 xs) :
    Calls Try.prog 4 #[.slice A1 n1 c1, .slice A n c] w fun e w' => e = .returned (.bool true) ∧ Below w.heap.size w w' := by
  have HF := Lib.hid (few_any hX (by omega) hok)
  rw [hn1] at HF
  unfold maxLen at hm hm1
  obtain ⟨m, hmm⟩ : ∃ m, m = min n 50 := ⟨_, rfl⟩
  obtain ⟨B, hBB⟩ : ∃ B, B = L.take m := ⟨_, rfl⟩
  have hBl : B.length = m := by rw [hBB, List.length_take]; omega
  have hSB : Byt w A c B := by rw [hBB]; exact byt_take hB m
  have HBi : Hid (InB B) := by show InB B; rw [hBB]; exact hb.take m
  have hcap := hB.1
  have HSB := Lib.hid hSB
  have HBl := Lib.hid hBl
  have Hmm := Lib.hid hmm
  have Hok := Lib.hid hok
  have HX := Lib.hid hX
  have Hn1 := Lib.hid hn1
  have hm4 : m ≤ 50 := by omega
  have hmn : m ≤ n := by omega
  rw [hn] at hcap
  clear hmm hBB hBl hSB hB hb hok hX hn hn1
  go_enter Try.func4, Try.ntmps4
  go_upto_region 1 with (fail)
  go_cut [13] (fun s10 wx => ∃ r, s10 = .bool r ∧ Hid (r = false → FewOk xs) ∧ Hid (Below w.heap.size w wx))
  case first =>
    go_wp2_with (go_at_call 10; refine HF.out.mono ?_; rintro e w1 ⟨r, rfl, hr, low1⟩; have Low1 := Lib.hid low1; have Hr := Lib.hid hr; clear low1 hr)
    go_meet
    exact ⟨_, rfl, fun h => Hr.out (by simpa using h), Low1.out⟩
  case rest =>
    obtain ⟨r, rfl, hr, low1⟩ := hcut
    clear HF
    cases r with
    | true =>
      go_wp2_with (go_at_call 9; refine (works_any _).mono ?_; rintro e w3 ⟨rfl, low3⟩; have Low3 := Lib.hid low3; clear low3)
      go_ret
      exact ⟨rfl, low1.out.trans (Low3.out.mono low1.out.size)⟩
    | false =>
      have HFew := Lib.hid (hr.out rfl)
      clear hr
      rename World => w1
      have HB0 : Hid (BI xs w 0 (.slice none 0 0) (.slice none 0 0) w1 w1.heap.size) := ⟨by show World.ownsRow _ _ _ _ _ _ _; simpa [flatV] using World.ownsRow_nil w1 w.heap.size 36 39, by rw [encVs_zero]; exact World.ownsRow_nil w1 w1.heap.size 5 1, low1.out.size, Nat.le_refl _, (fun q hq => by cases hq), low1.out⟩
      have hl20 : n1 ≤ 20 := by have := HFew.out.1; have := Hn1.out; omega
      go_wp2
      go_loopw [5, 6, 7] (fun s5 s6 i wr => ∃ k : Nat, k ≤ n1 ∧ i = .int .i64 (k : Nat) ∧ Hid (∃ D, BI xs w k s5 s6 wr D)) (fun _ _ i _ => n1 - (intOf i).toNat)
      case atStart => exact ⟨0, by omega, rfl, _, HB0⟩
      case round =>
        obtain ⟨k, hk, rfl, hI0⟩ := hrel
        obtain ⟨D, hI1⟩ := hI0.out
        have hI := Lib.hid hI1
        clear HB0 hI0 hI1
        by_cases hlt : k < n1
        · have hlt' : (k : Int) < n1 := by omega
          obtain ⟨x, hx⟩ : ∃ x, xs[k]? = some x := ⟨_, List.getElem?_eq_getElem (by have := Hn1.out; omega)⟩
          obtain ⟨b, off, rfl, hb, hcell⟩ := HX.out.2.2 (by have := Hn1.out; omega)
          have hcap1 : n1 ≤ c1 := by have := HX.out.1; have := Hn1.out; omega
          have hr : wr.rangeAt b (off + k * 39) x.cells.toList := fun j v hv => (hI.out.low.cell (p := ⟨b, off + k * 39 + j, none⟩) hb).trans (hcell k x hx j v hv)
          have ox := Hok.out x (List.mem_of_getElem? hx)
          have Hr := Lib.hid hr
          have Hx := Lib.hid hx
          have Ox := Lib.hid ox
          have HIV : Hid ((Try.prog.info? 36).map (·.size) = some x.cells.toList.length) := by show _ = _; rw [Array.length_toList, x.size ox.hl]; exact infoVal
          have HIC : Hid ((Try.prog.info? 36).map (·.size) = some x.cells.size) := by show _ = _; rw [x.size ox.hl]; exact infoVal
          clear hcell hr hx hb ox
          go_upto_region 9 with (first
            | (with_reducible refine wpList_load_mid rfl 36 (.tmp 23) rfl b (off + k * 39) rfl x.cells.toList _ Hr.out Try.underlying36 rfl HIV.out ?_)
            | (refine wpList_store_row rfl 36 (.tmp 8) (.tmp 24) rfl wr.heap.size x.cells rfl rfl 36 _ (Go.heap_alloc_new wr _) HIC.out (by rw [x.size Ox.out.hl]; rfl) x.one ?_; rw [World.setRow_alloc_new]))
          obtain ⟨w4, hw4⟩ : ∃ w4, w4 = wr.alloc (.cells x.cells 36) := ⟨_, rfl⟩
          have h4 : w4.heap[wr.heap.size]? = some (.cells x.cells 36 (0, 0)) := by rw [hw4]; exact Go.heap_alloc_new wr _
          have l4 : Below wr.heap.size wr w4 := by rw [hw4]; exact (Below.refl _ _).alloc (Nat.le_refl _) _
          rw [← hw4]
          clear hw4
          have c35 : w4.cell? ⟨wr.heap.size, 35, none⟩ = some (.int .i64 x.lv) := (cell_row h4 35).trans (x.ct Ox.out.hl 0)
          have f35 := free_row h4 35
          have H4 := Lib.hid h4
          have L4 := Lib.hid l4
          clear h4 l4
          obtain ⟨a, ha⟩ : ∃ a, bits .and .i64 x.lv 15 = a := ⟨_, rfl⟩
          go_upto_region 10 with (fail)
          rw [i64_and15] at ha
          obtain ⟨w5, hw5⟩ : ∃ w5, w5 = w4.setCell ⟨wr.heap.size, 35, none⟩ (.int .i64 a) := ⟨_, rfl⟩
          have h5 : w5.heap[wr.heap.size]? = some (.cells (x.setLv a).cells 36 (0, 0)) := by rw [hw5, heap_setCell_same _ _ _ _ _ _ H4.out, x.set35 Ox.out.hl]
          have l5 : Below wr.heap.size wr w5 := by rw [hw5]; exact L4.out.setCell (Nat.le_refl _) _
          rw [← hw5]
          clear hw5 H4 L4 c35 f35
          have c37 : w5.cell? ⟨wr.heap.size, 37, none⟩ = some (.int .i64 x.n) := (cell_row h5 37).trans ((x.setLv a).ct Ox.out.hl 2)
          have f37 := free_row h5 37
          have H5 := Lib.hid h5
          have L5 := Lib.hid l5
          have Ha := Lib.hid ha
          clear h5 l5 ha
          obtain ⟨q, hq⟩ : ∃ q, bits .and .i64 x.n 4294967295 = q := ⟨_, rfl⟩
          have hq2 := i64_and32 x.n
          rw [hq] at hq2
          have hq0 : 0 ≤ q := by omega
          have hq1 : q < 4294967296 := by omega
          have Hq := Lib.hid hq2
          have hwr : IntKind.i64.wrap (q - 2) = q - 2 := by rw [IntKind.wrap_i64]; omega
          clear hq2
          go_upto_region 11 with (fail)
          obtain ⟨w6, hw6⟩ : ∃ w6, w6 = w5.setCell ⟨wr.heap.size, 37, none⟩ (.int .i64 (q - 2)) := ⟨_, rfl⟩
          have h6 : w6.heap[wr.heap.size]? = some (.cells (chgV x).cells 36 (0, 0)) := by
            rw [hw6, heap_setCell_same _ _ _ _ _ _ H5.out, Val.set37 (x.setLv a) Ox.out.hl, ← Ha.out, Hq.out]
            rfl
          have l6 : Below wr.heap.size wr w6 := by rw [hw6]; exact L5.out.setCell (Nat.le_refl _) _
          rw [← hw6]
          clear hw6 H5 L5 c37 f37 Ha Hq hq hq0 hq1 hwr
          have ocx := chgV_ok Ox.out
          have Ocx := Lib.hid ocx
          have hsz6 := ocx.1.hl
          have Hcr : Hid (w6.rangeAt wr.heap.size 0 (chgV x).cells.toList) := fun j v hv => by rw [Nat.zero_add, cell_row h6]; simpa using hv
          have HIV6 : Hid ((Try.prog.info? 36).map (·.size) = some (chgV x).cells.toList.length) := by show _ = _; rw [Array.length_toList, (chgV x).size hsz6]; exact infoVal
          have hs6 : wr.heap.size < w6.heap.size := (Array.getElem?_eq_some_iff.1 h6).1
          refine wp_region_lit ?_
          refine wpList_plain rfl (fun K hK => ?_)
          go_simp
          refine hK _ _ ?_
          clear hK
          clear K
          refine wpList_load_mid rfl 36 (.tmp 8) rfl wr.heap.size 0 rfl (chgV x).cells.toList _ Hcr.out Try.underlying36 rfl HIV6.out ?_
          rw [Array.toArray_toList]
          have hv1 : ∀ v ∈ [Value.agg (chgV x).cells], v.cells.size = 39 := fun v hv => by obtain rfl := List.mem_singleton.1 hv; exact (chgV x).size hsz6
          refine Great.wpList_buildRows (by rfl) 23 36 #[(0, .tmp 37)] 39 [.agg (chgV x).cells] (by rfl) (fun _ => 37) w6.heap.size (by rfl) (some 38) (by rfl) Try.underlying23 infoVal (by kernel_rfl) (by decide) (Nat.zero_lt_one) (by show 1 * 39 ≤ 2 ^ 24; decide) (by rfl) hv1 (fun i h => by
            obtain rfl : i = 0 := by simpa using h
            rfl) ?_
          obtain ⟨w7, hw7⟩ : ∃ w7, w7 = w6.alloc (.cells (chgV x).cells 36) := ⟨_, rfl⟩
          have e7 : w6.alloc (.cells (([.agg (chgV x).cells] : List Value).flatMap fun v => v.cells.toList).toArray 36) = w7 := by rw [hw7]; simp [Val.cellsOf]
          rw [e7]
          have h7 : w7.heap[w6.heap.size]? = some (.cells (chgV x).cells 36 (0, 0)) := by rw [hw7]; exact Go.heap_alloc_new w6 _
          have l7 : Below wr.heap.size wr w7 := l6.trans (by rw [hw7]; exact (Below.refl _ _).alloc (Nat.le_of_lt hs6) _)
          have h67 : w7.heap[wr.heap.size]? = some (.cells (chgV x).cells 36 (0, 0)) := by rw [hw7, Below.heap_alloc _ _ _ hs6]; exact h6
          clear e7 hw7
          have own7 : OwnV w.heap.size ((xs.take k).map chgV) u5 w7 := hI.out.own.keep l7 (fun q hq => Nat.lt_of_lt_of_le (hI.out.far q hq) hI.out.hi)
          have nb7 : NewB D (encVs [] (xs.map chgV) k) u6 w7 := hI.out.nb.later l7
          refine wpList_append_val rfl (.tmp 36) (.tmp 38) rfl w.heap.size u5 ((xs.take k).map chgV) (chgV x) hsz6 rfl own7 w6.heap.size rfl h7 (by rw [List.length_map, List.length_take]; have := Hn1.out; omega) (Nat.le_trans hI.out.low.size l7.size) ?_
          intro v8 w8 own8 gr8
          refine wpList_plain rfl (fun K hK => ?_)
          go_simp
          refine hK _ _ ?_
          clear hK
          clear K
          refine wpList_nil ?_
          go_simp
          have far7 : ∀ q, u5.ownBlock = some q → q < wr.heap.size := fun q hq => Nat.lt_of_lt_of_le (hI.out.far q hq) hI.out.hi
          have h8 : w8.heap[wr.heap.size]? = some (.cells (chgV x).cells 36 (0, 0)) := (gr8.block wr.heap.size (Nat.lt_of_lt_of_le (by omega : wr.heap.size < w6.heap.size) (by have := (Array.getElem?_eq_some_iff.1 h7).1; omega)) (fun e => by have := far7 _ e.symm; omega)).trans h67
          have nb8 : NewB D (encVs [] (xs.map chgV) k) u6 w8 := nb7.kept gr8 hI.out.far
          have low8 : Below w.heap.size w w8 := (hI.out.low.trans (l7.mono hI.out.low.size)).grown gr8 (Nat.le_trans hI.out.low.size l7.size) (fun q hq => (World.ownsRow.lt hI.out.own q hq).1)
          rw [← List.map_singleton, ← List.map_append] at own8
          have hx8 : xs.take k ++ [x] = xs.take (k + 1) := by rw [List.take_add_one, Hx.out]; rfl
          rw [hx8] at own8
          have Hcr8 : Hid (w8.rangeAt wr.heap.size 0 (chgV x).cells.toList) := fun j v hv => by rw [Nat.zero_add, cell_row h8]; simpa using hv
          have hlen := encVs_le (L := []) (chg_all Hok.out) (chg_few Hok.out HFew.out) k
          have HWr := Lib.hid (written_any (L := encVs [] (xs.map chgV) k) (M := []) (base := w8.heap.size) (chgV x) ocx.1 (by rw [ocx.2.2.2]; exact HFew.out.2 k x Hx.out) w8 nb8.sl (vb := u6) (vc := .slice none 0 0) (World.ownsRow_nil w8 w8.heap.size 5 1) (fun q _ e => by cases e) (Nat.le_refl _) (by simp at hlen; omega) (by decide))
          have Own8 := Lib.hid own8
          have Low8 := Lib.hid low8
          clear own8 low8 nb8 h8 far7 gr8 hx8 hlen nb7 own7 h67 l7 h7 hs6 hsz6 ocx Hcr h6 l6
          go_wp2_with (first
            | (go_at_call 11; refine HWr.out.mono ?_; rintro e w9 ⟨v1, v2, rfl, own1, own2, ap, gr9⟩; have HI2 : Hid (∃ D, BI xs w (k + 1) v8 v1 w9 D) := ⟨w8.heap.size, ⟨Own8.out.keep ((Below.refl _ _).grown gr9 (Nat.le_refl _) (fun q e => by cases e)) (fun q e => (World.ownsRow.lt Own8.out q e).2), by rw [encVs_succ (by rw [List.getElem?_map, Hx.out]; rfl)]; exact own1, Low8.out.size, gr9.size, (fun q e => (World.ownsRow.lt Own8.out q e).2), Low8.out.grown gr9 Low8.out.size (fun q e => by cases e)⟩⟩; clear own1 own2 ap gr9)
            | (with_reducible refine wpList_load_mid rfl 36 (.tmp 8) rfl wr.heap.size 0 rfl (chgV x).cells.toList _ Hcr8.out Try.underlying36 rfl HIV6.out ?_))
          go_roundw
          case rel => exact ⟨k + 1, by omega, by go_num, HI2⟩
          case measure => simp [intOf]; omega
        · have hlt' : ¬ (k : Int) < n1 := by omega
          obtain rfl : k = n1 := by omega
          obtain ⟨ys, hys⟩ : ∃ ys, ys = xs.map chgV := ⟨_, rfl⟩
          have hyl : ys.length = k := by rw [hys, List.length_map]; exact Hn1.out
          have HYok : Hid (∀ y ∈ ys, y.Ok ∧ (0 ≤ y.lv ∧ y.lv < 16) ∧ (-2 ≤ y.n ∧ y.n ≤ 4294967294)) := by
            intro y hy
            rw [hys] at hy
            obtain ⟨x, hx, rfl⟩ := List.mem_map.1 hy
            have h := chgV_ok (Hok.out x hx)
            exact ⟨h.1, h.2.1, h.2.2.1⟩
          have HYf : Hid (FewOk ys) := by show FewOk ys; rw [hys]; exact chg_few Hok.out HFew.out
          have HYin : Hid (∀ j, InB (encR ys j) ∧ (encR ys j).length ≤ 6400) := fun j => encR_in (fun y hy => (HYok.out y hy).1) HYf.out j
          have own0 : OwnV w.heap.size ys u5 wr := by rw [hys]; have h := hI.out.own; rwa [List.take_of_length_le (by have := Hn1.out; omega)] at h
          have nb0 : NewB D (encR ys 0) u6 wr := by have h := hI.out.nb; rw [← hys, ← hyl, encR_zero] at h; exact h
          have Own0 := Lib.hid own0
          have Nb0 := Lib.hid nb0
          have Hys := Lib.hid hys
          have Hyl := Lib.hid hyl
          clear own0 nb0 hys hyl
          go_upto_region 13 with (fail)
          go_cut [1] (fun s1 wx => s1 = .slice A m c ∧ wx = wr)
          case first =>
            by_cases h4 : n ≤ 50
            · obtain rfl : m = n := by have := Hmm.out; omega
              have h4' : (m : Int) ≤ 50 := by omega
              clear Hmm
              go_wp2
              go_meet
              exact ⟨by rw [show (min (m : Int) 50).toNat = m by omega], rfl⟩
            · obtain rfl : m = 50 := by have := Hmm.out; omega
              have h4' : ¬ (n : Int) ≤ 50 := by omega
              have h5' : ¬ (n : Int) < 50 := by omega
              have hcI : (50 : Int) ≤ (c : Int) := by omega
              clear Hmm
              go_wp2
              go_meet
              exact ⟨by rw [show (min (n : Int) 50).toNat = 50 by omega], rfl⟩
          case rest =>
            obtain ⟨rfl, hww⟩ := hcut
            subst hww
            rename World => wr
            have hDs := hI.out.hi
            have hlen0 := (HYin.out 0).2
            have Far := Lib.hid hI.out.far
            have HLow := Lib.hid hI.out.low
            have HLo := Lib.hid hI.out.lo
            obtain ⟨A5, c5, h5, hv5⟩ := Own0.out.vals fun y hy => (HYok.out y hy).1
            subst h5
            have hc5 := hv5.1
            rw [Hyl.out] at hc5 ⊢
            clear hI hv5 Hys HX Hok HFew Hn1 hl20
            go_upto_region 15 with (first
              | (go_at_call 5; refine (open_any (L := encR ys 0 ++ B) HS10.out (by rw [List.length_append, HBl.out]; have := (HYin.out 0).2; omega)).mono ?_; rintro e w11 ⟨rb, rfl, hrb, rdr, low11⟩; have Hrb := Lib.hid hrb; have Hrd := Lib.hid rdr; have L11 := Lib.hid low11; clear hrb rdr low11)
              | (at_builtin; refine wpList_append_any rfl (.tmp 51) (.tmp 52) rfl D u6 (encR ys 0).length (encR ys 0) rfl Nb0.out A m c B rfl HBl.out (HSB.out.below HLow.out (Nat.le_refl _)) (by omega) hDs ?_; intro v10 w10 own10 hlow10; have HS10 : Hid (SlB (encR ys 0 ++ B) v10 w10) := NewB.sl (B := D) (by unfold NewB; rw [List.length_append, HBl.out]; exact own10); have LD := Lib.hid (hlow10 _ _ (Below.refl D wr) (Nat.le_refl _)); have L10 := Lib.hid (hlow10 _ _ HLow.out HLo.out); clear own10 hlow10))
            have HV : Hid (Vals w10 A5 c5 ys) := by
              obtain ⟨A6, c6, h6, hv6⟩ := (Own0.out.keep LD.out Far.out).vals fun y hy => (HYok.out y hy).1
              injection h6 with h61 h62 h63
              rw [h61, h63]
              exact hv6
            have L11w : Hid (w.heap.size ≤ w10.heap.size) := L10.out.size
            clear Own0 Far Nb0 LD HS10 hlen0 HLow HLo hDs
            go_wp2
            go_loopw [10] (fun i wx => ∃ j : Nat, j ≤ k ∧ i = .int .i64 (j : Nat) ∧ Hid (Below w10.heap.size w10 wx ∧ Rdr rb (encR ys j ++ B) 0 wx)) (fun i _ => k - (intOf i).toNat)
            case atStart => exact ⟨0, by omega, rfl, L11.out, Hrd.out⟩
            case round =>
              obtain ⟨j, hj, rfl, hJ⟩ := hrel
              clear L11 Hrd
              by_cases hjk : j < k
              · have hjk' : (j : Int) < k := by omega
                obtain ⟨y, hy⟩ : ∃ y, ys[j]? = some y := ⟨_, List.getElem?_eq_getElem (by have := Hyl.out; omega)⟩
                obtain ⟨b, off, rfl, hb, hcell⟩ := HV.out.2.2 (by have := Hyl.out; omega)
                have hr : Hid (World.rangeAt _ b (off + j * 39) y.cells.toList) := fun q v hv => (hJ.out.1.cell (p := ⟨b, off + j * 39 + q, none⟩) hb).trans (hcell j y hy q v hv)
                have oy := HYok.out y (List.mem_of_getElem? hy)
                have HIY : Hid ((Try.prog.info? 36).map (·.size) = some y.cells.toList.length) := by show _ = _; rw [Array.length_toList, y.size oy.1.hl]; exact infoVal
                have hst := encR_step hy
                have hrd := hJ.out.2
                rw [hst, List.append_assoc] at hrd
                have h1 := HYin.out j
                rw [hst] at h1
                have hlB : (encV y ++ (encR ys (j + 1) ++ B)).length ≤ 100000 := by rw [← List.append_assoc, List.length_append, HBl.out]; omega
                have HAg := Lib.hid (again_any y oy.1 (HYf.out.2 j y hy) oy.2.1 oy.2.2 _ hrd hlB (by rw [← List.append_assoc]; exact h1.1.append HBi.out))
                clear hcell hy hb oy hst hrd h1 hlB
                go_wp2_with (first
                  | (go_at_call 13; refine (err_any HR2.out).mono ?_; rintro e w13 ⟨rfl, rfl⟩)
                  | (go_at_call 12; refine HAg.out.mono ?_; rintro e w12 ⟨rfl, rd, ch⟩; have HR2 := Lib.hid rd; have HB2 := Lib.hid (hJ.out.1.grown (grown_chg ch) hJ.out.1.size (fun q e => by have := Hrb.out; cases e; omega)); clear rd ch)
                  | (with_reducible refine wpList_load_mid rfl 36 (.tmp 64) rfl b (off + j * 39) rfl y.cells.toList _ hr.out Try.underlying36 rfl HIY.out ?_))
                go_roundw
                case rel => exact ⟨j + 1, by omega, by go_num, HB2.out, HR2.out⟩
                case measure => simp [intOf]; omega
              · have hjk' : ¬ (j : Int) < k := by omega
                obtain rfl : j = k := by omega
                have hrd := hJ.out.2
                rw [← Hyl.out, encR_end, List.nil_append] at hrd
                have HR := Lib.hid hrd
                have L12 := Lib.hid (L10.out.trans (hJ.out.1.mono L11w.out))
                clear hrd hJ HV
                by_cases hm0 : m = 0
                · have hd : doneE B 0 = 0 := by unfold doneE; rw [if_pos rfl, if_pos (by rw [HBl.out]; exact hm0)]
                  clear Hmm
                  subst hm0
                  go_wp2_with (first
                    | (go_at_call 9; refine (works_any _).mono ?_; rintro e w14 ⟨rfl, low5⟩; have Low5 := Lib.hid low5; clear low5)
                    | (go_at_call 7; refine (done_any HR.out).mono ?_; rintro e w13 ⟨rfl, rfl⟩; rw [hd]))
                  go_ret
                  exact ⟨rfl, L12.out.trans (Low5.out.mono L12.out.size)⟩
                · have hd : doneE B 0 = 4 := by unfold doneE; rw [if_pos rfl, if_neg (by rw [HBl.out]; exact hm0)]
                  have hm0' : ¬ (m : Int) = 0 := by omega
                  clear Hmm
                  go_wp2_with (first
                    | (go_at_call 9; refine (works_any _).mono ?_; rintro e w14 ⟨rfl, low5⟩; have Low5 := Lib.hid low5; clear low5)
                    | (go_at_call 7; refine (done_any HR.out).mono ?_; rintro e w13 ⟨rfl, rfl⟩; rw [hd]))
                  go_ret
                  exact ⟨by show Ending.returned (Value.bool (!((m : Int) == 0))) = _; rw [beq_false_of_ne hm0']; rfl, L12.out.trans (Low5.out.mono L12.out.size)⟩
end Go.Proofs.Ytigfcmnknijobaa.Cod
