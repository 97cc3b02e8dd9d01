/- DERIVED. Texts of ours, merged: XRndText XRndConf XRndSame XGrfAwake XGrfNo. -/
import Derived.Test.YtnjeppmpnaemlaaDoorMrk24
import Derived.Test.YtnjeppmpnaemlaaDoorMrk20
/- DERIVED. render's Text: the lines told of items. -/
set_option maxRecDepth 100000
namespace Go.Proofs.YtnjeppmpnaemlaaDoor.Grf
open Go.RowKit Str Go.Maps
attribute [local go_sem ↓ high] loadAtVx loadAtLn loadAtIt
theorem OwnS.more {b n : Nat} {l : List ByteArray} {x : ByteArray} {v : Value} {w : World} (h : w.ownsRow b 9 1 v (n + 1) (l.map Value.string ++ [.string x])) (hn : l.length = n) : OwnS b (l ++ [x]) v w := by
  unfold OwnS
  rw [List.length_append, hn, List.length_singleton, List.map_append]
  exact h
theorem str_one (x : ByteArray) : ∀ u ∈ [Value.string x], u.oneCell' = true := fun u hu => by
  rw [List.mem_singleton.1 hu]; rfl
theorem MkR.grown {w w' : World} {g n b k : Nat} {f : Nat → Bool} {v : Value} {L : List Value} (h : MkR w g n f) (ho : w.ownsRow b 9 1 v k L) (hg : w.grownBy w' v.ownBlock) : MkR w' g n f := by
  obtain ⟨C, h1, h2⟩ := h
  exact ⟨C, (hg.block g (Array.getElem?_eq_some_iff.1 h1).1 (fun e => own_apart1 ho h1 (by decide) e.symm)).trans h1, h2⟩
theorem row_grown {w w' : World} {q b k : Nat} {C : Array Value} {e : TypeId} {v : Value} {L : List Value} (h : w.heap[q]? = some (.cells C e (0, 0))) (ho : w.ownsRow b 9 1 v k L) (hne : 9 ≠ e) (hg : w.grownBy w' v.ownBlock) : w'.heap[q]? = some (.cells C e (0, 0)) :=
  (hg.block q (Array.getElem?_eq_some_iff.1 h).1 (fun e' => own_apart1 ho h hne e'.symm)).trans h
theorem upto_len (x : It) : ∀ k, (x.upto k).length ≤ 2 * k
  | 0 => Nat.le_refl _
  | k + 1 => by
    have := upto_len x k
    unfold It.upto
    split
    · split
      · simp only [List.length_append, List.length_cons, List.length_nil]; omega
      · simp only [List.length_append, List.length_cons, List.length_nil]; omega
    · omega
theorem text_len (x : It) : x.text.length ≤ 2 * x.lines.length + 2 := by
  have := upto_len x x.lines.length
  unfold It.text
  rw [List.length_append, List.length_append]
  split <;> simp <;> omega
theorem textI_len : ∀ (l : List It), (∀ x ∈ l, x.lines.length ≤ 10000) → (textI l).length ≤ l.length * 20002
  | [], _ => Nat.le_refl _
  | x :: t, h => by
    have h1 := text_len x
    have h2 := h x (by simp)
    have h3 := textI_len t (fun y hy => h y (by simp [hy]))
    show (x.text ++ textI t).length ≤ _
    rw [List.length_append, List.length_cons]
    omega
theorem textI_more {l : List It} {k : Nat} {x : It} (hx : l[k]? = some x) : textI (l.take (k + 1)) = textI (l.take k) ++ x.text := by
  unfold textI
  rw [List.take_add_one, hx, List.flatMap_append]
  simp
/-- what the texts of an item begin with. -/
def It.head (x : It) : List ByteArray := if x.block then [tBegin] else []
def TxtQ (w : World) (X : List ItV) (e : Ending) (w' : World) : Prop := ∃ v', e = .returned v' ∧ OwnS w.heap.size (textI (X.map (·.1))) v' w' ∧ Below w.heap.size w w'
/-- behind j lines of an item. -/
structure TI (x : It) (T : List ByteArray) (w : World) (q5 gm n : Nat) (C : Array Value) (tv : Value) (wr : World) : Prop where
  own : OwnS w.heap.size T tv wr
  low : Below w.heap.size w wr
  r5 : wr.heap[q5]? = some (.cells C 74 (0, 0))
  mks : MkR wr gm n x.mark
theorem TI.later {x : It} {T : List ByteArray} {w : World} {q5 gm n : Nat} {C : Array Value} {tv : Value} {wr w' : World} (h : TI x T w q5 gm n C tv wr) (hb : Below wr.heap.size wr w') : TI x T w q5 gm n C tv w' :=
  ⟨own_stays h.own hb, h.low.trans (hb.mono h.low.size), at_below h.r5 hb, h.mks.below hb⟩
theorem TI.more {x : It} {T : List ByteArray} {w : World} {q5 gm n : Nat} {C : Array Value} {tv tv' : Value} {wr w' : World} {s : ByteArray} (h : TI x T w q5 gm n C tv wr) (o : Obj) (ho : w'.ownsRow w.heap.size 9 1 tv' (T.length + 1) (T.map Value.string ++ [.string s])) (hg : (wr.alloc o).grownBy w' tv.ownBlock) : TI x (T ++ [s]) w q5 gm n C tv' w' := by
  have ha := h.later ((Below.refl wr.heap.size wr).alloc (Nat.le_refl _) o)
  exact ⟨OwnS.more ho rfl, own_low (v := tv) hg ha.own ha.low ha.low.size, row_grown ha.r5 ha.own (by decide) hg, ha.mks.grown ha.own hg⟩
set_option maxHeartbeats 8000000 in
theorem rtext_any (X : List ItV) (v : Value) (w : World) (h : RdIts w X v) (hX : X.length ≤ 10000) (hb : ∀ x ∈ X, x.1.lines.length ≤ 10000 ∧ x.1.mids.length ≤ 10000 ∧ ∀ y ∈ x.1.lines, y.2.1.size ≤ 281474976710656) : Calls Tryd.prog 35 #[v] w (TxtQ w X) := by
  have HE := Lib.hid h.each
  obtain ⟨A, c, rfl, hc, hr⟩ := h.row
  obtain ⟨m, hm⟩ : ∃ m, m = X.length := ⟨_, rfl⟩
  rw [← hm] at hc hX hr ⊢
  have HR := Lib.hid hr
  have Hm := Lib.hid hm
  have HB := Lib.hid hb
  have hcI : (m : Int) ≤ c := by omega
  have HTl : Hid (∀ k, (textI ((X.take k).map (·.1))).length ≤ 10000 * 20002) := fun k => by
    have h1 := textI_len ((X.take k).map (·.1)) (fun x hx => by
      obtain ⟨y, hy, rfl⟩ := List.mem_map.1 hx
      exact (HB.out y (List.mem_of_mem_take hy)).1)
    rw [List.length_map] at h1
    have h2 := List.length_take_le k X
    have h3 := Hm.out
    have h4 : (X.take k).length * 20002 ≤ 10000 * 20002 := Nat.mul_le_mul_right _ (by rw [List.length_take]; omega)
    omega
  clear h hr hm hb hc
  go_enter Tryd.func35, Tryd.ntmps35
  go_upto_region 3 with (fail)
  have H0 : Hid (OwnS w.heap.size (textI ((X.take 0).map (·.1))) (.slice none 0 0) w ∧ Below w.heap.size w w) := ⟨World.ownsRow_nil _ _ _ _, Below.refl _ _⟩
  go_loopw [3, 11] (fun tv i wr => ∃ k : Nat, k ≤ m ∧ i = .int .i64 k ∧ Hid (OwnS w.heap.size (textI ((X.take k).map (·.1))) tv wr ∧ Below w.heap.size w wr)) (fun _ i _ => m - (intOf i).toNat)
  case atStart => exact ⟨0, Nat.zero_le _, rfl, H0⟩
  case round =>
    obtain ⟨k, hk, rfl, hI⟩ := hrel
    clear H0
    obtain ⟨w4, rfl⟩ : ∃ w4, w4 = wr := ⟨_, rfl⟩
    by_cases hlt : k < m
    · have hltI : (k : Int) < m := by omega
      have hk0 : 0 ≤ (k : Int) := by omega
      have hwk : wrap64 ((k : Int) + 1) = ((k + 1 : Nat) : Int) := by unfold wrap64; omega
      obtain ⟨y, hy⟩ : ∃ y, X[k]? = some y := ⟨_, List.getElem?_eq_getElem (by have := Hm.out; omega)⟩
      obtain ⟨g, off, rfl, hg, hcell⟩ := HR.out (by omega)
      obtain ⟨x, lv, mv⟩ := y
      have hyX := List.mem_of_getElem? hy
      obtain ⟨hb1, hb2, hb3⟩ := HB.out _ hyX
      have hRd := (HE.out _ hyX).below hI.out.2
      have eg := loadIt_eq (range_below (hcell k _ hy) hI.out.2 hg)
      have HNx : Hid (textI ((X.take (k + 1)).map (·.1)) = textI ((X.take k).map (·.1)) ++ x.text) := by
        show _ = _
        rw [List.map_take, List.map_take, textI_more (x := x) (by rw [List.getElem?_map, hy]; rfl)]
      have HRx := Lib.hid (HE.out _ hyX)
      simp only at hRd eg HRx hb1 hb2 hb3
      obtain ⟨A1, c1, hlv, -, -⟩ := hRd.ln
      obtain ⟨A2, c2, hmv, -, -⟩ := hRd.md
      have H31 := Lib.hid (it_one lv mv x.block _ _ _ _ _ _ hlv hmv)
      obtain ⟨b, hbb⟩ : ∃ b, b = x.block := ⟨_, rfl⟩
      rw [← hbb] at eg H31
      have Hbb := Lib.hid hbb
      have HLv := Lib.hid hlv
      have HMv := Lib.hid hmv
      clear hcell hy hyX hRd hg hbb hlv hmv
      go_upto_region 5 with (refine wpList_store_row rfl 74 (.tmp 5) (.tmp 14) rfl w4.heap.size (itC lv b mv) rfl rfl 74 _ (Go.heap_alloc_new w4 _) (infoIt _ _ _) rfl H31.out ?_; rw [World.setRow_alloc_new])
      have h5 := Go.heap_alloc_new w4 (.cells (itC lv b mv) 74)
      have k5 : Below w4.heap.size w4 (w4.alloc (.cells (itC lv b mv) 74)) := (Below.refl _ _).alloc (Nat.le_refl _) _
      obtain ⟨w5, hw5⟩ : ∃ w5, w5 = w4.alloc (.cells (itC lv b mv) 74) := ⟨_, rfl⟩
      rw [← hw5] at h5 k5 ⊢
      rw [put_none]
      obtain ⟨q5, hq5⟩ : ∃ q5, q5 = w4.heap.size := ⟨_, rfl⟩
      rw [← hq5] at h5 ⊢
      obtain ⟨T0, hT0⟩ : ∃ T0, T0 = textI ((X.take k).map (·.1)) := ⟨_, rfl⟩
      have ho5 := own_stays hI.out.1 k5
      have hl5 := hI.out.2.trans (k5.mono hI.out.2.size)
      have hT0l := HTl.out k
      change w5.ownsRow w.heap.size 9 1 u3 (textI ((X.take k).map (·.1))).length ((textI ((X.take k).map (·.1))).map Value.string) at ho5
      rw [← hT0] at ho5 HNx hT0l
      have HT0l := Lib.hid hT0l
      have HO5 := Lib.hid ho5
      have HL5 := Lib.hid hl5
      have H5 := Lib.hid h5
      have c51 : w5.cell? ⟨q5, 1, none⟩ = some (.bool b) := by rw [cell_row h5]; rfl
      clear h5 k5 hw5 hq5 hT0 ho5 hl5 hI hT0l
      go_upto_if 16 with (fail)
      go_cut [3] from 51 (fun tv wc => Hid (OwnS w.heap.size (T0 ++ x.head) tv wc ∧ Below w.heap.size w wc ∧ wc.heap[q5]? = some (.cells (itC lv b mv) 74 (0, 0))))
      case first =>
        cases b with
        | false =>
          go_wp2
          go_meet
          case rel => exact ⟨by unfold It.head; rw [← Hbb.out]; show OwnS _ (T0 ++ []) _ _; rw [List.append_nil]; exact HO5.out, HL5.out, H5.out⟩
        | true =>
          go_wp2_with (at_builtin; refine wpList_app1 rfl el_str 28 Tryd.underlying28 (.tmp 17) (.tmp 18) rfl w.heap.size u3 T0.length (T0.map Value.string) [.string ⟨#[62, 62, 62, 62, 62, 62, 62]⟩] rfl (str_one _) rfl (own_alloc HO5.out _) w5.heap.size rfl ⟨_, Go.heap_alloc_new w5 _, rfl⟩ (by have := HT0l.out; omega) (by rw [World.size_alloc]; have := HL5.out.size; omega) ?_; intro tv6 w6 own6 g6 loc6; have Own6 := Lib.hid own6; have G6 := Lib.hid g6; clear own6 g6 loc6)
          go_meet
          case rel =>
            have ha := (Below.refl w5.heap.size w5).alloc (Nat.le_refl _) (.cells #[.string ⟨#[62, 62, 62, 62, 62, 62, 62]⟩] 9)
            refine ⟨?_, own_low (v := u3) G6.out (own_alloc HO5.out _) (HL5.out.alloc HL5.out.size _) (by rw [World.size_alloc]; have := HL5.out.size; omega), row_grown (at_below H5.out ha) (own_alloc HO5.out _) (by decide) G6.out⟩
            unfold It.head
            rw [← Hbb.out]
            exact OwnS.more Own6.out rfl
      case rest =>
        obtain ⟨r1, r2, r3⟩ := hcut.out
        have hlv := HLv.out
        obtain ⟨n, hn⟩ : ∃ n, n = x.lines.length := ⟨_, rfl⟩
        rw [← hn] at hlv
        subst hlv
        have eg5 := loadIt_eq (lv := .slice A1 n c1) (mv := mv) (bl := b) (row_range r3 [] _ [] (by simp) 0 rfl)
        have hMid : Calls Tryd.prog 62 #[.agg (itC (.slice A1 n c1) b mv)] wc (fun e w' => ∃ g, e = .returned (.slice (some ⟨g, 0, none⟩) n n) ∧ wc.heap.size ≤ g ∧ MkR w' g n x.mark ∧ Below wc.heap.size wc w') := by
          have := middles_any x (.slice A1 n c1) mv wc (HRx.out.below r2) (by omega) (by omega)
          unfold MidQ at this
          rw [← hn, ← Hbb.out] at this
          exact this
        obtain ⟨T1, hT1⟩ : ∃ T1, T1 = T0 ++ x.head := ⟨_, rfl⟩
        rw [← hT1] at r1
        have R1 := Lib.hid r1
        have R2 := Lib.hid r2
        have R3 := Lib.hid r3
        have HT1 := Lib.hid hT1
        have Hn := Lib.hid hn
        have HT1l : Hid (T1.length ≤ 10000 * 20002 + 1) := by
          show _ ≤ _
          rw [hT1, List.length_append]
          have h1 := HT0l.out
          have h2 : x.head.length ≤ 1 := by unfold It.head; split <;> simp
          omega
        clear r1 r2 r3 hT1 hn hcut HO5 HL5 H5 eg
        go_upto_region 9 with (go_at_call 62; refine hMid.mono ?_; rintro e w6 ⟨gm, rfl, hgm, hmk, hlo6⟩; have Hmk := Lib.hid hmk; have Hlo6 := Lib.hid hlo6; have c50 : w6.cell? ⟨q5, 0, none⟩ = some (.slice A1 n c1) := (cell_row (at_below R3.out hlo6) 0); clear hgm hmk hlo6)
        have H0 : Hid (TI x (T1 ++ x.upto 0) w q5 gm n (itC (.slice A1 n c1) b mv) u3 w6) := ⟨by show OwnS _ (T1 ++ []) _ _; rw [List.append_nil]; exact own_stays R1.out Hlo6.out, R2.out.trans (Hlo6.out.mono R2.out.size), at_below R3.out Hlo6.out, Hmk.out⟩
        clear c50 hMid eg5 R1 R2 R3 Hmk Hlo6
        go_loopw [3, 25] (fun tv i wr => ∃ j : Nat, j ≤ n ∧ i = .int .i64 j ∧ Hid (TI x (T1 ++ x.upto j) w q5 gm n (itC (.slice A1 n c1) b mv) tv wr)) (fun _ i _ => n - (intOf i).toNat)
        case atStart => exact ⟨0, Nat.zero_le _, rfl, H0⟩
        case round =>
          obtain ⟨j, hj, rfl, hJ⟩ := hrel
          clear H0
          by_cases hjl : j < n
          · have hjlI : (j : Int) < n := by omega
            have hj0 : 0 ≤ (j : Int) := by omega
            have hwj : wrap64 ((j : Int) + 1) = ((j + 1 : Nat) : Int) := by have h1 := Hn.out; unfold wrap64; omega
            obtain ⟨y, hy⟩ : ∃ y, x.lines[j]? = some y := ⟨_, List.getElem?_eq_getElem (by have := Hn.out; omega)⟩
            obtain ⟨A9, c9, e9, -, hr9⟩ := HRx.out.ln
            obtain ⟨g1, o1, hA9, hg1, hc9⟩ := hr9 (by have := Hn.out; omega)
            injection e9 with e9 hq1 hq2
            rw [hA9] at e9
            subst e9
            clear hq1 hq2
            have egl := loadLn_eq (range_below (hc9 j y hy) hJ.out.low hg1)
            have hys := hb3 y (List.mem_of_getElem? hy)
            have hUp : x.upto (j + 1) = (if x.mark j then x.upto j ++ [tMiddle] else x.upto j) ++ [y.2.1] := by
              rw [It.upto, hy]
            have HUp := Lib.hid hUp
            have Hys := Lib.hid hys
            have HUl : Hid ((x.upto j).length ≤ 2 * j) := upto_len x j
            have Hhb3 := Lib.hid hb3
            clear hr9 hc9 hg1 hy hUp hys hA9
            go_upto_region 11 with (refine wpList_store_row rfl 55 (.tmp 8) (.tmp 29) rfl wr.heap.size (lnC y) rfl rfl 55 _ (Go.heap_alloc_new wr _) (infoLn y) (by rw [lnC_size]; rfl) (lnC_one y) ?_; rw [World.setRow_alloc_new])
            rw [put_none]
            have h8 := Go.heap_alloc_new wr (.cells (lnC y) 55)
            have k8 : Below wr.heap.size wr (wr.alloc (.cells (lnC y) 55)) := (Below.refl _ _).alloc (Nat.le_refl _) _
            obtain ⟨w8, hw8⟩ : ∃ w8, w8 = wr.alloc (.cells (lnC y) 55) := ⟨_, rfl⟩
            rw [← hw8] at h8 k8 ⊢
            obtain ⟨q8, hq8⟩ : ∃ q8, q8 = wr.heap.size := ⟨_, rfl⟩
            rw [← hq8] at h8 ⊢
            have hJ8 := hJ.out.later k8
            obtain ⟨B, hB⟩ : ∃ B, B = x.mark j := ⟨_, rfl⟩
            have cm := (hJ8.mks.cell hjl).1
            rw [← hB] at cm
            have HJ8 := Lib.hid hJ8
            have H8 := Lib.hid h8
            have HB8 := Lib.hid hB
            have HTb : Hid ((T1 ++ x.upto j).length ≤ 500000000) := by
              show _ ≤ _
              rw [List.length_append]
              have h1 := HT1l.out
              have h2 := HUl.out
              have h3 := Hn.out
              omega
            clear h8 k8 hw8 hq8 hJ8 hB hJ egl
            go_upto_if 33 with (fail)
            go_cut [3] from 51 (fun tv wc => Hid (TI x (T1 ++ (if x.mark j then x.upto j ++ [tMiddle] else x.upto j)) w q5 gm n (itC (.slice (some ⟨g1, o1, none⟩) n c1) b mv) tv wc ∧ wc.heap[q8]? = some (.cells (lnC y) 55 (0, 0))))
            case first =>
              cases B with
              | false =>
                go_wp2
                go_meet
                case rel =>
                  rw [← HB8.out]
                  exact ⟨HJ8.out, H8.out⟩
              | true =>
                go_wp2_with (at_builtin; refine wpList_app1 rfl el_str 28 Tryd.underlying28 (.tmp 34) (.tmp 35) rfl w.heap.size u3 (T1 ++ x.upto j).length ((T1 ++ x.upto j).map Value.string) [.string ⟨#[61, 61, 61, 61, 61, 61, 61]⟩] rfl (str_one _) rfl (own_alloc HJ8.out.own _) w8.heap.size rfl ⟨_, Go.heap_alloc_new w8 _, rfl⟩ (by have := HTb.out; omega) (by rw [World.size_alloc]; have := HJ8.out.low.size; omega) ?_; intro tv6 w9 own6 g6 loc6; have Own6 := Lib.hid own6; have G6 := Lib.hid g6; clear own6 g6 loc6)
                go_meet
                case rel =>
                  rw [← HB8.out, if_pos rfl, ← List.append_assoc]
                  refine ⟨HJ8.out.more _ (s := tMiddle) Own6.out G6.out, ?_⟩
                  exact row_grown (at_below H8.out ((Below.refl _ _).alloc (Nat.le_refl _) _)) (own_alloc HJ8.out.own _) (by decide) G6.out
            case rest =>
              obtain ⟨T2, hT2⟩ : ∃ T2, T2 = T1 ++ (if x.mark j then x.upto j ++ [tMiddle] else x.upto j) := ⟨_, rfl⟩
              have hTI := hcut.out.1
              rw [← hT2] at hTI
              have hUp9 : T1 ++ x.upto (j + 1) = T2 ++ [y.2.1] := by rw [HUp.out, hT2, List.append_assoc]
              have hT2l : T2.length ≤ 500000001 := by
                rw [hT2, List.length_append]
                have h1 := HTb.out
                rw [List.length_append] at h1
                split
                · rw [List.length_append, List.length_singleton]; omega
                · omega
              have c33 : wc.cell? ⟨q8, 33, none⟩ = some (.string y.2.1) := by
                rw [cell_row hcut.out.2, ← Array.getElem?_toList]
                exact (lnC_text y).1
              have hSc := sclone_any y.2.1 wc Hys.out
              have HTI := Lib.hid hTI
              have HUp9 := Lib.hid hUp9
              have HT2l := Lib.hid hT2l
              clear hT2 hTI hUp9 hT2l hcut HJ8 H8 HTb
              go_wp2_with (first
                | (go_at_call 49; refine hSc.mono ?_; rintro e w9 ⟨rfl, hlo9⟩; have HT9 := Lib.hid (HTI.out.later hlo9); clear hlo9)
                | (at_builtin; refine wpList_app1 rfl el_str 28 Tryd.underlying28 (.tmp 37) (.tmp 41) rfl w.heap.size u3 T2.length (T2.map Value.string) [.string y.2.1] rfl (str_one _) rfl (own_alloc HT9.out.own _) w9.heap.size rfl ⟨_, Go.heap_alloc_new w9 _, rfl⟩ (by have := HT2l.out; omega) (by rw [World.size_alloc]; have := HT9.out.low.size; omega) ?_; intro tv7 w10 own7 g7 loc7; have Own7 := Lib.hid own7; have G7 := Lib.hid g7; clear own7 g7 loc7))
              have HN : Hid (TI x (T1 ++ x.upto (j + 1)) w q5 gm n (itC (.slice (some ⟨g1, o1, none⟩) n c1) b mv) tv7 w10) := by
                rw [HUp9.out]
                exact HT9.out.more _ Own7.out G7.out
              rw [hwj]
              refine ⟨⟨j + 1, hjl, rfl, HN⟩, ?_⟩
              clear hwj hwk
              simp only [intOf]
              omega
          · have hjlI : ¬ (j : Int) < n := by omega
            obtain rfl : j = n := by omega
            have hJ := hJ
            have c51 : wr.cell? ⟨q5, 1, none⟩ = some (.bool b) := cell_row hJ.out.r5 1
            have HJ9 := Lib.hid hJ.out
            have HTx : Hid (T0 ++ x.text = (T1 ++ x.upto j) ++ (if b then [tClose] else [])) := by
              show _ = _
              unfold It.text
              rw [HT1.out, Hn.out, Hbb.out]
              unfold It.head
              simp only [List.append_assoc]
            have HTb : Hid ((T1 ++ x.upto j).length ≤ 500000000) := by
              show _ ≤ _
              rw [List.length_append]
              have h1 := HT1l.out
              have h2 := upto_len x j
              have h3 := Hn.out
              omega
            clear hJ
            cases b with
            | false =>
              have HN : Hid (OwnS w.heap.size (textI ((X.take (k + 1)).map (·.1))) u3 wr ∧ Below w.heap.size w wr) := by
                rw [HNx.out, HTx.out]
                show OwnS _ ((T1 ++ x.upto j) ++ []) _ _ ∧ _
                rw [List.append_nil]
                exact ⟨HJ9.out.own, HJ9.out.low⟩
              clear HJ9 HTx HTb
              go_wp2
              try rw [hwk]
              refine ⟨⟨k + 1, hlt, rfl, HN⟩, ?_⟩
              clear hwk
              simp only [intOf]
              omega
            | true =>
              go_wp2_with (at_builtin; refine wpList_app1 rfl el_str 28 Tryd.underlying28 (.tmp 46) (.tmp 47) rfl w.heap.size u3 (T1 ++ x.upto j).length ((T1 ++ x.upto j).map Value.string) [.string ⟨#[60, 60, 60, 60, 60, 60, 60]⟩] rfl (str_one _) rfl (own_alloc HJ9.out.own _) wr.heap.size rfl ⟨_, Go.heap_alloc_new wr _, rfl⟩ (by have := HTb.out; omega) (by rw [World.size_alloc]; have := HJ9.out.low.size; omega) ?_; intro tv7 w10 own7 g7 loc7; have Own7 := Lib.hid own7; have G7 := Lib.hid g7; clear own7 g7 loc7)
              have HN : Hid (OwnS w.heap.size (textI ((X.take (k + 1)).map (·.1))) tv7 w10 ∧ Below w.heap.size w w10) := by
                rw [HNx.out, HTx.out]
                have := HJ9.out.more _ (s := tClose) Own7.out G7.out
                exact ⟨this.own, this.low⟩
              clear HJ9 HTx HTb Own7 G7
              try rw [hwk]
              refine ⟨⟨k + 1, hlt, rfl, HN⟩, ?_⟩
              clear hwk
              simp only [intOf]
              omega
    · have hltI : ¬ (k : Int) < m := by omega
      obtain rfl : k = m := by omega
      have HF : Hid (TxtQ w X (.returned u3) w4) := ⟨u3, rfl, by
        have := hI.out.1
        rw [List.take_of_length_le (by have := Hm.out; omega)] at this
        exact this, hI.out.2⟩
      clear hI
      go_wp2
      go_ret
      exact HF.out
end Go.Proofs.YtnjeppmpnaemlaaDoor.Grf
/- DERIVED. render's Conflict: is one of the items a block? -/
set_option maxRecDepth 100000
namespace Go.Proofs.YtnjeppmpnaemlaaDoor.Grf
open Go.RowKit Str Go.Maps
attribute [local go_sem ↓ high] loadAtVx loadAtLn loadAtIt
set_option maxHeartbeats 4000000 in
theorem isBlock_any (lv mv : Value) (b : Bool) (w : World) : Calls Tryd.prog 65 #[.agg (itC lv b mv)] w fun e w' => e = .returned (.bool b) ∧ Below w.heap.size w w' := by
  have h1 := Go.heap_alloc_new w (.cells (itC lv b mv) 74)
  have k1 : Below w.heap.size w (w.alloc (.cells (itC lv b mv) 74)) := (Below.refl _ _).alloc (Nat.le_refl _) _
  obtain ⟨W, hW⟩ : ∃ W, W = w.alloc (.cells (itC lv b mv) 74) := ⟨_, rfl⟩
  rw [← hW] at h1 k1
  have HW := Lib.hid hW.symm
  have K1 := Lib.hid k1
  obtain ⟨q1, hq1⟩ : ∃ q1, q1 = w.heap.size := ⟨_, rfl⟩
  rw [← hq1] at h1
  have Hq1 := Lib.hid hq1
  have c1 : W.cell? ⟨q1, 1, none⟩ = some (.bool b) := cell_row h1 1
  clear h1 k1 hW hq1
  go_enter Tryd.func65, Tryd.ntmps65
  go_upto_region 1 with (fail)
  rw [HW.out, ← Hq1.out]
  go_wp2
  go_ret
  exact ⟨rfl, K1.out⟩
/-- the closure as a value. -/
abbrev fBlock : Value := .func (.func 65) #[] #[]
def FbQ (w : World) (X : List ItV) (e : Ending) (w' : World) : Prop :=
  ∃ z : Int, e = .returned (.int .i64 z) ∧ (decide (z ≥ 0) = X.any fun x => x.1.block) ∧ Below w.heap.size w w'
set_option maxHeartbeats 4000000 in
theorem indexBlock_any (v : Value) (X : List ItV) (w : World) (h : RdIts w X v) (hl : X.length ≤ 1000000) : Calls Tryd.prog 93 #[v, fBlock] w (FbQ w X) := by
  obtain ⟨A, c, rfl, hc, hr⟩ := h.row
  obtain ⟨m, hm⟩ : ∃ m, m = X.length := ⟨_, rfl⟩
  rw [← hm] at hc hl hr ⊢
  have HR := Lib.hid hr
  have Hm := Lib.hid hm
  have hcI : (m : Int) ≤ c := by omega
  clear hr hm h
  go_enter Tryd.func93, Tryd.ntmps93
  go_upto_region 2 with (fail)
  go_loopw [8] (fun i wr => ∃ k : Nat, k ≤ m ∧ i = .int .i64 k ∧ Hid (Below w.heap.size w wr ∧ ∀ j y, j < k → X[j]? = some y → y.1.block = false)) (fun i _ => m - (intOf i).toNat)
  case atStart => exact ⟨0, Nat.zero_le _, rfl, Below.refl _ _, fun j y hj => absurd hj (by omega)⟩
  case round =>
    obtain ⟨k, hk, rfl, hI⟩ := hrel
    by_cases hlt : k < m
    · have hltI : (k : Int) < m := by omega
      have hk0 : 0 ≤ (k : Int) := by omega
      obtain ⟨x, hx⟩ : ∃ x, X[k]? = some x := ⟨_, List.getElem?_eq_getElem (by have := Hm.out; omega)⟩
      obtain ⟨g, off, rfl, hg, hcell⟩ := HR.out (by omega)
      have eg := loadIt_eq (range_below (hcell k x hx) hI.out.1 hg)
      have hwk : wrap64 ((k : Int) + 1) = ((k + 1 : Nat) : Int) := by unfold wrap64; omega
      have hC := isBlock_any x.2.1 x.2.2 x.1.block wr
      have HX := Lib.hid hx
      obtain ⟨lv, hlv⟩ : ∃ lv, lv = x.2.1 := ⟨_, rfl⟩
      obtain ⟨mv, hmv⟩ : ∃ mv, mv = x.2.2 := ⟨_, rfl⟩
      obtain ⟨b, hb⟩ : ∃ b, b = x.1.block := ⟨_, rfl⟩
      rw [← hlv, ← hmv, ← hb] at eg hC
      have HXA := Lib.hid hb
      clear hcell hx hg hlv hmv hb
      cases b
      · go_wp2_with (go_at_call 65; refine hC.mono ?_; rintro e w2 ⟨rfl, low⟩)
        try rw [hwk]
        refine ⟨⟨k + 1, hlt, rfl, hI.out.1.trans (low.mono hI.out.1.size), fun j y hj hy => ?_⟩, ?_⟩
        · by_cases e : j = k
          · subst e
            rw [HX.out] at hy
            obtain rfl := Option.some.inj hy
            exact HXA.out.symm
          · exact hI.out.2 j y (by omega) hy
        · clear hwk
          simp only [intOf]
          omega
      · go_wp2_with (go_at_call 65; refine hC.mono ?_; rintro e w2 ⟨rfl, low⟩)
        go_ret
        refine ⟨_, rfl, ?_, hI.out.1.trans (low.mono hI.out.1.size)⟩
        have h1 : (X.any fun x => x.1.block) = true := List.any_eq_true.2 ⟨x, List.mem_of_getElem? HX.out, HXA.out.symm⟩
        rw [h1]
        simp
    · have hltI : ¬ (k : Int) < m := by omega
      obtain rfl : k = m := by omega
      go_wp2
      go_ret
      refine ⟨_, rfl, ?_, hI.out.1⟩
      have h1 : (X.any fun x => x.1.block) = false := by
        rw [List.any_eq_false]
        intro x hx
        obtain ⟨j, hj⟩ := List.getElem?_of_mem hx
        rw [hI.out.2 j x (by have := (List.getElem?_eq_some_iff.1 hj).1; have := Hm.out; omega) hj]
        simp
      rw [h1]
      rfl
set_option maxHeartbeats 4000000 in
theorem conflict_any (v : Value) (X : List ItV) (w : World) (h : RdIts w X v) (hl : X.length ≤ 1000000) : Calls Tryd.prog 38 #[v] w fun e w' => e = .returned (.bool (X.any fun x => x.1.block)) ∧ Below w.heap.size w w' := by
  have hI := indexBlock_any v X w h hl
  have hC : Calls Tryd.prog 64 #[v, fBlock] w fun e w' => e = .returned (.bool (X.any fun x => x.1.block)) ∧ Below w.heap.size w w' := by
    obtain ⟨B, hB⟩ : ∃ B, B = X.any fun x => x.1.block := ⟨_, rfl⟩
    unfold FbQ at hI
    rw [← hB] at hI ⊢
    clear h hB
    go_enter Tryd.func64, Tryd.ntmps64
    go_wp2_with (go_at_call 93; refine hI.mono ?_; rintro e w2 ⟨z, rfl, hz, low⟩)
    go_ret
    exact ⟨by rw [← hz]; rfl, low⟩
  clear hI h
  go_enter Tryd.func38, Tryd.ntmps38
  go_wp2_with (go_at_call 64; refine hC.mono ?_; rintro e w2 ⟨rfl, low⟩)
  go_ret
  exact ⟨rfl, low⟩
end Go.Proofs.YtnjeppmpnaemlaaDoor.Grf
/- DERIVED. The law's same: two lists of texts. Written by mksame.py. -/
set_option maxRecDepth 100000
namespace Go.Proofs.YtnjeppmpnaemlaaDoor.Grf
open Go.RowKit Str Go.Maps
attribute [local go_sem ↓ high] loadAtVx loadAtLn loadAtIt
theorem list_ne {L M : List ByteArray} {k : Nat} {s t : ByteArray} (hs : L[k]? = some s) (ht : M[k]? = some t) (h : (s.toList == t.toList) = false) : decide (L = M) = false := by
  rw [decide_eq_false_iff_not]
  rintro rfl
  rw [hs] at ht
  obtain rfl := Option.some.inj ht
  rw [beq_self_eq_true] at h
  cases h
theorem list_eq {L M : List ByteArray} {n : Nat} (h1 : n = L.length) (h2 : n = M.length) (h : ∀ j s t, j < n → L[j]? = some s → M[j]? = some t → s = t) : decide (L = M) = true := by
  rw [decide_eq_true_iff]
  apply List.ext_getElem?
  intro j
  by_cases hj : j < n
  · obtain ⟨s, hs⟩ : ∃ s, L[j]? = some s := ⟨_, List.getElem?_eq_getElem (by omega)⟩
    obtain ⟨t, ht⟩ : ∃ t, M[j]? = some t := ⟨_, List.getElem?_eq_getElem (by omega)⟩
    rw [hs, ht, h j s t hj hs ht]
  · rw [List.getElem?_eq_none (by omega), List.getElem?_eq_none (by omega)]
set_option maxHeartbeats 4000000 in
theorem same16_any (u v : Value) (L M : List ByteArray) (w : World) (h : RdS w u L) (h2 : RdS w v M) (hl : L.length ≤ 1000000) : Calls Tryd.prog 34 #[u, v] w fun e w' => e = .returned (.bool (decide (L = M))) ∧ Below w.heap.size w w' := by
  obtain ⟨A, c, rfl, hc, hr⟩ := h
  obtain ⟨A2, c2, rfl, hc2, hr2⟩ := h2
  obtain ⟨n, hn⟩ : ∃ n, n = L.length := ⟨_, rfl⟩
  rw [← hn] at hc hl ⊢
  by_cases hlen : n = M.length
  · have HR := Lib.hid hr
    have HR2 := Lib.hid hr2
    rw [← hlen] at hc2 ⊢
    have Hn := Lib.hid hn
    have Hlen := Lib.hid hlen
    have hcI : (n : Int) ≤ c := by omega
    have hc2I : (n : Int) ≤ c2 := by omega
    clear hr hr2 hn hlen hc hc2
    go_enter Tryd.func34, Tryd.ntmps34
    go_upto_region 4 with (fail)
    go_loopw [5] (fun i wr => ∃ k : Nat, k ≤ n ∧ i = .int .i64 k ∧ Hid (Below w.heap.size w wr ∧ ∀ j s t, j < k → L[j]? = some s → M[j]? = some t → s = t)) (fun i _ => n - (intOf i).toNat)
    case atStart => exact ⟨0, Nat.zero_le _, rfl, Below.refl _ _, fun j s t hj => absurd hj (by omega)⟩
    case round =>
      obtain ⟨k, hk, rfl, hI⟩ := hrel
      by_cases hlt : k < n
      · have hltI : (k : Int) < n := by omega
        have hk0 : 0 ≤ (k : Int) := by omega
        have hwk : wrap64 ((k : Int) + 1) = ((k + 1 : Nat) : Int) := by unfold wrap64; omega
        obtain ⟨s, hs⟩ : ∃ s, L[k]? = some s := ⟨_, List.getElem?_eq_getElem (by have := Hn.out; omega)⟩
        obtain ⟨t, ht⟩ : ∃ t, M[k]? = some t := ⟨_, List.getElem?_eq_getElem (by have := Hlen.out; omega)⟩
        obtain ⟨g, o, rfl, hg, hc⟩ := HR.out (by have := Hn.out; omega)
        obtain ⟨g2, o2, rfl, hg2, hc2⟩ := HR2.out (by have := Hlen.out; omega)
        have HA : Hid (wr.cell? ⟨g, o + k, none⟩ = some (.string s)) := (hI.out.1.cell (p := ⟨g, o + k, none⟩) hg).trans (hc k s hs)
        have HB : Hid (wr.cell? ⟨g2, o2 + k, none⟩ = some (.string t)) := (hI.out.1.cell (p := ⟨g2, o2 + k, none⟩) hg2).trans (hc2 k t ht)
        obtain ⟨B, hB⟩ : ∃ B, (s.toList == t.toList) = B := ⟨_, rfl⟩
        have Hs := Lib.hid hs
        have Ht := Lib.hid ht
        have HBe := Lib.hid hB
        clear hs ht hc hc2 hg hg2
        go_upto_region 6 with (fail)
        have apx : apartB [17, 18, 19, 20, 21, 22, 23, 24, 25] = true := by decide
        refine wp_region_any (by kernel_rfl) ?_
        change wpAny _ _ _ _ _ _ _ (World.drew _)
        refine wpAny_inv (fun ll aa wx => Hid (ll.size = 9 ∧ Below wr.heap.size wr wx) ∧ ∃ (z : Nat → Value), Hid (aa = ⟨#[.slice (some ⟨g, o, none⟩) n c, .slice (some ⟨g2, o2, none⟩) n c2, undef, undef, u4, .int .i64 ((k : Nat) : Int), .slice (some ⟨g, o, none⟩) n c, .int .i64 ((n : Nat) : Int), .slice (some ⟨g2, o2, none⟩) n c2, .int .i64 ((n : Nat) : Int), .bool false, .int .i64 ((k : Nat) : Int), .slice (some ⟨g, o, none⟩) n c, .int .i64 ((n : Nat) : Int), .bool true, u15, u16, z 17, z 18, z 19, z 20, z 21, z 22, z 23, z 24, z 25], []⟩) ∧ Holding [17, 18, 19, 20, 21, 22, 23, 24, 25] [some (.slice (some ⟨g, o, none⟩) n c), some (.int .i64 ((k : Nat) : Int)), some (.pointer (some ⟨g, o + k, none⟩)), some (.string s), some (.slice (some ⟨g2, o2, none⟩) n c2), some (.int .i64 ((k : Nat) : Int)), some (.pointer (some ⟨g2, o2 + k, none⟩)), some (.string t), some (.bool (!B))] ll z) ?_ (by kernel_rfl) ?_ ?_ _ _ _ _ (unlisted_none _) ?_
        · rintro ll aa wx ⟨hI, _⟩
          exact hI.out.1
        · rintro ll aa wx ⟨hI, z, ha, hz⟩ hall
          have hx := Lib.hid hI.out.2
          have e0 : z 17 = .slice (some ⟨g, o, none⟩) n c := hz 0 _ (hall 0 (by decide)) rfl
          have e1 : z 18 = .int .i64 ((k : Nat) : Int) := hz 1 _ (hall 1 (by decide)) rfl
          have e2 : z 19 = .pointer (some ⟨g, o + k, none⟩) := hz 2 _ (hall 2 (by decide)) rfl
          have e3 : z 20 = .string s := hz 3 _ (hall 3 (by decide)) rfl
          have e4 : z 21 = .slice (some ⟨g2, o2, none⟩) n c2 := hz 4 _ (hall 4 (by decide)) rfl
          have e5 : z 22 = .int .i64 ((k : Nat) : Int) := hz 5 _ (hall 5 (by decide)) rfl
          have e6 : z 23 = .pointer (some ⟨g2, o2 + k, none⟩) := hz 6 _ (hall 6 (by decide)) rfl
          have e7 : z 24 = .string t := hz 7 _ (hall 7 (by decide)) rfl
          have e8 : z 25 = .bool (!B) := hz 8 _ (hall 8 (by decide)) rfl
          clear hall hz hI 
          obtain rfl := ha.out
          clear ha
          clear apx
          have E8 := Lib.hid e8
          have HX := Lib.hid hx.out
          clear e0 e1 e2 e3 e4 e5 e6 e7 e8 hx hB
          rw [E8.out]
          cases B with
          | true =>
            have HN : Hid (Below w.heap.size w wx ∧ ∀ j s t, j < k + 1 → L[j]? = some s → M[j]? = some t → s = t) := ⟨hI.out.1.trans (HX.out.mono hI.out.1.size), fun j s' t' hj h1 h2 => by
              by_cases e : j = k
              · subst e
                rw [Hs.out] at h1
                rw [Ht.out] at h2
                obtain rfl := Option.some.inj h1
                obtain rfl := Option.some.inj h2
                exact toList_inj (eq_of_beq HBe.out)
              · exact hI.out.2 j s' t' (by omega) h1 h2⟩
            go_wp2
            try rw [hwk]
            refine ⟨⟨k + 1, hlt, rfl, HN⟩, ?_⟩
            clear hwk
            simp only [intOf]
            omega
          | false =>
            go_wp2
            go_ret
            exact ⟨by rw [list_ne Hs.out Ht.out HBe.out]; rfl, hI.out.1.trans (HX.out.mono hI.out.1.size)⟩
        · rintro ll aa wx i ⟨hI, z, ha, hz⟩ hi hu hw
          obtain rfl := ha.out
          have hsz := Lib.hid hI.out.1
          have hx := Lib.hid hI.out.2
          clear ha hI
          have hin : i < 9 := hi
          obtain rfl | rfl | rfl | rfl | rfl | rfl | rfl | rfl | rfl : i = 0 ∨ i = 1 ∨ i = 2 ∨ i = 3 ∨ i = 4 ∨ i = 5 ∨ i = 6 ∨ i = 7 ∨ i = 8 := by omega
          · refine wpOp_plain rfl rfl ?_
            go_simp
            exact ⟨⟨by simp [hsz.out], hx.out⟩, upd z 17 (.slice (some ⟨g, o, none⟩) n c), (by unfold Hid; simp [upd]), hz.next apx hsz.out 0 (by decide) _ (fun _ h => Option.some.inj h)⟩
          · refine wpOp_plain rfl rfl ?_
            go_simp
            exact ⟨⟨by simp [hsz.out], hx.out⟩, upd z 18 (.int .i64 ((k : Nat) : Int)), (by unfold Hid; simp [upd]), hz.next apx hsz.out 1 (by decide) _ (fun _ h => Option.some.inj h)⟩
          · have e0 : z 17 = .slice (some ⟨g, o, none⟩) n c := hz 0 _ (hw 0 (by kernel_rfl)) rfl
            have e1 : z 18 = .int .i64 ((k : Nat) : Int) := hz 1 _ (hw 1 (by kernel_rfl)) rfl
            refine wpOp_plain rfl rfl ?_
            go_simp
            exact ⟨⟨by simp [hsz.out], hx.out⟩, upd z 19 (.pointer (some ⟨g, o + k, none⟩)), (by unfold Hid; simp [upd, e0, e1]), hz.next apx hsz.out 2 (by decide) _ (fun _ h => Option.some.inj h)⟩
          · have e2 : z 19 = .pointer (some ⟨g, o + k, none⟩) := hz 2 _ (hw 2 (by kernel_rfl)) rfl
            have cl : wx.cell? ⟨g, (o + k), none⟩ = some (.string s) := (hx.out.cell (p := ⟨g, (o + k), none⟩) (World.block_lt_of_cell? _ _ HA.out)).trans HA.out
            refine wpOp_plain rfl rfl ?_
            go_simp
            exact ⟨⟨by simp [hsz.out], hx.out⟩, upd z 20 (.string s), (by unfold Hid; simp [upd, e2]), hz.next apx hsz.out 3 (by decide) _ (fun _ h => Option.some.inj h)⟩
          · refine wpOp_plain rfl rfl ?_
            go_simp
            exact ⟨⟨by simp [hsz.out], hx.out⟩, upd z 21 (.slice (some ⟨g2, o2, none⟩) n c2), (by unfold Hid; simp [upd]), hz.next apx hsz.out 4 (by decide) _ (fun _ h => Option.some.inj h)⟩
          · refine wpOp_plain rfl rfl ?_
            go_simp
            exact ⟨⟨by simp [hsz.out], hx.out⟩, upd z 22 (.int .i64 ((k : Nat) : Int)), (by unfold Hid; simp [upd]), hz.next apx hsz.out 5 (by decide) _ (fun _ h => Option.some.inj h)⟩
          · have e4 : z 21 = .slice (some ⟨g2, o2, none⟩) n c2 := hz 4 _ (hw 4 (by kernel_rfl)) rfl
            have e5 : z 22 = .int .i64 ((k : Nat) : Int) := hz 5 _ (hw 5 (by kernel_rfl)) rfl
            refine wpOp_plain rfl rfl ?_
            go_simp
            exact ⟨⟨by simp [hsz.out], hx.out⟩, upd z 23 (.pointer (some ⟨g2, o2 + k, none⟩)), (by unfold Hid; simp [upd, e4, e5]), hz.next apx hsz.out 6 (by decide) _ (fun _ h => Option.some.inj h)⟩
          · have e6 : z 23 = .pointer (some ⟨g2, o2 + k, none⟩) := hz 6 _ (hw 6 (by kernel_rfl)) rfl
            have cl : wx.cell? ⟨g2, (o2 + k), none⟩ = some (.string t) := (hx.out.cell (p := ⟨g2, (o2 + k), none⟩) (World.block_lt_of_cell? _ _ HB.out)).trans HB.out
            refine wpOp_plain rfl rfl ?_
            go_simp
            exact ⟨⟨by simp [hsz.out], hx.out⟩, upd z 24 (.string t), (by unfold Hid; simp [upd, e6]), hz.next apx hsz.out 7 (by decide) _ (fun _ h => Option.some.inj h)⟩
          · have e3 : z 20 = .string s := hz 3 _ (hw 3 (by kernel_rfl)) rfl
            have e7 : z 24 = .string t := hz 7 _ (hw 7 (by kernel_rfl)) rfl
            refine wpOp_plain rfl rfl ?_
            go_simp
            exact ⟨⟨by simp [hsz.out], hx.out⟩, upd z 25 (.bool (!B)), (by unfold Hid; simp [upd, e3, e7, hB]), hz.next apx hsz.out 8 (by decide) _ (fun _ h => Option.some.inj h)⟩
        · exact ⟨⟨rfl, (Below.refl _ _).drew⟩, fun xx => (#[.slice (some ⟨g, o, none⟩) n c, .slice (some ⟨g2, o2, none⟩) n c2, undef, undef, u4, .int .i64 ((k : Nat) : Int), .slice (some ⟨g, o, none⟩) n c, .int .i64 ((n : Nat) : Int), .slice (some ⟨g2, o2, none⟩) n c2, .int .i64 ((n : Nat) : Int), .bool false, .int .i64 ((k : Nat) : Int), .slice (some ⟨g, o, none⟩) n c, .int .i64 ((n : Nat) : Int), .bool true, u15, u16, u17, u18, u19, u20, u21, u22, u23, u24, u25] : Array Value).getD xx undef, (by rfl), Holding.start⟩
      · have hltI : ¬ (k : Int) < n := by omega
        obtain rfl : k = n := by omega
        go_wp2
        go_ret
        exact ⟨by rw [list_eq Hn.out Hlen.out hI.out.2]; rfl, hI.out.1⟩
  · have hlI : ¬ (n : Int) = M.length := by omega
    have e : decide (L = M) = false := by
      rw [decide_eq_false_iff_not]
      rintro rfl
      exact hlen hn
    rw [e]
    obtain ⟨m, hm⟩ : ∃ m, m = M.length := ⟨_, rfl⟩
    rw [← hm] at hlI hlen ⊢
    clear hr hr2 hn hm e
    go_enter Tryd.func34, Tryd.ntmps34
    go_wp2
    go_ret
    exact ⟨rfl, Below.refl _ _⟩
end Go.Proofs.YtnjeppmpnaemlaaDoor.Grf
/- DERIVED. The law's awake. -/
set_option maxRecDepth 100000
namespace Go.Proofs.YtnjeppmpnaemlaaDoor.Grf
open Go.RowKit Str Go.Maps
attribute [local go_sem ↓ high] loadAtVx loadAtHs loadAtGv onePt_of twoPt_of threePt_of
theorem nw_text {w : World} {ps : List PD} {n : Nat} (hn : n ≤ 100) {M : List Vx} {s : ByteArray} (hb : linesB ps M = true) (ht : textL (M.map (lnD ps)) = s) (hl : (verts ps).length ≤ 10000) {S : GS} (hps : ds S.ps = ps) (hg : GX w S n) (hL : Laid w) :
    Calls Tryd.prog 17 #[ptr S.g] w fun e w' => e = .returned (.string s) ∧ Below w.heap.size w w' :=
  (text_any S n hn w hg hL (by rw [hps]; exact hl)).mono fun _ _ h => tx_known hps hb ht h
set_option maxHeartbeats 4000000 in
theorem awake_any (w : World) (hL : Laid w) : Calls Tryd.prog 16 #[] w fun e w' => e = .returned (.bool true) ∧ Below w.heap.size w w' := by
  have HL := Lib.hid hL
  have e1 := run_onePt
  have e3 := run_threePt
  have hA := lfirst_any w
  clear hL
  go_enter Tryd.func16, Tryd.ntmps16
  go_upto_region 1 with (fail)
  refine wp_region_lit ?_
  refine wpList_plain rfl (fun K hK => ?_)
  go_simp
  go_at_call 12
  refine hA.mono ?_
  rintro e w1 ⟨l1, g1, rfl, ok1, low1⟩
  refine hK _ _ ?_
  clear hK K hA
  refine wpList_plain rfl (fun K hK => ?_)
  go_simp
  refine hK _ _ ?_
  clear hK K
  refine wpList_plain rfl (fun K hK => ?_)
  go_simp
  go_at_call 11
  refine (made1_any dFirst l1 g1 _ md_1 w1 (HL.out.below low1 (Nat.le_refl _)) ok1).mono ?_
  rintro e w2 ⟨S, rfl, hps, hgx, low2, -⟩
  refine hK _ _ ?_
  clear hK K ok1
  have low3 := low1.trans (low2.mono low1.size)
  clear low1 low2
  refine wpList_plain rfl (fun K hK => ?_)
  go_simp
  go_at_call 17
  refine (nw_text (by omega) li_1 tx_1 (by decide) hps hgx (HL.out.below low3 (Nat.le_refl _))).mono ?_
  rintro e w4 ⟨rfl, low4⟩
  refine hK _ _ ?_
  clear hK K hps hgx
  have low5 := low3.trans (low4.mono low3.size)
  clear low3 low4
  obtain ⟨pS, hpS⟩ : ∃ pS, pS = ptr S.g := ⟨_, rfl⟩
  rw [← hpS]
  clear hpS
  have hA := lfirst_any w4
  go_wp2_with (first | (go_at_call 12; refine hA.mono ?_; rintro e w6 ⟨l6, g6, rfl, ok6, low6⟩; have hB := lsecond_any w6) | (go_at_call 13; refine hB.mono ?_; rintro e w7 ⟨l7, g7, rfl, ok7, low7⟩; have hC := lthird_any w7) | (go_at_call 14; refine hC.mono ?_; rintro e w8 ⟨l8, g8, rfl, ok8, low8⟩; have low78 := low7.trans (low8.mono low7.size); have low58 := low5.trans ((low6.trans (low78.mono low6.size)).mono low5.size); have hD := made3_any dFirst l6 g6 dSecond l7 g7 dThird l8 g8 _ md_123 w8 (HL.out.below low58 (Nat.le_refl _)) (ok6.below low78) (ok7.below low8) ok8) | (go_at_call 11; refine hD.mono ?_; rintro e w9 ⟨S9, rfl, hps, hgx, low9, -⟩; have low59 := low58.trans (low9.mono low58.size); have hE := nw_text (by omega) li_123 tx_123 (by decide) hps hgx (HL.out.below low59 (Nat.le_refl _))) | (go_at_call 17; refine hE.mono ?_; rintro e w10 ⟨rfl, low10⟩))
  go_ret
  exact ⟨rfl, low59.trans (low10.mono low59.size)⟩
end Go.Proofs.YtnjeppmpnaemlaaDoor.Grf
/- DERIVED. Graphs that are none: nil, or a zero one. -/
set_option maxRecDepth 100000
namespace Go.Proofs.YtnjeppmpnaemlaaDoor.Grf
open Go.RowKit Str Go.Maps
attribute [local go_sem ↓ high] loadAtVx loadAtHs loadAtGv
/-- no graph. -/
def NoG (w : World) (v : Value) : Prop := v = .pointer none ∨ ∃ g, v = ptr g ∧ w.cell? ⟨g, 0, none⟩ = some (.pointer none)
theorem NoG.below {w w' : World} {v : Value} (h : NoG w v) (hb : Below w.heap.size w w') : NoG w' v := by
  rcases h with h | ⟨g, h1, h2⟩
  · exact .inl h
  · exact .inr ⟨g, h1, (hb.cell (World.block_lt_of_cell? _ _ h2)).trans h2⟩
theorem no_made {w : World} {v : Value} (h : NoG w v) : Calls Tryd.prog 46 #[v] w fun e w' => e = .returned (.bool false) ∧ ∃ m, w' = w.drewN m := by
  rcases h with rfl | ⟨g, rfl, h⟩
  · exact made_nil w
  · exact made_zero g w h
set_option maxHeartbeats 1000000 in
theorem no_lines {w : World} {v : Value} (h : NoG w v) : Calls Tryd.prog 24 #[v] w fun e w' => e = .returned nils ∧ ∃ m, w' = w.drewN m := by
  have h1 := no_made h
  clear h
  go_enter Tryd.func24, Tryd.ntmps24
  go_wp2_with (go_at_call 46; refine h1.mono ?_; rintro e w1 ⟨rfl, m, rfl⟩)
  go_ret
  exact ⟨rfl, m, rfl⟩
set_option maxHeartbeats 1000000 in
theorem no_copy {w : World} {v : Value} (h : NoG w v) : Calls Tryd.prog 26 #[v] w fun e w' => e = .returned (.pointer none) ∧ ∃ m, w' = w.drewN m := by
  have h1 := no_made h
  clear h
  go_enter Tryd.func26, Tryd.ntmps26
  go_wp2_with (go_at_call 46; refine h1.mono ?_; rintro e w1 ⟨rfl, m, rfl⟩)
  go_ret
  exact ⟨rfl, m, rfl⟩
set_option maxHeartbeats 1000000 in
theorem no_has {w : World} {v : Value} (h : NoG w v) (x : Vx) : Calls Tryd.prog 25 #[v, .agg x.c] w fun e w' => e = .returned (.bool false) ∧ Below w.heap.size w w' := by
  have hlow := (Below.refl w.heap.size w).alloc (Nat.le_refl _) (.cells x.c 27)
  obtain ⟨w1, hw1⟩ : ∃ w1, w1 = w.alloc (.cells x.c 27) := ⟨_, rfl⟩
  rw [← hw1] at hlow
  have h1 := h.below hlow
  have Hw1 := Lib.hid hw1
  have Hlow := Lib.hid hlow
  have HM : Hid (∀ n, Calls Tryd.prog 46 #[v] (w1.drewN n) fun e w' => e = .returned (.bool false) ∧ ∃ m, w' = (w1.drewN n).drewN m) := fun n => no_made (h1.below ⟨rfl, rfl, rfl, Nat.le_refl _, fun _ _ => rfl⟩)
  clear h h1 hw1 hlow
  go_enter Tryd.func25, Tryd.ntmps25
  go_upto_region 1 with (fail)
  rw [← Hw1.out]
  go_quiet ((go_at_call 46; exact Calls.quiet_of (HM.out _)))
  go_wp2
  go_ret
  exact ⟨rfl, Hlow.out.trans ⟨rfl, rfl, rfl, Nat.le_refl _, fun _ _ => rfl⟩⟩
set_option maxHeartbeats 1000000 in
theorem no_add {w : World} {v : Value} (h : NoG w v) (d : PD) (l g : Value) : Calls Tryd.prog 22 #[v, .agg (givC d l g)] w fun e w' => e = .returned (.int .i64 1) ∧ Below w.heap.size w w' := by
  have hR : ∀ u, Below w.heap.size w u → Calls Tryd.prog 44 #[v, .agg (givC d l g)] u fun e w' => e = .returned (.int .i64 1) ∧ Below u.heap.size u w' := fun u hu => by
    have hlow := (Below.refl u.heap.size u).alloc (Nat.le_refl _) (.cells (givC d l g) 31)
    have h1 := no_made ((h.below hu).below hlow)
    obtain ⟨u1, hu1⟩ : ∃ u1, u1 = u.alloc (.cells (givC d l g) 31) := ⟨_, rfl⟩
    rw [← hu1] at hlow h1
    have HU := Lib.hid hu1.symm
    have Hlow := Lib.hid hlow
    clear hlow hu1 hu h
    go_enter Tryd.func44, Tryd.ntmps44
    go_upto_region 1 with (fail)
    rw [HU.out]
    go_wp2_with (go_at_call 46; refine h1.mono ?_; rintro e w1 ⟨rfl, m, rfl⟩)
    go_ret
    exact ⟨rfl, Hlow.out.trans ⟨rfl, rfl, rfl, Nat.le_refl _, fun _ _ => rfl⟩⟩
  have hbox := Go.heap_alloc_new w (.cells (givC d l g) 31)
  have k1 : Below w.heap.size w (w.alloc (.cells (givC d l g) 31)) := (Below.refl _ _).alloc (Nat.le_refl _) _
  obtain ⟨W, hW⟩ : ∃ W, W = w.alloc (.cells (givC d l g) 31) := ⟨_, rfl⟩
  rw [← hW] at hbox k1
  have eg := loadGv_eq hbox
  have hR1 := hR W k1
  have HW := Lib.hid hW.symm
  have K1 := Lib.hid k1
  clear hR hW k1 hbox h
  go_enter Tryd.func22, Tryd.ntmps22
  go_upto_region 1 with (fail)
  rw [HW.out]
  go_wp2_with (go_at_call 44; refine hR1.mono ?_; rintro e w2 ⟨rfl, low2⟩)
  go_ret
  exact ⟨rfl, K1.out.trans (low2.mono K1.out.size)⟩
set_option maxHeartbeats 1000000 in
theorem no_remove {w : World} {v : Value} (h : NoG w v) (hs : List Int) (n : Int) : Calls Tryd.prog 23 #[v, .agg (hsC hs), .int .i64 n] w fun e w' => e = .returned (.int .i64 1) ∧ Below w.heap.size w w' := by
  have hlow := (Below.refl w.heap.size w).alloc (Nat.le_refl _) (.cells (hsC hs) 25)
  have h1 := no_made (h.below hlow)
  obtain ⟨w1, hw1⟩ : ∃ w1, w1 = w.alloc (.cells (hsC hs) 25) := ⟨_, rfl⟩
  rw [← hw1] at hlow h1
  have Hw1 := Lib.hid hw1.symm
  have Hlow := Lib.hid hlow
  clear h hw1 hlow
  go_enter Tryd.func23, Tryd.ntmps23
  go_upto_region 1 with (fail)
  rw [Hw1.out]
  go_wp2_with (go_at_call 46; refine h1.mono ?_; rintro e w1 ⟨rfl, m, rfl⟩)
  go_ret
  exact ⟨rfl, Hlow.out.trans ⟨rfl, rfl, rfl, Nat.le_refl _, fun _ _ => rfl⟩⟩
end Go.Proofs.YtnjeppmpnaemlaaDoor.Grf
