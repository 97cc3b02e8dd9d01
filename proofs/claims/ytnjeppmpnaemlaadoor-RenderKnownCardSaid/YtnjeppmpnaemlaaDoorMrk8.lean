/- DERIVED. Texts of ours, merged: XGrfFormed XGrfRefu XGrfClone. -/
import Derived.Test.YtnjeppmpnaemlaaDoorMrk7
import Derived.Test.YtnjeppmpnaemlaaDoorShelf
/- DERIVED. formed. -/
set_option maxRecDepth 100000
namespace Go.Proofs.YtnjeppmpnaemlaaDoor.Grf
open Go.RowKit Str Go.Maps
attribute [local go_sem ↓ high] loadAtVx loadAtHs loadAtGv neVx_of eqVx_of
/-- how many different ones are among the first k. -/
def seenN (l : List Vx) : Nat → Nat
  | 0 => 0
  | k + 1 => seenN l k + (match l[k]? with | some x => if x ∈ l.take k then 0 else 1 | none => 0)
theorem seen_le (l : List Vx) : ∀ k, seenN l k ≤ k := by
  intro k
  induction k with
  | zero => exact Nat.le_refl _
  | succ k ih => unfold seenN; split <;> (try split) <;> omega
theorem seen_nodup (l : List Vx) : ∀ k, k ≤ l.length → (seenN l k = k ↔ (l.take k).Nodup) := by
  intro k
  induction k with
  | zero => intro _; simp [seenN]
  | succ k ih =>
    intro hk
    have h1 := seen_le l k
    have hx : l[k]? = some l[k] := List.getElem?_eq_getElem (by omega)
    rw [List.take_add_one, hx]
    unfold seenN
    rw [hx]
    simp only [Option.toList_some]
    rw [List.nodup_append]
    have ih' := ih (by omega)
    by_cases hm : l[k] ∈ l.take k
    · rw [if_pos hm]
      constructor
      · intro e; omega
      · rintro ⟨_, _, h⟩
        exact absurd rfl (h _ hm _ (by simp))
    · rw [if_neg hm]
      constructor
      · intro e
        refine ⟨ih'.1 (by omega), by simp, ?_⟩
        intro a ha b hb e2
        rw [List.mem_singleton] at hb
        subst hb; subst e2
        exact hm ha
      · rintro ⟨h, _⟩
        have := ih'.2 h
        omega
/-- may there be a graph that it can be added to? -/
def formB (d : PD) : Bool := !(decide (d.first < 0) || decide (d.up = fin) || decide (d.down = root)) && d.gone.all isL && decide (d.gone.Nodup)
/-- the set of the first k. -/
def SetOf (w : World) (b : Nat) (l : List Vx) (k : Nat) : Prop := MapF 27 w b (seenN l k) (fun x => if x ∈ l.take k then some (.agg #[]) else none)
theorem SetOf.next {w : World} {b : Nat} {l : List Vx} {k : Nat} {x : Vx} (h : SetOf w b l k) (hx : l[k]? = some x) (hn : l.length ≤ 100000) :
    ∃ w', (Instr.mapUpdate 148 (.map (some b)) (.agg x.c) (.agg #[])).run Tryd.prog w = .ok () w' ∧ SetOf w' b l (k + 1) ∧ Chg [b] w w' := by
  have hk : k < l.length := (List.getElem?_eq_some_iff.1 hx).1
  obtain ⟨w', h1, h2, h3⟩ := MapF.put kbV Tryd.underlying148 h (by have := seen_le l k; omega) x (val := .agg #[]) (by unfold ElV; simp)
  refine ⟨w', h1, ?_, h3⟩
  unfold SetOf
  have e1 : seenN l (k + 1) = if ((fun x => if x ∈ l.take k then some (Value.agg #[]) else none) x).isSome then seenN l k else seenN l k + 1 := by
    rw [show seenN l (k + 1) = seenN l k + (match l[k]? with | some x => if x ∈ l.take k then 0 else 1 | none => 0) from rfl, hx]
    by_cases hm : x ∈ l.take k
    · simp [hm]
    · simp [hm]
  have e2 : (fun y => if y ∈ l.take (k + 1) then some (Value.agg #[]) else none) = upd1 (fun x => if x ∈ l.take k then some (Value.agg #[]) else none) x (some (.agg #[])) := by
    funext y
    rw [List.take_add_one, hx]
    unfold upd1
    by_cases hy : y = x
    · subst hy; simp
    · simp [hy]
  rw [e1, e2]
  exact h2
set_option maxHeartbeats 4000000 in
theorem formed_any (d : PD) (lnv gnv : Value) (w : World) (hL : Laid w) (hl : RdV w gnv d.gone) (hn : d.gone.length ≤ 100000) :
    Calls Tryd.prog 69 #[.agg (givC d lnv gnv)] w fun e w' => e = .returned (.bool (formB d)) ∧ Below w.heap.size w w' := by
  have hbox := Go.heap_alloc_new w (.cells (givC d lnv gnv) 31)
  have k2 : Below w.heap.size w (w.alloc (.cells (givC d lnv gnv) 31)) := (Below.refl _ _).alloc (Nat.le_refl _) _
  obtain ⟨W, hW⟩ : ∃ W, W = w.alloc (.cells (givC d lnv gnv) 31) := ⟨_, rfl⟩
  rw [← hW] at hbox k2
  have HW := Lib.hid hW.symm
  have K2 := Lib.hid k2
  have hLW : Laid W := hL.below k2 (Nat.le_refl _)
  have hlW : RdV W gnv d.gone := hl.below k2
  obtain ⟨bx, hbx⟩ : ∃ bx, bx = w.heap.size := ⟨_, rfl⟩
  rw [← hbx] at hbox
  have Hbx := Lib.hid hbx
  have hG : GRow W bx d lnv gnv := hbox
  have c33 := hG.first
  have eu := loadVx_eq hG.up
  have ed := loadVx_eq hG.down
  have er := loadVx_eq hLW.r
  have ee := loadVx_eq hLW.e
  have qu := run_eqVx d.up fin W
  have qd := run_eqVx d.down root W
  have HGR := Lib.hid hG
  have HLW := Lib.hid hLW
  have HlW := Lib.hid hlW
  have HF : Hid (formB d = (!(decide (d.first < 0) || decide (d.up = fin) || decide (d.down = root)) && d.gone.all isL && decide (d.gone.Nodup))) := rfl
  clear hbox k2 hW hL hl hbx hG hLW hlW
  by_cases hf : d.first < 0
  · have HR : Hid (formB d = false) := by show _ = _; rw [HF.out]; simp [hf]
    rw [HR.out]
    go_enter Tryd.func69, Tryd.ntmps69
    go_upto_region 1 with (fail)
    rw [HW.out, ← Hbx.out]
    go_wp2
    go_ret
    exact ⟨rfl, K2.out⟩
  · by_cases hu : d.up = fin
    · have HR : Hid (formB d = false) := by show _ = _; rw [HF.out]; simp [hu]
      rw [HR.out]
      rw [show decide (d.up = fin) = true from decide_eq_true hu] at qu
      clear hu
      go_enter Tryd.func69, Tryd.ntmps69
      go_upto_region 1 with (fail)
      rw [HW.out, ← Hbx.out]
      go_wp2
      go_ret
      exact ⟨rfl, K2.out⟩
    · by_cases hd : d.down = root
      · have HR : Hid (formB d = false) := by show _ = _; rw [HF.out]; simp [hd]
        rw [HR.out]
        rw [show decide (d.up = fin) = false from decide_eq_false hu] at qu
        rw [show decide (d.down = root) = true from decide_eq_true hd] at qd
        clear hu hd
        go_enter Tryd.func69, Tryd.ntmps69
        go_upto_region 1 with (fail)
        rw [HW.out, ← Hbx.out]
        go_wp2
        go_ret
        exact ⟨rfl, K2.out⟩
      · have HR : Hid (formB d = (d.gone.all isL && decide (d.gone.Nodup))) := by show _ = _; rw [HF.out]; simp [hf, hu, hd]
        rw [HR.out]
        rw [show decide (d.up = fin) = false from decide_eq_false hu] at qu
        rw [show decide (d.down = root) = false from decide_eq_false hd] at qd
        clear hu hd HR HF
        obtain ⟨l, hlL⟩ : ∃ l, l = d.gone := ⟨_, rfl⟩
        rw [← hlL]
        have hmm := @run_makeMap Tryd.prog
        go_enter Tryd.func69, Tryd.ntmps69
        go_upto_region 1 with (fail)
        rw [HW.out, ← Hbx.out]
        go_upto_region 4 with (fail)
        obtain ⟨A, c, egv, hc, hr⟩ := HlW.out
        have e101 := HGR.out.gone
        rw [egv] at e101
        rw [← hlL] at hn hc hr e101 egv
        obtain ⟨n, hN⟩ : ∃ n, n = l.length := ⟨_, rfl⟩
        rw [← hN] at hn hc e101 egv
        have HGv := Lib.hid egv
        have HN := Lib.hid hN
        have hlm : Below W.heap.size W (W.alloc (.map #[] 0)) := (Below.refl _ _).alloc (Nat.le_refl _) _
        have hS0 := MapF.made 27 W
        obtain ⟨Wm, hWm⟩ : ∃ Wm, Wm = W.alloc (.map #[] 0) := ⟨_, rfl⟩
        rw [← hWm] at hlm hS0 ⊢
        have HS0 : Hid (SetOf Wm W.heap.size l 0) := by
          show MapF _ _ _ _ _
          have e : (fun x => if x ∈ l.take 0 then some (Value.agg #[]) else none) = fun _ : Vx => (none : Option Value) := by funext x; simp
          rw [e]
          exact hS0
        have HLm := Lib.hid hlm
        have HR := Lib.hid hr
        have em := (hlm.cell (p := ⟨bx, 101, none⟩) (Array.getElem?_eq_some_iff.1 HGR.out).1).trans e101
        clear c33 eu ed er ee qu qd hmm egv hr e101 hN hlm hS0 hWm hlL HlW
        obtain ⟨bm, hbm⟩ : ∃ bm, bm = W.heap.size := ⟨_, rfl⟩
        rw [← hbm] at HS0 ⊢
        have Hbm := Lib.hid hbm
        clear hbm
        go_upto_region 5 with (fail)
        go_loopw [25] (fun i wr => ∃ k : Nat, k ≤ n ∧ i = .int .i64 k ∧ Hid (∀ j x, j < k → l[j]? = some x → isL x = true) ∧ Hid (SetOf wr bm l k) ∧ Hid (Chg [bm] Wm wr)) (fun i _ => n - (intOf i).toNat)
        case atStart => exact ⟨0, Nat.zero_le _, rfl, fun j x h => absurd h (Nat.not_lt_zero _), HS0.out, Chg.refl _ _⟩
        case round =>
          obtain ⟨k, hk, rfl, hI, hS, hC⟩ := hrel
          clear HS0 em
          have hlow : Below W.heap.size W wr := hC.out.below HLm.out HLm.out.size (fun x hx => by rw [List.mem_singleton.1 hx, Hbm.out]; exact Nat.le_refl _)
          by_cases hlt : k < n
          · have hltI : (k : Int) < n := by omega
            have hk0 : 0 ≤ (k : Int) := by omega
            obtain ⟨x, hx⟩ : ∃ x, l[k]? = some x := ⟨_, List.getElem?_eq_getElem (by have := HN.out; omega)⟩
            obtain ⟨g, off, rfl, hg, hcell⟩ := HR.out (by have := HN.out; omega)
            have hrg : wr.rangeAt g (off + k * 33) x.c.toList := fun j u hu => (hlow.cell (p := ⟨g, off + k * 33 + j, none⟩) hg).trans (hcell k x hx j u hu)
            have ex := loadVx_eq hrg
            have Hx := Lib.hid hx
            have hcap : (n : Int) ≤ c := by omega
            clear hcell hx hrg hg
            go_upto_region 7 with (refine wpList_store_row rfl 27 (.tmp 5) (.tmp 28) rfl wr.heap.size x.c rfl rfl 27 _ (Go.heap_alloc_new wr _) (infoVxA _) (by simp [Vx.c_size]) (Vx.one _) ?_; rw [World.setRow_alloc_new])
            rw [put_none]
            obtain ⟨w4, hw4⟩ : ∃ w4, w4 = wr.alloc (.cells x.c 27) := ⟨_, rfl⟩
            have hr4 : Below wr.heap.size wr w4 := by rw [hw4]; exact (Below.refl _ _).alloc (Nat.le_refl _) _
            have hb4 : w4.heap[wr.heap.size]? = some (.cells x.c 27 (0, 0)) := by rw [hw4]; exact Go.heap_alloc_new _ _
            rw [← hw4]
            have ex4 := box_vx hb4
            have hC1 := isLine_any x w4 (HLW.out.below (hlow.trans (hr4.mono hlow.size)) (Nat.le_refl _))
            have HX8 : Hid (∀ w8, Below w4.heap.size w4 w8 → (loadVx (ptr wr.heap.size)).run Tryd.prog w8 = .ok (.agg x.c) w8) := fun w8 h8 => box_vx (at_below hb4 h8)
            have HN8 : Hid (∀ w8, Below w4.heap.size w4 w8 → ∃ w', (Instr.mapUpdate 148 (.map (some bm)) (.agg x.c) (.agg #[])).run Tryd.prog w8 = .ok () w' ∧ SetOf w' bm l (k + 1) ∧ Chg [bm] w8 w') := fun w8 h8 => by
              have h48 := hr4.trans (h8.mono hr4.size)
              exact SetOf.next (hS.out.stay (h48.block _ hS.out.lt)) Hx.out (by have := HN.out; omega)
            have HC4 : Hid (Chg [bm] Wm w4) := hC.out.trans (Chg.of_below hr4)
            have HB4 : Hid (Below w.heap.size w w4) := K2.out.trans ((hlow.trans (hr4.mono hlow.size)).mono K2.out.size)
            have hwk : wrap64 ((k : Int) + 1) = ((k + 1 : Nat) : Int) := by unfold wrap64; omega
            clear ex hw4 hb4 hr4 hlow hS hC
            generalize wr.heap.size = b6 at *
            cases hq : isL x with
            | false =>
              have HE : Hid (l.all isL = false) := List.all_eq_false.2 ⟨x, List.mem_of_getElem? Hx.out, by rw [hq]; decide⟩
              rw [hq] at hC1
              clear hq
              go_wp2_with (go_at_call 94; refine hC1.mono ?_; rintro e w8 ⟨rfl, low8⟩)
              go_ret
              exact ⟨by rw [HE.out]; rfl, HB4.out.trans (low8.mono HB4.out.size)⟩
            | true =>
              have HI' : Hid (∀ j y, j < k + 1 → l[j]? = some y → isL y = true) := fun j y hj hy => by
                rcases Nat.lt_or_ge j k with h | h
                · exact hI.out j y h hy
                · obtain rfl : j = k := by omega
                  rw [Hx.out] at hy
                  obtain rfl := Option.some.inj hy
                  exact hq
              rw [hq] at hC1
              clear hq hI
              go_wp2_with (go_at_call 94; refine hC1.mono ?_; rintro e w8 ⟨rfl, low8⟩; have ex8 := HX8.out w8 low8; obtain ⟨w9, hup, hS9, hC9⟩ := HN8.out w8 low8; have HS9 := Lib.hid hS9; clear hS9)
              refine ⟨⟨k + 1, hlt, rfl, HI'.out, HS9.out, (HC4.out.trans (Chg.of_below low8)).trans hC9⟩, ?_⟩
              simp only [intOf]
              omega
          · have hltI : ¬ (k : Int) < n := by omega
            obtain rfl : k = n := by omega
            have HE : Hid (l.all isL = true) := by
              show _ = _
              rw [List.all_eq_true]
              intro x hx
              obtain ⟨j, hj, rfl⟩ := List.getElem_of_mem hx
              exact hI.out j _ (by have := HN.out; omega) (List.getElem?_eq_getElem hj)
            have HD : Hid (seenN l k = k ↔ l.Nodup) := by
              have h := seen_nodup l k (by have := HN.out; omega)
              rw [List.take_of_length_le (by have := HN.out; omega)] at h
              exact h
            have hlen := fun ty => MapF.len (t := 148) Tryd.underlying148 hS.out ty
            have em := HGR.out.gone
            have em : wr.cell? ⟨bx, 101, none⟩ = some (.slice A k c) := (hlow.cell (p := ⟨bx, 101, none⟩) (Array.getElem?_eq_some_iff.1 HGR.out).1).trans (em.trans (by rw [HGv.out]))
            have HB4 : Hid (Below w.heap.size w wr) := K2.out.trans (hlow.mono K2.out.size)
            clear hlow hI hS hC
            by_cases hd : seenN l k = k
            · have hdI : ((seenN l k : Nat) : Int) = k := by omega
              rw [hd] at hlen
              have HT : Hid (decide l.Nodup = true) := decide_eq_true (HD.out.1 hd)
              clear hd hdI
              go_wp2
              go_ret
              exact ⟨by rw [HE.out, HT.out]; rfl, HB4.out⟩
            · have hdI : ¬ ((seenN l k : Nat) : Int) = k := by omega
              have HT : Hid (decide l.Nodup = false) := decide_eq_false (fun h => hd (HD.out.2 h))
              have HQ : Hid ((((seenN l k : Nat) : Int) == (k : Int)) = false) := by show _ = _; rw [beq_eq_false_iff_ne]; exact hdI
              clear hd
              go_wp2
              go_ret
              exact ⟨by rw [HE.out, HT.out]; show Ending.returned (Value.bool (((seenN l k : Nat) : Int) == (k : Int))) = _; rw [HQ.out]; rfl, HB4.out⟩
end Go.Proofs.YtnjeppmpnaemlaaDoor.Grf
/- DERIVED. refuses. Written by mkrefu.py. -/
set_option maxRecDepth 100000
namespace Go.Proofs.YtnjeppmpnaemlaaDoor.Grf
open Go.RowKit Str Go.Maps
attribute [local go_sem ↓ high] loadAtVx loadAtHs loadAtGv neVx_of eqVx_of
/-- two vertices as a slice. -/
noncomputable def twoVx (p : Array (Nat × Value)) : Sem Value := Instr.buildSlice 29 2 p
theorem twoVx_of (p : Array (Nat × Value)) : Instr.buildSlice 29 2 p = twoVx p := rfl
def zV : Array Value := ((List.replicate 32 (Value.int .u8 0)) ++ [Value.int .i64 0]).toArray
theorem info_vx : (Tryd.prog.info? 27).map (fun i => (i.size, i.zero.map (·.cells))) = some (33, some zV) := by kernel_rfl
theorem fill_two (f g : Nat → Value) (n m : Int) : Instr.fill (fun i => some (i * 33, 33)) ((Array.range (2 * 33)).map (fun i => zV[i % zV.size]!)) [(0, .agg (((List.range 32).map f) ++ [Value.int .i64 n]).toArray), (1, .agg (((List.range 32).map g) ++ [Value.int .i64 m]).toArray)] = some ((((List.range 32).map f) ++ [Value.int .i64 n]) ++ (((List.range 32).map g) ++ [Value.int .i64 m])).toArray := by kernel_rfl
theorem vx_fun (v : Vx) : ∃ f : Nat → Value, v.c = (((List.range 32).map f) ++ [Value.int .i64 v.n]).toArray := by
  obtain ⟨f, hf⟩ := hs_fun v.len
  exact ⟨f, by unfold Vx.c; rw [hf]⟩
theorem run_twoVx (a b : Vx) (w : World) : (twoVx #[(0, .agg a.c), (1, .agg b.c)]).run Tryd.prog w = .ok (.slice (some ⟨w.heap.size, 0, none⟩) 2 2) (w.alloc (.cells (a.c.toList ++ b.c.toList).toArray 27)) := by
  have hi := info_vx
  cases hie : Tryd.prog.info? 27 with
  | none => rw [hie] at hi; cases hi
  | some ie =>
    rw [hie] at hi
    simp only [Option.map_some, Option.some.injEq, Prod.mk.injEq] at hi
    obtain ⟨h33, hz0⟩ := hi
    cases hz : ie.zero with
    | none => rw [hz] at hz0; cases hz0
    | some z =>
      rw [hz] at hz0
      have hzc : z.cells = zV := Option.some.inj hz0
      unfold twoVx
      refine run_buildSlice w 29 27 2 _ _ ie z Tryd.underlying29 hie hz (by rw [h33]; omega) (by rw [h33]; omega) ?_
      rw [h33, hzc]
      obtain ⟨f, hf⟩ := vx_fun a
      obtain ⟨g, hg⟩ := vx_fun b
      rw [hf, hg]
      simpa using fill_two f g a.n b.n
attribute [irreducible] twoVx
attribute [local go_sem ↓ high] twoVx_of
theorem rd_two (a b : Vx) (w : World) : RdV (w.alloc (.cells (a.c.toList ++ b.c.toList).toArray 27)) (.slice (some ⟨w.heap.size, 0, none⟩) 2 2) [a, b] := by
  refine ⟨_, 2, rfl, Nat.le_refl _, fun _ => ⟨w.heap.size, 0, rfl, by rw [World.size_alloc]; omega, ?_⟩⟩
  have hn := Go.heap_alloc_new w (.cells (a.c.toList ++ b.c.toList).toArray 27)
  intro j x hx
  match j, hx with
  | 0, hx => obtain rfl := Option.some.inj hx; exact row_range hn [] _ b.c.toList (by simp) 0 rfl
  | 1, hx => obtain rfl := Option.some.inj hx; exact row_range hn a.c.toList _ [] (by simp) 33 (by simp [Vx.c_size])
  | j + 2, hx => simp at hx
/-- what Add answers. -/
noncomputable def refB (S : GS) (d : PD) : Int :=
  if meetsB S d then 6 else if !formB d then 4 else if !([d.up, d.down].all fun x => (lineB S x).isSome) then 10 else if !(d.gone.all fun x => (lineB S x).isSome) then 10 else if !BefB S d.up d.down then 4 else 0
set_option maxHeartbeats 8000000 in
theorem refuses_any (S : GS) (us : Nat → Int) (gn : Vx → Int) (hok : GOk S) (hsz : ∀ p ∈ S.ps, p.d.lines.length ≤ 100000) (d : PD) (lnv gnv : Value) (w : World) (h : GM w S us gn) (hL : Laid w) (hl : RdS w lnv d.lines) (hn : d.lines.length ≤ 100000) (hg : RdV w gnv d.gone) (hgn : d.gone.length ≤ 100000) :
    Calls Tryd.prog 44 #[ptr S.g, .agg (givC d lnv gnv)] w fun e w' => e = .returned (.int .i64 (refB S d)) ∧ Below w.heap.size w w' := by
  have hbox := Go.heap_alloc_new w (.cells (givC d lnv gnv) 31)
  have k2 : Below w.heap.size w (w.alloc (.cells (givC d lnv gnv) 31)) := (Below.refl _ _).alloc (Nat.le_refl _) _
  obtain ⟨W, hW⟩ : ∃ W, W = w.alloc (.cells (givC d lnv gnv) 31) := ⟨_, rfl⟩
  rw [← hW] at hbox k2
  have HW := Lib.hid hW.symm
  have K2 := Lib.hid k2
  obtain ⟨bx, hbx⟩ : ∃ bx, bx = w.heap.size := ⟨_, rfl⟩
  rw [← hbx] at hbox
  have Hbx := Lib.hid hbx
  have hG : GRow W bx d lnv gnv := hbox
  have HGR : Hid (∀ u, Below W.heap.size W u → GRow u bx d lnv gnv) := fun u hu => at_below hbox hu
  have hgW := h.below k2
  have hLW : Laid W := hL.below k2 (Nat.le_refl _)
  have HM : Hid (∀ u, Below W.heap.size W u → Calls Tryd.prog 46 #[ptr S.g] u fun e w' => e = .returned (.bool true) ∧ Below u.heap.size u w') := fun u hu => (made_yes S.g u (hgW.below hu).g0).mono fun e w' h => by
    obtain ⟨rfl, m, rfl⟩ := h
    exact ⟨rfl, rfl, rfl, rfl, Nat.le_refl _, fun _ _ => rfl⟩
  have HMe : Hid (∀ u, Below W.heap.size W u → Calls Tryd.prog 68 #[ptr S.g, .agg (givC d lnv gnv)] u fun e w' => e = .returned (.bool (meetsB S d)) ∧ Below u.heap.size u w') := fun u hu => meets_any S us gn d lnv gnv u (hgW.below hu) (hLW.below hu (Nat.le_refl _)) ((hl.below k2).below hu) hn
  have HFo : Hid (∀ u, Below W.heap.size W u → Calls Tryd.prog 69 #[.agg (givC d lnv gnv)] u fun e w' => e = .returned (.bool (formB d)) ∧ Below u.heap.size u w') := fun u hu => formed_any d lnv gnv u (hLW.below hu (Nat.le_refl _)) ((hg.below k2).below hu) hgn
  have HH2 : Hid (∀ u, Below W.heap.size W u → Calls Tryd.prog 70 #[ptr S.g, .slice (some ⟨u.heap.size, 0, none⟩) 2 2] (u.alloc (.cells (d.up.c.toList ++ d.down.c.toList).toArray 27)) fun e w' => e = .returned (.bool ([d.up, d.down].all fun x => (lineB S x).isSome)) ∧ Below u.heap.size u w') := fun u hu => by
    have ha : Below u.heap.size u (u.alloc (.cells (d.up.c.toList ++ d.down.c.toList).toArray 27)) := (Below.refl _ _).alloc (Nat.le_refl _) _
    exact (hasAll_any S us gn _ [d.up, d.down] _ (hgW.below (hu.trans (ha.mono hu.size))) (rd_two _ _ u) (by simp)).mono fun e w' h => ⟨h.1, ha.trans (h.2.mono ha.size)⟩
  have HHg : Hid (∀ u, Below W.heap.size W u → Calls Tryd.prog 70 #[ptr S.g, gnv] u fun e w' => e = .returned (.bool (d.gone.all fun x => (lineB S x).isSome)) ∧ Below u.heap.size u w') := fun u hu => hasAll_any S us gn gnv d.gone u (hgW.below hu) ((hg.below k2).below hu) hgn
  have HB : Hid (∀ u, Below W.heap.size W u → Calls Tryd.prog 18 #[ptr S.g, .agg d.up.c, .agg d.down.c] u fun e w' => e = .returned (.bool (BefB S d.up d.down)) ∧ Below u.heap.size u w') := fun u hu => Before_any S us gn hok hsz d.up d.down u (hgW.below hu)
  have HR : Hid (refB S d = if meetsB S d then 6 else if !formB d then 4 else if !([d.up, d.down].all fun x => (lineB S x).isSome) then 10 else if !(d.gone.all fun x => (lineB S x).isSome) then 10 else if !BefB S d.up d.down then 4 else 0) := rfl
  have htw := run_twoVx d.up d.down
  rw [HR.out]
  clear HR hbox k2 hW h hL hl hg hbx hG hgW hLW hok hsz
  generalize meetsB S d = m1 at *
  generalize formB d = m2 at *
  generalize ([d.up, d.down].all fun x => (lineB S x).isSome) = m3 at *
  generalize (d.gone.all fun x => (lineB S x).isSome) = m4 at *
  generalize BefB S d.up d.down = m5 at *
  cases m1
  case true =>
    go_enter Tryd.func44, Tryd.ntmps44
    go_upto_region 1 with (fail)
    rw [HW.out, ← Hbx.out]
    go_wp2_with (first
      | (go_at_call 46; refine (HM.out _ (Below.refl _ _)).mono ?_; rintro e w1 ⟨rfl, low1⟩; have eg1 := loadGv_eq (HGR.out w1 low1))
      | (go_at_call 68; refine (HMe.out w1 low1).mono ?_; rintro e w2 ⟨rfl, low2⟩; have low2 := low1.trans (low2.mono low1.size); have eg2 := loadGv_eq (HGR.out w2 low2))
      | (go_at_call 69; refine (HFo.out w2 low2).mono ?_; rintro e w3 ⟨rfl, low3⟩; have low3 := low2.trans (low3.mono low2.size); have eu3 := loadVx_eq (HGR.out w3 low3).up; have ed3 := loadVx_eq (HGR.out w3 low3).down; have htw3 := htw w3)
      | (go_at_call_of 70 gnv; refine (HHg.out w4 low4).mono ?_; rintro e w5 ⟨rfl, low5⟩; have low5 := low4.trans (low5.mono low4.size); have eu5 := loadVx_eq (HGR.out w5 low5).up; have ed5 := loadVx_eq (HGR.out w5 low5).down)
      | (go_at_call 70; refine (HH2.out w3 low3).mono ?_; rintro e w4 ⟨rfl, low4⟩; have low4 := low3.trans (low4.mono low3.size); have eg4 := (HGR.out w4 low4).gone)
      | (go_at_call 18; refine (HB.out w5 low5).mono ?_; rintro e w6 ⟨rfl, low6⟩; have low6 := low5.trans (low6.mono low5.size)))
    go_ret
    exact ⟨rfl, K2.out.trans (low2.mono K2.out.size)⟩
  case false =>
  cases m2
  case false =>
    go_enter Tryd.func44, Tryd.ntmps44
    go_upto_region 1 with (fail)
    rw [HW.out, ← Hbx.out]
    go_wp2_with (first
      | (go_at_call 46; refine (HM.out _ (Below.refl _ _)).mono ?_; rintro e w1 ⟨rfl, low1⟩; have eg1 := loadGv_eq (HGR.out w1 low1))
      | (go_at_call 68; refine (HMe.out w1 low1).mono ?_; rintro e w2 ⟨rfl, low2⟩; have low2 := low1.trans (low2.mono low1.size); have eg2 := loadGv_eq (HGR.out w2 low2))
      | (go_at_call 69; refine (HFo.out w2 low2).mono ?_; rintro e w3 ⟨rfl, low3⟩; have low3 := low2.trans (low3.mono low2.size); have eu3 := loadVx_eq (HGR.out w3 low3).up; have ed3 := loadVx_eq (HGR.out w3 low3).down; have htw3 := htw w3)
      | (go_at_call_of 70 gnv; refine (HHg.out w4 low4).mono ?_; rintro e w5 ⟨rfl, low5⟩; have low5 := low4.trans (low5.mono low4.size); have eu5 := loadVx_eq (HGR.out w5 low5).up; have ed5 := loadVx_eq (HGR.out w5 low5).down)
      | (go_at_call 70; refine (HH2.out w3 low3).mono ?_; rintro e w4 ⟨rfl, low4⟩; have low4 := low3.trans (low4.mono low3.size); have eg4 := (HGR.out w4 low4).gone)
      | (go_at_call 18; refine (HB.out w5 low5).mono ?_; rintro e w6 ⟨rfl, low6⟩; have low6 := low5.trans (low6.mono low5.size)))
    go_ret
    exact ⟨rfl, K2.out.trans (low3.mono K2.out.size)⟩
  case true =>
  cases m3
  case false =>
    go_enter Tryd.func44, Tryd.ntmps44
    go_upto_region 1 with (fail)
    rw [HW.out, ← Hbx.out]
    go_wp2_with (first
      | (go_at_call 46; refine (HM.out _ (Below.refl _ _)).mono ?_; rintro e w1 ⟨rfl, low1⟩; have eg1 := loadGv_eq (HGR.out w1 low1))
      | (go_at_call 68; refine (HMe.out w1 low1).mono ?_; rintro e w2 ⟨rfl, low2⟩; have low2 := low1.trans (low2.mono low1.size); have eg2 := loadGv_eq (HGR.out w2 low2))
      | (go_at_call 69; refine (HFo.out w2 low2).mono ?_; rintro e w3 ⟨rfl, low3⟩; have low3 := low2.trans (low3.mono low2.size); have eu3 := loadVx_eq (HGR.out w3 low3).up; have ed3 := loadVx_eq (HGR.out w3 low3).down; have htw3 := htw w3)
      | (go_at_call_of 70 gnv; refine (HHg.out w4 low4).mono ?_; rintro e w5 ⟨rfl, low5⟩; have low5 := low4.trans (low5.mono low4.size); have eu5 := loadVx_eq (HGR.out w5 low5).up; have ed5 := loadVx_eq (HGR.out w5 low5).down)
      | (go_at_call 70; refine (HH2.out w3 low3).mono ?_; rintro e w4 ⟨rfl, low4⟩; have low4 := low3.trans (low4.mono low3.size); have eg4 := (HGR.out w4 low4).gone)
      | (go_at_call 18; refine (HB.out w5 low5).mono ?_; rintro e w6 ⟨rfl, low6⟩; have low6 := low5.trans (low6.mono low5.size)))
    go_ret
    exact ⟨rfl, K2.out.trans (low4.mono K2.out.size)⟩
  case true =>
  cases m4
  case false =>
    go_enter Tryd.func44, Tryd.ntmps44
    go_upto_region 1 with (fail)
    rw [HW.out, ← Hbx.out]
    go_wp2_with (first
      | (go_at_call 46; refine (HM.out _ (Below.refl _ _)).mono ?_; rintro e w1 ⟨rfl, low1⟩; have eg1 := loadGv_eq (HGR.out w1 low1))
      | (go_at_call 68; refine (HMe.out w1 low1).mono ?_; rintro e w2 ⟨rfl, low2⟩; have low2 := low1.trans (low2.mono low1.size); have eg2 := loadGv_eq (HGR.out w2 low2))
      | (go_at_call 69; refine (HFo.out w2 low2).mono ?_; rintro e w3 ⟨rfl, low3⟩; have low3 := low2.trans (low3.mono low2.size); have eu3 := loadVx_eq (HGR.out w3 low3).up; have ed3 := loadVx_eq (HGR.out w3 low3).down; have htw3 := htw w3)
      | (go_at_call_of 70 gnv; refine (HHg.out w4 low4).mono ?_; rintro e w5 ⟨rfl, low5⟩; have low5 := low4.trans (low5.mono low4.size); have eu5 := loadVx_eq (HGR.out w5 low5).up; have ed5 := loadVx_eq (HGR.out w5 low5).down)
      | (go_at_call 70; refine (HH2.out w3 low3).mono ?_; rintro e w4 ⟨rfl, low4⟩; have low4 := low3.trans (low4.mono low3.size); have eg4 := (HGR.out w4 low4).gone)
      | (go_at_call 18; refine (HB.out w5 low5).mono ?_; rintro e w6 ⟨rfl, low6⟩; have low6 := low5.trans (low6.mono low5.size)))
    go_ret
    exact ⟨rfl, K2.out.trans (low5.mono K2.out.size)⟩
  case true =>
  cases m5
  case false =>
    go_enter Tryd.func44, Tryd.ntmps44
    go_upto_region 1 with (fail)
    rw [HW.out, ← Hbx.out]
    go_wp2_with (first
      | (go_at_call 46; refine (HM.out _ (Below.refl _ _)).mono ?_; rintro e w1 ⟨rfl, low1⟩; have eg1 := loadGv_eq (HGR.out w1 low1))
      | (go_at_call 68; refine (HMe.out w1 low1).mono ?_; rintro e w2 ⟨rfl, low2⟩; have low2 := low1.trans (low2.mono low1.size); have eg2 := loadGv_eq (HGR.out w2 low2))
      | (go_at_call 69; refine (HFo.out w2 low2).mono ?_; rintro e w3 ⟨rfl, low3⟩; have low3 := low2.trans (low3.mono low2.size); have eu3 := loadVx_eq (HGR.out w3 low3).up; have ed3 := loadVx_eq (HGR.out w3 low3).down; have htw3 := htw w3)
      | (go_at_call_of 70 gnv; refine (HHg.out w4 low4).mono ?_; rintro e w5 ⟨rfl, low5⟩; have low5 := low4.trans (low5.mono low4.size); have eu5 := loadVx_eq (HGR.out w5 low5).up; have ed5 := loadVx_eq (HGR.out w5 low5).down)
      | (go_at_call 70; refine (HH2.out w3 low3).mono ?_; rintro e w4 ⟨rfl, low4⟩; have low4 := low3.trans (low4.mono low3.size); have eg4 := (HGR.out w4 low4).gone)
      | (go_at_call 18; refine (HB.out w5 low5).mono ?_; rintro e w6 ⟨rfl, low6⟩; have low6 := low5.trans (low6.mono low5.size)))
    go_ret
    exact ⟨rfl, K2.out.trans (low6.mono K2.out.size)⟩
  case true =>
    go_enter Tryd.func44, Tryd.ntmps44
    go_upto_region 1 with (fail)
    rw [HW.out, ← Hbx.out]
    go_wp2_with (first
      | (go_at_call 46; refine (HM.out _ (Below.refl _ _)).mono ?_; rintro e w1 ⟨rfl, low1⟩; have eg1 := loadGv_eq (HGR.out w1 low1))
      | (go_at_call 68; refine (HMe.out w1 low1).mono ?_; rintro e w2 ⟨rfl, low2⟩; have low2 := low1.trans (low2.mono low1.size); have eg2 := loadGv_eq (HGR.out w2 low2))
      | (go_at_call 69; refine (HFo.out w2 low2).mono ?_; rintro e w3 ⟨rfl, low3⟩; have low3 := low2.trans (low3.mono low2.size); have eu3 := loadVx_eq (HGR.out w3 low3).up; have ed3 := loadVx_eq (HGR.out w3 low3).down; have htw3 := htw w3)
      | (go_at_call_of 70 gnv; refine (HHg.out w4 low4).mono ?_; rintro e w5 ⟨rfl, low5⟩; have low5 := low4.trans (low5.mono low4.size); have eu5 := loadVx_eq (HGR.out w5 low5).up; have ed5 := loadVx_eq (HGR.out w5 low5).down)
      | (go_at_call 70; refine (HH2.out w3 low3).mono ?_; rintro e w4 ⟨rfl, low4⟩; have low4 := low3.trans (low4.mono low3.size); have eg4 := (HGR.out w4 low4).gone)
      | (go_at_call 18; refine (HB.out w5 low5).mono ?_; rintro e w6 ⟨rfl, low6⟩; have low6 := low5.trans (low6.mono low5.size)))
    go_ret
    exact ⟨rfl, K2.out.trans (low6.mono K2.out.size)⟩
end Go.Proofs.YtnjeppmpnaemlaaDoor.Grf
/- DERIVED. The shelf's Clone at a part's lists; strings.Clone. -/
set_option maxRecDepth 100000
namespace Go.Proofs.YtnjeppmpnaemlaaDoor.Grf
open Go.RowKit Go.Lib Str Go.Maps
/-- what is of the call's own is read. -/
theorem OwnS.rds {base : Nat} {l : List ByteArray} {v : Value} {w : World} (h : OwnS base l v w) : RdS w v l := by
  rcases h.2 with ⟨rfl, h0⟩ | ⟨g, cap, cur, rfl, hb, hh, hc, _, _, ht⟩
  · exact ⟨none, 0, by rw [h0], by omega, fun h => absurd h (by omega)⟩
  · refine ⟨_, cap, rfl, hc, fun _ => ⟨g, 0, rfl, (Array.getElem?_eq_some_iff.1 hh).1, fun j x hx => ?_⟩⟩
    have hj := (List.getElem?_eq_some_iff.1 hx).1
    have e : (cur.toList.take (l.length * 1))[j]? = some (.string x) := by rw [ht, List.getElem?_map, hx]; rfl
    rw [List.getElem?_take, if_pos (by omega)] at e
    rw [Nat.zero_add, cell_row hh]
    simpa using e
theorem OwnV.rdv {base : Nat} {l : List Vx} {v : Value} {w : World} (h : OwnV base l v w) : RdV w v l := by
  rcases h.2 with ⟨rfl, h0⟩ | ⟨g, cap, cur, rfl, hb, hh, hc, _, _, ht⟩
  · exact ⟨none, 0, by rw [h0], by omega, fun h => absurd h (by omega)⟩
  · refine ⟨_, cap, rfl, hc, fun _ => ⟨g, 0, rfl, (Array.getElem?_eq_some_iff.1 hh).1, fun j x hx k u hu => ?_⟩⟩
    have hj := (List.getElem?_eq_some_iff.1 hx).1
    have hk : k < 33 := by have := (List.getElem?_eq_some_iff.1 hu).1; rwa [Array.length_toList, Vx.c_size] at this
    have e : (cur.toList.take (l.length * 33))[j * 33 + k]? = some u := by rw [ht]; exact flatV_at l j k x u hx hu
    rw [List.getElem?_take, if_pos (by omega)] at e
    rw [Nat.zero_add, cell_row hh]
    simpa using e
theorem clone_str (lnv : Value) (l : List ByteArray) (w : World) (h : RdS w lnv l) (hn : l.length ≤ 100000) :
    Calls Tryd.prog 95 #[lnv] w fun e w' => ∃ v', e = .returned v' ∧ OwnS w.heap.size l v' w' ∧ Below w.heap.size w w' := by
  obtain ⟨A, c, rfl, hc, hr⟩ := h
  cases A with
  | none =>
    have h0 : l = [] := by
      cases l with
      | nil => rfl
      | cons x t => obtain ⟨g, off, e, _⟩ := hr (by simp); cases e
    subst h0
    refine (Tryd.slices_Clone_string_nil 0 c w).mono ?_
    rintro e w' ⟨rfl, rfl⟩
    exact ⟨_, rfl, World.ownsRow_nil _ _ _ _, Below.refl _ _⟩
  | some a =>
    cases l with
    | nil =>
      refine (Tryd.slices_Clone_string_zero a c w).mono ?_
      rintro e w' ⟨v', rfl, h1, _, h2⟩
      exact ⟨v', rfl, h1, h2⟩
    | cons x t =>
      obtain ⟨g, off, e, hg, hcell⟩ := hr (by simp)
      cases e
      refine (Tryd.slices_Clone_string g off (x :: t).length c (x :: t) w (Nat.le_refl _) (by omega) (fun j hj => hcell j _ (by rw [List.getD_eq_getElem?_getD, List.getElem?_eq_getElem hj]; rfl))).mono ?_
      rintro e w' ⟨v', rfl, h1, _, h2⟩
      rw [List.take_length] at h1
      exact ⟨v', rfl, h1, h2⟩
theorem infoVz : (Tryd.prog.info? 27).map (fun i => (i.zero, i.size, i.bytes)) = some (some (.agg zV), 33, 40) := by kernel_rfl
theorem clone_vs (gnv : Value) (l : List Vx) (w : World) (h : RdV w gnv l) (hn : l.length ≤ 100000) (hz : l = [] → ∃ A c, gnv = .slice A 0 c ∧ (A = none ∨ ∃ b off, A = some ⟨b, off, none⟩)) :
    Calls Tryd.prog 96 #[gnv] w fun e w' => ∃ v', e = .returned v' ∧ OwnV w.heap.size l v' w' ∧ Below w.heap.size w w' := by
  obtain ⟨A, c, rfl, hc, hr⟩ := h
  obtain ⟨i0, hi0, hz00, hz10, hz20⟩ := partsK infoVz
  have main : ∀ b off, A = some ⟨b, off, none⟩ → Calls Tryd.prog 96 #[.slice A l.length c] w fun e w' => ∃ v', e = .returned v' ∧ OwnV w.heap.size l v' w' ∧ Below w.heap.size w w' := by
    rintro b off rfl
    refine (AnyE.slices_Clone Tryd.cloneVx i0 (.agg zV) 33 40 hi0 hz00 hz10 hz20 rfl (by decide) Tryd.sizeOf27 b off l.length c (flatV l) w (flatV_len l) (by unfold maxLen; omega) (by omega) (fun j u hu => ?_) (flatV_one l)).mono ?_
    · obtain ⟨i, r, x, h1, rfl, h3⟩ := flatV_cell l j u hu
      obtain ⟨g, off', e, hg, hcell⟩ := hr (by have := (List.getElem?_eq_some_iff.1 h1).1; omega)
      cases e
      rw [← Nat.add_assoc]
      exact hcell i x h1 r u h3
    · rintro e w' ⟨v', rfl, h1, _, h2⟩
      exact ⟨v', rfl, h1, h2⟩
  have nil : A = none → l = [] → Calls Tryd.prog 96 #[.slice A l.length c] w fun e w' => ∃ v', e = .returned v' ∧ OwnV w.heap.size l v' w' ∧ Below w.heap.size w w' := by
    rintro rfl rfl
    refine (AnyE.slices_Clone_nil Tryd.cloneVx 0 c w).mono ?_
    rintro e w' ⟨rfl, rfl⟩
    exact ⟨_, rfl, World.ownsRow_nil _ _ _ _, Below.refl _ _⟩
  cases l with
  | nil =>
    obtain ⟨A', c', e, hA⟩ := hz rfl
    cases e
    rcases hA with hA | ⟨b, off, hA⟩
    · exact nil hA rfl
    · exact main b off hA
  | cons x t =>
    obtain ⟨g, off, e, _⟩ := hr (by simp)
    exact main g off e
theorem sclone_any (s : ByteArray) (w : World) (hlim : s.size ≤ 281474976710656) :
    Calls Tryd.prog 49 #[.string s] w fun e w' => e = .returned (.string s) ∧ Below w.heap.size w w' := by
  have hC := Tryd.stringslite_Clone s w hlim
  go_enter Tryd.func49, Tryd.ntmps49
  go_wp2_with (go_at_call 78; refine hC.mono ?_; rintro e w1 ⟨rfl, low⟩)
  go_ret
  exact ⟨rfl, low⟩
/-- a store of what is there already. -/
theorem below_same {w : World} {g i : Nat} {T : TypeId} {C : Array Value} {v : Value} (h : w.heap[g]? = some (.cells C T (0, 0))) (hv : C[i]? = some v) (B : Nat) : Below B w (w.setCell ⟨g, i, none⟩ v) := by
  have hs : C.setIfInBounds i v = C := by
    apply Array.ext_getElem?
    intro j
    rw [Array.getElem?_setIfInBounds]
    by_cases e : i = j
    · subst e
      rw [if_pos rfl]
      rw [hv, if_pos (Array.getElem?_eq_some_iff.1 hv).1]
    · rw [if_neg e]
  refine ⟨rfl, rfl, rfl, by simp [World.setCell], fun k _ => ?_⟩
  by_cases e : k = g
  · subst e
    rw [heap_setCell_same _ _ _ _ _ _ h, hs, h]
  · exact Below.heap_setCell _ _ _ _ e
end Go.Proofs.YtnjeppmpnaemlaaDoor.Grf
