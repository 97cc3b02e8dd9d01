/- DERIVED. Texts of ours, merged: XRndItems XRndMid. -/
import Derived.Test.YtnjeppmpnaemlaaDoorMrk23
/- DERIVED. render's Items: the items of a graph. -/
set_option maxRecDepth 100000
namespace Go.Proofs.YtnjeppmpnaemlaaDoor.Grf
open Go.RowKit Str Go.Maps
attribute [local go_sem ↓ high] loadAtVx loadAtLn loadAtIt
/-- an item with its two slices. -/
abbrev ItV := It × Value × Value
def flatI (X : List ItV) : List Value := X.flatMap fun x => [x.2.1, .bool x.1.block, x.2.2]
/-- items of the call's own. -/
structure OwnIt (base : Nat) (X : List ItV) (v : Value) (w : World) : Prop where
  row : w.ownsRow base 74 3 v X.length (flatI X)
  each : ∀ x ∈ X, OwnLn base x.1.lines x.2.1 w ∧ OwnZ base x.1.mids x.2.2 w
theorem OwnIt.nil (base : Nat) (w : World) : OwnIt base [] (.slice none 0 0) w := ⟨World.ownsRow_nil _ _ _ _, fun x hx => by cases hx⟩
theorem OwnIt.stays {base : Nat} {X : List ItV} {v : Value} {w w' : World} (h : OwnIt base X v w) (hb : Below w.heap.size w w') : OwnIt base X v w' := ⟨own_stays h.row hb, fun x hx => ⟨own_stays (h.each x hx).1 hb, own_stays (h.each x hx).2 hb⟩⟩
theorem OwnIt.more {base : Nat} {X : List ItV} {v v' lv mv : Value} {x : It} {w w' : World} (h : OwnIt base X v w) (hl : OwnLn base x.lines lv w) (hm : OwnZ base x.mids mv w) (hr : w'.ownsRow base 74 3 v' (X.length + 1) (flatI X ++ [lv, .bool x.block, mv])) (hg : w.grownBy w' v.ownBlock) :
    OwnIt base (X ++ [(x, lv, mv)]) v' w' := by
  refine ⟨?_, fun y hy => ?_⟩
  · rw [List.length_append, List.length_singleton]
    have e : flatI (X ++ [(x, lv, mv)]) = flatI X ++ [lv, .bool x.block, mv] := by simp [flatI]
    rw [e]
    exact hr
  · have hk : ∀ {l : List Ln} {u : Value}, OwnLn base l u w → OwnLn base l u w' := fun ho => own_other ho hg (fun q hq e => own_apart ho h.row (by decide) q hq e)
    have hz : ∀ {l : List Int} {u : Value}, OwnZ base l u w → OwnZ base l u w' := fun ho => own_other ho hg (fun q hq e => own_apart ho h.row (by decide) q hq e)
    rcases List.mem_append.1 hy with hy | hy
    · exact ⟨hk (h.each y hy).1, hz (h.each y hy).2⟩
    · obtain rfl := List.mem_singleton.1 hy
      exact ⟨hk hl, hz hm⟩
/-- a piece of a slice of lines. -/
theorem RdLn.piece {w : World} {g off m c a b : Nat} {l : List Ln} (h : RdLn w (.slice (some ⟨g, off, none⟩) m c) l) (hm : m = l.length) (ha : a ≤ b) (hb : b ≤ m) (h0 : 0 < m) : RdLn w (.slice (some ⟨g, off + a * 35, none⟩) (b - a) (c - a)) ((l.take b).drop a) := by
  obtain ⟨A, c', e, h1, h2⟩ := h
  cases e
  obtain ⟨g', off', eA, hg, hc⟩ := h2 (by omega)
  cases eA
  have hl : ((l.take b).drop a).length = b - a := by rw [List.length_drop, List.length_take]; omega
  refine ⟨_, c - a, by rw [hl], by rw [hl]; omega, fun _ => ⟨g, off + a * 35, rfl, hg, fun j x hx => ?_⟩⟩
  rw [List.getElem?_drop, List.getElem?_take] at hx
  split at hx
  · have := hc (a + j) x hx
    rw [show off + a * 35 + j * 35 = off + (a + j) * 35 by omega]
    exact this
  · cases hx
theorem OwnN.cell {base n c g j x : Nat} {l : List Nat} {w : World} (h : OwnN base l (.slice (some ⟨g, 0, none⟩) n c) w) (hx : l[j]? = some x) : w.cell? ⟨g, j, none⟩ = some (.int .i64 x) := by
  obtain ⟨A, c', e, _, hr⟩ := h.rd
  obtain ⟨g', off, eA, _, hc⟩ := hr (by have := (List.getElem?_eq_some_iff.1 hx).1; omega)
  rw [eA] at e
  injection e with e1 _ _
  injection e1 with e1
  injection e1 with e1 e2 _
  subst e1
  subst e2
  have := hc j x hx
  rwa [Nat.zero_add] at this
/-- the state behind k solid ones. -/
structure II (S : GS) (al : List Ln) (L : List Nat) (w : World) (n : Nat) (av sv : Value) (k told : Nat) (iv : Value) (wr : World) : Prop where
  low : Below w.heap.size w wr
  alv : OwnLn w.heap.size al av wr
  sl : OwnN w.heap.size L sv wr
  it : ∃ X : List ItV, X.map (·.1) = (itState (BefB S) al (L.take k)).1 ∧ OwnIt w.heap.size X iv wr ∧ X.length ≤ 2 * k
  told : told = (itState (BefB S) al (L.take k)).2
/-- .. and the block ahead of the next one laid. -/
structure IM (S : GS) (al : List Ln) (L : List Nat) (w : World) (av sv : Value) (k a : Nat) (iv : Value) (wr : World) : Prop where
  low : Below w.heap.size w wr
  alv : OwnLn w.heap.size al av wr
  sl : OwnN w.heap.size L sv wr
  it : ∃ X : List ItV, X.map (·.1) = (if (itState (BefB S) al (L.take k)).2 < a then (itState (BefB S) al (L.take k)).1 ++ [blockL (BefB S) ((al.take a).drop (itState (BefB S) al (L.take k)).2)] else (itState (BefB S) al (L.take k)).1) ∧ OwnIt w.heap.size X iv wr ∧ X.length ≤ 2 * k + 1
theorem itState_more (r : Vx → Vx → Bool) (l : List Ln) {L : List Nat} {k x : Nat} (hx : L[k]? = some x) : itState r l (L.take (k + 1)) = itStep r l (itState r l (L.take k)) x := by
  unfold itState
  rw [List.take_add_one, hx, List.foldl_append]
  rfl
/-- a slice of one item. -/
noncomputable def oneIt (p : Array (Nat × Value)) : Sem Value := Instr.buildSlice 65 1 p
theorem oneIt_of (p : Array (Nat × Value)) : Instr.buildSlice 65 1 p = oneIt p := rfl
def zIt : Array Value := #[nils, .bool false, nils]
theorem info_it : (Tryd.prog.info? 74).map (fun i => (i.size, i.zero.map (·.cells))) = some (3, some zIt) := by kernel_rfl
theorem fill_it (a c : Value) (b : Bool) : Instr.fill (fun i => some (i * 3, 3)) ((Array.range (1 * 3)).map (fun i => zIt[i % zIt.size]!)) [(0, .agg #[a, .bool b, c])] = some #[a, .bool b, c] := by kernel_rfl
theorem run_oneIt (lv mv : Value) (b : Bool) (w : World) : (oneIt #[(0, .agg #[lv, .bool b, mv])]).run Tryd.prog w = .ok (.slice (some ⟨w.heap.size, 0, none⟩) 1 1) (w.alloc (.cells #[lv, .bool b, mv] 74)) := by
  have hi := info_it
  cases hie : Tryd.prog.info? 74 with
  | none => rw [hie] at hi; cases hi
  | some ie =>
    rw [hie] at hi
    simp only [Option.map_some, Option.some.injEq, Prod.mk.injEq] at hi
    obtain ⟨hs, hz0⟩ := hi
    cases hz : ie.zero with
    | none => rw [hz] at hz0; cases hz0
    | some z =>
      rw [hz] at hz0
      have hc : z.cells = zIt := Option.some.inj hz0
      unfold oneIt
      refine run_buildSlice w 65 74 1 _ _ ie z Tryd.underlying65 hie hz (by rw [hs]; omega) (by rw [hs]; omega) ?_
      rw [hs, hc]
      exact fill_it lv mv b
attribute [irreducible] oneIt
attribute [local go_sem ↓ high] oneIt_of
theorem three_one {lv mv : Value} {b : Bool} {A A' : Option Addr} {n c n' c' : Nat} (h : lv = .slice A n c) (h' : mv = .slice A' n' c') : ∀ u ∈ [lv, .bool b, mv], u.oneCell' = true := by
  subst h; subst h'
  intro u hu
  simp only [List.mem_cons, List.not_mem_nil, or_false] at hu
  rcases hu with rfl | rfl | rfl <;> rfl
def ItmQ (w : World) (S : GS) (e : Ending) (w' : World) : Prop := ∃ v M, ∃ X : List ItV, e = .returned v ∧ Steps (verts (ds S.ps)) (edges (ds S.ps)) (root :: (M ++ [fin])) ∧ (∀ v ∈ verts (ds S.ps), v ∈ root :: (M ++ [fin])) ∧ X.map (·.1) = itemsL (BefB S) (aliveL (M.map (lnS S (gnS S)))) ∧ OwnIt w.heap.size X v w' ∧ Below w.heap.size w w'
set_option maxHeartbeats 8000000 in
theorem items_any (S : GS) (n : Nat) (hn : n ≤ 100) (w : World) (h : GX w S n) (hL : Laid w) (hv : (verts (ds S.ps)).length ≤ 10000) : Calls Tryd.prog 32 #[ptr S.g] w (ItmQ w S) := by
  have hLn := lines_gx S n hn w h hL
  have HG := Lib.hid h
  clear h hL
  obtain ⟨pg, hpg⟩ : ∃ pg, pg = ptr S.g := ⟨_, rfl⟩
  have Hpg := Lib.hid hpg
  rw [← hpg] at hLn ⊢
  clear hpg
  go_enter Tryd.func32, Tryd.ntmps32
  go_upto_region 5 with (first
    | (go_at_call 24; refine hLn.mono ?_; rintro e w1 ⟨v1, M, rfl, hst, hall, hown, hlow⟩
       have hlen : (M.map (lnS S (gnS S))).length ≤ 10000 := by
         have h1 := nodup_len hst.nodup.1 hst.nodup.2
         simp only [List.length_cons, List.length_append, List.length_nil] at h1
         rw [List.length_map]; omega
       have hDel := delete_any v1 _ w.heap.size w1 hown (by omega) hlow.size)
    | (go_at_call 54; refine hDel.mono ?_; rintro e w2 ⟨v2, rfl, hown2, hlow2⟩
       have hlow02 := hlow.trans hlow2
       have hal : (aliveL (M.map (lnS S (gnS S)))).length ≤ 10000 := Nat.le_trans (List.length_filter_le _ _) hlen
       have hSol := solid_any S n v2 _ w2 (HG.out.below hlow02) hown2.rd (by omega)
       rw [← Hpg.out] at hSol)
    | (go_at_call 56; refine hSol.mono ?_; rintro e w3 ⟨v3, rfl, hown3, hlow3⟩; obtain ⟨A3, c3, hv3, hc3, hA3⟩ := hown3.shape; subst hv3))
  obtain ⟨al, hAl⟩ : ∃ al, al = aliveL (M.map (lnS S (gnS S))) := ⟨_, rfl⟩
  rw [← hAl] at hown2 hal hown3 hc3 hA3 ⊢
  obtain ⟨o, ho⟩ : ∃ o, o = ordL (BefB S) al := ⟨_, rfl⟩
  obtain ⟨L, hLs⟩ : ∃ L, L = solL o al.length := ⟨_, rfl⟩
  rw [← ho, ← hLs] at hown3 hc3 hA3 ⊢
  have hLm : ∀ x ∈ L, x < al.length := fun x hx => by
    rw [hLs] at hx
    exact (solState_lt o al.length).1 x (List.mem_reverse.1 hx)
  have hLl : L.length ≤ al.length := by
    rw [hLs]
    unfold solL
    rw [List.length_reverse]
    exact (solState_lt o al.length).2.2.1
  have hown2' := own_stays hown2 hlow3
  obtain ⟨A2, c2, hv2, hc2, hA2⟩ : ∃ A c, v2 = .slice A al.length c ∧ al.length ≤ c ∧ (0 < al.length → ∃ g off, A = some ⟨g, off, none⟩) := by
    obtain ⟨A, c, e, h1, h2⟩ := hown2.rd
    exact ⟨A, c, e, h1, fun h => by obtain ⟨g, off, e, _⟩ := h2 h; exact ⟨g, off, e⟩⟩
  subst hv2
  have hlow03 := hlow02.trans (hlow3.mono hlow02.size)
  have H0 : Hid (II S al L w n (.slice A2 al.length c2) (.slice A3 L.length c3) 0 0 (.slice none 0 0) w3) := ⟨hlow03, hown2', own_base hown3 hlow02.size, ⟨[], rfl, OwnIt.nil _ _, Nat.zero_le _⟩, rfl⟩
  have HF : Hid (∀ X : List ItV, ∀ iv w', X.map (·.1) = itemsL (BefB S) al → OwnIt w.heap.size X iv w' → Below w.heap.size w w' → ItmQ w S (.returned iv) w') := fun X iv w' h1 h2 h3 => ⟨iv, M, X, rfl, hst, hall, by rw [h1, hAl], h2, h3⟩
  have HS : Hid (itemsL (BefB S) al = if (itState (BefB S) al L).2 < al.length then (itState (BefB S) al L).1 ++ [blockL (BefB S) (al.drop (itState (BefB S) al L).2)] else (itState (BefB S) al L).1) := by
    show _ = _
    unfold itemsL
    rw [← ho, ← hLs]
  have HLm := Lib.hid hLm
  have HLl := Lib.hid hLl
  have HA2 := Lib.hid hA2
  have HA3 := Lib.hid hA3
  have Hal := Lib.hid hal
  obtain ⟨m, hm⟩ : ∃ m, m = L.length := ⟨_, rfl⟩
  obtain ⟨t, ht⟩ : ∃ t, t = al.length := ⟨_, rfl⟩
  rw [← ht] at hc2 H0 ⊢
  rw [← hm] at hc3 H0 ⊢
  have Hm := Lib.hid hm
  have Ht := Lib.hid ht
  have hc2I : (t : Int) ≤ c2 := by omega
  have hc3I : (m : Int) ≤ c3 := by omega
  clear hown hown2 hown2' hown3 hlow hlow2 hlow3 hlow02 hlow03 hst hall hlen hDel hSol hLn hLm hLl hA2 hA3 hal hm ht hc2 hc3 ho hLs hAl
  go_loopw [4, 5, 15] (fun iv told i wr => ∃ k tl : Nat, k ≤ m ∧ i = .int .i64 k ∧ told = .int .i64 tl ∧ Hid (II S al L w n (.slice A2 t c2) (.slice A3 m c3) k tl iv wr)) (fun _ _ i _ => m - (intOf i).toNat)
  case atStart => exact ⟨0, 0, Nat.zero_le _, rfl, rfl, H0⟩
  case round =>
    obtain ⟨k, tl, hk, rfl, rfl, hI⟩ := hrel
    clear H0
    by_cases hlt : k < m
    · have hltI : (k : Int) < m := by omega
      have hk0 : 0 ≤ (k : Int) := by omega
      have hwk : wrap64 ((k : Int) + 1) = ((k + 1 : Nat) : Int) := by
        have h1 : al.length ≤ 10000 := Hal.out
        have h2 := HLl.out
        have h3 := Hm.out
        unfold wrap64
        omega
      obtain ⟨a, ha⟩ : ∃ a, L[k]? = some a := ⟨_, List.getElem?_eq_getElem (by have := Hm.out; omega)⟩
      have ham := HLm.out a (List.mem_of_getElem? ha)
      rw [← Ht.out] at ham
      have hwa : wrap64 ((a : Int) + 1) = ((a + 1 : Nat) : Int) := by have h1 : al.length ≤ 10000 := Hal.out; have h2 : t = al.length := Ht.out; unfold wrap64; omega
      obtain ⟨g3, rfl⟩ := HA3.out (by have := Hm.out; omega)
      obtain ⟨g2, o2, rfl⟩ := HA2.out (by have := Ht.out; omega)
      have ca := OwnN.cell hI.out.sl ha
      have HA := Lib.hid ha
      clear ha
      obtain ⟨hlow, halv, hsl, ⟨X, hX, hXo, hXl⟩, htl⟩ := hI.out
      have hrd := OwnLn.rd halv
      have hat : (a : Int) ≤ t := by omega
      have hac : (a : Int) ≤ c2 := by omega
      have ha0 : 0 ≤ (a : Int) := by omega
      have ha1 : ((a + 1 : Nat) : Int) ≤ c2 := by omega
      have ht0 : 0 ≤ (tl : Int) := by omega
      have HNx : Hid (itState (BefB S) al (L.take (k + 1)) = itStep (BefB S) al (itState (BefB S) al (L.take k)) a) := itState_more _ _ HA.out
      have HGr := Lib.hid (HG.out.below hlow)
      have HRd := Lib.hid hrd
      have Htl := Lib.hid htl
      have Hlow := Lib.hid hlow
      have HX := Lib.hid hX
      have HXo := Lib.hid hXo
      have HXl : Hid (X.length ≤ 20000) := by
        have h1 : al.length ≤ 10000 := Hal.out
        have h2 := HLl.out
        have h3 := Hm.out
        show _ ≤ _
        omega
      have HXk : Hid (X.length ≤ 2 * k) := hXl
      have HAlv := Lib.hid halv
      have HSl := Lib.hid hsl
      have eo := run_oneIt
      clear hlow halv hsl hX hXo hXl htl hrd hI
      by_cases hta : tl < a
      · have htaI : (tl : Int) < a := by omega
        have htlI : (tl : Int) ≤ a := by omega
        have hB : Calls Tryd.prog 57 #[pg, .slice (some ⟨g2, o2 + tl * 35, none⟩) (a - tl) (c2 - tl)] wr (fun e w' => ∃ lv mv, e = .returned (.agg #[lv, .bool true, mv]) ∧ OwnLn wr.heap.size (blockL (BefB S) ((al.take a).drop tl)).lines lv w' ∧ OwnZ wr.heap.size (blockL (BefB S) ((al.take a).drop tl)).mids mv w' ∧ Below wr.heap.size wr w') := by
          rw [Hpg.out]
          have hl9 : ((al.take a).drop tl).length = a - tl := by rw [List.length_drop, List.length_take]; have h2 : t = al.length := Ht.out; omega
          refine block_any S n _ ((al.take a).drop tl) wr HGr.out (HRd.out.piece Ht.out (by omega) (by omega) (by omega)) ?_ ?_
          · have h1 : al.length ≤ 10000 := Hal.out; have h2 : t = al.length := Ht.out; omega
          · omega
        clear htlI
        go_upto_region 9 with (first
          | (go_at_call 57; refine hB.mono ?_; rintro e w5 ⟨lv, mv, rfl, hlv, hmv, hlo5⟩
             have Hlv := Lib.hid hlv
             have Hmv := Lib.hid hmv
             have Hlo5 := Lib.hid hlo5
             obtain ⟨A5, c5, hlv5, -, -⟩ := hlv.rd
             obtain ⟨A6, c6, hmv6, -, -⟩ := hmv.rd
             have H3 := Lib.hid (three_one (b := true) hlv5 hmv6)
             clear hlv hmv hlo5 hlv5 hmv6)
          | (at_builtin; refine wpList_app1 rfl el_item 65 Tryd.underlying65 (.tmp 22) (.tmp 29) rfl w.heap.size u4 X.length (flatI X) [lv, .bool true, mv] rfl H3.out rfl (own_alloc (own_stays HXo.out.row Hlo5.out) _) w5.heap.size rfl ⟨_, Go.heap_alloc_new w5 _, rfl⟩ (by have h3 := HXl.out; omega) (by rw [World.size_alloc]; have h1 := Hlow.out.size; have h2 := Hlo5.out.size; omega) ?_; intro iv6 w6 own6 g6 loc6))
        have HM : Hid (IM S al L w (.slice (some ⟨g2, o2, none⟩) t c2) (.slice (some ⟨g3, 0, none⟩) m c3) k a iv6 w6) := by
          have hs5 := Nat.le_trans Hlow.out.size Hlo5.out.size
          have l5 : Below w.heap.size w w5 := Hlow.out.trans (Hlo5.out.mono Hlow.out.size)
          have i5 : OwnIt w.heap.size X u4 w5 := HXo.out.stays Hlo5.out
          have l6 : Below w.heap.size w w6 := own_low (v := u4) g6 (own_alloc i5.row _) (l5.alloc hs5 _) (by rw [World.size_alloc]; omega)
          have ia : OwnIt w.heap.size X u4 (w5.alloc (.cells #[lv, .bool true, mv] 74)) := i5.stays ((Below.refl _ _).alloc (Nat.le_refl _) _)
          refine ⟨l6, own_other (own_alloc (own_stays HAlv.out Hlo5.out) _) g6 (fun q hq e => own_apart HAlv.out HXo.out.row (by decide) q hq e), own_other (own_alloc (own_stays HSl.out Hlo5.out) _) g6 (fun q hq e => own_apart HSl.out HXo.out.row (by decide) q hq e), ⟨X ++ [(blockL (BefB S) ((al.take a).drop tl), lv, mv)], ?_, OwnIt.more (x := blockL (BefB S) ((al.take a).drop tl)) ia (own_alloc (own_base Hlv.out Hlow.out.size) _) (own_alloc (own_base Hmv.out Hlow.out.size) _) own6 g6, ?_⟩⟩
          · rw [List.map_append, HX.out, ← Htl.out, if_pos hta]
            rfl
          · rw [List.length_append, List.length_singleton]
            have := HXk.out
            omega
        clear own6 g6 loc6 Hlv Hmv Hlo5 H3 hB HAlv HSl HX HXo HXl HXk Hlow HRd HGr Htl htaI hta
        have hC : Calls Tryd.prog 58 #[.slice (some ⟨g2, o2 + a * 35, none⟩) 1 (c2 - a)] w6 (fun e w' => ∃ A7 c7, e = .returned (.slice A7 1 c7) ∧ OwnLn w6.heap.size ((al.take (a + 1)).drop a) (.slice A7 1 c7) w' ∧ Below w6.heap.size w6 w') := by
          have hl9 : ((al.take (a + 1)).drop a).length = 1 := by rw [List.length_drop, List.length_take]; have h2 : t = al.length := Ht.out; omega
          have hp := (OwnLn.rd HM.out.alv).piece (a := a) (b := a + 1) Ht.out (by omega) (by omega) (by omega)
          rw [show a + 1 - a = 1 by omega] at hp
          refine (clone_lns _ _ w6 hp (by rw [hl9]; decide) (by rw [hl9]; decide)).mono ?_
          rintro e w' ⟨v', rfl, h1, h2⟩
          obtain ⟨A7, c7, e7, -, -⟩ := h1.rd
          rw [hl9] at e7
          subst e7
          exact ⟨A7, c7, rfl, h1, h2⟩
        obtain ⟨X1, m4, m5, m6⟩ := HM.out.it
        have M4 := Lib.hid m4
        have M5 := Lib.hid m5
        have M6 : Hid (X1.length ≤ 30000) := by
          have h1 : al.length ≤ 10000 := Hal.out
          have h2 := HLl.out
          have h3 := Hm.out
          show _ ≤ _
          omega
        have M7 := Lib.hid m6
        clear m4 m5 m6
        go_upto_region 11 with (first
          | (go_at_call 58; refine hC.mono ?_; rintro e w7 ⟨A7, c7, rfl, hlv7, hlo7⟩
             have Hlv7 := Lib.hid hlv7
             have Hlo7 := Lib.hid hlo7
             clear hlv7 hlo7)
          | (at_builtin; refine wpList_app1 rfl el_item 65 Tryd.underlying65 (.tmp 33) (.tmp 40) rfl w.heap.size iv6 X1.length (flatI X1) [.slice A7 1 c7, .bool false, nils] rfl (three_one rfl rfl) rfl (own_alloc (own_stays M5.out.row Hlo7.out) _) w7.heap.size rfl ⟨_, Go.heap_alloc_new w7 _, rfl⟩ (by have h3 := M6.out; omega) (by rw [World.size_alloc]; have h1 := HM.out.low.size; have h2 := Hlo7.out.size; omega) ?_; intro iv8 w8 own8 g8 loc8; have Own8 := Lib.hid own8; have G8 := Lib.hid g8; clear own8 g8 loc8))
        have HN : Hid (II S al L w n (.slice (some ⟨g2, o2, none⟩) t c2) (.slice (some ⟨g3, 0, none⟩) m c3) (k + 1) (a + 1) iv8 w8) := by
          have hs7 := Nat.le_trans HM.out.low.size Hlo7.out.size
          have l7 : Below w.heap.size w w7 := HM.out.low.trans (Hlo7.out.mono HM.out.low.size)
          have i7 : OwnIt w.heap.size X1 iv6 w7 := M5.out.stays Hlo7.out
          have l8 : Below w.heap.size w w8 := own_low (v := iv6) G8.out (own_alloc i7.row _) (l7.alloc hs7 _) (by rw [World.size_alloc]; omega)
          have ia : OwnIt w.heap.size X1 iv6 (w7.alloc (.cells #[.slice A7 1 c7, .bool false, nils] 74)) := i7.stays ((Below.refl _ _).alloc (Nat.le_refl _) _)
          have hll : OwnLn w.heap.size ((al.take (a + 1)).drop a) (.slice A7 1 c7) w7 := own_base Hlv7.out HM.out.low.size
          refine ⟨l8, own_other (own_alloc (own_stays HM.out.alv Hlo7.out) _) G8.out (fun q hq e => own_apart HM.out.alv M5.out.row (by decide) q hq e), own_other (own_alloc (own_stays HM.out.sl Hlo7.out) _) G8.out (fun q hq e => own_apart HM.out.sl M5.out.row (by decide) q hq e), ⟨X1 ++ [(⟨(al.take (a + 1)).drop a, false, []⟩, .slice A7 1 c7, nils)], ?_, OwnIt.more (x := ⟨(al.take (a + 1)).drop a, false, []⟩) ia (own_alloc hll _) (OwnZ.nil _ _) Own8.out G8.out, ?_⟩, ?_⟩
          · rw [List.map_append, M4.out, HNx.out]
            rfl
          · rw [List.length_append, List.length_singleton]
            have := M7.out
            omega
          · rw [HNx.out]
            rfl
        clear Own8 G8 HM M4 M5 M6 M7 Hlv7 Hlo7
        go_wp2
        rw [hwk]
        have hwa2 : (a : Int) + 1 = ((a + 1 : Nat) : Int) := by omega
        rw [hwa2]
        refine ⟨⟨k + 1, a + 1, hlt, rfl, rfl, HN⟩, ?_⟩
        clear hwk hwa hwa2
        simp only [intOf]
        omega
      · have htaI : ¬ (tl : Int) < a := by omega
        have HM : Hid (IM S al L w (.slice (some ⟨g2, o2, none⟩) t c2) (.slice (some ⟨g3, 0, none⟩) m c3) k a u4 wr) := ⟨Hlow.out, HAlv.out, HSl.out, X, by rw [HX.out, if_neg (by rw [← Htl.out]; exact hta)], HXo.out, by have := HXk.out; omega⟩
        clear HAlv HSl HX HXo HXl HXk Hlow HRd HGr Htl hta
        have hC : Calls Tryd.prog 58 #[.slice (some ⟨g2, o2 + a * 35, none⟩) 1 (c2 - a)] wr (fun e w' => ∃ A7 c7, e = .returned (.slice A7 1 c7) ∧ OwnLn wr.heap.size ((al.take (a + 1)).drop a) (.slice A7 1 c7) w' ∧ Below wr.heap.size wr w') := by
          have hl9 : ((al.take (a + 1)).drop a).length = 1 := by rw [List.length_drop, List.length_take]; have h2 : t = al.length := Ht.out; omega
          have hp := (OwnLn.rd HM.out.alv).piece (a := a) (b := a + 1) Ht.out (by omega) (by omega) (by omega)
          rw [show a + 1 - a = 1 by omega] at hp
          refine (clone_lns _ _ wr hp (by rw [hl9]; decide) (by rw [hl9]; decide)).mono ?_
          rintro e w' ⟨v', rfl, h1, h2⟩
          obtain ⟨A7, c7, e7, -, -⟩ := h1.rd
          rw [hl9] at e7
          subst e7
          exact ⟨A7, c7, rfl, h1, h2⟩
        obtain ⟨X1, m4, m5, m6⟩ := HM.out.it
        have M4 := Lib.hid m4
        have M5 := Lib.hid m5
        have M6 : Hid (X1.length ≤ 30000) := by
          have h1 : al.length ≤ 10000 := Hal.out
          have h2 := HLl.out
          have h3 := Hm.out
          show _ ≤ _
          omega
        have M7 := Lib.hid m6
        clear m4 m5 m6
        go_upto_region 11 with (first
          | (go_at_call 58; refine hC.mono ?_; rintro e w7 ⟨A7, c7, rfl, hlv7, hlo7⟩
             have Hlv7 := Lib.hid hlv7
             have Hlo7 := Lib.hid hlo7
             clear hlv7 hlo7)
          | (at_builtin; refine wpList_app1 rfl el_item 65 Tryd.underlying65 (.tmp 33) (.tmp 40) rfl w.heap.size u4 X1.length (flatI X1) [.slice A7 1 c7, .bool false, nils] rfl (three_one rfl rfl) rfl (own_alloc (own_stays M5.out.row Hlo7.out) _) w7.heap.size rfl ⟨_, Go.heap_alloc_new w7 _, rfl⟩ (by have h3 := M6.out; omega) (by rw [World.size_alloc]; have h1 := HM.out.low.size; have h2 := Hlo7.out.size; omega) ?_; intro iv8 w8 own8 g8 loc8; have Own8 := Lib.hid own8; have G8 := Lib.hid g8; clear own8 g8 loc8))
        have HN : Hid (II S al L w n (.slice (some ⟨g2, o2, none⟩) t c2) (.slice (some ⟨g3, 0, none⟩) m c3) (k + 1) (a + 1) iv8 w8) := by
          have hs7 := Nat.le_trans HM.out.low.size Hlo7.out.size
          have l7 : Below w.heap.size w w7 := HM.out.low.trans (Hlo7.out.mono HM.out.low.size)
          have i7 : OwnIt w.heap.size X1 u4 w7 := M5.out.stays Hlo7.out
          have l8 : Below w.heap.size w w8 := own_low (v := u4) G8.out (own_alloc i7.row _) (l7.alloc hs7 _) (by rw [World.size_alloc]; omega)
          have ia : OwnIt w.heap.size X1 u4 (w7.alloc (.cells #[.slice A7 1 c7, .bool false, nils] 74)) := i7.stays ((Below.refl _ _).alloc (Nat.le_refl _) _)
          have hll : OwnLn w.heap.size ((al.take (a + 1)).drop a) (.slice A7 1 c7) w7 := own_base Hlv7.out HM.out.low.size
          refine ⟨l8, own_other (own_alloc (own_stays HM.out.alv Hlo7.out) _) G8.out (fun q hq e => own_apart HM.out.alv M5.out.row (by decide) q hq e), own_other (own_alloc (own_stays HM.out.sl Hlo7.out) _) G8.out (fun q hq e => own_apart HM.out.sl M5.out.row (by decide) q hq e), ⟨X1 ++ [(⟨(al.take (a + 1)).drop a, false, []⟩, .slice A7 1 c7, nils)], ?_, OwnIt.more (x := ⟨(al.take (a + 1)).drop a, false, []⟩) ia (own_alloc hll _) (OwnZ.nil _ _) Own8.out G8.out, ?_⟩, ?_⟩
          · rw [List.map_append, M4.out, HNx.out]
            rfl
          · rw [List.length_append, List.length_singleton]
            have := M7.out
            omega
          · rw [HNx.out]
            rfl
        clear Own8 G8 HM M4 M5 M6 M7 Hlv7 Hlo7
        go_wp2
        rw [hwk]
        have hwa2 : (a : Int) + 1 = ((a + 1 : Nat) : Int) := by omega
        rw [hwa2]
        refine ⟨⟨k + 1, a + 1, hlt, rfl, rfl, HN⟩, ?_⟩
        clear hwk hwa hwa2
        simp only [intOf]
        omega
    · have hltI : ¬ (k : Int) < m := by omega
      obtain rfl : k = m := by omega
      obtain ⟨hlow, halv, hsl, ⟨X, hX, hXo, hXl⟩, htl⟩ := hI.out
      have hLk : L.take k = L := List.take_of_length_le (by have := Hm.out; omega)
      rw [hLk] at hX htl
      have hS := HS.out
      rw [← htl, ← hX, ← Ht.out] at hS
      have Hlow := Lib.hid hlow
      have HXo := Lib.hid hXo
      have HAlv := Lib.hid halv
      have HXl : Hid (X.length ≤ 20000) := by
        have h1 : al.length ≤ 10000 := Hal.out
        have h2 := HLl.out
        have h3 := Hm.out
        show _ ≤ _
        omega
      by_cases hta : tl < t
      · have htaI : (tl : Int) < t := by omega
        have htc : (tl : Int) ≤ c2 := by omega
        have ht0 : 0 ≤ (tl : Int) := by omega
        rw [if_pos hta] at hS
        have HS1 := Lib.hid hS
        obtain ⟨g2, o2, rfl⟩ := HA2.out (by have h2 : t = al.length := Ht.out; omega)
        have hB : Calls Tryd.prog 57 #[pg, .slice (some ⟨g2, o2 + tl * 35, none⟩) (t - tl) (c2 - tl)] wr (fun e w' => ∃ lv mv, e = .returned (.agg #[lv, .bool true, mv]) ∧ OwnLn wr.heap.size (blockL (BefB S) (al.drop tl)).lines lv w' ∧ OwnZ wr.heap.size (blockL (BefB S) (al.drop tl)).mids mv w' ∧ Below wr.heap.size wr w') := by
          rw [Hpg.out]
          have hp := (OwnLn.rd halv).piece (a := tl) (b := t) Ht.out (by omega) (Nat.le_refl _) (by omega)
          have h2 : t = al.length := Ht.out
          rw [List.take_of_length_le (by omega)] at hp
          refine block_any S n _ (al.drop tl) wr (HG.out.below hlow) hp ?_ ?_
          · have h1 : al.length ≤ 10000 := Hal.out; rw [List.length_drop]; omega
          · rw [List.length_drop]; omega
        have eo := run_oneIt
        clear hlow halv hsl hX hXo hXl htl hLk hS hI HS
        go_wp2_with (first
          | (go_at_call 57; refine hB.mono ?_; rintro e w5 ⟨lv, mv, rfl, hlv, hmv, hlo5⟩
             have Hlv := Lib.hid hlv
             have Hmv := Lib.hid hmv
             have Hlo5 := Lib.hid hlo5
             obtain ⟨A5, c5, hlv5, -, -⟩ := hlv.rd
             obtain ⟨A6, c6, hmv6, -, -⟩ := hmv.rd
             have H3 := Lib.hid (three_one (b := true) hlv5 hmv6)
             clear hlv hmv hlo5 hlv5 hmv6)
          | (at_builtin; refine wpList_app1 rfl el_item 65 Tryd.underlying65 (.tmp 47) (.tmp 53) rfl w.heap.size u4 X.length (flatI X) [lv, .bool true, mv] rfl H3.out rfl (own_alloc (own_stays HXo.out.row Hlo5.out) _) w5.heap.size rfl ⟨_, Go.heap_alloc_new w5 _, rfl⟩ (by have h3 := HXl.out; omega) (by rw [World.size_alloc]; have h1 := Hlow.out.size; have h2 := Hlo5.out.size; omega) ?_; intro iv6 w6 own6 g6 loc6; have Own6 := Lib.hid own6; have G6 := Lib.hid g6; clear own6 g6 loc6))
        go_ret
        have hs5 := Nat.le_trans Hlow.out.size Hlo5.out.size
        have l5 : Below w.heap.size w w5 := Hlow.out.trans (Hlo5.out.mono Hlow.out.size)
        have i5 : OwnIt w.heap.size X u4 w5 := HXo.out.stays Hlo5.out
        have l6 : Below w.heap.size w w6 := own_low (v := u4) G6.out (own_alloc i5.row _) (l5.alloc hs5 _) (by rw [World.size_alloc]; omega)
        have ia : OwnIt w.heap.size X u4 (w5.alloc (.cells #[lv, .bool true, mv] 74)) := i5.stays ((Below.refl _ _).alloc (Nat.le_refl _) _)
        exact HF.out (X ++ [(blockL (BefB S) (al.drop tl), lv, mv)]) _ _ (by rw [HS1.out, List.map_append]; rfl) (OwnIt.more (x := blockL (BefB S) (al.drop tl)) ia (own_alloc (own_base Hlv.out Hlow.out.size) _) (own_alloc (own_base Hmv.out Hlow.out.size) _) Own6.out G6.out) l6
      · have htaI : ¬ (tl : Int) < t := by omega
        rw [if_neg hta] at hS
        have HQ : Hid (ItmQ w S (.returned u4) wr) := HF.out X u4 wr hS.symm hXo hlow
        clear hlow halv hsl hX hXo hXl htl hLk hS hI HS HF HXo HXl
        go_wp2
        go_ret
        exact HQ.out
end Go.Proofs.YtnjeppmpnaemlaaDoor.Grf
/- DERIVED. render's middles: ahead of which lines the marker stands. -/
set_option maxRecDepth 100000
namespace Go.Proofs.YtnjeppmpnaemlaaDoor.Grf
open Go.RowKit Str Go.Maps
attribute [local go_sem ↓ high] loadAtVx loadAtLn loadAtIt
/-- items that are read. -/
structure RdIts (w : World) (X : List ItV) (v : Value) : Prop where
  row : ∃ A c, v = .slice A X.length c ∧ X.length ≤ c ∧ (0 < X.length → ∃ g off, A = some ⟨g, off, none⟩ ∧ g < w.heap.size ∧ ∀ (j : Nat) (x : ItV), X[j]? = some x → w.rangeAt g (off + j * 3) (itC x.2.1 x.1.block x.2.2).toList)
  each : ∀ x ∈ X, RdItem w x.1 x.2.1 x.2.2
theorem RdIts.below {w w' : World} {X : List ItV} {v : Value} (h : RdIts w X v) (hb : Below w.heap.size w w') : RdIts w' X v := by
  obtain ⟨⟨A, c, e, h1, h2⟩, h3⟩ := h
  refine ⟨⟨A, c, e, h1, fun h0 => ?_⟩, fun x hx => (h3 x hx).below hb⟩
  obtain ⟨g, off, eA, hg, hc⟩ := h2 h0
  exact ⟨g, off, eA, Nat.lt_of_lt_of_le hg hb.size, fun j x hx => range_below (hc j x hx) hb hg⟩
theorem flatI_at : ∀ (X : List ItV) (i r : Nat) (x : ItV) (u : Value), X[i]? = some x → (itC x.2.1 x.1.block x.2.2).toList[r]? = some u → (flatI X)[i * 3 + r]? = some u
  | [], i, r, x, u, h, _ => by simp at h
  | y :: t, 0, r, x, u, h, hu => by
    obtain rfl := Option.some.inj h
    show ((itC y.2.1 y.1.block y.2.2).toList ++ flatI t)[0 * 3 + r]? = _
    rw [show 0 * 3 + r = r by omega, List.getElem?_append_left (List.getElem?_eq_some_iff.1 hu).1]
    exact hu
  | y :: t, i + 1, r, x, u, h, hu => by
    show ((itC y.2.1 y.1.block y.2.2).toList ++ flatI t)[(i + 1) * 3 + r]? = _
    have hl : (itC y.2.1 y.1.block y.2.2).toList.length = 3 := rfl
    rw [List.getElem?_append_right (by omega), hl, show (i + 1) * 3 + r - 3 = i * 3 + r by omega]
    exact flatI_at t i r x u h hu
theorem OwnIt.rd {base : Nat} {X : List ItV} {v : Value} {w : World} (h : OwnIt base X v w) : RdIts w X v := by
  refine ⟨?_, fun x hx => ⟨(h.each x hx).1.rd, (h.each x hx).2.rd⟩⟩
  rcases h.row.2 with ⟨rfl, h0⟩ | ⟨g, cap, cur, rfl, hb, hh, hc, _, _, ht⟩
  · exact ⟨none, 0, by rw [h0], by omega, fun h => absurd h (by omega)⟩
  · refine ⟨_, cap, rfl, hc, fun _ => ⟨g, 0, rfl, (Array.getElem?_eq_some_iff.1 hh).1, fun j x hx k u hu => ?_⟩⟩
    have hj := (List.getElem?_eq_some_iff.1 hx).1
    have hk : k < 3 := (List.getElem?_eq_some_iff.1 hu).1
    have e : (cur.toList.take (X.length * 3))[j * 3 + k]? = some u := by rw [ht]; exact flatI_at X j k x u hx hu
    rw [List.getElem?_take, if_pos (by omega)] at e
    rw [Nat.zero_add, cell_row hh]
    simpa using e
/-- a row of marks. -/
def MkR (w : World) (g n : Nat) (f : Nat → Bool) : Prop := ∃ C : Array Value, w.heap[g]? = some (.cells C 4 (0, 0)) ∧ C.size = n ∧ ∀ k, k < n → C[k]? = some (.bool (f k))
theorem MkR.below {w w' : World} {g n : Nat} {f : Nat → Bool} (h : MkR w g n f) (hb : Below w.heap.size w w') : MkR w' g n f := by
  obtain ⟨C, h1, h2⟩ := h
  exact ⟨C, at_below h1 hb, h2⟩
theorem MkR.cell {w : World} {g n : Nat} {f : Nat → Bool} (h : MkR w g n f) {k : Nat} (hk : k < n) : w.cell? ⟨g, k, none⟩ = some (.bool (f k)) ∧ w.frozen? ⟨g, k, none⟩ = false := by
  obtain ⟨C, h1, _, h3⟩ := h
  exact ⟨by rw [cell_row h1]; exact h3 k hk, free_row h1 k⟩
theorem MkR.set {w : World} {g n : Nat} {f : Nat → Bool} (h : MkR w g n f) {k : Nat} (hk : k < n) : MkR (w.setCell ⟨g, k, none⟩ (.bool true)) g n (fun j => f j || j == k) := by
  obtain ⟨C, h1, h2, h3⟩ := h
  refine ⟨C.setIfInBounds k (.bool true), heap_setCell_same _ _ _ _ _ _ h1, by rw [Array.size_setIfInBounds, h2], fun j hj => ?_⟩
  rw [Array.getElem?_setIfInBounds]
  by_cases e : k = j
  · subst e
    rw [if_pos rfl, if_pos (by omega)]
    simp
  · rw [if_neg e, h3 j hj]
    have : (j == k) = false := by simpa using fun h => e h.symm
    simp only [this, Bool.or_false]
theorem MkR.congr {w : World} {g n : Nat} {f f' : Nat → Bool} (h : MkR w g n f) (e : ∀ k, k < n → f k = f' k) : MkR w g n f' := by
  obtain ⟨C, h1, h2, h3⟩ := h
  exact ⟨C, h1, h2, fun k hk => by rw [← e k hk]; exact h3 k hk⟩
theorem infoBool : (Tryd.prog.info? 4).map (fun i => (i.zero, i.size, i.bytes)) = some (some (.bool false), 1, 1) := by kernel_rfl
theorem mk_marks (n : Nat) (hn : n ≤ 1000000) (w : World) : ∃ C : Array Value, (Instr.makeSlice 118 (.int .i64 n) (.int .i64 n)).run Tryd.prog w = .ok (.slice (some ⟨w.heap.size, 0, none⟩) n n) (w.alloc (.cells C 4)) ∧ C.size = n ∧ ∀ k, k < n → C[k]? = some (.bool false) := by
  obtain ⟨i, hi, hz0, hz1, hz2⟩ := partsK infoBool
  have h := run_make (P := Tryd.prog) w 118 4 i (.bool false) Tryd.underlying118 hi hz0 .i64 .i64 n n (by omega) (by omega) (by rw [hz2]; omega) (by omega)
  rw [hz1, Int.toNat_natCast] at h
  refine ⟨_, h, by rw [size_madeCells]; omega, fun k hk => ?_⟩
  rw [← Array.getElem?_toList, Nat.mul_one]
  show (madeCells #[Value.bool false] n).toList[k]? = _
  rw [toList_madeCells_one, List.getElem?_replicate, if_pos hk]
/-- what the first j middles mark. -/
def mkU (x : It) (j k : Nat) : Bool := (x.mids.take j).contains (k : Int)
theorem mkU_more {x : It} {j : Nat} {z : Int} (hz : x.mids[j]? = some z) (k : Nat) : mkU x (j + 1) k = (mkU x j k || ((k : Int) == z)) := by
  unfold mkU
  rw [List.take_add_one, hz, Bool.eq_iff_iff]
  simp [List.contains_iff_mem]
def MidQ (w : World) (x : It) (e : Ending) (w' : World) : Prop := ∃ g, e = .returned (.slice (some ⟨g, 0, none⟩) x.lines.length x.lines.length) ∧ w.heap.size ≤ g ∧ MkR w' g x.lines.length x.mark ∧ Below w.heap.size w w'
set_option maxHeartbeats 8000000 in
theorem middles_any (x : It) (lv mv : Value) (w : World) (h : RdItem w x lv mv) (hl : x.lines.length ≤ 100000) (hm : x.mids.length ≤ 100000) : Calls Tryd.prog 62 #[.agg (itC lv x.block mv)] w (MidQ w x) := by
  have h1 := Go.heap_alloc_new w (.cells (itC lv x.block mv) 74)
  have k1 : Below w.heap.size w (w.alloc (.cells (itC lv x.block mv) 74)) := (Below.refl _ _).alloc (Nat.le_refl _) _
  obtain ⟨W, hW⟩ : ∃ W, W = w.alloc (.cells (itC lv x.block mv) 74) := ⟨_, rfl⟩
  rw [← hW] at h1 k1
  have HW := Lib.hid hW.symm
  have hmd := h.md.below k1
  obtain ⟨A, c, rfl, hc, -⟩ := h.ln
  obtain ⟨A', c', rfl, hc', hr⟩ := hmd
  obtain ⟨n, hn⟩ : ∃ n, n = x.lines.length := ⟨_, rfl⟩
  obtain ⟨m, hmm⟩ : ∃ m, m = x.mids.length := ⟨_, rfl⟩
  obtain ⟨q1, hq1⟩ : ∃ q1, q1 = w.heap.size := ⟨_, rfl⟩
  rw [← hq1] at h1
  have HQ : Hid (∀ (b : Bool) g w', b = x.block → w.heap.size ≤ g → MkR w' g n x.mark → Below w.heap.size w w' → MidQ w x (.returned (.slice (some ⟨g, 0, none⟩) n n)) w') := fun b g w' hb h2 h3 h4 => ⟨g, by rw [hn], h2, by rw [← hn]; exact h3, h4⟩
  rw [← hn] at hc hl h1 HW ⊢
  rw [← hmm] at hc' hm h1 HW hr ⊢
  obtain ⟨C, hmk, hC1, hC2⟩ := mk_marks n (by omega) W
  obtain ⟨b, hb⟩ : ∃ b, b = x.block := ⟨_, rfl⟩
  rw [← hb] at h1 HW ⊢
  have c0 : W.cell? ⟨q1, 0, none⟩ = some (.slice A n c) := by rw [cell_row h1]; rfl
  have c1 : W.cell? ⟨q1, 1, none⟩ = some (.bool b) := by rw [cell_row h1]; rfl
  have c2 : W.cell? ⟨q1, 2, none⟩ = some (.slice A' m c') := by rw [cell_row h1]; rfl
  have HR := Lib.hid hr
  have Hn := Lib.hid hn
  have Hm := Lib.hid hmm
  have Hq1 := Lib.hid hq1
  have K1 := Lib.hid k1
  have Hb := Lib.hid hb
  have HC1 := Lib.hid hC1
  have HC2 := Lib.hid hC2
  have HQ1 := Lib.hid h1
  have hmI : (m : Int) ≤ c' := by omega
  have hnI : (n : Int) ≤ 100000 := by omega
  have HW2 : Hid (w.alloc (.cells (itC (.slice A n c) b (.slice A' m c')) 74) = W) := HW
  clear h h1 k1 hW HW hc hc' hr hn hmm hq1 hb hC1 hC2
  go_enter Tryd.func62, Tryd.ntmps62
  go_upto_region 1 with (fail)
  rw [HW2.out, ← Hq1.out]
  go_upto_region 2 with (fail)
  have h2 := Go.heap_alloc_new W (.cells C 4)
  have k2 : Below W.heap.size W (W.alloc (.cells C 4)) := (Below.refl _ _).alloc (Nat.le_refl _) _
  obtain ⟨W2, hW2⟩ : ∃ W2, W2 = W.alloc (.cells C 4) := ⟨_, rfl⟩
  rw [← hW2] at h2 k2 ⊢
  obtain ⟨g, hg⟩ : ∃ g, g = W.heap.size := ⟨_, rfl⟩
  rw [← hg] at h2 ⊢
  have hq2 := at_below HQ1.out k2
  have c1 : W2.cell? ⟨q1, 1, none⟩ = some (.bool b) := by rw [cell_row hq2]; rfl
  have c2 : W2.cell? ⟨q1, 2, none⟩ = some (.slice A' m c') := by rw [cell_row hq2]; rfl
  have hlow2 : Below w.heap.size w W2 := K1.out.trans (k2.mono K1.out.size)
  have hgb : w.heap.size ≤ g := by rw [hg]; exact K1.out.size
  have hM0 : MkR W2 g n (fun _ => false) := ⟨C, h2, HC1.out, HC2.out⟩
  have Hgb := Lib.hid hgb
  have Hlow := Lib.hid hlow2
  have HM0 := Lib.hid hM0
  have HR2 : Hid (∀ j z, x.mids[j]? = some z → ∃ g' off, A' = some ⟨g', off, none⟩ ∧ ∀ u, Chg [g] W2 u → u.cell? ⟨g', off + j, none⟩ = some (.int .i64 z)) := fun j z hz => by
    obtain ⟨g', off, e, hg', hc⟩ := HR.out (by rw [Hm.out]; have := (List.getElem?_eq_some_iff.1 hz).1; omega)
    refine ⟨g', off, e, fun u hu => ?_⟩
    rw [World.cell?_of_block (hu.block g' (Nat.lt_of_lt_of_le hg' k2.size) (by rw [List.mem_singleton]; omega))]
    exact (k2.cell (p := ⟨g', off + j, none⟩) hg').trans (hc j z hz)
  have Hg2 : Hid (g < W2.heap.size) := (Array.getElem?_eq_some_iff.1 h2).1
  clear h2 k2 hW2 hg hq2 hlow2 hgb hM0 HC1 HC2 hmk c0
  cases b with
  | false =>
    have HF : Hid (MidQ w x (.returned (.slice (some ⟨g, 0, none⟩) n n)) W2) := HQ.out false g W2 Hb.out Hgb.out (HM0.out.congr fun k _ => by unfold It.mark; rw [← Hb.out]; rfl) Hlow.out
    clear HQ
    go_wp2
    go_ret
    exact HF.out
  | true =>
    go_upto_region 5 with (fail)
    have H0 : Hid (MkR W2 g n (mkU x 0)) := HM0.out.congr fun k _ => by unfold mkU; simp
    go_loopw [17] (fun i wr => ∃ j : Nat, j ≤ m ∧ i = .int .i64 j ∧ Hid (MkR wr g n (mkU x j) ∧ Chg [g] W2 wr)) (fun i _ => m - (intOf i).toNat)
    case atStart => exact ⟨0, Nat.zero_le _, rfl, H0.out, Chg.refl _ _⟩
    case round =>
      obtain ⟨j, hj, rfl, hI⟩ := hrel
      clear H0
      by_cases hlt : j < m
      · have hltI : (j : Int) < m := by omega
        have hj0 : 0 ≤ (j : Int) := by omega
        have hwk : wrap64 ((j : Int) + 1) = ((j + 1 : Nat) : Int) := by unfold wrap64; omega
        obtain ⟨z, hz⟩ : ∃ z, x.mids[j]? = some z := ⟨_, List.getElem?_eq_getElem (by have := Hm.out; omega)⟩
        obtain ⟨g', off, rfl, hc⟩ := HR2.out j z hz
        have cz := hc wr hI.out.2
        by_cases hz1 : 0 ≤ z
        · by_cases hz2 : z < n
          · obtain ⟨k, rfl⟩ : ∃ k : Nat, z = k := ⟨z.toNat, by omega⟩
            have hkn : k < n := by omega
            obtain ⟨ck, fk⟩ := hI.out.1.cell hkn
            have HN : Hid (MkR (wr.setCell ⟨g, k, none⟩ (.bool true)) g n (mkU x (j + 1)) ∧ Chg [g] W2 (wr.setCell ⟨g, k, none⟩ (.bool true))) :=
              ⟨(hI.out.1.set hkn).congr fun i _ => by rw [mkU_more hz]; congr 1; rw [Bool.eq_iff_iff]; simp; omega, hI.out.2.setCell (p := ⟨g, k, none⟩) (by simp) _⟩
            clear hz hc hI
            go_wp2
            refine ⟨⟨j + 1, hlt, rfl, HN⟩, ?_⟩
            clear hwk
            simp only [intOf]
            omega
          · have HN : Hid (MkR wr g n (mkU x (j + 1)) ∧ Chg [g] W2 wr) := ⟨hI.out.1.congr fun i hi => by
              rw [mkU_more hz]
              have : ((i : Int) == z) = false := by simp; omega
              rw [this, Bool.or_false], hI.out.2⟩
            clear hz hc hI
            go_wp2
            refine ⟨⟨j + 1, hlt, rfl, HN⟩, ?_⟩
            clear hwk
            simp only [intOf]
            omega
        · have HN : Hid (MkR wr g n (mkU x (j + 1)) ∧ Chg [g] W2 wr) := ⟨hI.out.1.congr fun i hi => by
            rw [mkU_more hz]
            have : ((i : Int) == z) = false := by simp; omega
            rw [this, Bool.or_false], hI.out.2⟩
          clear hz hc hI
          go_wp2
          refine ⟨⟨j + 1, hlt, rfl, HN⟩, ?_⟩
          clear hwk
          simp only [intOf]
          omega
      · have hltI : ¬ (j : Int) < m := by omega
        obtain rfl : j = m := by omega
        have HF : Hid (MidQ w x (.returned (.slice (some ⟨g, 0, none⟩) n n)) wr) := HQ.out true g wr Hb.out Hgb.out (hI.out.1.congr fun k _ => by unfold It.mark mkU; rw [← Hb.out, List.take_of_length_le (by have := Hm.out; omega)]; rfl) (hI.out.2.below Hlow.out Hlow.out.size (fun k hk => by rw [List.mem_singleton.1 hk]; exact Hgb.out))
        clear HQ hI
        go_wp2
        go_ret
        exact HF.out
end Go.Proofs.YtnjeppmpnaemlaaDoor.Grf
