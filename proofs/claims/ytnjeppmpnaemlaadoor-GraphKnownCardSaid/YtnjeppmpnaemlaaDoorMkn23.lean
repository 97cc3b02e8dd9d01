/- DERIVED. Texts of ours, merged: XGrfKnB. -/
import Derived.Test.YtnjeppmpnaemlaaDoorMkn21
import Derived.Test.YtnjeppmpnaemlaaDoorMkn22
import Derived.Test.YtnjeppmpnaemlaaDoorMkn3
/- DERIVED. What the law's GraphKnown asks of its graphs. -/
set_option maxRecDepth 100000
namespace Go.Proofs.YtnjeppmpnaemlaaDoor.Grf
open Go.RowKit Str Go.Maps
theorem giv_up (d : PD) (l g : Value) (v : Vx) : splice (givC d l g).toList 34 v.c.toList = (givC { d with up := v } l g).toList := by
  have e : (givC d l g).toList = (d.nm.c.toList ++ [Value.int .i64 d.first]) ++ (d.up.c.toList ++ (d.down.c.toList ++ [l, g])) := by rw [givC_list]; simp [List.append_assoc]
  have h1 : (d.nm.c.toList ++ [Value.int .i64 d.first]).length = 34 := by simp [Vx.c_size]
  unfold splice
  rw [e, givC_list, List.take_append_of_le_length (by omega), List.take_of_length_le (by omega), List.drop_append, List.drop_of_length_le (by simp [Vx.c_size]), List.drop_append, List.drop_of_length_le (by rw [h1]; simp [Vx.c_size])]
  simp [Vx.c_size, List.append_assoc]
theorem giv_down (d : PD) (l g : Value) (v : Vx) : splice (givC d l g).toList 67 v.c.toList = (givC { d with down := v } l g).toList := by
  have e : (givC d l g).toList = (d.nm.c.toList ++ [Value.int .i64 d.first] ++ d.up.c.toList) ++ (d.down.c.toList ++ [l, g]) := by rw [givC_list]; simp [List.append_assoc]
  have h1 : (d.nm.c.toList ++ [Value.int .i64 d.first] ++ d.up.c.toList).length = 67 := by simp [Vx.c_size]
  unfold splice
  rw [e, givC_list, List.take_append_of_le_length (by omega), List.take_of_length_le (by omega), List.drop_append, List.drop_of_length_le (by rw [h1]; simp [Vx.c_size]), List.drop_append, List.drop_of_length_le (by rw [h1]; simp [Vx.c_size])]
  simp [Vx.c_size, List.append_assoc]
theorem row_up {w : World} {b : Nat} {d : PD} {l g : Value} (h : GRow w b d l g) (v : Vx) : GRow (w.setCells b 34 v.c.toList) b { d with up := v } l g := by
  have := heap_setCells v.c.toList 34 w _ h (by rw [Array.length_toList, Vx.c_size, givC_size]; omega)
  rw [giv_up, Array.toArray_toList] at this
  exact this
theorem row_down {w : World} {b : Nat} {d : PD} {l g : Value} (h : GRow w b d l g) (v : Vx) : GRow (w.setCells b 67 v.c.toList) b { d with down := v } l g := by
  have := heap_setCells v.c.toList 67 w _ h (by rw [Array.length_toList, Vx.c_size, givC_size]; omega)
  rw [giv_down, Array.toArray_toList] at this
  exact this
/-- what the law asks at some vertices. -/
structure KB1 (W : World) (S1 : GS) (y10 y11 y20 y30 : Vx) : Prop where
  a10 : ∀ w, Calls Tryd.prog 15 #[.int .u8 1, .int .i64 0] w fun e w' => e = .returned (.agg y10.c) ∧ Below w.heap.size w w'
  a11 : ∀ w, Calls Tryd.prog 15 #[.int .u8 1, .int .i64 1] w fun e w' => e = .returned (.agg y11.c) ∧ Below w.heap.size w w'
  a20 : ∀ w, Calls Tryd.prog 15 #[.int .u8 2, .int .i64 0] w fun e w' => e = .returned (.agg y20.c) ∧ Below w.heap.size w w'
  a30 : ∀ w, Calls Tryd.prog 15 #[.int .u8 3, .int .i64 0] w fun e w' => e = .returned (.agg y30.c) ∧ Below w.heap.size w w'
  b23 : ∀ u, Below W.heap.size W u → Calls Tryd.prog 18 #[ptr S1.g, .agg y20.c, .agg y30.c] u fun e w' => e = .returned (.bool false) ∧ Below u.heap.size u w'
  b32 : ∀ u, Below W.heap.size W u → Calls Tryd.prog 18 #[ptr S1.g, .agg y30.c, .agg y20.c] u fun e w' => e = .returned (.bool false) ∧ Below u.heap.size u w'
  b01 : ∀ u, Below W.heap.size W u → Calls Tryd.prog 18 #[ptr S1.g, .agg y10.c, .agg y11.c] u fun e w' => e = .returned (.bool true) ∧ Below u.heap.size u w'
  bre : ∀ u, Below W.heap.size W u → Calls Tryd.prog 18 #[ptr S1.g, .agg root.c, .agg fin.c] u fun e w' => e = .returned (.bool true) ∧ Below u.heap.size u w'
  brr : ∀ u, Below W.heap.size W u → Calls Tryd.prog 18 #[ptr S1.g, .agg root.c, .agg root.c] u fun e w' => e = .returned (.bool false) ∧ Below u.heap.size u w'
theorem kb1_of {W : World} {S1 : GS} (h : GX W S1 3) (hp : ds S1.ps = [dThird, dSecond, dFirst]) : KB1 W S1 v10 v11 v20 v30 := by
  have hB : ∀ (a b : Vx) (c : Bool), befD [dThird, dSecond, dFirst] a b = c → ∀ u, Below W.heap.size W u → Calls Tryd.prog 18 #[ptr S1.g, .agg a.c, .agg b.c] u fun e w' => e = .returned (.bool c) ∧ Below u.heap.size u w' := fun a b c hc u hu => by
    have := before_gx S1 3 a b u (h.below hu)
    rw [BefB_D h.gi.gm.lsl, hp, hc] at this
    exact this
  exact ⟨lat_any 1 0 (by omega) (by omega), lat_any 1 1 (by omega) (by omega), lat_any 2 0 (by omega) (by omega), lat_any 3 0 (by omega) (by omega), hB _ _ _ (by kernel_rfl), hB _ _ _ (by kernel_rfl), hB _ _ _ (by kernel_rfl), hB _ _ _ (by kernel_rfl), hB _ _ _ (by kernel_rfl)⟩
/-- a hash that is built. -/
noncomputable def bHash (p : Array (Nat × Value)) : Sem Value := Instr.build 25 p
theorem bHash_of (p : Array (Nat × Value)) : Instr.build 25 p = bHash p := rfl
theorem built_h0 : Tryd.prog.built 25 [] = some (hsC (List.replicate 32 0)) := by kernel_rfl
def hb (k : Int) : List Int := k :: List.replicate 31 0
def z32 : List Int := List.replicate 32 0
theorem run_bHash (x : Int) (w : World) : (bHash #[(0, .int .u8 x)]).run Tryd.prog w = .ok (.agg (hsC (hb x))) w := run_build w _ _ _ (built_hA x)
theorem run_bHash0 (w : World) : (bHash #[]).run Tryd.prog w = .ok (.agg (hsC z32)) w := run_build w _ _ _ built_h0
attribute [irreducible] bHash
theorem us_pos {S : GS} {p : PA} {l1 l2 : List PA} (hS : S.ps = l1 ++ p :: l2) (hok : GOk S) (hf : ¬ Free p.d (ds (l1 ++ l2))) : 0 < usS S p.b := by
  have h1 : 0 ≤ usS S p.b := (sum_zero _ S.ps (fun x _ => by split <;> split <;> omega)).1
  have h2 : usS S p.b ≠ 0 := fun e => hf (free_of hS hok e)
  omega
instance (p : PD) (l : List PD) : Decidable (Free p l) := inferInstanceAs (Decidable (∀ q ∈ l, q.up ∉ own p ∧ q.down ∉ own p ∧ ∀ v ∈ q.gone, v ∉ own p))
theorem add_no {u : World} {S : GS} {n : Nat} (hn : n ≤ 100) (h : GX u S n) (hL : Laid u) {d : PD} {l g : Value} (ok : GvOk u (d, l, g)) (c : Int) (hr : refD (ds S.ps) d = c) (hc : c ≠ 0) :
    Calls Tryd.prog 22 #[ptr S.g, .agg (givC d l g)] u fun e w' => e = .returned (.int .i64 c) ∧ Below u.heap.size u w' := by
  have hr2 : refB S d = c := by rw [refB_D h.gi.gm.lsl]; exact hr
  refine (add_any S n hn u h hL d l g ok.db ok.first ok.ln ok.gn ok.hz).mono ?_
  rintro e w' ⟨rfl, hq⟩
  unfold AddQ at hq
  rw [hr2, if_neg hc] at hq
  exact ⟨by rw [hr2], hq⟩
theorem ref_0 : refD [] dSecond = 10 := by kernel_rfl
theorem ref_6 : refD [dSecond, dFirst] dFirst = 6 := by kernel_rfl
theorem ref_4 : refD [dFirst] { { dSecond with up := v11 } with down := v10 } = 4 := by kernel_rfl
theorem drew_below (w : World) (m : Nat) : Below w.heap.size w (w.drewN m) := ⟨rfl, rfl, rfl, Nat.le_refl _, fun _ _ => rfl⟩
theorem ds_two {l : List PA} {a b : PD} (h : ds l = [a, b]) : ∃ p q, l = [p, q] ∧ p.d = a ∧ q.d = b := by
  unfold ds at h
  obtain ⟨p, t, rfl, h1, h2⟩ := List.map_eq_cons_iff.1 h
  obtain ⟨q, t, rfl, h3, h4⟩ := List.map_eq_cons_iff.1 h2
  obtain rfl := List.map_eq_nil_iff.1 h4
  exact ⟨p, q, rfl, h1, h3⟩
theorem ds_three {l : List PA} {a b c : PD} (h : ds l = [a, b, c]) : ∃ p q r, l = [p, q, r] ∧ p.d = a ∧ q.d = b ∧ r.d = c := by
  unfold ds at h
  obtain ⟨p, t, rfl, h1, h2⟩ := List.map_eq_cons_iff.1 h
  obtain ⟨q, r, h3, h4, h5⟩ := ds_two (l := t) h2
  exact ⟨p, q, r, by rw [h3], h1, h4, h5⟩
abbrev v90 : Vx := vA 9 0 (by omega) (by omega)
theorem free_no : ¬ Free dFirst [dSecond] := of_decide_eq_false (by kernel_rfl)
theorem free_3 : Free dThird [dThird, dSecond, dFirst] := of_decide_eq_true (by kernel_rfl)
theorem nm_1 : decide (dSecond.nm = v10) = false ∧ decide (dFirst.nm = v10) = true := by constructor <;> kernel_rfl
theorem nm_9 : decide (dSecond.nm = v90) = false ∧ decide (dFirst.nm = v90) = false := by constructor <;> kernel_rfl
theorem nm_3 : decide (dThird.nm = v30) = true ∧ decide (dSecond.nm = v30) = false ∧ decide (dFirst.nm = v30) = false := by refine ⟨?_, ?_, ?_⟩ <;> kernel_rfl
theorem rem_1 {W : World} {S : GS} {n : Nat} (h : GX W S n) (hp : ds S.ps = [dSecond, dFirst]) :
    Calls Tryd.prog 23 #[ptr S.g, .agg (hsC (hb 1)), .int .i64 0] W fun e w' => e = .returned (.int .i64 10) ∧ Below W.heap.size W w' := by
  obtain ⟨p, q, hS, hp1, hq1⟩ := ds_two hp
  have hpb : partB S v10 = some q := by
    unfold partB
    rw [hS, List.find?_cons_of_neg (by rw [hp1, nm_1.1]; decide), List.find?_cons_of_pos (by rw [hq1, nm_1.2])]
  refine remove_used S _ _ v10 q W h.gi.gm hpb (us_pos (l1 := [p]) (l2 := []) hS h.gi.ok ?_)
  rw [hq1, show ds ([p] ++ []) = [dSecond] by simp [ds, hp1]]
  exact free_no
theorem rem_9 {W : World} {S : GS} {n : Nat} (h : GX W S n) (hp : ds S.ps = [dSecond, dFirst]) :
    Calls Tryd.prog 23 #[ptr S.g, .agg (hsC (hb 9)), .int .i64 0] W fun e w' => e = .returned (.int .i64 5) ∧ Below W.heap.size W w' := by
  obtain ⟨p, q, hS, hp1, hq1⟩ := ds_two hp
  refine remove_none S _ _ v90 W h.gi.gm ?_
  unfold partB
  rw [hS, List.find?_cons_of_neg (by rw [hp1, nm_9.1]; decide), List.find?_cons_of_neg (by rw [hq1, nm_9.2]; decide)]
  rfl
/-- what the law's last Remove leaves. -/
def Rem3 (W : World) (S : GS) (n : Nat) (e : Ending) (w' : World) : Prop := e = .returned (.int .i64 0) ∧ ∃ S', S'.g = S.g ∧ ds S'.ps = [dSecond, dFirst] ∧ GX w' S' n ∧ ∃ u, Below W.heap.size W u ∧ Chg (blk S) u w'
theorem rem_3 {W : World} {S : GS} {n : Nat} (hn : n ≤ 100) (h : GX W S n) (hp : ds S.ps = [dThird, dSecond, dFirst]) :
    Calls Tryd.prog 23 #[ptr S.g, .agg (hsC (hb 3)), .int .i64 0] W (Rem3 W S n) := by
  obtain ⟨p, q, r, hS, hp1, hq1, hr1⟩ := ds_three hp
  have hpb : partB S v30 = some p := by
    unfold partB
    rw [hS, List.find?_cons_of_pos (by rw [hp1, nm_3.1])]
  have hu : usS S p.b = 0 := used_not h.gi.gm h.gi.ok (by rw [hS]; simp) (by rw [hp1, hp]; exact free_3)
  refine (remove_gx S n hn v30 p W h hpb hu).mono ?_
  rintro e w' ⟨rfl, l1, l2, hl, hg, hu⟩
  refine ⟨rfl, dropS S p (l1 ++ l2), rfl, ?_, hg, hu⟩
  show ds (l1 ++ l2) = _
  have hne1 : q ≠ p := fun e => by rw [e, hp1] at hq1; exact absurd hq1 (fun e => absurd (congrArg (fun d : PD => d.gone.length) e) (by decide))
  have hne2 : r ≠ p := fun e => by rw [e, hp1] at hr1; exact absurd hr1 (fun e => absurd (congrArg (fun d : PD => d.gone.length) e) (by decide))
  rw [hS] at hl
  match l1, hl with
  | [], hl =>
    obtain rfl : [q, r] = l2 := by injection hl
    simp [ds, hq1, hr1]
  | a :: [], hl =>
    injection hl with _ hl
    injection hl with e _
    exact absurd e hne1
  | a :: b :: [], hl =>
    injection hl with _ hl
    injection hl with _ hl
    injection hl with e _
    exact absurd e hne2
  | a :: b :: c :: t, hl =>
    have := congrArg List.length hl
    simp at this
/-- what operations of the law's last region leave. -/
def NewG (z : Value) (w : World) : Prop := ∃ S, z = ptr S.g ∧ S.ps = [] ∧ GX w S 0
theorem NewG.later {z : Value} {w w' : World} (h : NewG z w) (hb : Below w.heap.size w w') : NewG z w' := by
  obtain ⟨S, h1, h2, h3⟩ := h
  exact ⟨S, h1, h2, h3.below hb⟩
def GvP (d : PD) (z : Value) (w : World) : Prop := ∃ l g, z = .agg (givC d l g) ∧ GvOk w (d, l, g)
theorem GvP.later {d : PD} {z : Value} {w w' : World} (h : GvP d z w) (hb : Below w.heap.size w w') : GvP d z w' := by
  obtain ⟨l, g, h1, h2⟩ := h
  exact ⟨l, g, h1, h2.below hb⟩
def RowP (z : Value) (w : World) : Prop := ∃ b l g, z = .slice (some ⟨b, 0, none⟩) 1 1 ∧ GRow w b dFirst l g ∧ GvOk w (dFirst, l, g)
theorem RowP.later {z : Value} {w w' : World} (h : RowP z w) (hb : Below w.heap.size w w') : RowP z w' := by
  obtain ⟨b, l, g, h1, h2, h3⟩ := h
  exact ⟨b, l, g, h1, at_below h2 hb, h3.below hb⟩
def MdP (z : Value) (w : World) : Prop := ∃ S, z = ptr S.g ∧ ds S.ps = [dFirst] ∧ GX w S 1
theorem MdP.later {z : Value} {w w' : World} (h : MdP z w) (hb : Below w.heap.size w w') : MdP z w' := by
  obtain ⟨S, h1, h2, h3⟩ := h
  exact ⟨S, h1, h2, h3.below hb⟩
theorem made_row {w : World} (hL : Laid w) {b : Nat} {l g : Value} (hb : GRow w b dFirst l g) (ho : GvOk w (dFirst, l, g)) :
    Calls Tryd.prog 11 #[.slice (some ⟨b, 0, none⟩) 1 1] w fun e w' => ∃ S, e = .returned (ptr S.g) ∧ ds S.ps = [dFirst] ∧ GX w' S 1 ∧ Below w.heap.size w w' := by
  refine (made_any [(dFirst, l, g)] (by simp) _ w hL ⟨_, 1, rfl, Nat.le_refl _, fun _ => ⟨b, 0, rfl, (Array.getElem?_eq_some_iff.1 hb).1, fun j x hx => ?_⟩⟩ (fun x hx => by rw [List.mem_singleton.1 hx]; exact ho)).mono fun e w' hq => ?_
  · match j, hx with
    | 0, hx => obtain rfl := Option.some.inj hx; exact row_range hb [] _ [] (by simp) 0 rfl
    | j + 1, hx => simp at hx
  · unfold MdQ at hq
    rw [show mdD [] (List.map (fun x : Gvn => x.1) [(dFirst, l, g)]) = some [dFirst] from md_1] at hq
    obtain ⟨S, h1, h2, h3, h4, _⟩ := hq
    exact ⟨S, h1, h2, h3, h4⟩
def RmP (g : Nat) (_ : Value) (w : World) : Prop := ∃ S, S.g = g ∧ ds S.ps = [dSecond, dFirst] ∧ GX w S 3 ∧ Laid w
theorem RmP.later {g : Nat} {z : Value} {w w' : World} (h : RmP g z w) (hb : Below w.heap.size w w') : RmP g z w' := by
  obtain ⟨S, h1, h2, h3, h4⟩ := h
  exact ⟨S, h1, h2, h3.below hb, h4.below hb (Nat.le_refl _)⟩
/-- the worlds of the law's last region: nothing of its beginning turns until operation 73 comes. -/
structure RelK (q : Nat) (w0 W : World) (ll : Array Bool) (wx : World) : Prop where
  all : Below w0.heap.size w0 wx
  bef : ll.getD q false = false → Below W.heap.size W wx
theorem getD_still {l : Array Bool} {q i : Nat} (h : (l.setIfInBounds i true).getD q false = false) : l.getD q false = false := by
  cases e : l.getD q false with
  | false => rfl
  | true => rw [getD_set_true e] at h; cases h
theorem RelK.keep {q i : Nat} {w0 W wx : World} {ll : Array Bool} (h : RelK q w0 W ll wx) : RelK q w0 W (ll.setIfInBounds i true) wx := ⟨h.all, fun e => h.bef (getD_still e)⟩
theorem RelK.call {q i : Nat} {w0 W wx w' : World} {ll : Array Bool} (h : RelK q w0 W ll wx) (low : Below wx.heap.size wx w') : RelK q w0 W (ll.setIfInBounds i true) w' :=
  ⟨h.all.trans (low.mono h.all.size), fun e => (h.bef (getD_still e)).trans (low.mono (h.bef (getD_still e)).size)⟩
theorem RelK.past {q : Nat} {w0 W w' : World} {ll : Array Bool} (hq : q < ll.size) (h : Below w0.heap.size w0 w') : RelK q w0 W (ll.setIfInBounds q true) w' := ⟨h, fun e => by simp [hq] at e⟩
end Go.Proofs.YtnjeppmpnaemlaaDoor.Grf
