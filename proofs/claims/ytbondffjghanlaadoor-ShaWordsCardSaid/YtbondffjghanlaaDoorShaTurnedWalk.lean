/- DERIVED. The walk of ShaTurned: it answers true at every digest and every text. -/
import Derived.Test.YtbondffjghanlaaDoorShaTurnedMath
import Derived.Test.YtbondffjghanlaaDoorShaAnyWalk
import Derived.Deep.DeepCutAuto
namespace Go.Proofs.YtbondffjghanlaaDoor.lawTurned
open Go.RowKit lawAnybody
set_option maxRecDepth 100000 in
set_option maxHeartbeats 1000000 in
theorem walk_long (l : List Int) (s : ByteArray) (w : World) (hL : Laid w) (hm : 3000 < s.size) (hx : s.size ≤ 9223372036854775807) :
    Calls Tryd.prog 10 #[.agg (u8s l), .string s] w fun e' w' => e' = .returned (.bool true) ∧ Below w.heap.size w w' := by
  have hsz := hL.sz
  have low0 := (Below.refl w.heap.size w).alloc (Nat.le_refl _) (.cells (u8s l) 35)
  have HL := Lib.hid (hL.below low0 hsz)
  have hm' : (3000 : Int) < s.size := by omega
  have Low0 := Lib.hid low0
  clear hL hm low0
  go_enter Tryd.func10, Tryd.ntmps10
  go_wp2_with (go_at_call 23; refine (awake_any _ HL.out).mono ?_; rintro e w1 ⟨rfl, low1⟩)
  go_ret
  exact ⟨rfl, Low0.out.trans (low1.mono Low0.out.size)⟩
/-- a digest stored into a row just made: the new world by what it holds alone. -/
theorem wpList_store_new {ops : Array Oper} {rest : List Oper} {o : Oper} {a : Act} {w : World} {Q : Exit → Act → World → Prop} (hgd : o.guard = none) (x y : Operand) (ho : o.op = .store 35 x y) (l : List Int) (hl : l.length = 32)
    (C : Array Value) (hC : C.size = 32) (hx : a.eval x = .pointer (some ⟨w.heap.size, 0, none⟩)) (hy : a.eval y = .agg (u8s l))
    (h : ∀ w', w'.heap[w.heap.size]? = some (.cells (u8s l) 35 (0, 0)) → Below w.heap.size w w' → wpList Tryd.prog ops Q rest (a.put o.dst undef) w') : wpList Tryd.prog ops Q (o :: rest) a (w.alloc (.cells C 35)) := by
  have hi : (Tryd.prog.info? 35).map (·.size) = some (u8s l).size := by rw [u8s_size, hl]; exact info35
  refine wpList_store_row hgd 35 x y ho w.heap.size (u8s l) hx hy 35 C (Go.heap_alloc_new w _) hi (by rw [u8s_size, hl, hC]) (u8s_one _) ?_
  exact h _ (setRow_heap _ _ _ _ _ _ (Go.heap_alloc_new w _)) (below_setRow ((Below.refl _ _).alloc (Nat.le_refl _) _) (Nat.le_refl _) _)
attribute [local go_sem ↓ high] loadAt35
set_option maxRecDepth 100000 in
set_option maxHeartbeats 1000000 in
theorem walk_good (l X : List Int) (T0 s : ByteArray) (w : World) (hl : l.length = 32) (hX : X.length = 32) (hL : Laid w) (hs : s.size ≤ 3000)
    (ht : ∀ W : World, Calls Tryd.prog 30 #[.agg (u8s l)] W fun e w' => e = .returned (.string T0) ∧ Below W.heap.size W w')
    (ho : ∀ W : World, Calls Tryd.prog 28 #[.string T0] W fun e w' => e = .returned (.tuple #[.agg (u8s l), .bool true]) ∧ Below W.heap.size W w')
    (hx : ∀ W : World, Calls Tryd.prog 28 #[.string s] W fun e w' => e = .returned (.tuple #[.agg (u8s X), .bool true]) ∧ Below W.heap.size W w')
    (hy : ∀ W : World, Calls Tryd.prog 30 #[.agg (u8s X)] W fun e w' => e = .returned (.string s) ∧ Below W.heap.size W w') :
    Calls Tryd.prog 10 #[.agg (u8s l), .string s] w fun e' w' => e' = .returned (.bool true) ∧ Below w.heap.size w w' := by
  have hsz := hL.sz
  have HL := Lib.hid hL
  have Hl := Lib.hid hl
  have HX := Lib.hid hX
  have Ht := Lib.hid ht
  have Ho := Lib.hid ho
  have Hx := Lib.hid hx
  have Hy := Lib.hid hy
  have hm' : ¬ (3000 : Int) < s.size := by omega
  have h1 := Go.heap_alloc_new w (.cells (u8s l) 35)
  have Low1 := Lib.hid ((Below.refl w.heap.size w).alloc (Nat.le_refl _) (.cells (u8s l) 35))
  have l1 := load35_eq hl h1
  have H1 := Lib.hid h1
  have e0 := fun W => eql35_same l hl W
  have e1 := fun W => equal35_same l hl W
  clear hL hl h1 hX ht ho hx hy
  go_enter Tryd.func10, Tryd.ntmps10
  go_upto_region 4 with (first
    | (go_at_call 30; refine (Ht.out _).mono ?_; rintro e w2 ⟨rfl, low2⟩; have H2 := Lib.hid ((low2.block _ (Array.getElem?_eq_some_iff.1 H1.out).1).trans H1.out); have Low2 := Lib.hid (Low1.out.trans (low2.mono Low1.out.size)); clear low2)
    | (go_at_call 28; refine (Ho.out w2).mono ?_; rintro e w3 ⟨rfl, low3⟩; have H3 := Lib.hid ((low3.block _ (Array.getElem?_eq_some_iff.1 H2.out).1).trans H2.out); have Low3 := Lib.hid (Low2.out.trans (low3.mono Low2.out.size)); clear low3)
    | (refine wpList_store_new rfl (.tmp 5) (.tmp 17) rfl l Hl.out _ (by rfl) (by rfl) (by rfl) ?_; intro w4 h4 b4; have H4 := Lib.hid ((b4.block _ (Array.getElem?_eq_some_iff.1 H3.out).1).trans H3.out); have G4 := Lib.hid h4; have Low4 := Lib.hid (Low3.out.trans (b4.mono Low3.out.size)); clear h4 b4))
  clear l1
  go_upto_region 5 with (first
    | (go_at_call 28; refine (Hx.out w4).mono ?_; rintro e w5 ⟨rfl, low5⟩; have H5 := Lib.hid ((low5.block _ (Array.getElem?_eq_some_iff.1 H4.out).1).trans H4.out); have G5 := Lib.hid ((low5.block _ (Array.getElem?_eq_some_iff.1 G4.out).1).trans G4.out); have Low5 := Lib.hid (Low4.out.trans (low5.mono Low4.out.size)); clear low5)
    | (refine wpList_store_new rfl (.tmp 7) (.tmp 22) rfl X HX.out _ (by rfl) (by rfl) (by rfl) ?_; intro w6 h6 b6; have l2 := load35_eq Hl.out ((b6.block _ (Array.getElem?_eq_some_iff.1 H5.out).1).trans H5.out); have l5 := load35_eq Hl.out ((b6.block _ (Array.getElem?_eq_some_iff.1 G5.out).1).trans G5.out); have l6 := load35_eq HX.out h6; have H6 := Lib.hid h6; have Low6 := Lib.hid (Low5.out.trans (b6.mono Low5.out.size)); clear h6 b6))
  go_wp2_with (first
    | (go_at_call 23; refine (awake_any w7 (HL.out.below Low7.out hsz)).mono ?_; rintro e w8 ⟨rfl, low8⟩; have Low8 := Lib.hid (Low7.out.trans (low8.mono Low7.out.size)); clear low8)
    | (go_at_call 30; refine (Hy.out w6).mono ?_; rintro e w7 ⟨rfl, low7⟩; have l7 := load35_eq HX.out ((low7.block _ (Array.getElem?_eq_some_iff.1 H6.out).1).trans H6.out); have Low7 := Lib.hid (Low6.out.trans (low7.mono Low6.out.size)); clear low7))
  go_ret
  exact ⟨rfl, Low8.out⟩
set_option maxRecDepth 100000 in
set_option maxHeartbeats 1000000 in
theorem walk_bad (l X : List Int) (T0 T s : ByteArray) (w : World) (hl : l.length = 32) (hX : X.length = 32) (hL : Laid w) (hs : s.size ≤ 3000)
    (ht : ∀ W : World, Calls Tryd.prog 30 #[.agg (u8s l)] W fun e w' => e = .returned (.string T0) ∧ Below W.heap.size W w')
    (ho : ∀ W : World, Calls Tryd.prog 28 #[.string T0] W fun e w' => e = .returned (.tuple #[.agg (u8s l), .bool true]) ∧ Below W.heap.size W w')
    (hx : ∀ W : World, Calls Tryd.prog 28 #[.string s] W fun e w' => e = .returned (.tuple #[.agg (u8s X), .bool false]) ∧ Below W.heap.size W w')
    (hy : ∀ W : World, Calls Tryd.prog 30 #[.agg (u8s X)] W fun e w' => e = .returned (.string T) ∧ Below W.heap.size W w') (hne : ¬ T = s) (hz : X = List.replicate 32 0) :
    Calls Tryd.prog 10 #[.agg (u8s l), .string s] w fun e' w' => e' = .returned (.bool true) ∧ Below w.heap.size w w' := by
  have hsz := hL.sz
  have HL := Lib.hid hL
  have Hl := Lib.hid hl
  have HX := Lib.hid hX
  have Ht := Lib.hid ht
  have Ho := Lib.hid ho
  have Hx := Lib.hid hx
  have Hy := Lib.hid hy
  have hm' : ¬ (3000 : Int) < s.size := by omega
  have h1 := Go.heap_alloc_new w (.cells (u8s l) 35)
  have Low1 := Lib.hid ((Below.refl w.heap.size w).alloc (Nat.le_refl _) (.cells (u8s l) 35))
  have l1 := load35_eq hl h1
  have H1 := Lib.hid h1
  have e0 := fun W => eql35_same l hl W
  have e1 := fun W => equal35_same l hl W
  have hu : #[.int .u8 0, .int .u8 0, .int .u8 0, .int .u8 0, .int .u8 0, .int .u8 0, .int .u8 0, .int .u8 0, .int .u8 0, .int .u8 0, .int .u8 0, .int .u8 0, .int .u8 0, .int .u8 0, .int .u8 0, .int .u8 0, .int .u8 0, .int .u8 0, .int .u8 0, .int .u8 0, .int .u8 0, .int .u8 0, .int .u8 0, .int .u8 0, .int .u8 0, .int .u8 0, .int .u8 0, .int .u8 0, .int .u8 0, .int .u8 0, .int .u8 0, .int .u8 0] = u8s X := by rw [hz]; rfl
  have z0 : ∀ W, (binOp .eql 35 (.agg (u8s X)) (.agg #[.int .u8 0, .int .u8 0, .int .u8 0, .int .u8 0, .int .u8 0, .int .u8 0, .int .u8 0, .int .u8 0, .int .u8 0, .int .u8 0, .int .u8 0, .int .u8 0, .int .u8 0, .int .u8 0, .int .u8 0, .int .u8 0, .int .u8 0, .int .u8 0, .int .u8 0, .int .u8 0, .int .u8 0, .int .u8 0, .int .u8 0, .int .u8 0, .int .u8 0, .int .u8 0, .int .u8 0, .int .u8 0, .int .u8 0, .int .u8 0, .int .u8 0, .int .u8 0])).run Tryd.prog W = .ok (.bool true) W := fun W => by rw [hu]; exact eql35_same X hX W
  have z1 : ∀ W, (Op.equalIn 10000 35 (.agg (u8s X)) (.agg #[.int .u8 0, .int .u8 0, .int .u8 0, .int .u8 0, .int .u8 0, .int .u8 0, .int .u8 0, .int .u8 0, .int .u8 0, .int .u8 0, .int .u8 0, .int .u8 0, .int .u8 0, .int .u8 0, .int .u8 0, .int .u8 0, .int .u8 0, .int .u8 0, .int .u8 0, .int .u8 0, .int .u8 0, .int .u8 0, .int .u8 0, .int .u8 0, .int .u8 0, .int .u8 0, .int .u8 0, .int .u8 0, .int .u8 0, .int .u8 0, .int .u8 0, .int .u8 0])).run Tryd.prog W = .ok true W := fun W => by rw [hu]; exact equal35_same X hX W
  have hne' : (T.toList == s.toList) = false := by
    rw [beq_eq_false_iff_ne, ByteArray.toList_eq, ByteArray.toList_eq]
    exact fun h => hne (ByteArray.ext (Array.toList_inj.1 h))
  clear hu hz hne
  clear hL hl h1 hX ht ho hx hy
  go_enter Tryd.func10, Tryd.ntmps10
  go_upto_region 4 with (first
    | (go_at_call 30; refine (Ht.out _).mono ?_; rintro e w2 ⟨rfl, low2⟩; have H2 := Lib.hid ((low2.block _ (Array.getElem?_eq_some_iff.1 H1.out).1).trans H1.out); have Low2 := Lib.hid (Low1.out.trans (low2.mono Low1.out.size)); clear low2)
    | (go_at_call 28; refine (Ho.out w2).mono ?_; rintro e w3 ⟨rfl, low3⟩; have H3 := Lib.hid ((low3.block _ (Array.getElem?_eq_some_iff.1 H2.out).1).trans H2.out); have Low3 := Lib.hid (Low2.out.trans (low3.mono Low2.out.size)); clear low3)
    | (refine wpList_store_new rfl (.tmp 5) (.tmp 17) rfl l Hl.out _ (by rfl) (by rfl) (by rfl) ?_; intro w4 h4 b4; have H4 := Lib.hid ((b4.block _ (Array.getElem?_eq_some_iff.1 H3.out).1).trans H3.out); have G4 := Lib.hid h4; have Low4 := Lib.hid (Low3.out.trans (b4.mono Low3.out.size)); clear h4 b4))
  clear l1
  go_upto_region 5 with (first
    | (go_at_call 28; refine (Hx.out w4).mono ?_; rintro e w5 ⟨rfl, low5⟩; have H5 := Lib.hid ((low5.block _ (Array.getElem?_eq_some_iff.1 H4.out).1).trans H4.out); have G5 := Lib.hid ((low5.block _ (Array.getElem?_eq_some_iff.1 G4.out).1).trans G4.out); have Low5 := Lib.hid (Low4.out.trans (low5.mono Low4.out.size)); clear low5)
    | (refine wpList_store_new rfl (.tmp 7) (.tmp 22) rfl X HX.out _ (by rfl) (by rfl) (by rfl) ?_; intro w6 h6 b6; have l2 := load35_eq Hl.out ((b6.block _ (Array.getElem?_eq_some_iff.1 H5.out).1).trans H5.out); have l5 := load35_eq Hl.out ((b6.block _ (Array.getElem?_eq_some_iff.1 G5.out).1).trans G5.out); have l6 := load35_eq HX.out h6; have H6 := Lib.hid h6; have Low6 := Lib.hid (Low5.out.trans (b6.mono Low5.out.size)); clear h6 b6))
  go_wp2_with (first
    | (go_at_call 23; refine (awake_any w7 (HL.out.below Low7.out hsz)).mono ?_; rintro e w8 ⟨rfl, low8⟩; have Low8 := Lib.hid (Low7.out.trans (low8.mono Low7.out.size)); clear low8)
    | (go_at_call 30; refine (Hy.out w6).mono ?_; rintro e w7 ⟨rfl, low7⟩; have l7 := load35_eq HX.out ((low7.block _ (Array.getElem?_eq_some_iff.1 H6.out).1).trans H6.out); have Low7 := Lib.hid (Low6.out.trans (low7.mono Low6.out.size)); clear low7))
  go_ret
  exact ⟨rfl, Low8.out⟩
end Go.Proofs.YtbondffjghanlaaDoor.lawTurned
