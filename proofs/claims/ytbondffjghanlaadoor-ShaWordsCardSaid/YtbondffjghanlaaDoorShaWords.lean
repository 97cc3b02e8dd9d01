/- DERIVED. The walk of ShaWords. -/
import Derived.Test.YtbondffjghanlaaDoorRefOf
import Derived.Deep.RegionWith
import Derived.Test.YtbondffjghanlaaDoorRegionLine
namespace Go.Proofs.YtbondffjghanlaaDoor.lawWords
open Go.RowKit lawAnybody lawTurned
set_option maxRecDepth 100000 in
set_option maxHeartbeats 1000000 in
theorem walk_long (l : List Int) (s : ByteArray) (w : World) (hL : Laid w) (hm : 3000 < s.size) (hx : s.size ≤ 9223372036854775807) :
    Calls Tryd.prog 6 #[.agg (u8s l), .string s] w fun e' w' => e' = .returned (.bool true) ∧ Below w.heap.size w w' := by
  have hsz := hL.sz
  have low0 := (Below.refl w.heap.size w).alloc (Nat.le_refl _) (.cells (u8s l) 35)
  have HL := Lib.hid (hL.below low0 hsz)
  have hm' : (3000 : Int) < s.size := by omega
  have Low0 := Lib.hid low0
  clear hL hm low0
  go_enter Tryd.func6, Tryd.ntmps6
  go_wp2_with (go_at_call 23; refine (awake_any _ HL.out).mono ?_; rintro e w1 ⟨rfl, low1⟩)
  go_ret
  exact ⟨rfl, Low0.out.trans (low1.mono Low0.out.size)⟩
attribute [local go_sem ↓ high] loadAt35
set_option maxRecDepth 100000 in
set_option maxHeartbeats 2000000 in
theorem walk_short (l X : List Int) (b : Bool) (T s : ByteArray) (w : World) (hl : l.length = 32) (hX : X.length = 32) (hL : Laid w) (hs : s.size ≤ 3000)
    (ht : ∀ W : World, Calls Tryd.prog 30 #[.agg (u8s l)] W fun e w' => e = .returned (.string T) ∧ Below W.heap.size W w')
    (hr : ∀ W : World, Calls Tryd.prog 31 #[.agg (u8s l)] W fun e w' => e = .returned (.string T) ∧ Below W.heap.size W w')
    (ho : ∀ W : World, Calls Tryd.prog 28 #[.string s] W fun e w' => e = .returned (.tuple #[.agg (u8s X), .bool b]) ∧ Below W.heap.size W w')
    (hq : ∀ W : World, Calls Tryd.prog 29 #[.string s] W fun e w' => e = .returned (.tuple #[.agg (u8s X), .bool b]) ∧ Below W.heap.size W w') :
    Calls Tryd.prog 6 #[.agg (u8s l), .string s] w fun e' w' => e' = .returned (.bool true) ∧ Below w.heap.size w w' := by
  have hsz := hL.sz
  have HL := Lib.hid hL
  have Hl := Lib.hid hl
  have HX := Lib.hid hX
  have Ht := Lib.hid ht
  have Hr := Lib.hid hr
  have Ho := Lib.hid ho
  have Hq := Lib.hid hq
  have hm' : ¬ (3000 : Int) < s.size := by omega
  have h1 := Go.heap_alloc_new w (.cells (u8s l) 35)
  have Low1 := Lib.hid ((Below.refl w.heap.size w).alloc (Nat.le_refl _) (.cells (u8s l) 35))
  have H1 := Lib.hid h1
  have e0 := fun W => eql35_same X hX W
  have e1 := fun W => equal35_same X hX W
  clear hL hl h1 hX ht hr ho hq
  cases b
  all_goals
    go_enter Tryd.func6, Tryd.ntmps6
    go_upto_region 4 with (first
      | (go_at_call 28; refine (Ho.out _).mono ?_; rintro e w2 ⟨rfl, low2⟩; have H2 := Lib.hid ((low2.block _ (Array.getElem?_eq_some_iff.1 H1.out).1).trans H1.out); have Low2 := Lib.hid (Low1.out.trans (low2.mono Low1.out.size)); clear low2)
      | (refine wpList_store_new rfl (.tmp 5) (.tmp 16) rfl X HX.out _ (by rfl) (by rfl) (by rfl) ?_; intro w3 h3 b3; have H3 := Lib.hid ((b3.block _ (Array.getElem?_eq_some_iff.1 H2.out).1).trans H2.out); have G3 := Lib.hid h3; have Low3 := Lib.hid (Low2.out.trans (b3.mono Low2.out.size)); clear h3 b3))
    go_upto_region 5 with (first
      | (go_at_call 29; refine (Hq.out w3).mono ?_; rintro e w4 ⟨rfl, low4⟩; have H4 := Lib.hid ((low4.block _ (Array.getElem?_eq_some_iff.1 H3.out).1).trans H3.out); have G4 := Lib.hid ((low4.block _ (Array.getElem?_eq_some_iff.1 G3.out).1).trans G3.out); have Low4 := Lib.hid (Low3.out.trans (low4.mono Low3.out.size)); clear low4)
      | (refine wpList_store_new rfl (.tmp 7) (.tmp 21) rfl X HX.out _ (by rfl) (by rfl) (by rfl) ?_; intro w5 h5 b5; have H5 := Lib.hid ((b5.block _ (Array.getElem?_eq_some_iff.1 H4.out).1).trans H4.out); have G5 := Lib.hid ((b5.block _ (Array.getElem?_eq_some_iff.1 G4.out).1).trans G4.out); have K5 := Lib.hid h5; have Low5 := Lib.hid (Low4.out.trans (b5.mono Low4.out.size)); clear h5 b5))
    have lA := load35_eq (w := w5.drew) Hl.out H5.out
    refine wp_region_any (by kernel_rfl) ?_
    change wpAny _ _ _ _ _ _ _ (World.drew w5)
    refine wpAny_ready (rs := [0, 2]) (by kernel_rfl) (by simp) ?_
    refine AllReady.cons rfl (fun K hK => ?_) (AllReady.cons rfl (fun K hK => ?_) AllReady.nil)
    · go_simp
      refine hK _ _ ?_
      clear hK K
      refine wpAny_ready (rs := [1, 2]) (by kernel_rfl) (by simp) ?_
      refine AllReady.cons rfl (fun K hK => ?_) (AllReady.cons rfl (fun K hK => ?_) AllReady.nil)
      · go_simp
        go_at_call 30; refine (Ht.out _).mono ?_; rintro e w6 ⟨rfl, low6⟩; have lB := load35_eq Hl.out ((low6.block _ (Array.getElem?_eq_some_iff.1 H5.out).1).trans H5.out); have G6 := Lib.hid ((low6.block _ (Array.getElem?_eq_some_iff.1 G5.out).1).trans G5.out); have K6 := Lib.hid ((low6.block _ (Array.getElem?_eq_some_iff.1 K5.out).1).trans K5.out); have Low6 := Lib.hid (Low5.out.drew.trans (low6.mono Low5.out.size)); clear low6
        refine hK _ _ ?_
        clear hK K
        refine wpAny_mid 2 6 (by kernel_rfl) (by kernel_rfl) (by kernel_rfl) ?_
        simp only [List.drop_succ_cons, List.drop_zero, Nat.reduceSub, List.take_succ_cons, List.take_zero]
        go_wp2_with (go_at_call 31; refine (Hr.out w6).mono ?_; rintro e w7 ⟨rfl, low7⟩; have l5 := load35_eq HX.out ((low7.block _ (Array.getElem?_eq_some_iff.1 G6.out).1).trans G6.out); have l7 := load35_eq HX.out ((low7.block _ (Array.getElem?_eq_some_iff.1 K6.out).1).trans K6.out); have Low7 := Lib.hid (Low6.out.trans (low7.mono Low6.out.size)); clear low7)
        change wpAny _ _ _ _ _ _ _ _
        refine wpAny_ready (rs := [6, 7]) (by kernel_rfl) (by simp) ?_
        refine AllReady.cons rfl (fun K hK => ?_) (AllReady.cons rfl (fun K hK => ?_) AllReady.nil)
        · go_simp
          refine hK _ _ ?_
          clear hK K
          refine wpAny_ready (rs := [7]) (by kernel_rfl) (by simp) ?_
          refine AllReady.cons rfl (fun K hK => ?_) AllReady.nil
          go_simp
          refine hK _ _ ?_
          clear hK K
          refine wpAny_mid 8 11 (by kernel_rfl) (by kernel_rfl) (by kernel_rfl) ?_
          simp only [List.drop_succ_cons, List.drop_zero, Nat.reduceSub, List.take_succ_cons, List.take_zero]
          go_wp2
          change wpAny _ _ _ _ _ _ _ _
          refine wpAny_ready (rs := [11, 12]) (by kernel_rfl) (by simp) ?_
          refine AllReady.cons rfl (fun K hK => ?_) (AllReady.cons rfl (fun K hK => ?_) AllReady.nil)
          · go_simp
            refine hK _ _ ?_
            clear hK K
            refine wpAny_ready (rs := [12]) (by kernel_rfl) (by simp) ?_
            refine AllReady.cons rfl (fun K hK => ?_) AllReady.nil
            go_simp
            refine hK _ _ ?_
            clear hK K
            refine wpAny_rest 13 (by kernel_rfl) (by kernel_rfl) (by kernel_rfl) ?_
            simp only [List.drop_succ_cons, List.drop_zero]
            go_wp2_with (go_at_call 23; refine (awake_any w7 (HL.out.below Low7.out hsz)).mono ?_; rintro e w8 ⟨rfl, low8⟩; have Low8 := Lib.hid (Low7.out.trans (low8.mono Low7.out.size)); clear low8)
            go_ret
            exact ⟨rfl, Low8.out⟩
          · go_simp
            refine hK _ _ ?_
            clear hK K
            refine wpAny_ready (rs := [11]) (by kernel_rfl) (by simp) ?_
            refine AllReady.cons rfl (fun K hK => ?_) AllReady.nil
            go_simp
            refine hK _ _ ?_
            clear hK K
            refine wpAny_rest 13 (by kernel_rfl) (by kernel_rfl) (by kernel_rfl) ?_
            simp only [List.drop_succ_cons, List.drop_zero]
            go_wp2_with (go_at_call 23; refine (awake_any w7 (HL.out.below Low7.out hsz)).mono ?_; rintro e w8 ⟨rfl, low8⟩; have Low8 := Lib.hid (Low7.out.trans (low8.mono Low7.out.size)); clear low8)
            go_ret
            exact ⟨rfl, Low8.out⟩
        · go_simp
          refine hK _ _ ?_
          clear hK K
          refine wpAny_ready (rs := [6]) (by kernel_rfl) (by simp) ?_
          refine AllReady.cons rfl (fun K hK => ?_) AllReady.nil
          go_simp
          refine hK _ _ ?_
          clear hK K
          refine wpAny_mid 8 11 (by kernel_rfl) (by kernel_rfl) (by kernel_rfl) ?_
          simp only [List.drop_succ_cons, List.drop_zero, Nat.reduceSub, List.take_succ_cons, List.take_zero]
          go_wp2
          change wpAny _ _ _ _ _ _ _ _
          refine wpAny_ready (rs := [11, 12]) (by kernel_rfl) (by simp) ?_
          refine AllReady.cons rfl (fun K hK => ?_) (AllReady.cons rfl (fun K hK => ?_) AllReady.nil)
          · go_simp
            refine hK _ _ ?_
            clear hK K
            refine wpAny_ready (rs := [12]) (by kernel_rfl) (by simp) ?_
            refine AllReady.cons rfl (fun K hK => ?_) AllReady.nil
            go_simp
            refine hK _ _ ?_
            clear hK K
            refine wpAny_rest 13 (by kernel_rfl) (by kernel_rfl) (by kernel_rfl) ?_
            simp only [List.drop_succ_cons, List.drop_zero]
            go_wp2_with (go_at_call 23; refine (awake_any w7 (HL.out.below Low7.out hsz)).mono ?_; rintro e w8 ⟨rfl, low8⟩; have Low8 := Lib.hid (Low7.out.trans (low8.mono Low7.out.size)); clear low8)
            go_ret
            exact ⟨rfl, Low8.out⟩
          · go_simp
            refine hK _ _ ?_
            clear hK K
            refine wpAny_ready (rs := [11]) (by kernel_rfl) (by simp) ?_
            refine AllReady.cons rfl (fun K hK => ?_) AllReady.nil
            go_simp
            refine hK _ _ ?_
            clear hK K
            refine wpAny_rest 13 (by kernel_rfl) (by kernel_rfl) (by kernel_rfl) ?_
            simp only [List.drop_succ_cons, List.drop_zero]
            go_wp2_with (go_at_call 23; refine (awake_any w7 (HL.out.below Low7.out hsz)).mono ?_; rintro e w8 ⟨rfl, low8⟩; have Low8 := Lib.hid (Low7.out.trans (low8.mono Low7.out.size)); clear low8)
            go_ret
            exact ⟨rfl, Low8.out⟩
      · go_simp
        refine hK _ _ ?_
        clear hK K
        refine wpAny_ready (rs := [1]) (by kernel_rfl) (by simp) ?_
        refine AllReady.cons rfl (fun K hK => ?_) AllReady.nil
        go_simp
        go_at_call 30; refine (Ht.out _).mono ?_; rintro e w6 ⟨rfl, low6⟩; have lB := load35_eq Hl.out ((low6.block _ (Array.getElem?_eq_some_iff.1 H5.out).1).trans H5.out); have G6 := Lib.hid ((low6.block _ (Array.getElem?_eq_some_iff.1 G5.out).1).trans G5.out); have K6 := Lib.hid ((low6.block _ (Array.getElem?_eq_some_iff.1 K5.out).1).trans K5.out); have Low6 := Lib.hid (Low5.out.drew.trans (low6.mono Low5.out.size)); clear low6
        refine hK _ _ ?_
        clear hK K
        refine wpAny_mid 3 6 (by kernel_rfl) (by kernel_rfl) (by kernel_rfl) ?_
        simp only [List.drop_succ_cons, List.drop_zero, Nat.reduceSub, List.take_succ_cons, List.take_zero]
        go_wp2_with (go_at_call 31; refine (Hr.out w6).mono ?_; rintro e w7 ⟨rfl, low7⟩; have l5 := load35_eq HX.out ((low7.block _ (Array.getElem?_eq_some_iff.1 G6.out).1).trans G6.out); have l7 := load35_eq HX.out ((low7.block _ (Array.getElem?_eq_some_iff.1 K6.out).1).trans K6.out); have Low7 := Lib.hid (Low6.out.trans (low7.mono Low6.out.size)); clear low7)
        change wpAny _ _ _ _ _ _ _ _
        refine wpAny_ready (rs := [6, 7]) (by kernel_rfl) (by simp) ?_
        refine AllReady.cons rfl (fun K hK => ?_) (AllReady.cons rfl (fun K hK => ?_) AllReady.nil)
        · go_simp
          refine hK _ _ ?_
          clear hK K
          refine wpAny_ready (rs := [7]) (by kernel_rfl) (by simp) ?_
          refine AllReady.cons rfl (fun K hK => ?_) AllReady.nil
          go_simp
          refine hK _ _ ?_
          clear hK K
          refine wpAny_mid 8 11 (by kernel_rfl) (by kernel_rfl) (by kernel_rfl) ?_
          simp only [List.drop_succ_cons, List.drop_zero, Nat.reduceSub, List.take_succ_cons, List.take_zero]
          go_wp2
          change wpAny _ _ _ _ _ _ _ _
          refine wpAny_ready (rs := [11, 12]) (by kernel_rfl) (by simp) ?_
          refine AllReady.cons rfl (fun K hK => ?_) (AllReady.cons rfl (fun K hK => ?_) AllReady.nil)
          · go_simp
            refine hK _ _ ?_
            clear hK K
            refine wpAny_ready (rs := [12]) (by kernel_rfl) (by simp) ?_
            refine AllReady.cons rfl (fun K hK => ?_) AllReady.nil
            go_simp
            refine hK _ _ ?_
            clear hK K
            refine wpAny_rest 13 (by kernel_rfl) (by kernel_rfl) (by kernel_rfl) ?_
            simp only [List.drop_succ_cons, List.drop_zero]
            go_wp2_with (go_at_call 23; refine (awake_any w7 (HL.out.below Low7.out hsz)).mono ?_; rintro e w8 ⟨rfl, low8⟩; have Low8 := Lib.hid (Low7.out.trans (low8.mono Low7.out.size)); clear low8)
            go_ret
            exact ⟨rfl, Low8.out⟩
          · go_simp
            refine hK _ _ ?_
            clear hK K
            refine wpAny_ready (rs := [11]) (by kernel_rfl) (by simp) ?_
            refine AllReady.cons rfl (fun K hK => ?_) AllReady.nil
            go_simp
            refine hK _ _ ?_
            clear hK K
            refine wpAny_rest 13 (by kernel_rfl) (by kernel_rfl) (by kernel_rfl) ?_
            simp only [List.drop_succ_cons, List.drop_zero]
            go_wp2_with (go_at_call 23; refine (awake_any w7 (HL.out.below Low7.out hsz)).mono ?_; rintro e w8 ⟨rfl, low8⟩; have Low8 := Lib.hid (Low7.out.trans (low8.mono Low7.out.size)); clear low8)
            go_ret
            exact ⟨rfl, Low8.out⟩
        · go_simp
          refine hK _ _ ?_
          clear hK K
          refine wpAny_ready (rs := [6]) (by kernel_rfl) (by simp) ?_
          refine AllReady.cons rfl (fun K hK => ?_) AllReady.nil
          go_simp
          refine hK _ _ ?_
          clear hK K
          refine wpAny_mid 8 11 (by kernel_rfl) (by kernel_rfl) (by kernel_rfl) ?_
          simp only [List.drop_succ_cons, List.drop_zero, Nat.reduceSub, List.take_succ_cons, List.take_zero]
          go_wp2
          change wpAny _ _ _ _ _ _ _ _
          refine wpAny_ready (rs := [11, 12]) (by kernel_rfl) (by simp) ?_
          refine AllReady.cons rfl (fun K hK => ?_) (AllReady.cons rfl (fun K hK => ?_) AllReady.nil)
          · go_simp
            refine hK _ _ ?_
            clear hK K
            refine wpAny_ready (rs := [12]) (by kernel_rfl) (by simp) ?_
            refine AllReady.cons rfl (fun K hK => ?_) AllReady.nil
            go_simp
            refine hK _ _ ?_
            clear hK K
            refine wpAny_rest 13 (by kernel_rfl) (by kernel_rfl) (by kernel_rfl) ?_
            simp only [List.drop_succ_cons, List.drop_zero]
            go_wp2_with (go_at_call 23; refine (awake_any w7 (HL.out.below Low7.out hsz)).mono ?_; rintro e w8 ⟨rfl, low8⟩; have Low8 := Lib.hid (Low7.out.trans (low8.mono Low7.out.size)); clear low8)
            go_ret
            exact ⟨rfl, Low8.out⟩
          · go_simp
            refine hK _ _ ?_
            clear hK K
            refine wpAny_ready (rs := [11]) (by kernel_rfl) (by simp) ?_
            refine AllReady.cons rfl (fun K hK => ?_) AllReady.nil
            go_simp
            refine hK _ _ ?_
            clear hK K
            refine wpAny_rest 13 (by kernel_rfl) (by kernel_rfl) (by kernel_rfl) ?_
            simp only [List.drop_succ_cons, List.drop_zero]
            go_wp2_with (go_at_call 23; refine (awake_any w7 (HL.out.below Low7.out hsz)).mono ?_; rintro e w8 ⟨rfl, low8⟩; have Low8 := Lib.hid (Low7.out.trans (low8.mono Low7.out.size)); clear low8)
            go_ret
            exact ⟨rfl, Low8.out⟩
    · go_simp
      refine hK _ _ ?_
      clear hK K
      refine wpAny_ready (rs := [0]) (by kernel_rfl) (by simp) ?_
      refine AllReady.cons rfl (fun K hK => ?_) AllReady.nil
      go_simp
      refine hK _ _ ?_
      clear hK K
      refine wpAny_ready (rs := [1]) (by kernel_rfl) (by simp) ?_
      refine AllReady.cons rfl (fun K hK => ?_) AllReady.nil
      go_simp
      go_at_call 30; refine (Ht.out _).mono ?_; rintro e w6 ⟨rfl, low6⟩; have lB := load35_eq Hl.out ((low6.block _ (Array.getElem?_eq_some_iff.1 H5.out).1).trans H5.out); have G6 := Lib.hid ((low6.block _ (Array.getElem?_eq_some_iff.1 G5.out).1).trans G5.out); have K6 := Lib.hid ((low6.block _ (Array.getElem?_eq_some_iff.1 K5.out).1).trans K5.out); have Low6 := Lib.hid (Low5.out.drew.trans (low6.mono Low5.out.size)); clear low6
      refine hK _ _ ?_
      clear hK K
      refine wpAny_mid 3 6 (by kernel_rfl) (by kernel_rfl) (by kernel_rfl) ?_
      simp only [List.drop_succ_cons, List.drop_zero, Nat.reduceSub, List.take_succ_cons, List.take_zero]
      go_wp2_with (go_at_call 31; refine (Hr.out w6).mono ?_; rintro e w7 ⟨rfl, low7⟩; have l5 := load35_eq HX.out ((low7.block _ (Array.getElem?_eq_some_iff.1 G6.out).1).trans G6.out); have l7 := load35_eq HX.out ((low7.block _ (Array.getElem?_eq_some_iff.1 K6.out).1).trans K6.out); have Low7 := Lib.hid (Low6.out.trans (low7.mono Low6.out.size)); clear low7)
      change wpAny _ _ _ _ _ _ _ _
      refine wpAny_ready (rs := [6, 7]) (by kernel_rfl) (by simp) ?_
      refine AllReady.cons rfl (fun K hK => ?_) (AllReady.cons rfl (fun K hK => ?_) AllReady.nil)
      · go_simp
        refine hK _ _ ?_
        clear hK K
        refine wpAny_ready (rs := [7]) (by kernel_rfl) (by simp) ?_
        refine AllReady.cons rfl (fun K hK => ?_) AllReady.nil
        go_simp
        refine hK _ _ ?_
        clear hK K
        refine wpAny_mid 8 11 (by kernel_rfl) (by kernel_rfl) (by kernel_rfl) ?_
        simp only [List.drop_succ_cons, List.drop_zero, Nat.reduceSub, List.take_succ_cons, List.take_zero]
        go_wp2
        change wpAny _ _ _ _ _ _ _ _
        refine wpAny_ready (rs := [11, 12]) (by kernel_rfl) (by simp) ?_
        refine AllReady.cons rfl (fun K hK => ?_) (AllReady.cons rfl (fun K hK => ?_) AllReady.nil)
        · go_simp
          refine hK _ _ ?_
          clear hK K
          refine wpAny_ready (rs := [12]) (by kernel_rfl) (by simp) ?_
          refine AllReady.cons rfl (fun K hK => ?_) AllReady.nil
          go_simp
          refine hK _ _ ?_
          clear hK K
          refine wpAny_rest 13 (by kernel_rfl) (by kernel_rfl) (by kernel_rfl) ?_
          simp only [List.drop_succ_cons, List.drop_zero]
          go_wp2_with (go_at_call 23; refine (awake_any w7 (HL.out.below Low7.out hsz)).mono ?_; rintro e w8 ⟨rfl, low8⟩; have Low8 := Lib.hid (Low7.out.trans (low8.mono Low7.out.size)); clear low8)
          go_ret
          exact ⟨rfl, Low8.out⟩
        · go_simp
          refine hK _ _ ?_
          clear hK K
          refine wpAny_ready (rs := [11]) (by kernel_rfl) (by simp) ?_
          refine AllReady.cons rfl (fun K hK => ?_) AllReady.nil
          go_simp
          refine hK _ _ ?_
          clear hK K
          refine wpAny_rest 13 (by kernel_rfl) (by kernel_rfl) (by kernel_rfl) ?_
          simp only [List.drop_succ_cons, List.drop_zero]
          go_wp2_with (go_at_call 23; refine (awake_any w7 (HL.out.below Low7.out hsz)).mono ?_; rintro e w8 ⟨rfl, low8⟩; have Low8 := Lib.hid (Low7.out.trans (low8.mono Low7.out.size)); clear low8)
          go_ret
          exact ⟨rfl, Low8.out⟩
      · go_simp
        refine hK _ _ ?_
        clear hK K
        refine wpAny_ready (rs := [6]) (by kernel_rfl) (by simp) ?_
        refine AllReady.cons rfl (fun K hK => ?_) AllReady.nil
        go_simp
        refine hK _ _ ?_
        clear hK K
        refine wpAny_mid 8 11 (by kernel_rfl) (by kernel_rfl) (by kernel_rfl) ?_
        simp only [List.drop_succ_cons, List.drop_zero, Nat.reduceSub, List.take_succ_cons, List.take_zero]
        go_wp2
        change wpAny _ _ _ _ _ _ _ _
        refine wpAny_ready (rs := [11, 12]) (by kernel_rfl) (by simp) ?_
        refine AllReady.cons rfl (fun K hK => ?_) (AllReady.cons rfl (fun K hK => ?_) AllReady.nil)
        · go_simp
          refine hK _ _ ?_
          clear hK K
          refine wpAny_ready (rs := [12]) (by kernel_rfl) (by simp) ?_
          refine AllReady.cons rfl (fun K hK => ?_) AllReady.nil
          go_simp
          refine hK _ _ ?_
          clear hK K
          refine wpAny_rest 13 (by kernel_rfl) (by kernel_rfl) (by kernel_rfl) ?_
          simp only [List.drop_succ_cons, List.drop_zero]
          go_wp2_with (go_at_call 23; refine (awake_any w7 (HL.out.below Low7.out hsz)).mono ?_; rintro e w8 ⟨rfl, low8⟩; have Low8 := Lib.hid (Low7.out.trans (low8.mono Low7.out.size)); clear low8)
          go_ret
          exact ⟨rfl, Low8.out⟩
        · go_simp
          refine hK _ _ ?_
          clear hK K
          refine wpAny_ready (rs := [11]) (by kernel_rfl) (by simp) ?_
          refine AllReady.cons rfl (fun K hK => ?_) AllReady.nil
          go_simp
          refine hK _ _ ?_
          clear hK K
          refine wpAny_rest 13 (by kernel_rfl) (by kernel_rfl) (by kernel_rfl) ?_
          simp only [List.drop_succ_cons, List.drop_zero]
          go_wp2_with (go_at_call 23; refine (awake_any w7 (HL.out.below Low7.out hsz)).mono ?_; rintro e w8 ⟨rfl, low8⟩; have Low8 := Lib.hid (Low7.out.trans (low8.mono Low7.out.size)); clear low8)
          go_ret
          exact ⟨rfl, Low8.out⟩
end Go.Proofs.YtbondffjghanlaaDoor.lawWords
