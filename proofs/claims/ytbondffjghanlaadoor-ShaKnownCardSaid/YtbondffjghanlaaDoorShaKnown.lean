/- DERIVED. sha.Resume at its errors; the walk of ShaKnown. -/
import Derived.Test.YtbondffjghanlaaDoorShaTurnedWalk
import Derived.Lib.SlBytesConst
import Derived.Deep.RegionWith
import Derived.Test.YtbondffjghanlaaDoorRegionLine
namespace Go.Proofs.YtbondffjghanlaaDoor
open Go.RowKit
set_option maxRecDepth 100000 in
set_option maxHeartbeats 1000000 in
theorem resume_no (h : List Int) (n : Int) (v : Value) (w : World) (hn : n < 0 ∨ 72057594037927936 < n) :
    Calls Tryd.prog 26 #[.agg (u8s h), .int .i64 n, v] w fun e' w' => e' = .returned (.tuple #[.agg (u8s (List.replicate 32 0)), .int .i64 2]) ∧ Below w.heap.size w w' := by
  have h2 := two_new w (.cells (u8s h) 35) (.cells zero32 35)
  have H2 := Lib.hid h2
  have low0 := Lib.hid (((Below.refl w.heap.size w).alloc (Nat.le_refl _) (.cells (u8s h) 35)).alloc (by simp) (.cells zero32 35))
  obtain ⟨Z, hZ⟩ : ∃ Z : List Int, Z = List.replicate 32 0 := ⟨_, rfl⟩
  have hZl : Z.length = 32 := by rw [hZ]; rfl
  have H35 : Hid ((Tryd.prog.info? 35).map (·.size) = some (u8s Z).size) := by show _ = _; rw [u8s_size, hZl]; exact info35
  have hZu : #[.int .u8 0, .int .u8 0, .int .u8 0, .int .u8 0, .int .u8 0, .int .u8 0, .int .u8 0, .int .u8 0, .int .u8 0, .int .u8 0, .int .u8 0, .int .u8 0, .int .u8 0, .int .u8 0, .int .u8 0, .int .u8 0, .int .u8 0, .int .u8 0, .int .u8 0, .int .u8 0, .int .u8 0, .int .u8 0, .int .u8 0, .int .u8 0, .int .u8 0, .int .u8 0, .int .u8 0, .int .u8 0, .int .u8 0, .int .u8 0, .int .u8 0, .int .u8 0] = u8s Z := by rw [hZ]; rfl
  have HZl := Lib.hid hZl
  have HZu := Lib.hid hZu
  rw [← hZ]
  unfold zero32 at H2 low0
  clear hZ hZl hZu h2
  rcases hn with hn | hn
  · go_enter Tryd.func26, Tryd.ntmps26
    go_wp2_with (refine wpList_store_row rfl 35 (.tmp 6) (.tmp 15) rfl (w.heap.size + 1) (u8s Z) (by rfl) (congrArg Value.agg HZu.out) 35 _ H2.out.2 H35.out (by rw [u8s_size, HZl.out]; rfl) (u8s_one _) ?_)
    exact bodyPost_ret (v := .tuple #[.agg (u8s Z), .int .i64 2]) (results_row_tmp rfl _ _ (w.heap.size + 1) 35 _ (0, 0) _ _ rfl rfl (setRow_heap _ _ _ _ _ _ H2.out.2) Tryd.underlying35 rfl H35.out) rfl ⟨rfl, below_setRow low0.out (by omega) _⟩
  · have hn' : ¬ n < 0 := by omega
    go_enter Tryd.func26, Tryd.ntmps26
    go_wp2_with (refine wpList_store_row rfl 35 (.tmp 6) (.tmp 15) rfl (w.heap.size + 1) (u8s Z) (by rfl) (congrArg Value.agg HZu.out) 35 _ H2.out.2 H35.out (by rw [u8s_size, HZl.out]; rfl) (u8s_one _) ?_)
    exact bodyPost_ret (v := .tuple #[.agg (u8s Z), .int .i64 2]) (results_row_tmp rfl _ _ (w.heap.size + 1) 35 _ (0, 0) _ _ rfl rfl (setRow_heap _ _ _ _ _ _ H2.out.2) Tryd.underlying35 rfl H35.out) rfl ⟨rfl, below_setRow low0.out (by omega) _⟩
namespace lawKnown
open lawAnybody lawTurned
/-- what Of tells of the examples. -/
theorem of_none (s : ByteArray) (Z : List Int) (hZ : Hid (Z = List.replicate 32 0)) (w : World) (h : ofOk (bytesOf s) = false) :
    Calls Tryd.prog 28 #[.string s] w fun e' w' => e' = .returned (.tuple #[.agg (u8s Z), .bool false]) ∧ Below w.heap.size w w' := by
  have := of_any s w
  rw [h, ofX_bad h, ← hZ.out] at this
  exact this
theorem of_abc (w : World) : Calls Tryd.prog 28 #[.string abcText] w fun e' w' => e' = .returned (.tuple #[.agg (u8s (sumL [97, 98, 99])), .bool true]) ∧ Below w.heap.size w w' := by
  have := of_any abcText w
  rw [show ofX (bytesOf abcText) = sumL [97, 98, 99] by rw [sum_abc]; kernel_rfl, show ofOk (bytesOf abcText) = true by kernel_rfl] at this
  exact this
theorem behind_neg (w : World) : Calls Tryd.prog 21 #[.int .i64 (-1)] w fun e' w' => e' = .returned (.slice none 0 0) ∧ w = w' :=
  (behind_no (-1) (.inl (by omega)) w).mono fun _ _ h => ⟨h.1, h.2.symm⟩
theorem pad3_cell {w : World} {g : Nat} (h : w.heap[g]? = some (.cells (u8s (padL 3)) 5 (0, 0))) : w.cell? ⟨g, 60, none⟩ = some (.int .u8 24) := by
  rw [cell_row h, u8s_get _ _ (by rw [padL_length]; decide)]
  rw [show (padL 3).getD 60 0 = 24 by kernel_rfl]
theorem in_abc : InB [97, 98, 99] := by
  intro j
  match j with
  | 0 => exact ⟨by decide, by decide⟩
  | 1 => exact ⟨by decide, by decide⟩
  | 2 => exact ⟨by decide, by decide⟩
  | j + 3 => simp
theorem byt_abc (w : World) : Byt (w.alloc (.cells #[.int .u8 97, .int .u8 98, .int .u8 99] 5 (3, 4))) (some ⟨w.heap.size, 0, none⟩) 3 [97, 98, 99] :=
  ⟨Nat.le_refl _, (fun h => by cases h), fun _ => ⟨w.heap.size, 0, rfl, by simp, fun j hj => by
    rw [Nat.zero_add, cell_row (Go.heap_alloc_new w _)]
    exact u8s_get [97, 98, 99] j hj⟩⟩
theorem abc_new {w : World} {g : Nat} {Y : List Int} (h : w.heap[g]? = some (.cells (u8s Y) 35 (0, 0))) (f : Nat × Nat) : (w.alloc (.cells #[.int .u8 97, .int .u8 98, .int .u8 99] 5 f)).heap[g]? = some (.cells (u8s Y) 35 (0, 0)) :=
  (Go.heap_alloc_old w _ (Array.getElem?_eq_some_iff.1 h).1).trans h
theorem conv_abc (w : World) : (convert 26 26 (.slice (some ⟨w.heap.size, 0, none⟩) 3 3)).run Tryd.prog (w.alloc (.cells #[.int .u8 97, .int .u8 98, .int .u8 99] 5)) = .ok (.slice (some ⟨w.heap.size, 0, none⟩) 3 3) (w.alloc (.cells #[.int .u8 97, .int .u8 98, .int .u8 99] 5 (3, 4))) :=
  Lib.run_convert_bytes_const (P := Tryd.prog) w 26 5 _ 3 3 Tryd.underlying26 Tryd.underlying5
theorem rng {w : World} {g : Nat} {Y : List Int} (h : w.heap[g]? = some (.cells (u8s Y) 35 (0, 0))) : w.rangeAt g 0 (vals Y) := by
  intro j v hv
  obtain ⟨hj, rfl⟩ := vals_get hv
  rw [Nat.zero_add, cell_row h, u8s_get _ _ hj]
theorem start_last (w : World) : (Instr.index 24 (.agg (u32s S0.list)) (.int .i64 7)).run Tryd.prog w = .ok (.int .u32 1541459225) w := index24 S0.list rfl 7 (by omega) w
attribute [local go_sem ↓ high] loadAt35
set_option maxRecDepth 100000 in
set_option maxHeartbeats 2000000 in
theorem walk (w : World) (hL : Laid w) : Calls Tryd.prog 7 #[] w fun e' w' => e' = .returned (.bool true) ∧ Below w.heap.size w w' := by
  have HL := Lib.hid hL
  have hsz := hL.sz
  have hix := start_last
  obtain ⟨Z, hZ⟩ : ∃ Z : List Int, Z = List.replicate 32 0 := ⟨_, rfl⟩
  have HZl : Hid (Z.length = 32) := by show _ = _; rw [hZ]; rfl
  have HR1 : Hid (∀ W : World, Calls Tryd.prog 26 #[.agg #[.int .u8 0, .int .u8 0, .int .u8 0, .int .u8 0, .int .u8 0, .int .u8 0, .int .u8 0, .int .u8 0, .int .u8 0, .int .u8 0, .int .u8 0, .int .u8 0, .int .u8 0, .int .u8 0, .int .u8 0, .int .u8 0, .int .u8 0, .int .u8 0, .int .u8 0, .int .u8 0, .int .u8 0, .int .u8 0, .int .u8 0, .int .u8 0, .int .u8 0, .int .u8 0, .int .u8 0, .int .u8 0, .int .u8 0, .int .u8 0, .int .u8 0, .int .u8 0], .int .i64 (-1), .slice none 0 0] W fun e' w' => e' = .returned (.tuple #[.agg (u8s Z), .int .i64 2]) ∧ Below W.heap.size W w') := by
    show ∀ W : World, _
    intro W; rw [hZ]; exact resume_no (List.replicate 32 0) (-1) _ W (.inl (by omega))
  have HR2 : Hid (∀ W : World, Calls Tryd.prog 26 #[.agg #[.int .u8 0, .int .u8 0, .int .u8 0, .int .u8 0, .int .u8 0, .int .u8 0, .int .u8 0, .int .u8 0, .int .u8 0, .int .u8 0, .int .u8 0, .int .u8 0, .int .u8 0, .int .u8 0, .int .u8 0, .int .u8 0, .int .u8 0, .int .u8 0, .int .u8 0, .int .u8 0, .int .u8 0, .int .u8 0, .int .u8 0, .int .u8 0, .int .u8 0, .int .u8 0, .int .u8 0, .int .u8 0, .int .u8 0, .int .u8 0, .int .u8 0, .int .u8 0], .int .i64 72057594037927937, .slice none 0 0] W fun e' w' => e' = .returned (.tuple #[.agg (u8s Z), .int .i64 2]) ∧ Below W.heap.size W w') := by
    show ∀ W : World, _
    intro W; rw [hZ]; exact resume_no (List.replicate 32 0) 72057594037927937 _ W (.inr (by omega))
  have HZ := Lib.hid hZ
  have HA := Lib.hid of_abc
  obtain ⟨Y, hY⟩ : ∃ Y, Y = sumL [97, 98, 99] := ⟨_, rfl⟩
  have HY := Lib.hid hY
  have HYl : Hid (Y.length = 32) := by show _ = _; rw [hY, sumL_length]
  rw [← hY] at HA
  clear hL hZ hY
  go_enter Tryd.func7, Tryd.ntmps7
  go_upto_region 4 with (first
    | (go_at_call 23; refine (awake_any w HL.out).mono ?_; rintro e w1 ⟨rfl, low1⟩; have Low1 := Lib.hid low1; clear low1)
    | (go_at_call 32; refine (word_empty w1 (HL.out.below Low1.out hsz)).mono ?_; rintro e w2 ⟨rfl, low2⟩; unfold emptyText; have Low2 := Lib.hid (Low1.out.trans (low2.mono Low1.out.size)); clear low2)
    | (go_at_call 17; refine (start_any w2 (HL.out.below Low2.out hsz)).mono ?_; rintro e w3 ⟨rfl, low3⟩; have Low3 := Lib.hid (Low2.out.trans (low3.mono Low2.out.size)); clear low3)
    | (go_at_call 21; refine (behind_any 3 (by omega) w3).mono ?_; rintro e w4 ⟨rfl, hp4, low4⟩; rw [show padLen 3 = 61 by decide]; have Hp4 := Lib.hid hp4; have Low4 := Lib.hid (Low3.out.trans (low4.mono Low3.out.size)); clear hp4 low4))
  go_upto_region 5 with (first
    | (go_at_call 26; refine (HR1.out w4).mono ?_; rintro e w5 ⟨rfl, low5⟩; have Hp5 := Lib.hid ((low5.block _ (Array.getElem?_eq_some_iff.1 Hp4.out).1).trans Hp4.out); have Low5 := Lib.hid (Low4.out.trans (low5.mono Low4.out.size)); clear low5)
    | (refine wpList_store_new rfl (.tmp 2) (.tmp 27) rfl Z HZl.out _ (by rfl) (by rfl) (by rfl) ?_; intro w6 h6 b6; have Hp6 := Lib.hid ((b6.block _ (Array.getElem?_eq_some_iff.1 Hp5.out).1).trans Hp5.out); have Low6 := Lib.hid (Low5.out.trans (b6.mono Low5.out.size)); clear h6 b6))
  go_upto_region 6 with (first
    | (go_at_call 26; refine (HR2.out w6).mono ?_; rintro e w7 ⟨rfl, low7⟩; have Hp7 := Lib.hid ((low7.block _ (Array.getElem?_eq_some_iff.1 Hp6.out).1).trans Hp6.out); have Low7 := Lib.hid (Low6.out.trans (low7.mono Low6.out.size)); clear low7)
    | (refine wpList_store_new rfl (.tmp 4) (.tmp 32) rfl Z HZl.out _ (by rfl) (by rfl) (by rfl) ?_; intro w8 h8 b8; have Hp8 := Lib.hid ((b8.block _ (Array.getElem?_eq_some_iff.1 Hp7.out).1).trans Hp7.out); have Low8 := Lib.hid (Low7.out.trans (b8.mono Low7.out.size)); clear h8 b8))
  go_upto_region 7 with (first
    | (go_at_call 32; refine (word_empty w8 (HL.out.below Low8.out hsz)).mono ?_; rintro e w9 ⟨rfl, low9⟩; unfold emptyText; have Hp9 := Lib.hid ((low9.block _ (Array.getElem?_eq_some_iff.1 Hp8.out).1).trans Hp8.out); have Low9 := Lib.hid (Low8.out.trans (low9.mono Low8.out.size)); clear low9)
    | (go_at_call 28; refine (of_none _ Z HZ w9 (by kernel_rfl)).mono ?_; rintro e w10 ⟨rfl, b10⟩; have Hp10 := Lib.hid ((b10.block _ (Array.getElem?_eq_some_iff.1 Hp9.out).1).trans Hp9.out); have Low10 := Lib.hid (Low9.out.trans (b10.mono Low9.out.size)); clear b10)
    | (refine wpList_store_new rfl (.tmp 6) (.tmp 38) rfl Z HZl.out _ (by rfl) (by rfl) (by rfl) ?_; intro w11 h11 b11; have Hp11 := Lib.hid ((b11.block _ (Array.getElem?_eq_some_iff.1 Hp10.out).1).trans Hp10.out); have Low11 := Lib.hid (Low10.out.trans (b11.mono Low10.out.size)); clear h11 b11))
  go_upto_region 8 with (first
    | (go_at_call 32; refine (word_empty w11 (HL.out.below Low11.out hsz)).mono ?_; rintro e w12 ⟨rfl, b12⟩; unfold emptyText; have Hp12 := Lib.hid ((b12.block _ (Array.getElem?_eq_some_iff.1 Hp11.out).1).trans Hp11.out); have Low12 := Lib.hid (Low11.out.trans (b12.mono Low11.out.size)); clear b12)
    | (go_at_call 28; refine (of_none _ Z HZ w12 (by kernel_rfl)).mono ?_; rintro e w13 ⟨rfl, b13⟩; have Hp13 := Lib.hid ((b13.block _ (Array.getElem?_eq_some_iff.1 Hp12.out).1).trans Hp12.out); have Low13 := Lib.hid (Low12.out.trans (b13.mono Low12.out.size)); clear b13)
    | (refine wpList_store_new rfl (.tmp 8) (.tmp 45) rfl Z HZl.out _ (by rfl) (by rfl) (by rfl) ?_; intro w14 h14 b14; have Hp14 := Lib.hid ((b14.block _ (Array.getElem?_eq_some_iff.1 Hp13.out).1).trans Hp13.out); have Low14 := Lib.hid (Low13.out.trans (b14.mono Low13.out.size)); clear h14 b14))
  go_cut [1, 3, 5, 7, 9, 10, 11] (fun s1 s3 s5 s7 s9 s10 s11 wx => ∃ g3 g16 : Nat, s1 = .slice (some ⟨g3, 0, none⟩) 61 61 ∧ s3 = .int .i64 2 ∧ s5 = .int .i64 2 ∧ s7 = .bool false ∧ s9 = .bool false ∧ s10 = .pointer (some ⟨g16, 0, none⟩) ∧ s11 = .bool true ∧ Hid (wx.heap[g3]? = some (.cells (u8s (padL 3)) 5 (0, 0))) ∧ Hid (wx.heap[g16]? = some (.cells (u8s Y) 35 (0, 0))) ∧ Hid (Below w.heap.size w wx))
  case first =>
    go_wp2_with (first
      | (go_at_call 32; refine (word_abc w14 (HL.out.below Low14.out hsz)).mono ?_; rintro e w15 ⟨rfl, b15⟩; have Hp15 := Lib.hid ((b15.block _ (Array.getElem?_eq_some_iff.1 Hp14.out).1).trans Hp14.out); have Low15 := Lib.hid (Low14.out.trans (b15.mono Low14.out.size)); clear b15)
      | (go_at_call 28; refine (HA.out w15).mono ?_; rintro e w16 ⟨rfl, b16⟩; have Hp16 := Lib.hid ((b16.block _ (Array.getElem?_eq_some_iff.1 Hp15.out).1).trans Hp15.out); have Low16 := Lib.hid (Low15.out.trans (b16.mono Low15.out.size)); clear b16)
      | (refine wpList_store_new rfl (.tmp 10) (.tmp 50) rfl Y HYl.out _ (by rfl) (by rfl) (by rfl) ?_; intro w17 h17 b17; have Hp17 := Lib.hid ((b17.block _ (Array.getElem?_eq_some_iff.1 Hp16.out).1).trans Hp16.out); have Low17 := Lib.hid (Low16.out.trans (b17.mono Low16.out.size)); have H17 := Lib.hid h17; clear h17 b17))
    go_meet
    exact ⟨w3.heap.size, w16.heap.size, rfl, rfl, rfl, rfl, rfl, rfl, rfl, Hp17, H17, Low17⟩
  case rest =>
    obtain ⟨g3, g16, rfl, rfl, rfl, rfl, rfl, rfl, rfl, Hp17, H17, Low17⟩ := hcut
    rename World => w17
    have e0 := fun W => eql35_same Y HYl.out W
    have e1 := fun W => equal35_same Y HYl.out W
    clear hix HR1 HR2 HZ HZl HA
    go_wp2_with fail
    refine wp_region_prefix 39 (by kernel_rfl) (by kernel_rfl) ?_
    simp only [List.take_succ_cons, List.take_zero]
    go_wp2_with (first
      | (go_at_call 21; refine (behind_neg w18).mono ?_; rintro e w' ⟨rfl, rfl⟩)
      | (go_at_call 21; refine (behind_any 56 (by omega) _).mono ?_; rintro e w18 ⟨rfl, hp18, b18⟩; rw [show padLen 56 = 72 by decide]; clear hp18; have d18 := pad3_cell ((b18.block _ (Array.getElem?_eq_some_iff.1 Hp17.out).1).trans Hp17.out); have H18 := Lib.hid ((b18.block _ (Array.getElem?_eq_some_iff.1 H17.out).1).trans H17.out); have Low18 := Lib.hid (Low17.out.drew.trans (b18.mono Low17.out.size)); have lA := load35_eq HYl.out H18.out; have lB := load35_eq HYl.out (abc_new H18.out (0, 0)); have lC := load35_eq HYl.out (abc_new H18.out (3, 4)); have kc := conv_abc w18; clear b18))
    change wpAny _ _ _ _ _ _ _ _
    refine wpAny_ready (rs := [39, 40]) (by kernel_rfl) (by simp) ?_
    refine AllReady.cons rfl (fun K hK => ?_) (AllReady.cons rfl (fun K hK => ?_) AllReady.nil)
    · go_simp
      refine hK _ _ ?_
      clear hK K
      refine wpAny_rest 40 (by kernel_rfl) (by kernel_rfl) (by kernel_rfl) ?_
      simp only [List.drop_succ_cons, List.drop_zero]
      go_wp2_with (go_at_call 24; refine (sum_any [97, 98, 99] (some ⟨w18.heap.size, 0, none⟩) 3 3 _ rfl in_abc (byt_abc w18) (HL.out.below (Low18.out.alloc Low18.out.size _) hsz) (by omega)).mono ?_; rintro e w19 ⟨rfl, b19⟩; rw [← HY.out]; have lD := load35_eq HYl.out ((b19.block _ (Array.getElem?_eq_some_iff.1 (abc_new H18.out (3, 4))).1).trans (abc_new H18.out (3, 4))); have Low19 := Lib.hid ((Low18.out.alloc Low18.out.size _).trans (b19.mono (Nat.le_trans Low18.out.size (by simp)))); clear b19)
      go_ret
      exact ⟨rfl, Low19.out⟩
    · go_simp
      refine hK _ _ ?_
      clear hK K
      refine wpAny_ready (rs := [39, 41]) (by kernel_rfl) (by simp) ?_
      refine AllReady.cons rfl (fun K hK => ?_) (AllReady.cons rfl (fun K hK => ?_) AllReady.nil)
      · go_simp
        refine hK _ _ ?_
        clear hK K
        refine wpAny_rest 41 (by kernel_rfl) (by kernel_rfl) (by kernel_rfl) ?_
        simp only [List.drop_succ_cons, List.drop_zero]
        go_wp2_with (go_at_call 24; refine (sum_any [97, 98, 99] (some ⟨w18.heap.size, 0, none⟩) 3 3 _ rfl in_abc (byt_abc w18) (HL.out.below (Low18.out.alloc Low18.out.size _) hsz) (by omega)).mono ?_; rintro e w19 ⟨rfl, b19⟩; rw [← HY.out]; have lD := load35_eq HYl.out ((b19.block _ (Array.getElem?_eq_some_iff.1 (abc_new H18.out (3, 4))).1).trans (abc_new H18.out (3, 4))); have Low19 := Lib.hid ((Low18.out.alloc Low18.out.size _).trans (b19.mono (Nat.le_trans Low18.out.size (by simp)))); clear b19)
        go_ret
        exact ⟨rfl, Low19.out⟩
      · go_simp
        refine hK _ _ ?_
        clear hK K
        refine wpAny_ready (rs := [39, 42]) (by kernel_rfl) (by simp) ?_
        refine AllReady.cons rfl (fun K hK => ?_) (AllReady.cons rfl (fun K hK => ?_) AllReady.nil)
        · go_simp
          refine hK _ _ ?_
          clear hK K
          refine wpAny_rest 42 (by kernel_rfl) (by kernel_rfl) (by kernel_rfl) ?_
          simp only [List.drop_succ_cons, List.drop_zero]
          go_wp2_with (go_at_call 24; refine (sum_any [97, 98, 99] (some ⟨w18.heap.size, 0, none⟩) 3 3 _ rfl in_abc (byt_abc w18) (HL.out.below (Low18.out.alloc Low18.out.size _) hsz) (by omega)).mono ?_; rintro e w19 ⟨rfl, b19⟩; rw [← HY.out]; have lD := load35_eq HYl.out ((b19.block _ (Array.getElem?_eq_some_iff.1 (abc_new H18.out (3, 4))).1).trans (abc_new H18.out (3, 4))); have Low19 := Lib.hid ((Low18.out.alloc Low18.out.size _).trans (b19.mono (Nat.le_trans Low18.out.size (by simp)))); clear b19)
          go_ret
          exact ⟨rfl, Low19.out⟩
        · go_simp
          go_at_call 24; refine (sum_any [97, 98, 99] (some ⟨w18.heap.size, 0, none⟩) 3 3 _ rfl in_abc (byt_abc w18) (HL.out.below (Low18.out.alloc Low18.out.size _) hsz) (by omega)).mono ?_; rintro e w19 ⟨rfl, b19⟩; rw [← HY.out]; have lD := load35_eq HYl.out ((b19.block _ (Array.getElem?_eq_some_iff.1 (abc_new H18.out (3, 4))).1).trans (abc_new H18.out (3, 4))); have Low19 := Lib.hid ((Low18.out.alloc Low18.out.size _).trans (b19.mono (Nat.le_trans Low18.out.size (by simp)))); clear b19
          refine hK _ _ ?_
          clear hK K
          refine wpAny_ready (rs := [39]) (by kernel_rfl) (by simp) ?_
          refine AllReady.cons rfl (fun K hK => ?_) AllReady.nil
          go_simp
          refine hK _ _ ?_
          clear hK K
          refine wpAny_rest 43 (by kernel_rfl) (by kernel_rfl) (by kernel_rfl) ?_
          simp only [List.drop_succ_cons, List.drop_zero]
          go_wp2
          go_ret
          exact ⟨rfl, Low19.out⟩
end lawKnown
end Go.Proofs.YtbondffjghanlaaDoor
