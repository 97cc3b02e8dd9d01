/- DERIVED. The walk of HmacEqual. -/
import Derived.Test.YtbondffjghanlaaDoorHmacKeep
namespace Go.Proofs.YtbondffjghanlaaDoor.lawEqual
open Go.RowKit lawAnybody
attribute [local go_sem ↓ high] appendS_eq
/-- one more byte is another text. -/
theorem snoc_ne (L : List Int) (x : Int) : L ≠ L ++ [x] := fun h => by have := congrArg List.length h; simp at this
theorem inB_one {x : Int} (h0 : 0 ≤ x) (h1 : x < 256) : InB [x] := by
  intro j
  cases j with
  | zero => exact ⟨h0, h1⟩
  | succ j => simp
theorem byt_one (w : World) (x : Int) : Byt (w.alloc (.cells #[.int .u8 x] 5)) (some ⟨w.heap.size, 0, none⟩) 1 [x] := byt_rowF (l := [x]) (fr := (0, 0)) (t := 5) (Go.heap_alloc_new w _) rfl
set_option maxRecDepth 100000 in
set_option maxHeartbeats 1000000 in
theorem walk_zero (A : Option Addr) (c n : Nat) (t x : Int) (w : World) (hB : Byt w A c []) (hL : Laid w) (hx0 : 0 ≤ x) (hx1 : x < 256) (hcut : Calls Tryd.prog 34 #[.slice A n c] w fun e w' => e = .returned (.slice A 0 c) ∧ w = w') :
    Calls Tryd.prog 14 #[.slice A n c, .int .u16 t, .int .u8 x] w fun e w' => e = .returned (.bool true) ∧ Below w.heap.size w w' := by
  have HC := Lib.hid hcut
  have HB := Lib.hid hB
  have HL := Lib.hid hL
  have hsz := hL.sz
  have HX := Lib.hid (inB_one hx0 hx1)
  have o0 := Lib.hid (own_empty w)
  have low0 := Lib.hid ((Below.refl w.heap.size w).alloc (Nat.le_refl _) (.cells #[] 5))
  clear hcut hB hL
  go_enter Tryd.func14, Tryd.ntmps14
  go_wp2_with (first
    | (go_at_call 38; refine (works_any w5 (HL.out.below Low5.out hsz)).mono ?_; rintro e w6 ⟨rfl, low6⟩)
    | (go_at_call 37; refine (equal_len _ _ _ _ 0 1 w4 (by omega)).mono ?_; rintro e w5 ⟨rfl, st5⟩; have Low5 := Lib.hid (Low4.out.trans (st5.low.mono Low4.out.size)); clear st5)
    | (go_at_call 37; refine (equal_yes' [] A A1 c c1 0 w1 rfl (by intro j; simp) (HB.out.below Low1.out (Nat.le_refl _)) Byt1.out (by omega)).mono ?_; rintro e w2 ⟨rfl, st2⟩; have Low2 := Lib.hid (Low1.out.trans (st2.low.mono Low1.out.size)); obtain ⟨v2, w4, hrun, own2, own1, low4⟩ := run_append_keeps (w := w2.alloc (.cells #[.int .u8 x] 5)) 26 w.heap.size _ 0 [] (own_below (own_still Own1.out st2) ((Below.refl _ _).alloc (Nat.le_refl _) _)) ⟨w2.heap.size, 0, none⟩ 1 1 [x] rfl (byt_one w2 x) (by omega) (Low2.out.alloc Low2.out.size _).size; obtain ⟨A2, c2, rfl, hl2, byt2⟩ := own_byt own2; have Low4 := Lib.hid (low4 _ _ (Low2.out.alloc Low2.out.size _) (Nat.le_refl _)); clear own2 own1 low4 hl2 st2 byt2)
    | (go_at_call 34; refine HC.out.mono ?_; rintro e w' ⟨rfl, rfl⟩)
    | (at_builtin; refine wpList_append_byt rfl (.tmp 11) (.tmp 12) rfl w.heap.size _ 0 [] rfl o0.out A 0 c [] rfl rfl (HB.out.below low0.out (Nat.le_refl _)) (by omega) (by simp) ?_; intro v1 w1 hown1 hlow1 _; have Low1 := Lib.hid (hlow1 _ _ low0.out (Nat.le_refl _)); simp only [List.nil_append, Nat.zero_add] at hown1; obtain ⟨A1, c1, rfl, hl1, byt1⟩ := own_byt hown1; have Byt1 := Lib.hid byt1; have Own1 := Lib.hid hown1; clear hown1 hlow1 byt1 hl1))
  go_ret
  exact ⟨rfl, Low5.out.trans (low6.mono Low5.out.size)⟩
theorem own_stored {w : World} {base n c g : Nat} {L : List Int} (h : w.ownsRow base 5 1 (.slice (some ⟨g, 0, none⟩) n c) n (vals L)) (i : Nat) (y : Int) :
    (w.setCell ⟨g, i, none⟩ (.int .u8 y)).ownsRow base 5 1 (.slice (some ⟨g, 0, none⟩) n c) n (vals (L.set i y)) := by
  have := (h.stored i (.int .u8 y)).1
  rwa [show (vals L).set i (.int .u8 y) = vals (L.set i y) by simp [vals]] at this
theorem byt_own {w : World} {base n c g : Nat} {L : List Int} (h : w.ownsRow base 5 1 (.slice (some ⟨g, 0, none⟩) n c) n (vals L)) : Byt w (some ⟨g, 0, none⟩) c L := by
  obtain ⟨A, c', he, _, hb⟩ := own_byt h
  injection he with e1 _ e3
  subst e1 e3
  exact hb
theorem xor_same (x : Int) (h0 : 0 ≤ x) (h1 : x < 256) : bits .xor .u8 x 0 = x := by
  rw [u8_xor x 0 h0 h1 (by omega) (by omega)]
  simp
  omega
theorem set_same (L : List Int) (i : Nat) : L.set i (L.getD i 0) = L := by
  apply List.ext_getElem?
  intro j
  rw [List.getElem?_set]
  by_cases e : i = j
  · subst e
    by_cases h : i < L.length
    · simp [h]
    · simp [h]
  · simp [e]
theorem set_other (L : List Int) (hb : InB L) (i : Nat) (hi : i < L.length) (y : Int) (h0 : 0 ≤ y) (h1 : y < 256) (hne : y ≠ 0) : L ≠ L.set i (bits .xor .u8 (L.getD i 0) y) := by
  intro h
  have h2 := congrArg (·.getD i 0) h
  have h3 := hb i
  simp only [List.getD_eq_getElem?_getD, List.getElem?_set, hi, if_true, Option.getD_some] at h2
  rw [← List.getD_eq_getElem?_getD] at h2
  have h4 : bits .xor .u8 (L.getD i 0) (bits .xor .u8 (L.getD i 0) y) = 0 := (xor_zero _ _ h3.1 h3.2 (xor_in _ _ h3.1 h3.2 h0 h1).1 (xor_in _ _ h3.1 h3.2 h0 h1).2).2 h2
  have hx := xor_in _ _ h3.1 h3.2 h0 h1
  rw [u8_xor _ _ h3.1 h3.2 hx.1 hx.2, u8_xor _ _ h3.1 h3.2 h0 h1] at h4
  simp only [Int.toNat_natCast] at h4
  rw [← Nat.xor_assoc, Nat.xor_self, Nat.zero_xor] at h4
  omega
theorem inB_set {L : List Int} (h : InB L) (i : Nat) {x : Int} (h0 : 0 ≤ x) (h1 : x < 256) : InB (L.set i x) := by
  intro j
  by_cases e : i = j
  · subst e
    by_cases hi : i < L.length
    · simp only [List.getD_eq_getElem?_getD, List.getElem?_set, hi, if_true, Option.getD_some]; exact ⟨h0, h1⟩
    · rw [getD_out _ _ (by simp; omega)]; omega
  · have := h j
    simpa [List.getD_eq_getElem?_getD, List.getElem?_set, e] using this
theorem own_at {w : World} {base n : Nat} {v : Value} {L : List Int} (h : w.ownsRow base 5 1 v n (vals L)) (hn : 0 < n) : ∃ g c, v = .slice (some ⟨g, 0, none⟩) n c ∧ base ≤ g := by
  obtain ⟨g, cap, hv, hb, _⟩ := h.form hn
  exact ⟨g, cap, hv, hb⟩
set_option maxRecDepth 100000 in
set_option maxHeartbeats 1000000 in
theorem walk_same (L : List Int) (A : Option Addr) (c n m : Nat) (t : Int) (ht0 : 0 ≤ t) (ht : t < 65536)  (w : World) (hm : L.length = m) (h0 : 0 < m) (h600 : m ≤ 600) (hb : InB L) (hB : Byt w A c L) (hL : Laid w) (hcut : Calls Tryd.prog 34 #[.slice A n c] w fun e w' => e = .returned (.slice A m c) ∧ w = w') :
    Calls Tryd.prog 14 #[.slice A n c, .int .u16 t, .int .u8 0] w fun e w' => e = .returned (.bool true) ∧ Below w.heap.size w w' := by
  have HC := Lib.hid hcut
  have HB := Lib.hid hB
  have HL := Lib.hid hL
  have Hm := Lib.hid hm
  have Hb := Lib.hid hb
  have hsz := hL.sz
  obtain ⟨i, hi0⟩ : ∃ i, i = (t % (m : Int)).toNat := ⟨_, rfl⟩
  have hi3 : 0 ≤ t % (m : Int) := Int.emod_nonneg _ (by omega)
  have hi4 : t % (m : Int) < m := Int.emod_lt_of_pos _ (by omega)
  have hi : i < m := by omega
  have hi1 : t % (m : Int) = (i : Int) := by omega
  have hi2 : (i : Int) < m := by omega
  clear hi0 hi3 hi4
  have hcc : m ≤ c := by have := hB.1; omega
  have o0 := Lib.hid (own_empty w)
  have low0 := Lib.hid ((Below.refl w.heap.size w).alloc (Nat.le_refl _) (.cells #[] 5))
  obtain ⟨xi, hxi⟩ : ∃ xi, xi = L.getD i 0 := ⟨_, rfl⟩
  have hxi0 : 0 ≤ xi ∧ xi < 256 := by rw [hxi]; exact hb _
  have Hxi := Lib.hid hxi
  have Hxi0 := Lib.hid hxi0
  clear hcut hB hL hm hb hxi hxi0
  go_enter Tryd.func14, Tryd.ntmps14
  go_upto_region 9 with (first
    | (go_at_call 37; refine (equal_len _ _ _ _ m (m + 1) w4 (by omega)).mono ?_; rintro e w5 ⟨rfl, st5⟩; have Low5 := Lib.hid (Low4.out.trans (st5.low.mono Low4.out.size)); have own5 := own_still Own4.out st5; have d5 := own5.cellAt i (by omega); rw [show (vals L)[i]? = some (.int .u8 xi) by rw [Hxi.out]; simp [vals, Hm.out, hi]] at d5; have f5 := own5.frozenAt i; have Own6 := Lib.hid (own_stored own5 i (bits .xor .u8 xi 0)); have Low6 := Lib.hid (Low5.out.setCell (p := ⟨g1, i, none⟩) hg1 (.int .u8 (bits .xor .u8 xi 0))); have ByA6 := Lib.hid (HB.out.below Low6.out (Nat.le_refl _)); have ByB6 := Lib.hid (byt_own Own6.out); clear st5 own5)
    | (go_at_call 37; refine (equal_yes' L A (some ⟨g1, 0, none⟩) c c1 m w1 Hm.out Hb.out (HB.out.below Low1.out (Nat.le_refl _)) (byt_own Own1.out) (by omega)).mono ?_; rintro e w2 ⟨rfl, st2⟩; have Low2 := Lib.hid (Low1.out.trans (st2.low.mono Low1.out.size)); obtain ⟨v2, w4, hrun, own2, own1, low4⟩ := run_append_keeps (w := w2.alloc (.cells #[.int .u8 0] 5)) 26 w.heap.size _ m L (own_below (own_still Own1.out st2) ((Below.refl _ _).alloc (Nat.le_refl _) _)) ⟨w2.heap.size, 0, none⟩ 1 1 [0] rfl (byt_one w2 0) (by omega) (Low2.out.alloc Low2.out.size _).size; obtain ⟨A2, c2, rfl, hl2, byt2⟩ := own_byt own2; have Low4 := Lib.hid (low4 _ _ (Low2.out.alloc Low2.out.size _) (Nat.le_refl _)); have Own4 := Lib.hid own1; clear own2 own1 low4 hl2 st2 byt2)
    | (go_at_call 34; refine HC.out.mono ?_; rintro e w' ⟨rfl, rfl⟩)
    | (at_builtin; refine wpList_append_byt rfl (.tmp 11) (.tmp 12) rfl w.heap.size _ 0 [] rfl o0.out A m c L rfl Hm.out (HB.out.below low0.out (Nat.le_refl _)) (by omega) (by simp) ?_; intro v1 w1 hown1 hlow1 _; have Low1 := Lib.hid (hlow1 _ _ low0.out (Nat.le_refl _)); simp only [List.nil_append, Nat.zero_add] at hown1; obtain ⟨g1, c1, rfl, hg1⟩ := own_at hown1 h0; have Own1 := Lib.hid hown1; clear hown1 hlow1))
  have l6 := Low6.out
  have a6 := ByA6.out
  have b6 := ByB6.out
  clear Low6 ByA6 ByB6 Own6 d5 f5 hrun hi1 hi2
  generalize World.setCell w5 _ _ = w6 at l6 a6 b6 ⊢
  have Low6 := Lib.hid l6
  have ByA6 := Lib.hid a6
  have ByB6 := Lib.hid b6
  clear l6 a6 b6
  go_wp2_with (first
    | (go_at_call 38; refine (works_any w9 (HL.out.below Low9.out hsz)).mono ?_; rintro e w10 ⟨rfl, low10⟩)
    | (go_at_call 37; refine (equal_len _ _ _ _ (m - 1) m w8 (by omega)).mono ?_; rintro e w9 ⟨rfl, st9⟩; have Low9 := Lib.hid (Low8.out.trans (st9.low.mono Low8.out.size)); clear st9)
    | (go_at_call 37; refine (equal_yes' L (some ⟨g1, 0, none⟩) A c1 c m w7 Hm.out Hb.out (by have h := ByB7.out; rwa [xor_same xi Hxi0.out.1 Hxi0.out.2, Hxi.out, set_same] at h) ByA7.out (by omega)).mono ?_; rintro e w8 ⟨rfl, st8⟩; have Low8 := Lib.hid (Low7.out.trans (st8.low.mono Low7.out.size)); clear st8)
    | (go_at_call 37; refine (equal_yes' L A (some ⟨g1, 0, none⟩) c c1 m w6 Hm.out Hb.out ByA6.out (by have h := ByB6.out; rwa [xor_same xi Hxi0.out.1 Hxi0.out.2, Hxi.out, set_same] at h) (by omega)).mono ?_; rintro e w7 ⟨rfl, st7⟩; have Low7 := Lib.hid (Low6.out.trans (st7.low.mono Low6.out.size)); have ByA7 := Lib.hid (ByA6.out.still st7); have ByB7 := Lib.hid (ByB6.out.still st7); clear st7))
  all_goals
    go_ret
    exact ⟨rfl, Low9.out.trans (low10.mono Low9.out.size)⟩
set_option maxRecDepth 100000 in
set_option maxHeartbeats 1000000 in
theorem walk_other (L : List Int) (A : Option Addr) (c n m : Nat) (t : Int) (ht0 : 0 ≤ t) (ht : t < 65536) (x : Int) (w : World) (hx0 : 0 ≤ x) (hx1 : x < 256) (hne : x ≠ 0) (hm : L.length = m) (h0 : 0 < m) (h600 : m ≤ 600) (hb : InB L) (hB : Byt w A c L) (hL : Laid w) (hcut : Calls Tryd.prog 34 #[.slice A n c] w fun e w' => e = .returned (.slice A m c) ∧ w = w') :
    Calls Tryd.prog 14 #[.slice A n c, .int .u16 t, .int .u8 x] w fun e w' => e = .returned (.bool true) ∧ Below w.heap.size w w' := by
  have hx' : (x == 0) = false := by simpa using hne
  have HX := Lib.hid (And.intro hx0 (And.intro hx1 hne))
  clear hne
  have HC := Lib.hid hcut
  have HB := Lib.hid hB
  have HL := Lib.hid hL
  have Hm := Lib.hid hm
  have Hb := Lib.hid hb
  have hsz := hL.sz
  obtain ⟨i, hi0⟩ : ∃ i, i = (t % (m : Int)).toNat := ⟨_, rfl⟩
  have hi3 : 0 ≤ t % (m : Int) := Int.emod_nonneg _ (by omega)
  have hi4 : t % (m : Int) < m := Int.emod_lt_of_pos _ (by omega)
  have hi : i < m := by omega
  have hi1 : t % (m : Int) = (i : Int) := by omega
  have hi2 : (i : Int) < m := by omega
  clear hi0 hi3 hi4
  have hcc : m ≤ c := by have := hB.1; omega
  have o0 := Lib.hid (own_empty w)
  have low0 := Lib.hid ((Below.refl w.heap.size w).alloc (Nat.le_refl _) (.cells #[] 5))
  obtain ⟨xi, hxi⟩ : ∃ xi, xi = L.getD i 0 := ⟨_, rfl⟩
  have hxi0 : 0 ≤ xi ∧ xi < 256 := by rw [hxi]; exact hb _
  have Hxi := Lib.hid hxi
  have Hxi0 := Lib.hid hxi0
  clear hcut hB hL hm hb hxi hxi0
  go_enter Tryd.func14, Tryd.ntmps14
  go_upto_region 9 with (first
    | (go_at_call 37; refine (equal_len _ _ _ _ m (m + 1) w4 (by omega)).mono ?_; rintro e w5 ⟨rfl, st5⟩; have Low5 := Lib.hid (Low4.out.trans (st5.low.mono Low4.out.size)); have own5 := own_still Own4.out st5; have d5 := own5.cellAt i (by omega); rw [show (vals L)[i]? = some (.int .u8 xi) by rw [Hxi.out]; simp [vals, Hm.out, hi]] at d5; have f5 := own5.frozenAt i; have Own6 := Lib.hid (own_stored own5 i (bits .xor .u8 xi x)); have Low6 := Lib.hid (Low5.out.setCell (p := ⟨g1, i, none⟩) hg1 (.int .u8 (bits .xor .u8 xi x))); have ByA6 := Lib.hid (HB.out.below Low6.out (Nat.le_refl _)); have ByB6 := Lib.hid (byt_own Own6.out); clear st5 own5)
    | (go_at_call 37; refine (equal_yes' L A (some ⟨g1, 0, none⟩) c c1 m w1 Hm.out Hb.out (HB.out.below Low1.out (Nat.le_refl _)) (byt_own Own1.out) (by omega)).mono ?_; rintro e w2 ⟨rfl, st2⟩; have Low2 := Lib.hid (Low1.out.trans (st2.low.mono Low1.out.size)); obtain ⟨v2, w4, hrun, own2, own1, low4⟩ := run_append_keeps (w := w2.alloc (.cells #[.int .u8 x] 5)) 26 w.heap.size _ m L (own_below (own_still Own1.out st2) ((Below.refl _ _).alloc (Nat.le_refl _) _)) ⟨w2.heap.size, 0, none⟩ 1 1 [x] rfl (byt_one w2 x) (by omega) (Low2.out.alloc Low2.out.size _).size; obtain ⟨A2, c2, rfl, hl2, byt2⟩ := own_byt own2; have Low4 := Lib.hid (low4 _ _ (Low2.out.alloc Low2.out.size _) (Nat.le_refl _)); have Own4 := Lib.hid own1; clear own2 own1 low4 hl2 st2 byt2)
    | (go_at_call 34; refine HC.out.mono ?_; rintro e w' ⟨rfl, rfl⟩)
    | (at_builtin; refine wpList_append_byt rfl (.tmp 11) (.tmp 12) rfl w.heap.size _ 0 [] rfl o0.out A m c L rfl Hm.out (HB.out.below low0.out (Nat.le_refl _)) (by omega) (by simp) ?_; intro v1 w1 hown1 hlow1 _; have Low1 := Lib.hid (hlow1 _ _ low0.out (Nat.le_refl _)); simp only [List.nil_append, Nat.zero_add] at hown1; obtain ⟨g1, c1, rfl, hg1⟩ := own_at hown1 h0; have Own1 := Lib.hid hown1; clear hown1 hlow1))
  have l6 := Low6.out
  have a6 := ByA6.out
  have b6 := ByB6.out
  clear Low6 ByA6 ByB6 Own6 d5 f5 hrun hi1 hi2
  generalize World.setCell w5 _ _ = w6 at l6 a6 b6 ⊢
  have Low6 := Lib.hid l6
  have ByA6 := Lib.hid a6
  have ByB6 := Lib.hid b6
  clear l6 a6 b6
  go_wp2_with (first
    | (go_at_call 38; refine (works_any w9 (HL.out.below Low9.out hsz)).mono ?_; rintro e w10 ⟨rfl, low10⟩)
    | (go_at_call 37; refine (equal_len _ _ _ _ (m - 1) m w8 (by omega)).mono ?_; rintro e w9 ⟨rfl, st9⟩; have Low9 := Lib.hid (Low8.out.trans (st9.low.mono Low8.out.size)); clear st9)
    | (go_at_call 37; refine (equal_no' (L.set i (bits .xor .u8 xi x)) L (some ⟨g1, 0, none⟩) A c1 c m m w7 (by rw [List.length_set, Hm.out]) Hm.out (inB_set Hb.out _ (xor_in _ _ Hxi0.out.1 Hxi0.out.2 HX.out.1 HX.out.2.1).1 (xor_in _ _ Hxi0.out.1 Hxi0.out.2 HX.out.1 HX.out.2.1).2) Hb.out ByB7.out ByA7.out (by omega) (by rw [Hxi.out]; exact (set_other L Hb.out _ (by rw [Hm.out]; exact hi) x HX.out.1 HX.out.2.1 HX.out.2.2).symm)).mono ?_; rintro e w8 ⟨rfl, st8⟩; have Low8 := Lib.hid (Low7.out.trans (st8.low.mono Low7.out.size)); clear st8)
    | (go_at_call 37; refine (equal_no' L (L.set i (bits .xor .u8 xi x)) A (some ⟨g1, 0, none⟩) c c1 m m w6 Hm.out (by rw [List.length_set, Hm.out]) Hb.out (inB_set Hb.out _ (xor_in _ _ Hxi0.out.1 Hxi0.out.2 HX.out.1 HX.out.2.1).1 (xor_in _ _ Hxi0.out.1 Hxi0.out.2 HX.out.1 HX.out.2.1).2) ByA6.out ByB6.out (by omega) (by rw [Hxi.out]; exact set_other L Hb.out _ (by rw [Hm.out]; exact hi) x HX.out.1 HX.out.2.1 HX.out.2.2)).mono ?_; rintro e w7 ⟨rfl, st7⟩; have Low7 := Lib.hid (Low6.out.trans (st7.low.mono Low6.out.size)); have ByA7 := Lib.hid (ByA6.out.still st7); have ByB7 := Lib.hid (ByB6.out.still st7); clear st7))
  all_goals
    go_ret
    exact ⟨rfl, Low9.out.trans (low10.mono Low9.out.size)⟩
end Go.Proofs.YtbondffjghanlaaDoor.lawEqual
