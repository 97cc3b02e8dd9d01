/- DERIVED. The walk of ShaAnybody: it answers true at every two slices of bytes. -/
import Derived.Test.YtbondffjghanlaaDoorShaResumeMath
import Derived.Test.YtbondffjghanlaaDoorShaAwake
import Derived.Test.YtbondffjghanlaaDoorShaEq
import Derived.StillTailTactics
namespace Go.Proofs.YtbondffjghanlaaDoor.lawAnybody
open Go.RowKit
/-- appending a slice of bytes, nil or not, to a row of the call's own. -/
theorem wpList_append_byt {w : World} {ops : Array Oper} {rest : List Oper} {o : Oper} {a : Act} {Q : Exit → Act → World → Prop} (hgd : o.guard = none) (s x : Operand)
    (ho : o.op = .call { callee := .builtin .append, args := #[s, x], argTypes := #[26, 26] }) (base : Nat) (v : Value) (n : Nat) (L : List Int) (hs : a.eval s = v) (hown : w.ownsRow base 5 1 v n (vals L))
    (A : Option Addr) (m c : Nat) (M : List Int) (hx : a.eval x = .slice A m c) (hm : M.length = m) (hB : Byt w A c M) (h63 : n + m ≤ 100000) (hbase : base ≤ w.heap.size)
    (h : ∀ v' w', w'.ownsRow base 5 1 v' (n + m) (vals (L ++ M)) → (∀ B u, Below B u w → B ≤ base → Below B u w') → (∀ k b, w.heap[k]? = some b → v.ownBlock ≠ some k → w'.heap[k]? = some b) →
      wpList Tryd.prog ops Q rest (a.put o.dst v') w') : wpList Tryd.prog ops Q (o :: rest) a w := by
  obtain ⟨i0, hi0, hz00, hz10, hz20⟩ := info_parts info5
  cases A with
  | none =>
    have hc := hB.2.1 rfl
    have hm0 : m = 0 := by have := hB.1; omega
    subst hc hm0
    obtain rfl : M = [] := List.eq_nil_of_length_eq_zero hm
    refine wpList_append_own_none hgd s x 26 ho base 5 i0 1 Tryd.underlying26 hi0 v n (vals L) hs hown hx ?_
    exact h v w (by rw [List.append_nil]; exact hown) (fun _ _ h _ => h) (fun _ _ h _ => h)
  | some ad =>
    refine wpList_append_own _ hgd s x 26 ho base 5 i0 (.int .u8 0) 1 1 Tryd.underlying26 hi0 hz00 hz10 hz20 rfl (by decide) v n (vals L) hs hown ad m c (vals M) hx (by rw [vals_length, hm]; omega)
      (hB.cells (fun _ _ => rfl) ad rfl) (vals_one _) (by unfold maxLen; omega) (by omega) hbase ?_
    intro v' w' hown' hgrow _
    rw [vals_append] at hown'
    exact h v' w' hown' (fun B u hb hB' => hb.grown hgrow (by omega) (fun k hk => Nat.le_trans hB' (own_ge hown k hk))) (fun k b hk hne => by
      rw [hgrow.block k (Array.getElem?_eq_some_iff.1 hk).1 (fun e => hne (by rw [e]))]; exact hk)
/-- a digest, loaded as a whole. -/
noncomputable def load35 (v : Value) : Sem Value := Instr.loadAt 35 v
theorem loadAt35 (v : Value) : Instr.loadAt 35 v = load35 v := rfl
theorem load35_eq {w : World} {g : Nat} {l : List Int} (hl : l.length = 32) (h : w.heap[g]? = some (.cells (u8s l) 35 (0, 0))) : (load35 (.pointer (some ⟨g, 0, none⟩))).run Tryd.prog w = .ok (.agg (u8s l)) w := by
  have hi : (Tryd.prog.info? 35).map (·.size) = some (u8s l).size := by rw [u8s_size, hl]; exact info35
  unfold load35
  simp only [Instr.loadAt, Instr.sureAddr, Sem.run_bind, Sem.run_pure, Result.andThen_ok, run_loadVar_row w g 35 35 _ (0, 0) _ h Tryd.underlying35 rfl hi]
/-- an append, run as a whole. -/
noncomputable def appendS (ts : Array TypeId) (ty : TypeId) (args : Array Value) : Sem Value := Builtin.append_ ts ty args
theorem appendS_eq (ts : Array TypeId) (ty : TypeId) (args : Array Value) : Builtin.append_ ts ty args = appendS ts ty args := rfl
theorem run_append_byt {w : World} (ty : TypeId) (base : Nat) (v : Value) (n : Nat) (L : List Int) (hown : w.ownsRow base 5 1 v n (vals L)) (A : Option Addr) (m c : Nat) (M : List Int) (hm : M.length = m) (hB : Byt w A c M) (h63 : n + m ≤ 100000) (hbase : base ≤ w.heap.size) :
    ∃ v' w', (appendS #[26, 26] ty #[v, .slice A m c]).run Tryd.prog w = .ok v' w' ∧ w'.ownsRow base 5 1 v' (n + m) (vals (L ++ M)) ∧ (∀ B u, Below B u w → B ≤ base → Below B u w') ∧ (∀ k b, w.heap[k]? = some b → v.ownBlock ≠ some k → w'.heap[k]? = some b) := by
  obtain ⟨i0, hi0, hz00, hz10, hz20⟩ := info_parts info5
  unfold appendS
  cases A with
  | none =>
    have hc := hB.2.1 rfl
    have hm0 : m = 0 := by have := hB.1; omega
    subst hc hm0
    obtain rfl : M = [] := List.eq_nil_of_length_eq_zero hm
    exact ⟨v, w, run_append_owned_none (P := Tryd.prog) (w := w) base 26 ty 5 i0 1 Tryd.underlying26 hi0 v n (vals L) hown, by rw [List.append_nil]; exact hown, fun _ _ h _ => h, fun _ _ h _ => h⟩
  | some ad =>
    obtain ⟨v', w', hr, hown', hgrow, _⟩ := run_append_own (P := Tryd.prog) w base 26 ty 5 i0 (.int .u8 0) 1 1 Tryd.underlying26 hi0 hz00 hz10 hz20 rfl (by decide) v n (vals L) hown ad m c (vals M) (by rw [vals_length, hm]; omega)
      (hB.cells (fun _ _ => rfl) ad rfl) (vals_one _) (by unfold maxLen; omega) (by omega) hbase
    rw [vals_append] at hown'
    exact ⟨v', w', hr, hown', fun B u hb hB' => hb.grown hgrow (by omega) (fun k hk => Nat.le_trans hB' (own_ge hown k hk)), fun k b hk hne => by
      rw [hgrow.block k (Array.getElem?_eq_some_iff.1 hk).1 (fun e => hne (by rw [e]))]; exact hk⟩
attribute [irreducible] load35 appendS
attribute [local go_sem ↓ high] loadAt35 appendS_eq
set_option maxRecDepth 100000 in
set_option maxHeartbeats 1000000 in
theorem walk_long (A A2 : Option Addr) (c m c2 m2 : Nat) (w : World) (hL : Laid w) (hm : 3000 < m ∨ 3000 < m2) (hx : m ≤ 9223372036854775807) (hx2 : m2 ≤ 9223372036854775807) :
    Calls Tryd.prog 9 #[.slice A m c, .slice A2 m2 c2] w fun e' w' => e' = .returned (.bool true) ∧ Below w.heap.size w w' := by
  have HL := Lib.hid hL
  by_cases h1 : 3000 < m
  · have hm' : (3000 : Int) < m := by omega
    clear hL hx hm hx2 h1
    go_enter Tryd.func9, Tryd.ntmps9
    go_wp2_with (go_at_call 23; refine (awake_any _ HL.out).mono ?_; rintro e w1 ⟨rfl, low1⟩)
    go_ret
    exact ⟨rfl, low1⟩
  · have hm' : ¬ (3000 : Int) < m := by omega
    have hm2 : (3000 : Int) < m2 := by omega
    clear hL hx hm hx2 h1
    go_enter Tryd.func9, Tryd.ntmps9
    go_wp2_with (go_at_call 23; refine (awake_any _ HL.out).mono ?_; rintro e w1 ⟨rfl, low1⟩)
    go_ret
    exact ⟨rfl, low1⟩
set_option maxRecDepth 100000 in
set_option maxHeartbeats 2000000 in
theorem walk_short (L M : List Int) (A A2 : Option Addr) (c m c2 m2 : Nat) (w : World) (hm : L.length = m) (hb : InB L) (hB : Byt w A c L) (hm2 : M.length = m2) (hb2 : InB M) (hB2 : Byt w A2 c2 M) (hL : Laid w) (hs : m ≤ 3000) (hs2 : m2 ≤ 3000) :
    Calls Tryd.prog 9 #[.slice A m c, .slice A2 m2 c2] w fun e' w' => e' = .returned (.bool true) ∧ Below w.heap.size w w' := by
  have Hm := Lib.hid hm
  have Hb := Lib.hid hb
  have HB := Lib.hid hB
  have Hm2 := Lib.hid hm2
  have Hb2 := Lib.hid hb2
  have HB2 := Lib.hid hB2
  have HL := Lib.hid hL
  have hsz := hL.sz
  have hs' : ¬ (3000 : Int) < m := by omega
  have hs2' : ¬ (3000 : Int) < m2 := by omega
  obtain ⟨P, hP⟩ : ∃ P, P = padLen m := ⟨_, rfl⟩
  have hP1 : 9 ≤ P := by rw [hP]; unfold padLen; omega
  have hP2 : P ≤ 72 := by have := zeros_lt m; rw [hP]; unfold padLen; omega
  obtain ⟨X, hX⟩ : ∃ X, X = sumL (L ++ padL m ++ M) := ⟨_, rfl⟩
  have hX2 : fin (wordsW (sumL L)) M (m + padLen m + m2) = X := by rw [hX]; subst hm hm2; exact resume_sum L M
  have hX3 : X.length = 32 := by rw [hX, sumL, fin, hashL_length]
  have e0 := fun W => eql35_same X hX3 W
  have e1 := fun W => equal35_same X hX3 W
  have H35 : Hid ((Tryd.prog.info? 35).map (·.size) = some (u8s X).size) := by show _ = _; rw [u8s_size, hX3]; exact info35
  have HP := Lib.hid hP
  have HX := Lib.hid hX
  have HX2 := Lib.hid hX2
  have HX3 := Lib.hid hX3
  clear hm hb hB hL hm2 hb2 hB2 hP hX hX2 hX3
  have o0 := Lib.hid (own_empty w)
  have low0 := Lib.hid ((Below.refl w.heap.size w).alloc (Nat.le_refl _) (.cells #[] 5))
  go_enter Tryd.func9, Tryd.ntmps9
  go_wp2_with (first
    | (at_builtin; refine wpList_append_byt rfl (.tmp 17) (.tmp 18) rfl w.heap.size _ 0 [] rfl o0.out A m c L rfl Hm.out (HB.out.below low0.out (Nat.le_refl _)) (by omega) (by simp) ?_; intro v1 w1 hown1 hlow1 _; have Low1 := Lib.hid (hlow1 _ _ low0.out (Nat.le_refl _)); simp only [List.nil_append, Nat.zero_add] at hown1; have Own1 := Lib.hid hown1; clear hown1 hlow1)
    | (go_at_call 21; refine (behind_any m (by omega) w1).mono ?_; rintro e w2 ⟨rfl, hp2, low2⟩; rw [← HP.out]; have Hp2 := Lib.hid hp2; have Own2 := Lib.hid (own_below Own1.out low2); have lowA := Lib.hid (Low1.out.trans (low2.mono Low1.out.size)); clear hp2 low2)
    | (at_builtin; refine wpList_append_byt rfl (.tmp 19) (.tmp 22) rfl w.heap.size v1 m L rfl Own2.out (some ⟨w1.heap.size, 0, none⟩) P P (padL m) rfl (by rw [padL_length, ← HP.out]) (by have hq := byt_row Hp2.out; rw [padL_length, ← HP.out] at hq; exact hq) (by omega) lowA.out.size ?_; intro v2 w3 hown3 hlow3 _; have low3 := hlow3 _ _ lowA.out (Nat.le_refl _); obtain ⟨g, c3, hv2, byt3, hlen3, hg3⟩ := own_form hown3 (by omega); subst hv2; have hgs := (byt3.2.2 (by omega)); have Own3 := Lib.hid hown3; have Low3 := Lib.hid low3; clear hown3 hlow3 byt3 hlen3 low3)
    | (go_at_call 24; refine (sum_any L A c m w3 Hm.out Hb.out (HB.out.below Low3.out (Nat.le_refl _)) (HL.out.below Low3.out hsz) (by omega)).mono ?_; rintro e w4 ⟨rfl, low4⟩; have Low4 := Lib.hid (Low3.out.trans (low4.mono Low3.out.size)); have Own4 := Lib.hid (own_below Own3.out low4); have hgs4 : g < w4.heap.size := (by obtain ⟨g', off', hgg, hgl, _⟩ := hgs; cases hgg; exact Nat.lt_of_lt_of_le hgl low4.size); clear low4 hgs)
    | (go_at_call 26; refine (resume_any (sumL L) M A2 c2 m2 m w4 (by rw [sumL, fin, hashL_length]) (sumL_in L) Hm2.out Hb2.out (HB2.out.below Low4.out (Nat.le_refl _)) (HL.out.below Low4.out hsz) (by omega) (by omega)).mono ?_; rintro e w5 ⟨rfl, low5⟩; rw [HX2.out]; have Low5 := Lib.hid (Low4.out.trans (low5.mono Low4.out.size)); have Own5 := Lib.hid (own_below Own4.out low5); have hgs5 : g < w5.heap.size := (Nat.lt_of_lt_of_le hgs4 low5.size); clear low5 hgs4)
    | (refine wpList_store_row rfl 35 (.tmp 6) (.tmp 31) rfl w5.heap.size (u8s X) rfl rfl 35 _ (Go.heap_alloc_new w5 _) H35.out (by rw [u8s_size, HX3.out]; rfl) (u8s_one _) ?_))
  have h6 : ((w5.alloc (.cells zero32 35)).setRow w5.heap.size (u8s X)).heap[w5.heap.size]? = some (.cells (u8s X) 35 (0, 0)) := setRow_heap _ _ _ _ _ _ (Go.heap_alloc_new w5 _)
  have low6 : Below w.heap.size w ((w5.alloc (.cells zero32 35)).setRow w5.heap.size (u8s X)) := below_setRow (Low5.out.alloc Low5.out.size _) Low5.out.size _
  have own6 : ((w5.alloc (.cells zero32 35)).setRow w5.heap.size (u8s X)).ownsRow w.heap.size 5 1 (.slice (some ⟨g, 0, none⟩) (m + P) c3) (m + P) (vals (L ++ padL m)) := own_below Own5.out (below_setRow ((Below.refl _ _).alloc (Nat.le_refl _) _) (Nat.le_refl _) _)
  unfold zero32 at h6 low6 own6
  generalize World.setRow _ _ _ = w6 at h6 low6 own6 ⊢
  have H6 := Lib.hid h6
  have Low6 := Lib.hid low6
  have Own6 := Lib.hid own6
  have lA : (load35 (.pointer (some ⟨w5.heap.size, 0, none⟩))).run Tryd.prog w6.drew = .ok (.agg (u8s X)) w6.drew := load35_eq HX3.out h6
  obtain ⟨v3, w7, hrun7, hown7, hlow7, hkeep7⟩ := run_append_byt (w := w6.drew) 26 w.heap.size _ (m + P) (L ++ padL m) own6 A2 m2 c2 M Hm2.out (HB2.out.below low6.drew (Nat.le_refl _)) (by omega) low6.drew.size
  have low7 := hlow7 _ _ low6.drew (Nat.le_refl _)
  have h7 := hkeep7 _ _ h6 (fun e => absurd (Option.some.inj (show some g = some w5.heap.size from e)) (by omega))
  have lB := load35_eq HX3.out h7
  obtain ⟨g2, c4, hv3, byt7, hlen7, _⟩ := own_form hown7 (by omega)
  subst hv3
  have H7 := Lib.hid h7
  have Low7 := Lib.hid low7
  have Byt7 := Lib.hid byt7
  have Hlen7 := Lib.hid hlen7
  clear h6 low6 own6 hown7 hlow7 hkeep7 low7 h7 byt7 hlen7
  go_region_with (first
    | (go_at_call 24; refine (sum_any (L ++ padL m ++ M) (some ⟨g2, 0, none⟩) c4 (m + P + m2) _ Hlen7.out ((Hb.out.append (padL_in m)).append Hb2.out) Byt7.out (HL.out.below Low7.out hsz) (by omega)).mono ?_; rintro e w8 ⟨rfl, low8⟩; rw [← HX.out]; have H8 := Lib.hid ((low8.block _ (Array.getElem?_eq_some_iff.1 H7.out).1).trans H7.out); have lC := load35_eq HX3.out H8.out; have Low8 := Lib.hid (Low7.out.trans (low8.mono Low7.out.size)); clear low8)
    | (go_at_call 23; refine (awake_any _ (HL.out.below Low8.out hsz)).mono ?_; rintro e w9 ⟨rfl, low9⟩; have Low9 := Lib.hid (Low8.out.trans (low9.mono Low8.out.size)); clear low9))
  all_goals
    go_wp2
    go_ret
    exact ⟨rfl, Low9.out⟩
end Go.Proofs.YtbondffjghanlaaDoor.lawAnybody
