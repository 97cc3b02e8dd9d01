/- DERIVED. The contract of lines.Split. -/
import Derived.Test.YtpaolndgagedkaaLnsParts
namespace Go.Proofs.Ytpaolndgagedkaa.Lns
open Go.RowKit
attribute [local go_sem] Oper.semAt_some
/-- between two rounds: the texts that have come, in a box of the call's. -/
structure SI (Q : List ByteArray → Prop) (G : Nat) (w : World) (pre : List ByteArray) (W : World) : Prop where
  box : ∃ v, Boxed W G 23 v ∧ OwnT w.heap.size pre v W
  low : Below w.heap.size w W
  q : Q pre
theorem SI.own (Q : List ByteArray → Prop) (G : Nat) (w : World) (B : Nat) (hB : w.heap.size ≤ B) : OwnFrom B (fun pre W => SI Q G w pre W) := by
  intro s X Y row hs hg hr
  have hr' : ∀ r, row = some r → ∃ o : Obj, X.heap[r]? = some o ∧ o.isCells = false := fun r e => (hr r e).2
  obtain ⟨v, h1, h2, _⟩ := holdsRow_own w.heap.size G 23 9 1 (fun s : List ByteArray => s.length) (fun s => s.map Value.string) (fun _ _ => True) s X Y row (by obtain ⟨v, a, b⟩ := hs.box; exact ⟨v, a, b, trivial⟩) hg hr'
  exact ⟨⟨v, h1, h2⟩, (ownFrom_below (β := Unit) (w₀ := w) (Nat.le_refl _) hB) () X Y row hs.low hg hr, hs.q⟩
set_option maxRecDepth 100000 in
set_option maxHeartbeats 4000000 in
theorem split_any (s : ByteArray) (w : World) (hL : Laid w) (hs : s.size ≤ 50000) : Calls Try.prog 8 #[.string s] w fun e w' => ∃ v, e = .returned (.tuple #[v, .int .i64 (spl s).2]) ∧ OwnT w.heap.size (spl s).1 v w' ∧ Below w.heap.size w w' := by
  cases he : endB s
  · have HR := Lib.hid (show spl s = ([], 4) by unfold spl; rw [if_neg (by rw [he]; decide)])
    have HE := Lib.hid he
    clear he
    go_enter Try.func8, Try.ntmps8
    go_wp2_with (go_at_call 24; refine (ended_any _ _ (by omega)).mono ?_; rw [HE.out]; rintro e w' ⟨rfl, rfl⟩)
    go_ret2
    exact ⟨.slice none 0 0, by rw [HR.out]; rfl, by rw [HR.out]; exact OwnT.nil _ _, Below.refl _ _⟩
  · have HS := Lib.hid (show spl s = if chk (prtB s) = 0 then (prtB s, 0) else ([], chk (prtB s)) by unfold spl; rw [if_pos he])
    have HE := Lib.hid he
    have HL := Lib.hid hL
    clear he hL
    refine (callsIn_wide (n := 8)).1 ?_
    refine callsIn_of_wp_marks Try.func8 rfl trivial ?_ rfl
    simp only [Try.ntmps8, List.size_toArray, List.length_cons, List.length_nil, Nat.reduceAdd, Nat.reduceSub, Array.replicate_succ, Array.replicate_zero, List.push_toArray, List.append_toArray, List.nil_append, List.cons_append]
    gi_wp2_with (first
      | (refine ⟨trivial, ?_⟩; gi_at_call 24; refine (callsIn_wide.2 (ended_any _ _ (by omega))).mono ?_; rw [HE.out]; rintro e w' ⟨rfl, rfl⟩)
      | (refine ⟨trivial, ?_⟩; gi_at_call 25; refine (callsIn_wide.2 (parts_any _ _)).mono ?_; rintro e w2 ⟨rfl, rfl⟩))
    have hbx := Boxed.new (w.alloc (.cells #[.slice none 0 0] 23)) 9 (.string s)
    have hbl := (Boxed.new w 23 (.slice none 0 0)).alloc (.cells #[.string s] 9)
    have hlow : Below w.heap.size w ((w.alloc (.cells #[.slice none 0 0] 23)).alloc (.cells #[.string s] 9)) := ((Below.refl w.heap.size w).alloc (Nat.le_refl _) _).alloc (by rw [World.size_alloc]; omega) _
    have hsz : ((w.alloc (.cells #[.slice none 0 0] 23)).alloc (.cells #[.string s] 9)).heap.size = w.heap.size + 2 := by rw [World.size_alloc, World.size_alloc]
    rw [World.size_alloc] at hbx
    obtain ⟨W0, hW0⟩ : ∃ W0, W0 = (w.alloc (.cells #[.slice none 0 0] 23)).alloc (.cells #[.string s] 9) := ⟨_, rfl⟩
    rw [← hW0] at hbx hbl hlow hsz ⊢
    clear hW0
    have HL0 := HL.out.below hlow (Nat.le_refl _)
    have hg0 : 0 < w.heap.size := by
      obtain ⟨m, hm⟩ := HL.out
      exact World.block_lt_of_cell? _ _ hm
    have hSI : SI (fun l => l.length ≤ 256) w.heap.size w [] W0 := ⟨⟨_, hbl, OwnT.nil _ _⟩, hlow, Nat.zero_le _⟩
    have hle := prtB_le s
    refine wpIn_rangeFunc_ownF rfl (by omega) (gf := 33) (lb := #[.pointer (some ⟨w.heap.size + 1, 0, none⟩)]) rfl trivial (Go.Proofs.enters_of Try.func33 (by kernel_rfl) rfl)
      (parts_stops 7 (w.heap.size + 1) (by omega) s (by omega) W0 hbx HL0) (fun h k => KpL.trans h k)
      (fun W l' o o' hl' ho hc hw => World.putObj_heap_other (by omega)) (Below.refl _ _) (fun _ => rfl)
      (fun pre W => SI (fun l => l.length ≤ 256) w.heap.size w pre W)
      (fun c pre W => c = Code.exit 0 ∧ SI (fun l => l.length = 257) w.heap.size w pre W)
      (SI.own _ _ w _ (by omega))
      (fun c s X Y row hs hg hr => ⟨hs.1, SI.own _ _ w _ (by omega) s X Y row hs.2 hg hr⟩)
      hSI
      (fun x => { tmps := #[.string s, undef, .slice none 0 0, .int .i64 0, .pointer (some ⟨w.heap.size, 0, none⟩), .string x, undef, .string s, .bool true, .bool false, .string s, .func (.func 33) #[] #[.pointer (some ⟨w.heap.size + 1, 0, none⟩)], .string x, undef, undef, undef, undef, undef, undef, undef, undef, undef, undef, undef, undef, undef, undef], defers := [] }) ?assign ?body ?done ?stop
    case assign =>
      intro l x W K' hK
      gi_wp2
      exact hK
    case body =>
      rintro l pre x W hI hlen
      have hS : SI (fun l => l.length ≤ 256) w.heap.size w pre W := hI
      obtain ⟨v, hv, hrow⟩ := hS.box
      have hB := hS.low
      have hq : pre.length ≤ 256 := hS.q
      obtain ⟨i0, hi, hz0, hz1, hz2⟩ := info_parts infoTz
      obtain ⟨k, hk⟩ : ∃ k, k = pre.length := ⟨_, rfl⟩
      unfold OwnT at hrow
      rw [← hk] at hq hrow
      have hsW := hB.size
      have hB0 : w.heap.size < W.heap.size := hv.lt
      have hvc := hv.cell
      have HS := Lib.hid hS
      have Hk := Lib.hid hk
      clear hI hS hk
      by_cases h256 : k < 256
      all_goals
        first
          | have hcI : ¬ (256 : Int) < ((k + 1 : Nat) : Int) := by omega
          | have hcI : (256 : Int) < ((k + 1 : Nat) : Int) := by omega
        gi_wp2_with (gi_at_builtin; refine wpListIn_append_own _ rfl _ _ 23 rfl w.heap.size 9 i0 (.string ByteArray.empty) 1 16 Try.underlying23 hi hz0 hz1 hz2 rfl (by decide) _ _ _ rfl (hrow.alloc _) ⟨W.heap.size, 0, none⟩ 1 1 [.string x] rfl rfl (cell_one_new _ _ _) (by simp [Value.oneCell']) (by unfold maxLen; omega) (by omega) (by rw [World.size_alloc]; omega) ?_; intro v' w1 hown' hgrow _; obtain ⟨g', cap', rfl⟩ := ownsRow_succ hown'; obtain ⟨hv1, hv2, hr2, hk2, hb2⟩ := hv.appended (by decide) hrow hsW (Nat.le_refl _) hown' hgrow; have hc1 := hv1.cell; have hf1 := hv1.frozen)
        first
          | exact ⟨hk2, hb2.block _ hg0, ⟨⟨_, hv2, by unfold OwnT; rw [List.length_append, List.map_append, ← Hk.out]; exact hr2⟩, hB.trans hb2, by show (pre ++ [x]).length ≤ 256; rw [List.length_append, ← Hk.out]; simp; omega⟩⟩
          | exact ⟨hk2, rfl, ⟨⟨_, hv2, by unfold OwnT; rw [List.length_append, List.map_append, ← Hk.out]; exact hr2⟩, hB.trans hb2, by show (pre ++ [x]).length = 257; rw [List.length_append, ← Hk.out]; simp; omega⟩⟩
    case done =>
      rintro D ys W hD hys hI hK
      have hS : SI (fun l => l.length ≤ 256) w.heap.size w ys W := hI
      have hys' : ys = prtB s := hys
      subst hys'
      obtain ⟨v, hv, hrow⟩ := hS.box
      have hvc := hv.cell
      have Hchk := Lib.hid (check_any _ v W hrow.rd)
      have HO := Lib.hid hrow
      have Hlow := Lib.hid hS.low
      have HK := Lib.hid hK
      have Hv := Lib.hid hv
      have HDl : D < W.heap.size := (Array.getElem?_eq_some_iff.1 hK).1
      have hlen' : (prtB s).length ≤ 256 := hS.q
      clear hS hI hys hK hrow hv
      by_cases hz : chk (prtB s) = 0
      · have Hz := Lib.hid hz
        clear hz
        gi_wp2_with (first
          | (refine ⟨trivial, ?_⟩; gi_at_call 18; refine (callsIn_wide.2 Hchk.out).mono ?_; rw [Hz.out]; rintro e w1 ⟨rfl, hb1⟩; have hvc1 := (hb1.cell (p := ⟨w.heap.size, 0, none⟩) Hv.out.lt).trans hvc; have Hb1 := Lib.hid hb1; clear hb1 hvc)
          | (refine ⟨trivial, ?_⟩; gi_at_call 26; refine (callsIn_wide.2 (copied_any w.heap.size _ _ _ (HO.out.below Hb1.out) (fun x hx => by have := prtB_size hx; omega) (by omega))).mono ?_; rintro e w2 ⟨rfl, hb2⟩; have Hb2 := Lib.hid hb2; clear hb2))
        have hb3 := Hb1.out.trans (Hb2.out.mono Hb1.out.size)
        have hK2 : w2.heap[D]? = some (.deferred (some [])) := (hb3.block _ HDl).trans HK.out
        refine ⟨by simp, .inl ⟨_, _, rfl, run_takeDeferred hK2, ?_⟩⟩
        have hsp : spl s = (prtB s, 0) := by rw [HS.out, if_pos Hz.out]
        refine ⟨_, results_tmp2 rfl _ _ _, v, by rw [hsp]; rfl, ?_, ?_⟩
        · rw [hsp]
          exact ownsRow_putObj (HO.out.below hb3) (.deferred none) hK2 rfl
        · exact (Hlow.out.trans (hb3.mono Hlow.out.size)).trans (belowK_b (w := w) (Nat.le_refl _) w2 D _ _ (by omega) hK2 rfl rfl)
      · have hz2 : (chk (prtB s) == 0) = false := by simpa using hz
        obtain ⟨ee, hee⟩ : ∃ ee, ee = chk (prtB s) := ⟨_, rfl⟩
        rw [← hee] at hz hz2
        have Hee := Lib.hid hee
        clear hee
        gi_wp2_with (refine ⟨trivial, ?_⟩; gi_at_call 18; refine (callsIn_wide.2 Hchk.out).mono ?_; rw [← Hee.out]; rintro e w1 ⟨rfl, hb1⟩; have Hb1 := Lib.hid hb1; clear hb1)
        have hb3 := Hb1.out
        have hK2 : w1.heap[D]? = some (.deferred (some [])) := (hb3.block _ HDl).trans HK.out
        refine ⟨by simp, .inl ⟨_, _, rfl, run_takeDeferred hK2, ?_⟩⟩
        have hsp : spl s = ([], ee) := by rw [HS.out, if_neg (by rw [← Hee.out]; exact hz), ← Hee.out]
        refine ⟨_, results_tmp2 rfl _ _ _, .slice none 0 0, by rw [hsp]; rfl, ?_, ?_⟩
        · rw [hsp]
          exact OwnT.nil _ _
        · exact (Hlow.out.trans (hb3.mono Hlow.out.size)).trans (belowK_b (w := w) (Nat.le_refl _) w1 D _ _ (by omega) hK2 rfl rfl)
    case stop =>
      rintro D c pre W hD hpre hI hK
      have hS : c = Code.exit 0 ∧ SI (fun l => l.length = 257) w.heap.size w pre W := hI
      obtain ⟨rfl, hS⟩ := hS
      obtain ⟨v, hv, hrow⟩ := hS.box
      have hvc := hv.cell
      obtain ⟨t, ht⟩ : ∃ t, prtB s = pre ++ t := hpre
      have hq : pre.length = 257 := hS.q
      have hc3 : chk pre = 3 := chk_many (by omega)
      have hc4 : chk (prtB s) = 3 := chk_many (by rw [ht, List.length_append]; omega)
      have Hchk := Lib.hid (check_any _ v W hrow.rd)
      have Hlow := Lib.hid hS.low
      have HK := Lib.hid hK
      have Hc3 := Lib.hid hc3
      have HDl : D < W.heap.size := (Array.getElem?_eq_some_iff.1 hK).1
      have hsp := Lib.hid (show spl s = ([], 3) by rw [HS.out, if_neg (by rw [hc4]; decide), hc4])
      clear hS hI hK hrow hv ht hc3 hc4
      gi_wp2_with (refine ⟨trivial, ?_⟩; gi_at_call 18; refine (callsIn_wide.2 Hchk.out).mono ?_; rw [Hc3.out]; rintro e w1 ⟨rfl, hb1⟩; have Hb1 := Lib.hid hb1; clear hb1)
      have hb3 := Hb1.out
      have hK2 : w1.heap[D]? = some (.deferred (some [])) := (hb3.block _ HDl).trans HK.out
      refine ⟨by simp, .inl ⟨_, _, rfl, run_takeDeferred hK2, ?_⟩⟩
      refine ⟨_, results_tmp2 rfl _ _ _, .slice none 0 0, by rw [hsp.out]; rfl, ?_, ?_⟩
      · rw [hsp.out]
        exact OwnT.nil _ _
      · exact (Hlow.out.trans (hb3.mono Hlow.out.size)).trans (belowK_b (w := w) (Nat.le_refl _) w1 D _ _ (by omega) hK2 rfl rfl)
end Go.Proofs.Ytpaolndgagedkaa.Lns
