/- DERIVED. Texts of ours, merged: XRndSolid. -/
import Derived.Test.YtnjeppmpnaemlaaDoorMrk21
import Derived.Test.YtnjeppmpnaemlaaDoorMrk3
import Derived.Deep.CutBlock
import Derived.WalkMore
/- DERIVED. render's solid: which lines are in order with all others. Written by mksolid.py. -/
set_option maxRecDepth 100000
namespace Go.Proofs.YtnjeppmpnaemlaaDoor.Grf
open Go.RowKit Str Go.Maps
attribute [local go_sem ↓ high] loadAtVx loadAtLn
theorem solState_lt (o : Nat → Nat → Bool) : ∀ n, (∀ x ∈ (solState o n).1, x < n) ∧ (∀ x ∈ (solState o n).2, x < n) ∧ (solState o n).1.length ≤ n ∧ (solState o n).2.length ≤ n := by
  intro n
  induction n with
  | zero => exact ⟨fun x hx => by simp [solState] at hx, fun x hx => by simp [solState] at hx, Nat.le_refl _, Nat.le_refl _⟩
  | succ n ih =>
    obtain ⟨h1, h2, h3, h4⟩ := ih
    rw [solState_succ]
    have hd1 : ∀ x ∈ (solState o n).1.dropWhile (fun k => !o k n), x < n := fun x hx => h1 x ((List.dropWhile_sublist _).subset hx)
    have hl1 := (List.dropWhile_sublist (l := (solState o n).1) (fun k => !o k n)).length_le
    unfold solStep
    split
    · refine ⟨fun x hx => ?_, fun x hx => ?_, ?_, ?_⟩
      · rcases List.mem_cons.1 hx with rfl | hx
        · omega
        · have := hd1 x hx; omega
      · simp at hx; omega
      · rw [List.length_cons]; omega
      · simp
    · next x t e =>
      have hd2 : ∀ y ∈ x :: t, y < n := fun y hy => h2 y ((List.dropWhile_sublist _).subset (by rw [e]; exact hy))
      have hl2 := (List.dropWhile_sublist (l := (solState o n).2) (fun k => o k n)).length_le
      rw [e] at hl2
      refine ⟨fun y hy => ?_, fun y hy => ?_, ?_, ?_⟩
      · have := hd1 y hy; omega
      · rcases List.mem_cons.1 hy with rfl | hy
        · omega
        · have := hd2 y hy; omega
      · show (List.dropWhile _ _).length ≤ _
        omega
      · show (n :: x :: t).length ≤ _
        rw [List.length_cons]; omega
/-- behind the first i lines. -/
structure SO (o : Nat → Nat → Bool) (w0 : World) (i : Nat) (fv ov : Value) (w : World) : Prop where
  low : Below w0.heap.size w0 w
  f : OwnN w0.heap.size (solState o i).1.reverse fv w
  o : OwnN w0.heap.size (solState o i).2.reverse ov w
  ap : ∀ q, fv.ownBlock = some q → ov.ownBlock ≠ some q
/-- a row of numbers from which the last ones go. -/
structure PopN (b : Nat) (F F' : List Nat) (p : Nat → Bool) (fv f : Value) (w5 wx : World) : Prop where
  e : F'.dropWhile p = F.dropWhile p
  own : OwnN b F'.reverse f wx
  low : Below w5.heap.size w5 wx
  bl : ∀ q, f.ownBlock = some q → fv.ownBlock = some q
  sub : ∀ x ∈ F', x ∈ F
  len : F'.length ≤ F.length
theorem RdN.below {w w' : World} {v : Value} {l : List Nat} (h : RdN w v l) (hb : Below w.heap.size w w') : RdN w' v l := by
  obtain ⟨A, c, e, h1, h2⟩ := h
  refine ⟨A, c, e, h1, fun h0 => ?_⟩
  obtain ⟨g, off, eA, hg, hc⟩ := h2 h0
  exact ⟨g, off, eA, Nat.lt_of_lt_of_le hg hb.size, fun j x hx => (hb.cell (p := ⟨g, off + j, none⟩) hg).trans (hc j x hx)⟩
theorem sliceLen_own {b : Nat} {l : List Nat} {v : Value} {w : World} (h : OwnN b l v w) : sliceLen v = l.length := own_len1 h
/-- the last one, and what is left. -/
theorem PopN.head {b : Nat} {F t : List Nat} {k : Nat} {p : Nat → Bool} {fv f : Value} {w5 wx : World} (h : PopN b F (k :: t) p fv f w5 wx) :
    ∃ g c, f = .slice (some ⟨g, 0, none⟩) (t.length + 1) c ∧ t.length + 1 ≤ c ∧ RdN wx f (t.reverse ++ [k]) ∧ (p k = true → PopN b F t p fv (.slice (some ⟨g, 0, none⟩) t.length c) w5 wx) := by
  have ho := h.own
  rw [List.reverse_cons] at ho
  obtain ⟨A, c, hf, hc, hA⟩ := ho.shape
  obtain ⟨g, rfl⟩ := hA (by simp)
  rw [List.length_append, List.length_reverse, List.length_singleton] at hf hc
  refine ⟨g, c, hf, hc, ho.rd, fun hp => ⟨?_, ?_, h.low, fun q hq => h.bl q (by rw [hf]; exact hq), fun x hx => h.sub x (by simp [hx]), by have := h.len; rw [List.length_cons] at this; omega⟩⟩
  · rw [← h.e, List.dropWhile_cons_of_pos hp]
  · rw [hf] at ho
    have := ho.pop (by simp)
    rw [List.length_reverse] at this
    exact this
theorem PopN.end_ {b : Nat} {F t : List Nat} {k : Nat} {p : Nat → Bool} {fv f : Value} {w5 wx : World} (h : PopN b F (k :: t) p fv f w5 wx) (hp : p k = false) : F.dropWhile p = k :: t := by
  rw [← h.e, List.dropWhile_cons_of_neg (by simp [hp])]
theorem PopN.later {b : Nat} {F F' : List Nat} {p : Nat → Bool} {fv f : Value} {w5 wx w' : World} (h : PopN b F F' p fv f w5 wx) (low : Below wx.heap.size wx w') : PopN b F F' p fv f w5 w' :=
  ⟨h.e, own_stays h.own low, h.low.trans (low.mono h.low.size), h.bl, h.sub, h.len⟩
theorem SO.new {o : Nat → Nat → Bool} {w0 w : World} {i : Nat} {F O : List Nat} {fv ov : Value} (hE : solState o (i + 1) = solStep o (F, O) i) (hO : O.dropWhile (fun k => o k i) = []) (low : Below w0.heap.size w0 w)
    (hf : OwnN w0.heap.size ((F.dropWhile (fun k => !o k i)).reverse ++ [i]) fv w) (ho : OwnN w0.heap.size [i] ov w) (ap : ∀ q, fv.ownBlock = some q → ov.ownBlock ≠ some q) : SO o w0 (i + 1) fv ov w := by
  have e : solState o (i + 1) = (i :: F.dropWhile (fun k => !o k i), [i]) := by
    rw [hE]
    unfold solStep
    simp only [hO]
  refine ⟨low, ?_, ?_, ap⟩
  · rw [e]
    show OwnN _ (i :: _).reverse _ _
    rw [List.reverse_cons]
    exact hf
  · rw [e]; exact ho
theorem SO.keep {o : Nat → Nat → Bool} {w0 w : World} {i k : Nat} {t F O : List Nat} {fv ov : Value} (hE : solState o (i + 1) = solStep o (F, O) i) (hO : O.dropWhile (fun k => o k i) = k :: t) (low : Below w0.heap.size w0 w)
    (hf : OwnN w0.heap.size (F.dropWhile (fun k => !o k i)).reverse fv w) (ho : OwnN w0.heap.size ((t.reverse ++ [k]) ++ [i]) ov w) (ap : ∀ q, fv.ownBlock = some q → ov.ownBlock ≠ some q) : SO o w0 (i + 1) fv ov w := by
  have e : solState o (i + 1) = (F.dropWhile (fun k => !o k i), i :: k :: t) := by
    rw [hE]
    unfold solStep
    simp only [hO]
  refine ⟨low, ?_, ?_, ap⟩
  · rw [e]; exact hf
  · rw [e]
    show OwnN _ (i :: k :: t).reverse _ _
    rw [List.reverse_cons, List.reverse_cons]
    exact ho
theorem OwnN.more {b n : Nat} {l : List Nat} {x : Nat} {v : Value} {w : World} (h : w.ownsRow b 3 1 v (n + 1) (valsN l ++ [.int .i64 (x : Nat)])) (hn : l.length = n) : OwnN b (l ++ [x]) v w := by
  unfold OwnN
  rw [List.length_append, hn, List.length_singleton]
  have e : valsN (l ++ [x]) = valsN l ++ [.int .i64 (x : Nat)] := by simp [valsN]
  rw [e]
  exact h
theorem int_one (x : Nat) : ∀ u ∈ [Value.int .i64 (x : Nat)], u.oneCell' = true := fun u hu => by
  rw [List.mem_singleton.1 hu]; rfl
theorem own_blt {b n sz : Nat} {e : TypeId} {v : Value} {L : List Value} {w : World} (h : w.ownsRow b e sz v n L) : ∀ q, v.ownBlock = some q → q < w.heap.size := fun q hq => by
  rcases h.2 with ⟨rfl, _⟩ | ⟨g, cap, cur, rfl, _, h2, _⟩
  · cases hq
  · cases hq; exact (Array.getElem?_eq_some_iff.1 h2).1
def SoQ (w : World) (L : List Nat) (e : Ending) (w' : World) : Prop := ∃ v', e = .returned v' ∧ OwnN w.heap.size L v' w' ∧ Below w.heap.size w w'
set_option maxHeartbeats 8000000 in
theorem solid_any (S : GS) (n : Nat) (v : Value) (l : List Ln) (w : World) (h : GX w S n) (hv : RdLn w v l) (hl : l.length ≤ 100000) :
    Calls Tryd.prog 56 #[ptr S.g, v] w (SoQ w (solL (ordL (BefB S) l) l.length)) := by
  obtain ⟨A, c, rfl, hc, hr⟩ := hv
  obtain ⟨m, hm⟩ : ∃ m, m = l.length := ⟨_, rfl⟩
  rw [← hm] at hc hl ⊢
  obtain ⟨o, ho⟩ : ∃ o, o = ordL (BefB S) l := ⟨_, rfl⟩
  rw [← ho]
  obtain ⟨pg, hpg⟩ : ∃ pg, pg = ptr S.g := ⟨_, rfl⟩
  have HL : Hid (∀ j, j < m → ∃ g off x, A = some ⟨g, off, none⟩ ∧ l[j]? = some x ∧ ∀ u, Below w.heap.size w u → (loadLn (.pointer (some ⟨g, off + j * 35, none⟩))).run Tryd.prog u = .ok (.agg (lnC x)) u) := fun j hj => by
    obtain ⟨x, hx⟩ : ∃ x, l[j]? = some x := ⟨_, List.getElem?_eq_getElem (by omega)⟩
    obtain ⟨g, off, rfl, hg, hcell⟩ := hr (by omega)
    exact ⟨g, off, x, rfl, hx, fun u hu => loadLn_eq (range_below (hcell j x hx) hu hg)⟩
  have HO : Hid (∀ (a b : Nat) (x y : Ln), l[a]? = some x → l[b]? = some y → ∀ u, Below w.heap.size w u → Calls Tryd.prog 90 #[pg, .agg (lnC x), .agg (lnC y)] u fun e w' => e = .returned (.bool (o a b)) ∧ Below u.heap.size u w') := fun a b x y hx hy u hu => by
    have := ordered_any S n x y u (h.below hu)
    rw [← hpg] at this
    have e : o a b = BefB S x.1 y.1 := by rw [ho]; unfold ordL; rw [hx, hy]
    rw [e]
    exact this
  rw [← hpg]
  have hcI : (m : Int) ≤ c := by omega
  clear hr h hpg ho hc hm
  go_enter Tryd.func56, Tryd.ntmps56
  have H0 : Hid (SO o w 0 (.slice none 0 0) (.slice none 0 0) w) := ⟨Below.refl _ _, OwnN.nil _ _, OwnN.nil _ _, fun q hq => by cases hq⟩
  go_upto_region 4 with (fail)
  go_step3
  go_upto_region 4 with (fail)
  go_step3
  go_upto_region 4 with (fail)
  go_loopw [5, 6, 10] (fun f ov i wr => ∃ k : Nat, k ≤ m ∧ i = .int .i64 k ∧ Hid (SO o w k f ov wr)) (fun _ _ i _ => m - (intOf i).toNat)
  case atStart => exact ⟨0, Nat.zero_le _, rfl, H0⟩
  case round =>
    obtain ⟨i, him, rfl, hI⟩ := hrel
    clear H0
    obtain ⟨w5, rfl⟩ : ∃ w5, w5 = wr := ⟨_, rfl⟩
    by_cases hlt : i < m
    · have hltI : (i : Int) < m := by omega
      have hi0 : 0 ≤ (i : Int) := by omega
      have hwk : wrap64 ((i : Int) + 1) = ((i + 1 : Nat) : Int) := by unfold wrap64; omega
      obtain ⟨hlow, hf, hov, hap⟩ := hI.out
      obtain ⟨b1, b2, b3, b4⟩ := solState_lt o i
      have E5 : solState o (i + 1) = solStep o (solState o i) i := solState_succ o i
      obtain ⟨F, hF⟩ : ∃ F, F = (solState o i).1 := ⟨_, rfl⟩
      obtain ⟨O, hO⟩ : ∃ O, O = (solState o i).2 := ⟨_, rfl⟩
      have hSt : solState o i = (F, O) := by rw [hF, hO]
      rw [hSt] at E5
      rw [← hF] at hf b1 b3
      rw [← hO] at hov b2 b4
      have HE5 := Lib.hid E5
      have Hlow := Lib.hid hlow
      have Hov := Lib.hid hov
      have Hap := Lib.hid hap
      have HB1 := Lib.hid b1
      have HB2 := Lib.hid b2
      have HB3 := Lib.hid b3
      have HB4 := Lib.hid b4
      have HP0 : Hid (PopN w.heap.size F F (fun k => !o k i) u5 u5 w5 w5) := ⟨rfl, hf, Below.refl _ _, fun q hq => hq, fun x hx => hx, Nat.le_refl _⟩
      clear hlow hf hov hap b1 b2 b3 b4 E5 hF hO hSt hI
      obtain ⟨gl, ol, y, hAl, hy, hLy⟩ := HL.out i hlt
      subst hAl
      have HY := Lib.hid hy
      have HLY := Lib.hid hLy
      clear hy hLy
      go_upto_block 2 with (fail)
      go_cut [5] from 13 to 34 (fun f wc => ∃ F', Hid (PopN w.heap.size F F' (fun k => !o k i) u5 f w5 wc ∧ F' = F.dropWhile (fun k => !o k i)))
      case first =>
        go_wp2
        go_loopw [5] (fun f wr => ∃ F', Hid (PopN w.heap.size F F' (fun k => !o k i) u5 f w5 wr)) (fun f _ => sliceLen f)
        case atStart => exact ⟨F, HP0⟩
        case round =>
          obtain ⟨F', hP⟩ := hrel
          cases F' with
          | nil =>
            obtain ⟨A0, c0, hf0, -, -⟩ := hP.out.own.shape
            simp only [List.reverse_nil, List.length_nil] at hf0
            subst hf0
            go_upto_region 6 with (fail)
            have apx : apartB [13, 14, 15, 16, 17, 18, 19, 20, 21, 22, 23, 24, 25, 26, 27, 28, 29] = true := by decide
            refine wp_region_any (by kernel_rfl) ?_
            change wpAny _ _ _ _ _ _ _ (World.drew _)
            refine wpAny_inv (fun ll aa wx => Hid (ll.size = 17 ∧ Below wr.heap.size wr wx) ∧ ∃ (z : Nat → Value), Hid (aa = ⟨#[pg, .slice (some ⟨gl, ol, none⟩) m c, undef, undef, .slice none 0 0, .slice A0 0 c0, u6, .int .i64 ((i : Nat) : Int), .slice (some ⟨gl, ol, none⟩) m c, .int .i64 ((m : Nat) : Int), .int .i64 ((i : Nat) : Int), .bool true, .int .i64 ((i : Nat) : Int), z 13, z 14, z 15, z 16, z 17, z 18, z 19, z 20, z 21, z 22, z 23, z 24, z 25, z 26, z 27, z 28, z 29, u30, u31, u32, u33, u34, u35, u36, u37, u38, u39, u40, u41, u42, u43, u44, u45, u46, u47, u48, u49, u50, u51, u52, u53, u54, u55, u56, u57, u58, u59, u60, u61, u62, u63, u64, u65, u66, u67, undef], []⟩) ∧ Holding [13, 14, 15, 16, 17, 18, 19, 20, 21, 22, 23, 24, 25, 26, 27, 28, 29] [some (.slice A0 0 c0), some (.int .i64 0), some (.bool false), some (.bool false), none, none, none, none, none, none, none, none, none, none, none, none, some (.bool false)] ll z) ?_ (by kernel_rfl) ?_ ?_ _ _ _ _ (unlisted_none _) ?_
            · rintro ll aa wx ⟨hI, _⟩
              exact hI.out.1
            · rintro ll aa wx ⟨hI, z, ha, hz⟩ hall
              have hx := Lib.hid hI.out.2
              have e0 : z 13 = .slice A0 0 c0 := hz 0 _ (hall 0 (by decide)) rfl
              have e1 : z 14 = .int .i64 0 := hz 1 _ (hall 1 (by decide)) rfl
              have e2 : z 15 = .bool false := hz 2 _ (hall 2 (by decide)) rfl
              have e3 : z 16 = .bool false := hz 3 _ (hall 3 (by decide)) rfl
              have e16 : z 29 = .bool false := hz 16 _ (hall 16 (by decide)) rfl
              clear hall hz hI 
              obtain rfl := ha.out
              clear ha
              clear apx
              have E16 := Lib.hid e16
              have HX := Lib.hid hx.out
              clear e0 e1 e2 e3 e16 hx
              rw [E16.out]
              go_wp2
              go_meet
              case rel => exact ⟨[], hP.out.later HX.out, hP.out.e⟩
            · rintro ll aa wx i ⟨hI, z, ha, hz⟩ hi hu hw
              obtain rfl := ha.out
              have hsz := Lib.hid hI.out.1
              have hx := Lib.hid hI.out.2
              clear ha hI
              have hin : i < 17 := hi
              obtain rfl | rfl | rfl | rfl | rfl | rfl | rfl | rfl | rfl | rfl | rfl | rfl | rfl | rfl | rfl | rfl | rfl : i = 0 ∨ i = 1 ∨ i = 2 ∨ i = 3 ∨ i = 4 ∨ i = 5 ∨ i = 6 ∨ i = 7 ∨ i = 8 ∨ i = 9 ∨ i = 10 ∨ i = 11 ∨ i = 12 ∨ i = 13 ∨ i = 14 ∨ i = 15 ∨ i = 16 := by omega
              · refine wpOp_plain rfl rfl ?_
                go_simp
                exact ⟨⟨by simp [hsz.out], hx.out⟩, upd z 13 (.slice A0 0 c0), (by unfold Hid; simp [upd]), hz.next apx hsz.out 0 (by decide) _ (fun _ h => Option.some.inj h)⟩
              · have e0 : z 13 = .slice A0 0 c0 := hz 0 _ (hw 0 (by kernel_rfl)) rfl
                refine wpOp_plain rfl rfl ?_
                go_simp
                exact ⟨⟨by simp [hsz.out], hx.out⟩, upd z 14 (.int .i64 0), (by unfold Hid; simp [upd, e0]), hz.next apx hsz.out 1 (by decide) _ (fun _ h => Option.some.inj h)⟩
              · have e1 : z 14 = .int .i64 0 := hz 1 _ (hw 1 (by kernel_rfl)) rfl
                refine wpOp_plain rfl rfl ?_
                go_simp
                exact ⟨⟨by simp [hsz.out], hx.out⟩, upd z 15 (.bool false), (by unfold Hid; simp [upd, e1]), hz.next apx hsz.out 2 (by decide) _ (fun _ h => Option.some.inj h)⟩
              · have e2 : z 15 = .bool false := hz 2 _ (hw 2 (by kernel_rfl)) rfl
                refine wpOp_plain rfl rfl ?_
                go_simp
                exact ⟨⟨by simp [hsz.out], hx.out⟩, upd z 16 (.bool false), (by unfold Hid; simp [upd, e2]), hz.next apx hsz.out 3 (by decide) _ (fun _ h => Option.some.inj h)⟩
              · have e3 : z 16 = .bool false := hz 3 _ (hw 3 (by kernel_rfl)) rfl
                refine wpOp_skip rfl (by simp [Region.wanted, yielded, e3]) ?_
                go_simp
                exact ⟨⟨by simp [hsz.out], hx.out⟩, upd z 17 (undef), (by unfold Hid; simp [upd, e3]), hz.next apx hsz.out 4 (by decide) _ (fun _ h => by cases h)⟩
              · have e3 : z 16 = .bool false := hz 3 _ (hw 3 (by kernel_rfl)) rfl
                refine wpOp_skip rfl (by simp [Region.wanted, yielded, e3]) ?_
                go_simp
                exact ⟨⟨by simp [hsz.out], hx.out⟩, upd z 18 (undef), (by unfold Hid; simp [upd, e3]), hz.next apx hsz.out 5 (by decide) _ (fun _ h => by cases h)⟩
              · have e3 : z 16 = .bool false := hz 3 _ (hw 3 (by kernel_rfl)) rfl
                refine wpOp_skip rfl (by simp [Region.wanted, yielded, e3]) ?_
                go_simp
                exact ⟨⟨by simp [hsz.out], hx.out⟩, upd z 19 (undef), (by unfold Hid; simp [upd, e3]), hz.next apx hsz.out 6 (by decide) _ (fun _ h => by cases h)⟩
              · have e3 : z 16 = .bool false := hz 3 _ (hw 3 (by kernel_rfl)) rfl
                refine wpOp_skip rfl (by simp [Region.wanted, yielded, e3]) ?_
                go_simp
                exact ⟨⟨by simp [hsz.out], hx.out⟩, upd z 20 (undef), (by unfold Hid; simp [upd, e3]), hz.next apx hsz.out 7 (by decide) _ (fun _ h => by cases h)⟩
              · have e3 : z 16 = .bool false := hz 3 _ (hw 3 (by kernel_rfl)) rfl
                refine wpOp_skip rfl (by simp [Region.wanted, yielded, e3]) ?_
                go_simp
                exact ⟨⟨by simp [hsz.out], hx.out⟩, upd z 21 (undef), (by unfold Hid; simp [upd, e3]), hz.next apx hsz.out 8 (by decide) _ (fun _ h => by cases h)⟩
              · have e3 : z 16 = .bool false := hz 3 _ (hw 3 (by kernel_rfl)) rfl
                refine wpOp_skip rfl (by simp [Region.wanted, yielded, e3]) ?_
                go_simp
                exact ⟨⟨by simp [hsz.out], hx.out⟩, upd z 22 (undef), (by unfold Hid; simp [upd, e3]), hz.next apx hsz.out 9 (by decide) _ (fun _ h => by cases h)⟩
              · have e3 : z 16 = .bool false := hz 3 _ (hw 3 (by kernel_rfl)) rfl
                refine wpOp_skip rfl (by simp [Region.wanted, yielded, e3]) ?_
                go_simp
                exact ⟨⟨by simp [hsz.out], hx.out⟩, upd z 23 (undef), (by unfold Hid; simp [upd, e3]), hz.next apx hsz.out 10 (by decide) _ (fun _ h => by cases h)⟩
              · have e3 : z 16 = .bool false := hz 3 _ (hw 3 (by kernel_rfl)) rfl
                refine wpOp_skip rfl (by simp [Region.wanted, yielded, e3]) ?_
                go_simp
                exact ⟨⟨by simp [hsz.out], hx.out⟩, upd z 24 (undef), (by unfold Hid; simp [upd, e3]), hz.next apx hsz.out 11 (by decide) _ (fun _ h => by cases h)⟩
              · have e3 : z 16 = .bool false := hz 3 _ (hw 3 (by kernel_rfl)) rfl
                refine wpOp_skip rfl (by simp [Region.wanted, yielded, e3]) ?_
                go_simp
                exact ⟨⟨by simp [hsz.out], hx.out⟩, upd z 25 (undef), (by unfold Hid; simp [upd, e3]), hz.next apx hsz.out 12 (by decide) _ (fun _ h => by cases h)⟩
              · have e3 : z 16 = .bool false := hz 3 _ (hw 3 (by kernel_rfl)) rfl
                refine wpOp_skip rfl (by simp [Region.wanted, yielded, e3]) ?_
                go_simp
                exact ⟨⟨by simp [hsz.out], hx.out⟩, upd z 26 (undef), (by unfold Hid; simp [upd, e3]), hz.next apx hsz.out 13 (by decide) _ (fun _ h => by cases h)⟩
              · have e3 : z 16 = .bool false := hz 3 _ (hw 3 (by kernel_rfl)) rfl
                refine wpOp_skip rfl (by simp [Region.wanted, yielded, e3]) ?_
                go_simp
                exact ⟨⟨by simp [hsz.out], hx.out⟩, upd z 27 (undef), (by unfold Hid; simp [upd, e3]), hz.next apx hsz.out 14 (by decide) _ (fun _ h => by cases h)⟩
              · have e3 : z 16 = .bool false := hz 3 _ (hw 3 (by kernel_rfl)) rfl
                refine wpOp_skip rfl (by simp [Region.wanted, yielded, e3]) ?_
                go_simp
                exact ⟨⟨by simp [hsz.out], hx.out⟩, upd z 28 (undef), (by unfold Hid; simp [upd, e3]), hz.next apx hsz.out 15 (by decide) _ (fun _ h => by cases h)⟩
              · have e3 : z 16 = .bool false := hz 3 _ (hw 3 (by kernel_rfl)) rfl
                refine wpOp_plain rfl rfl ?_
                go_simp
                exact ⟨⟨by simp [hsz.out], hx.out⟩, upd z 29 (.bool false), (by unfold Hid; simp [upd, e3]), hz.next apx hsz.out 16 (by decide) _ (fun _ h => Option.some.inj h)⟩
            · exact ⟨⟨rfl, (Below.refl _ _).drew⟩, fun xx => (#[pg, .slice (some ⟨gl, ol, none⟩) m c, undef, undef, .slice none 0 0, .slice A0 0 c0, u6, .int .i64 ((i : Nat) : Int), .slice (some ⟨gl, ol, none⟩) m c, .int .i64 ((m : Nat) : Int), .int .i64 ((i : Nat) : Int), .bool true, .int .i64 ((i : Nat) : Int), u13, u14, u15, u16, u17, u18, u19, u20, u21, u22, u23, u24, u25, u26, u27, u28, u29, u30, u31, u32, u33, u34, u35, u36, u37, u38, u39, u40, u41, u42, u43, u44, u45, u46, u47, u48, u49, u50, u51, u52, u53, u54, u55, u56, u57, u58, u59, u60, u61, u62, u63, u64, u65, u66, u67, undef] : Array Value).getD xx undef, (by rfl), Holding.start⟩
          | cons k t =>
            obtain ⟨gf, cf, hf0, hcf, hrd, hpop⟩ := hP.out.head
            subst hf0
            have hkm : k < m := by have := HB1.out k (hP.out.sub k (by simp)); omega
            obtain ⟨gl2, ol2, x, hAl, hx0, hLx⟩ := HL.out k hkm
            cases hAl
            have hkmI : (k : Int) < m := by omega
            have hk0 : 0 ≤ (k : Int) := by omega
            have htl : t.length ≤ 100000 := by have h1 := hP.out.len; have h2 := HB3.out; rw [List.length_cons] at h1; omega
            have hlw : Below w.heap.size w wr := Hlow.out.trans (hP.out.low.mono Hlow.out.size)
            obtain ⟨B, hB⟩ : ∃ B, B = o k i := ⟨_, rfl⟩
            have HLast : Hid (∀ u, Below wr.heap.size wr u → Calls Tryd.prog 91 #[.slice (some ⟨gf, 0, none⟩) (t.length + 1) cf] u fun e w' => e = .returned (.int .i64 k) ∧ w' = u) := fun u hu => last_any _ t.reverse k u (hrd.below hu) (by rw [List.length_reverse]; omega)
            have HLX : Hid (∀ u, Below wr.heap.size wr u → (loadLn (.pointer (some ⟨gl, ol + k * 35, none⟩))).run Tryd.prog u = .ok (.agg (lnC x)) u) := fun u hu => hLx u (hlw.trans (hu.mono hlw.size))
            have HLY9 : Hid (∀ u, Below wr.heap.size wr u → (loadLn (.pointer (some ⟨gl, ol + i * 35, none⟩))).run Tryd.prog u = .ok (.agg (lnC y)) u) := fun u hu => HLY.out u (hlw.trans (hu.mono hlw.size))
            have HOrd : Hid (∀ u, Below wr.heap.size wr u → Calls Tryd.prog 90 #[pg, .agg (lnC x), .agg (lnC y)] u fun e w' => e = .returned (.bool B) ∧ Below u.heap.size u w') := fun u hu => by
              rw [hB]
              exact HO.out k i x y hx0 HY.out u (hlw.trans (hu.mono hlw.size))
            have HYes : Hid (B = false → ∀ u, Below wr.heap.size wr u → PopN w.heap.size F t (fun k => !o k i) u5 (.slice (some ⟨gf, 0, none⟩) t.length cf) w5 u) := fun hb u hu => (hpop (by rw [← hB, hb]; rfl)).later hu
            have HNo : Hid (B = true → ∀ u, Below wr.heap.size wr u → PopN w.heap.size F (k :: t) (fun k => !o k i) u5 (.slice (some ⟨gf, 0, none⟩) (t.length + 1) cf) w5 u ∧ k :: t = F.dropWhile (fun k => !o k i)) := fun hb u hu => ⟨hP.out.later hu, (hP.out.end_ (by rw [← hB, hb]; rfl)).symm⟩
            obtain ⟨nz, hnz⟩ : ∃ nz, nz = t.length := ⟨_, rfl⟩
            rw [← hnz] at hcf htl HLast HYes HNo ⊢
            have Hnz := Lib.hid hnz
            obtain ⟨nt, hnt⟩ : ∃ nt, nt = nz + 1 := ⟨_, rfl⟩
            rw [← hnt] at hcf HLast HNo ⊢
            have Hnt := Lib.hid hnt
            have hntI : (0 : Int) < nt := by omega
            have hnt0 : 0 < nt := by omega
            have hwz : wrap64 ((nt : Int) - 1) = (nz : Int) := by unfold wrap64; omega
            have hz0 : 0 ≤ (nz : Int) := by omega
            have hzc : (nz : Int) ≤ cf := by omega
            clear hkm hx0 hLx htl hlw hB hrd hpop hcf hnz hnt
            go_upto_region 6 with (fail)
            have apx : apartB [13, 14, 15, 16, 17, 18, 19, 20, 21, 22, 23, 24, 25, 26, 27, 28, 29] = true := by decide
            refine wp_region_any (by kernel_rfl) ?_
            change wpAny _ _ _ _ _ _ _ (World.drew _)
            refine wpAny_inv (fun ll aa wx => Hid (ll.size = 17 ∧ Below wr.heap.size wr wx) ∧ ∃ (z : Nat → Value), Hid (aa = ⟨#[pg, .slice (some ⟨gl, ol, none⟩) m c, undef, undef, .slice none 0 0, .slice (some ⟨gf, 0, none⟩) nt cf, u6, .int .i64 ((i : Nat) : Int), .slice (some ⟨gl, ol, none⟩) m c, .int .i64 ((m : Nat) : Int), .int .i64 ((i : Nat) : Int), .bool true, .int .i64 ((i : Nat) : Int), z 13, z 14, z 15, z 16, z 17, z 18, z 19, z 20, z 21, z 22, z 23, z 24, z 25, z 26, z 27, z 28, z 29, u30, u31, u32, u33, u34, u35, u36, u37, u38, u39, u40, u41, u42, u43, u44, u45, u46, u47, u48, u49, u50, u51, u52, u53, u54, u55, u56, u57, u58, u59, u60, u61, u62, u63, u64, u65, u66, u67, undef], []⟩) ∧ Holding [13, 14, 15, 16, 17, 18, 19, 20, 21, 22, 23, 24, 25, 26, 27, 28, 29] [some (.slice (some ⟨gf, 0, none⟩) nt cf), some (.int .i64 ((nt : Nat) : Int)), some (.bool true), some (.bool true), some (pg), some (.slice (some ⟨gl, ol, none⟩) m c), some (.slice (some ⟨gf, 0, none⟩) nt cf), some (.int .i64 ((k : Nat) : Int)), some (.pointer (some ⟨gl, ol + k * 35, none⟩)), some (.agg (lnC x)), some (.slice (some ⟨gl, ol, none⟩) m c), some (.int .i64 ((i : Nat) : Int)), some (.pointer (some ⟨gl, ol + i * 35, none⟩)), some (.agg (lnC y)), some (.bool B), some (.bool (!B)), some (.bool (!B))] ll z) ?_ (by kernel_rfl) ?_ ?_ _ _ _ _ (unlisted_none _) ?_
            · rintro ll aa wx ⟨hI, _⟩
              exact hI.out.1
            · rintro ll aa wx ⟨hI, z, ha, hz⟩ hall
              have hx := Lib.hid hI.out.2
              have e0 : z 13 = .slice (some ⟨gf, 0, none⟩) nt cf := hz 0 _ (hall 0 (by decide)) rfl
              have e1 : z 14 = .int .i64 ((nt : Nat) : Int) := hz 1 _ (hall 1 (by decide)) rfl
              have e2 : z 15 = .bool true := hz 2 _ (hall 2 (by decide)) rfl
              have e3 : z 16 = .bool true := hz 3 _ (hall 3 (by decide)) rfl
              have e4 : z 17 = pg := hz 4 _ (hall 4 (by decide)) rfl
              have e5 : z 18 = .slice (some ⟨gl, ol, none⟩) m c := hz 5 _ (hall 5 (by decide)) rfl
              have e6 : z 19 = .slice (some ⟨gf, 0, none⟩) nt cf := hz 6 _ (hall 6 (by decide)) rfl
              have e7 : z 20 = .int .i64 ((k : Nat) : Int) := hz 7 _ (hall 7 (by decide)) rfl
              have e8 : z 21 = .pointer (some ⟨gl, ol + k * 35, none⟩) := hz 8 _ (hall 8 (by decide)) rfl
              have e9 : z 22 = .agg (lnC x) := hz 9 _ (hall 9 (by decide)) rfl
              have e10 : z 23 = .slice (some ⟨gl, ol, none⟩) m c := hz 10 _ (hall 10 (by decide)) rfl
              have e11 : z 24 = .int .i64 ((i : Nat) : Int) := hz 11 _ (hall 11 (by decide)) rfl
              have e12 : z 25 = .pointer (some ⟨gl, ol + i * 35, none⟩) := hz 12 _ (hall 12 (by decide)) rfl
              have e13 : z 26 = .agg (lnC y) := hz 13 _ (hall 13 (by decide)) rfl
              have e14 : z 27 = .bool B := hz 14 _ (hall 14 (by decide)) rfl
              have e15 : z 28 = .bool (!B) := hz 15 _ (hall 15 (by decide)) rfl
              have e16 : z 29 = .bool (!B) := hz 16 _ (hall 16 (by decide)) rfl
              clear hall hz hI 
              obtain rfl := ha.out
              clear ha
              clear apx
              have E16 := Lib.hid e16
              have HX := Lib.hid hx.out
              clear e0 e1 e2 e3 e4 e5 e6 e7 e8 e9 e10 e11 e12 e13 e14 e15 e16 hx
              rw [E16.out]
              cases B with
              | true =>
                go_wp2
                go_meet
                case rel => exact ⟨k :: t, HNo.out (by simp) _ HX.out⟩
              | false =>
                go_wp2
                refine ⟨⟨t, HYes.out (by simp) _ HX.out⟩, ?_⟩
                clear hwz
                simp only [sliceLen]
                have := Hnt.out
                show nz < nt
                omega
            · rintro ll aa wx i ⟨hI, z, ha, hz⟩ hi hu hw
              obtain rfl := ha.out
              have hsz := Lib.hid hI.out.1
              have hx := Lib.hid hI.out.2
              clear ha hI
              have hin : i < 17 := hi
              obtain rfl | rfl | rfl | rfl | rfl | rfl | rfl | rfl | rfl | rfl | rfl | rfl | rfl | rfl | rfl | rfl | rfl : i = 0 ∨ i = 1 ∨ i = 2 ∨ i = 3 ∨ i = 4 ∨ i = 5 ∨ i = 6 ∨ i = 7 ∨ i = 8 ∨ i = 9 ∨ i = 10 ∨ i = 11 ∨ i = 12 ∨ i = 13 ∨ i = 14 ∨ i = 15 ∨ i = 16 := by omega
              · refine wpOp_plain rfl rfl ?_
                go_simp
                exact ⟨⟨by simp [hsz.out], hx.out⟩, upd z 13 (.slice (some ⟨gf, 0, none⟩) nt cf), (by unfold Hid; simp [upd]), hz.next apx hsz.out 0 (by decide) _ (fun _ h => Option.some.inj h)⟩
              · have e0 : z 13 = .slice (some ⟨gf, 0, none⟩) nt cf := hz 0 _ (hw 0 (by kernel_rfl)) rfl
                refine wpOp_plain rfl rfl ?_
                go_simp
                exact ⟨⟨by simp [hsz.out], hx.out⟩, upd z 14 (.int .i64 ((nt : Nat) : Int)), (by unfold Hid; simp [upd, e0]), hz.next apx hsz.out 1 (by decide) _ (fun _ h => Option.some.inj h)⟩
              · have e1 : z 14 = .int .i64 ((nt : Nat) : Int) := hz 1 _ (hw 1 (by kernel_rfl)) rfl
                refine wpOp_plain rfl rfl ?_
                go_simp
                exact ⟨⟨by simp [hsz.out], hx.out⟩, upd z 15 (.bool true), (by unfold Hid; simp [upd, e1, hnt0]), hz.next apx hsz.out 2 (by decide) _ (fun _ h => Option.some.inj h)⟩
              · have e2 : z 15 = .bool true := hz 2 _ (hw 2 (by kernel_rfl)) rfl
                refine wpOp_plain rfl rfl ?_
                go_simp
                exact ⟨⟨by simp [hsz.out], hx.out⟩, upd z 16 (.bool true), (by unfold Hid; simp [upd, e2]), hz.next apx hsz.out 3 (by decide) _ (fun _ h => Option.some.inj h)⟩
              · have e3 : z 16 = .bool true := hz 3 _ (hw 3 (by kernel_rfl)) rfl
                refine wpOp_want rfl (by simp [Region.wanted, yielded, e3]) ?_
                go_simp
                exact ⟨⟨by simp [hsz.out], hx.out⟩, upd z 17 (pg), (by unfold Hid; simp [upd, e3]), hz.next apx hsz.out 4 (by decide) _ (fun _ h => Option.some.inj h)⟩
              · have e3 : z 16 = .bool true := hz 3 _ (hw 3 (by kernel_rfl)) rfl
                refine wpOp_want rfl (by simp [Region.wanted, yielded, e3]) ?_
                go_simp
                exact ⟨⟨by simp [hsz.out], hx.out⟩, upd z 18 (.slice (some ⟨gl, ol, none⟩) m c), (by unfold Hid; simp [upd, e3]), hz.next apx hsz.out 5 (by decide) _ (fun _ h => Option.some.inj h)⟩
              · have e3 : z 16 = .bool true := hz 3 _ (hw 3 (by kernel_rfl)) rfl
                refine wpOp_want rfl (by simp [Region.wanted, yielded, e3]) ?_
                go_simp
                exact ⟨⟨by simp [hsz.out], hx.out⟩, upd z 19 (.slice (some ⟨gf, 0, none⟩) nt cf), (by unfold Hid; simp [upd, e3]), hz.next apx hsz.out 6 (by decide) _ (fun _ h => Option.some.inj h)⟩
              · have e3 : z 16 = .bool true := hz 3 _ (hw 3 (by kernel_rfl)) rfl
                have e6 : z 19 = .slice (some ⟨gf, 0, none⟩) nt cf := hz 6 _ (hw 6 (by kernel_rfl)) rfl
                refine wpOp_want rfl (by simp [Region.wanted, yielded, e3]) ?_
                go_simp
                go_at_call 91
                refine (HLast.out wx hx.out).mono ?_
                rintro e w9 ⟨rfl, rfl⟩
                exact ⟨⟨by simp [hsz.out], hx.out⟩, upd z 20 (.int .i64 ((k : Nat) : Int)), (by unfold Hid; simp [upd, e3, e6]), hz.next apx hsz.out 7 (by decide) _ (fun _ h => Option.some.inj h)⟩
              · have e3 : z 16 = .bool true := hz 3 _ (hw 3 (by kernel_rfl)) rfl
                have e5 : z 18 = .slice (some ⟨gl, ol, none⟩) m c := hz 5 _ (hw 5 (by kernel_rfl)) rfl
                have e7 : z 20 = .int .i64 ((k : Nat) : Int) := hz 7 _ (hw 7 (by kernel_rfl)) rfl
                refine wpOp_want rfl (by simp [Region.wanted, yielded, e3]) ?_
                go_simp
                exact ⟨⟨by simp [hsz.out], hx.out⟩, upd z 21 (.pointer (some ⟨gl, ol + k * 35, none⟩)), (by unfold Hid; simp [upd, e3, e5, e7]), hz.next apx hsz.out 8 (by decide) _ (fun _ h => Option.some.inj h)⟩
              · have e3 : z 16 = .bool true := hz 3 _ (hw 3 (by kernel_rfl)) rfl
                have e8 : z 21 = .pointer (some ⟨gl, ol + k * 35, none⟩) := hz 8 _ (hw 8 (by kernel_rfl)) rfl
                have eg := HLX.out wx hx.out
                refine wpOp_want rfl (by simp [Region.wanted, yielded, e3]) ?_
                go_simp
                exact ⟨⟨by simp [hsz.out], hx.out⟩, upd z 22 (.agg (lnC x)), (by unfold Hid; simp [upd, e3, e8]), hz.next apx hsz.out 9 (by decide) _ (fun _ h => Option.some.inj h)⟩
              · have e3 : z 16 = .bool true := hz 3 _ (hw 3 (by kernel_rfl)) rfl
                refine wpOp_want rfl (by simp [Region.wanted, yielded, e3]) ?_
                go_simp
                exact ⟨⟨by simp [hsz.out], hx.out⟩, upd z 23 (.slice (some ⟨gl, ol, none⟩) m c), (by unfold Hid; simp [upd, e3]), hz.next apx hsz.out 10 (by decide) _ (fun _ h => Option.some.inj h)⟩
              · have e3 : z 16 = .bool true := hz 3 _ (hw 3 (by kernel_rfl)) rfl
                refine wpOp_want rfl (by simp [Region.wanted, yielded, e3]) ?_
                go_simp
                exact ⟨⟨by simp [hsz.out], hx.out⟩, upd z 24 (.int .i64 ((i : Nat) : Int)), (by unfold Hid; simp [upd, e3]), hz.next apx hsz.out 11 (by decide) _ (fun _ h => Option.some.inj h)⟩
              · have e3 : z 16 = .bool true := hz 3 _ (hw 3 (by kernel_rfl)) rfl
                have e10 : z 23 = .slice (some ⟨gl, ol, none⟩) m c := hz 10 _ (hw 10 (by kernel_rfl)) rfl
                have e11 : z 24 = .int .i64 ((i : Nat) : Int) := hz 11 _ (hw 11 (by kernel_rfl)) rfl
                refine wpOp_want rfl (by simp [Region.wanted, yielded, e3]) ?_
                go_simp
                exact ⟨⟨by simp [hsz.out], hx.out⟩, upd z 25 (.pointer (some ⟨gl, ol + i * 35, none⟩)), (by unfold Hid; simp [upd, e3, e10, e11]), hz.next apx hsz.out 12 (by decide) _ (fun _ h => Option.some.inj h)⟩
              · have e3 : z 16 = .bool true := hz 3 _ (hw 3 (by kernel_rfl)) rfl
                have e12 : z 25 = .pointer (some ⟨gl, ol + i * 35, none⟩) := hz 12 _ (hw 12 (by kernel_rfl)) rfl
                have eg := HLY9.out wx hx.out
                refine wpOp_want rfl (by simp [Region.wanted, yielded, e3]) ?_
                go_simp
                exact ⟨⟨by simp [hsz.out], hx.out⟩, upd z 26 (.agg (lnC y)), (by unfold Hid; simp [upd, e3, e12]), hz.next apx hsz.out 13 (by decide) _ (fun _ h => Option.some.inj h)⟩
              · have e3 : z 16 = .bool true := hz 3 _ (hw 3 (by kernel_rfl)) rfl
                have e4 : z 17 = pg := hz 4 _ (hw 4 (by kernel_rfl)) rfl
                have e9 : z 22 = .agg (lnC x) := hz 9 _ (hw 9 (by kernel_rfl)) rfl
                have e13 : z 26 = .agg (lnC y) := hz 13 _ (hw 13 (by kernel_rfl)) rfl
                refine wpOp_want rfl (by simp [Region.wanted, yielded, e3]) ?_
                go_simp
                go_at_call 90
                refine (HOrd.out wx hx.out).mono ?_
                rintro e w9 ⟨rfl, low⟩
                exact ⟨⟨by simp [hsz.out], hx.out.trans (low.mono hx.out.size)⟩, upd z 27 (.bool B), (by unfold Hid; simp [upd, e3, e4, e9, e13]), hz.next apx hsz.out 14 (by decide) _ (fun _ h => Option.some.inj h)⟩
              · have e3 : z 16 = .bool true := hz 3 _ (hw 3 (by kernel_rfl)) rfl
                have e14 : z 27 = .bool B := hz 14 _ (hw 14 (by kernel_rfl)) rfl
                refine wpOp_want rfl (by simp [Region.wanted, yielded, e3]) ?_
                go_simp
                exact ⟨⟨by simp [hsz.out], hx.out⟩, upd z 28 (.bool (!B)), (by unfold Hid; simp [upd, e3, e14]), hz.next apx hsz.out 15 (by decide) _ (fun _ h => Option.some.inj h)⟩
              · have e3 : z 16 = .bool true := hz 3 _ (hw 3 (by kernel_rfl)) rfl
                have e15 : z 28 = .bool (!B) := hz 15 _ (hw 15 (by kernel_rfl)) rfl
                refine wpOp_plain rfl rfl ?_
                go_simp
                exact ⟨⟨by simp [hsz.out], hx.out⟩, upd z 29 (.bool (!B)), (by unfold Hid; simp [upd, e3, e15]), hz.next apx hsz.out 16 (by decide) _ (fun _ h => Option.some.inj h)⟩
            · exact ⟨⟨rfl, (Below.refl _ _).drew⟩, fun xx => (#[pg, .slice (some ⟨gl, ol, none⟩) m c, undef, undef, .slice none 0 0, .slice (some ⟨gf, 0, none⟩) nt cf, u6, .int .i64 ((i : Nat) : Int), .slice (some ⟨gl, ol, none⟩) m c, .int .i64 ((m : Nat) : Int), .int .i64 ((i : Nat) : Int), .bool true, .int .i64 ((i : Nat) : Int), u13, u14, u15, u16, u17, u18, u19, u20, u21, u22, u23, u24, u25, u26, u27, u28, u29, u30, u31, u32, u33, u34, u35, u36, u37, u38, u39, u40, u41, u42, u43, u44, u45, u46, u47, u48, u49, u50, u51, u52, u53, u54, u55, u56, u57, u58, u59, u60, u61, u62, u63, u64, u65, u66, u67, undef] : Array Value).getD xx undef, (by rfl), Holding.start⟩
      case rest =>
        obtain ⟨F2, hR⟩ := hcut
        clear HP0
        rename_i wcx
        have hlow5 := hR.out.1.low
        have hlw : Below w.heap.size w wc := Hlow.out.trans (hlow5.mono Hlow.out.size)
        have HLw := Lib.hid hlw
        have HFo : Hid (OwnN w.heap.size (F.dropWhile (fun k => !o k i)).reverse u5 wc) := by
          have h := hR.out.1.own
          rw [hR.out.2] at h
          exact h
        have HFb : Hid (∀ q, u5.ownBlock = some q → u6.ownBlock ≠ some q) := fun q hq => Hap.out q (hR.out.1.bl q hq)
        have HFl : Hid ((F.dropWhile (fun k => !o k i)).length ≤ i) := Nat.le_trans (List.dropWhile_sublist _).length_le HB3.out
        have HQ0 : Hid (PopN w.heap.size O O (fun k => o k i) u6 u6 wc wc) := ⟨rfl, own_stays Hov.out hlow5, Below.refl _ _, fun q hq => hq, fun x hx => hx, Nat.le_refl _⟩
        clear hR hlow5 Hov Hap HB1 HB3 Hlow hlw
        obtain ⟨Fd, hFd⟩ : ∃ Fd, Fd = F.dropWhile (fun k => !o k i) := ⟨_, rfl⟩
        rw [← hFd] at HFo HFl
        have HFd := Lib.hid hFd
        clear hFd
        go_upto_region 8 with (fail)
        go_loopw [6] (fun ov wr => ∃ O', Hid (PopN w.heap.size O O' (fun k => o k i) u6 ov wc wr)) (fun ov _ => sliceLen ov)
        case atStart => exact ⟨O, HQ0⟩
        case round =>
          obtain ⟨O', hP⟩ := hrel
          clear HQ0
          cases O' with
          | nil =>
            obtain ⟨A0, c0, hf0, -, -⟩ := hP.out.own.shape
            simp only [List.reverse_nil, List.length_nil] at hf0
            subst hf0
            have hO1 : wr.ownsRow w.heap.size 3 1 (.slice A0 0 c0) 0 [] := hP.out.own
            have hb1 : w.heap.size ≤ wr.heap.size := Nat.le_trans HLw.out.size hP.out.low.size
            have hlr : Below w.heap.size w wr := HLw.out.trans (hP.out.low.mono HLw.out.size)
            have HOe : Hid (O.dropWhile (fun k => o k i) = []) := hP.out.e.symm
            have HFr : Hid (OwnN w.heap.size Fd.reverse u5 wr) := own_stays HFo.out hP.out.low
            have HAp : Hid (∀ q, u5.ownBlock = some q → (Value.slice A0 0 c0).ownBlock ≠ some q) := fun q hq e => HFb.out q hq (hP.out.bl q e)
            have HO1 := Lib.hid hO1
            have Hb1 := Lib.hid hb1
            have Hlr := Lib.hid hlr
            clear hO1 hb1 hlr hP
            go_upto_region 14 with (first
              | (at_builtin; refine wpList_app1 rfl el_int 72 Tryd.underlying72 (.tmp 59) (.tmp 61) rfl w.heap.size (.slice A0 0 c0) 0 [] [.int .i64 (i : Nat)] rfl (int_one i) rfl (own_alloc HO1.out _) wr.heap.size rfl ⟨_, Go.heap_alloc_new wr _, rfl⟩ (by omega) (by rw [World.size_alloc]; have := Hb1.out; omega) ?_; intro ov1 w1 own1 g1 loc1; have HO2 := Lib.hid own1; have HG1 := Lib.hid g1; have HL1 := Lib.hid loc1; clear own1 g1 loc1)
              | (at_builtin; refine wpList_app1 rfl el_int 72 Tryd.underlying72 (.tmp 63) (.tmp 65) rfl w.heap.size u5 Fd.reverse.length (valsN Fd.reverse) [.int .i64 (i : Nat)] rfl (int_one i) rfl (own_alloc (own_other (own_alloc HFr.out _) HG1.out (fun q hq e => HAp.out q hq e)) _) w1.heap.size rfl ⟨_, Go.heap_alloc_new w1 _, rfl⟩ (by rw [List.length_reverse]; have := HFl.out; omega) (by rw [World.size_alloc]; have h1 := Hb1.out; have h2 := HG1.out.size; rw [World.size_alloc] at h2; omega) ?_; intro fv2 w2 own2 g2 loc2; have HF2 := Lib.hid own2; have HG2 := Lib.hid g2; have HL2 := Lib.hid loc2; clear own2 g2 loc2))
            have HS : Hid (SO o w (i + 1) fv2 ov1 w2) := by
              have s1 := HG1.out.size
              rw [World.size_alloc] at s1
              have hb1 := Hb1.out
              have l1 : Below w.heap.size w w1 := own_low (v := .slice A0 0 c0) HG1.out (own_alloc HO1.out _) (Hlr.out.alloc hb1 _) (by rw [World.size_alloc]; omega)
              have f1 := own_other (own_alloc HFr.out (.cells #[.int .i64 (i : Nat)] 3)) HG1.out (fun q hq e => HAp.out q hq e)
              have l2 : Below w.heap.size w w2 := own_low (v := u5) HG2.out (own_alloc f1 _) (l1.alloc (by omega) _) (by rw [World.size_alloc]; omega)
              have ap1 : ∀ q, ov1.ownBlock = some q → u5.ownBlock ≠ some q := fun q hq e => by
                rcases HL1.out with h | h
                · exact HAp.out q e (by rw [← h]; exact hq)
                · have := own_blt HFr.out q e
                  rw [h, World.size_alloc] at hq
                  cases hq
                  omega
              have o2 : OwnN w.heap.size [i] ov1 w2 := own_other (own_alloc (OwnN.more (l := []) HO2.out rfl) _) HG2.out (fun q hq e => ap1 q hq e)
              have f2 : OwnN w.heap.size (Fd.reverse ++ [i]) fv2 w2 := OwnN.more HF2.out rfl
              have hFd := HFd.out
              subst hFd
              refine SO.new HE5.out HOe.out l2 f2 o2 (fun q hq e => ?_)
              rcases HL2.out with h | h
              · exact ap1 q e (by rw [← h]; exact hq)
              · have h3 := own_blt HO2.out q e
                rw [h, World.size_alloc] at hq
                cases hq
                omega
            clear HO1 HO2 HG1 HL1 HF2 HG2 HL2 HFr HAp HOe Hb1 Hlr
            go_wp2
            refine ⟨⟨i + 1, hlt, rfl, HS⟩, ?_⟩
            clear hwk
            simp only [intOf]
            omega
          | cons k t =>
            obtain ⟨gf, cf, hf0, hcf, hrd, hpop⟩ := hP.out.head
            subst hf0
            have hkm : k < m := by have := HB2.out k (hP.out.sub k (by simp)); omega
            obtain ⟨gl2, ol2, x, hAl, hx0, hLx⟩ := HL.out k hkm
            cases hAl
            have hkmI : (k : Int) < m := by omega
            have hk0 : 0 ≤ (k : Int) := by omega
            have htl : t.length ≤ 100000 := by have h1 := hP.out.len; have h2 := HB4.out; rw [List.length_cons] at h1; omega
            have hlw : Below w.heap.size w wr := HLw.out.trans (hP.out.low.mono HLw.out.size)
            obtain ⟨B, hB⟩ : ∃ B, B = o k i := ⟨_, rfl⟩
            have HLast : Hid (∀ u, Below wr.heap.size wr u → Calls Tryd.prog 91 #[.slice (some ⟨gf, 0, none⟩) (t.length + 1) cf] u fun e w' => e = .returned (.int .i64 k) ∧ w' = u) := fun u hu => last_any _ t.reverse k u (hrd.below hu) (by rw [List.length_reverse]; omega)
            have HLX : Hid (∀ u, Below wr.heap.size wr u → (loadLn (.pointer (some ⟨gl, ol + k * 35, none⟩))).run Tryd.prog u = .ok (.agg (lnC x)) u) := fun u hu => hLx u (hlw.trans (hu.mono hlw.size))
            have HLY9 : Hid (∀ u, Below wr.heap.size wr u → (loadLn (.pointer (some ⟨gl, ol + i * 35, none⟩))).run Tryd.prog u = .ok (.agg (lnC y)) u) := fun u hu => HLY.out u (hlw.trans (hu.mono hlw.size))
            have HOrd : Hid (∀ u, Below wr.heap.size wr u → Calls Tryd.prog 90 #[pg, .agg (lnC x), .agg (lnC y)] u fun e w' => e = .returned (.bool B) ∧ Below u.heap.size u w') := fun u hu => by
              rw [hB]
              exact HO.out k i x y hx0 HY.out u (hlw.trans (hu.mono hlw.size))
            have HYes : Hid (B = true → ∀ u, Below wr.heap.size wr u → PopN w.heap.size O t (fun k => o k i) u6 (.slice (some ⟨gf, 0, none⟩) t.length cf) wc u) := fun hb u hu => (hpop (by rw [← hB, hb])).later hu
            have HNo : Hid (B = false → O.dropWhile (fun k => o k i) = k :: t) := fun hb => hP.out.end_ (by rw [← hB, hb])
            have HOw : Hid (∀ u, Below wr.heap.size wr u → u.ownsRow w.heap.size 3 1 (.slice (some ⟨gf, 0, none⟩) (t.length + 1) cf) (t.length + 1) (valsN (t.reverse ++ [k]))) := fun u hu => by
              have h := (hP.out.later hu).own
              unfold OwnN at h
              rw [List.reverse_cons] at h
              simpa using h
            have HFr : Hid (∀ u, Below wr.heap.size wr u → OwnN w.heap.size Fd.reverse u5 u) := fun u hu => own_stays (own_stays HFo.out hP.out.low) hu
            have HAp : Hid (∀ q, u5.ownBlock = some q → (some gf) ≠ some q) := fun q hq e => HFb.out q hq (hP.out.bl q e)
            have HLr : Hid (∀ u, Below wr.heap.size wr u → Below w.heap.size w u ∧ w.heap.size ≤ u.heap.size) := fun u hu => ⟨hlw.trans (hu.mono hlw.size), Nat.le_trans hlw.size hu.size⟩
            obtain ⟨nz, hnz⟩ : ∃ nz, nz = t.length := ⟨_, rfl⟩
            rw [← hnz] at hcf htl HLast HYes HOw ⊢
            have Hnz := Lib.hid hnz
            obtain ⟨nt, hnt⟩ : ∃ nt, nt = nz + 1 := ⟨_, rfl⟩
            rw [← hnt] at hcf HLast HOw ⊢
            have Hnt := Lib.hid hnt
            have Htl := Lib.hid htl
            have hntI : (0 : Int) < nt := by omega
            have hnt0 : 0 < nt := by omega
            have hwz : wrap64 ((nt : Int) - 1) = (nz : Int) := by unfold wrap64; omega
            have hz0 : 0 ≤ (nz : Int) := by omega
            have hzc : (nz : Int) ≤ cf := by omega
            clear hkm hx0 hLx htl hlw hB hrd hpop hcf hnz hnt hP
            go_upto_region 9 with (fail)
            have apx : apartB [38, 39, 40, 41, 42, 43, 44, 45, 46, 47, 48, 49] = true := by decide
            refine wp_region_any (by kernel_rfl) ?_
            change wpAny _ _ _ _ _ _ _ (World.drew _)
            refine wpAny_inv (fun ll aa wx => Hid (ll.size = 12 ∧ Below wr.heap.size wr wx) ∧ ∃ (z : Nat → Value), Hid (aa = ⟨#[pg, .slice (some ⟨gl, ol, none⟩) m c, undef, undef, .slice none 0 0, u5, .slice (some ⟨gf, 0, none⟩) nt cf, .int .i64 ((i : Nat) : Int), .slice (some ⟨gl, ol, none⟩) m c, .int .i64 ((m : Nat) : Int), .int .i64 ((i : Nat) : Int), .bool true, .int .i64 ((i : Nat) : Int), u13, u14, u15, u16, u17, u18, u19, u20, u21, u22, u23, u24, u25, u26, u27, u28, u29, u30, u31, u32, u33, u34, .slice (some ⟨gf, 0, none⟩) nt cf, .int .i64 ((nt : Nat) : Int), .bool true, z 38, z 39, z 40, z 41, z 42, z 43, z 44, z 45, z 46, z 47, z 48, z 49, u50, u51, u52, u53, u54, u55, u56, u57, u58, u59, u60, u61, u62, u63, u64, u65, u66, u67, undef], []⟩) ∧ Holding [38, 39, 40, 41, 42, 43, 44, 45, 46, 47, 48, 49] [some (pg), some (.slice (some ⟨gl, ol, none⟩) m c), some (.slice (some ⟨gf, 0, none⟩) nt cf), some (.int .i64 ((k : Nat) : Int)), some (.pointer (some ⟨gl, ol + k * 35, none⟩)), some (.agg (lnC x)), some (.slice (some ⟨gl, ol, none⟩) m c), some (.int .i64 ((i : Nat) : Int)), some (.pointer (some ⟨gl, ol + i * 35, none⟩)), some (.agg (lnC y)), some (.bool B), some (.bool (!B))] ll z) ?_ (by kernel_rfl) ?_ ?_ _ _ _ _ (unlisted_none _) ?_
            · rintro ll aa wx ⟨hI, _⟩
              exact hI.out.1
            · rintro ll aa wx ⟨hI, z, ha, hz⟩ hall
              have hx := Lib.hid hI.out.2
              have e0 : z 38 = pg := hz 0 _ (hall 0 (by decide)) rfl
              have e1 : z 39 = .slice (some ⟨gl, ol, none⟩) m c := hz 1 _ (hall 1 (by decide)) rfl
              have e2 : z 40 = .slice (some ⟨gf, 0, none⟩) nt cf := hz 2 _ (hall 2 (by decide)) rfl
              have e3 : z 41 = .int .i64 ((k : Nat) : Int) := hz 3 _ (hall 3 (by decide)) rfl
              have e4 : z 42 = .pointer (some ⟨gl, ol + k * 35, none⟩) := hz 4 _ (hall 4 (by decide)) rfl
              have e5 : z 43 = .agg (lnC x) := hz 5 _ (hall 5 (by decide)) rfl
              have e6 : z 44 = .slice (some ⟨gl, ol, none⟩) m c := hz 6 _ (hall 6 (by decide)) rfl
              have e7 : z 45 = .int .i64 ((i : Nat) : Int) := hz 7 _ (hall 7 (by decide)) rfl
              have e8 : z 46 = .pointer (some ⟨gl, ol + i * 35, none⟩) := hz 8 _ (hall 8 (by decide)) rfl
              have e9 : z 47 = .agg (lnC y) := hz 9 _ (hall 9 (by decide)) rfl
              have e10 : z 48 = .bool B := hz 10 _ (hall 10 (by decide)) rfl
              have e11 : z 49 = .bool (!B) := hz 11 _ (hall 11 (by decide)) rfl
              clear hall hz hI 
              obtain rfl := ha.out
              clear ha
              clear apx
              have E11 := Lib.hid e11
              have HX := Lib.hid hx.out
              clear e0 e1 e2 e3 e4 e5 e6 e7 e8 e9 e10 e11 hx
              rw [E11.out]
              cases B with
              | true =>
                go_wp2
                refine ⟨⟨t, HYes.out (by simp) _ HX.out⟩, ?_⟩
                clear hwz
                simp only [sliceLen]
                have := Hnt.out
                show nz < nt
                omega
              | false =>
                go_upto_region 14 with (at_builtin; refine wpList_app1 rfl el_int 72 Tryd.underlying72 (.tmp 50) (.tmp 52) rfl w.heap.size (.slice (some ⟨gf, 0, none⟩) nt cf) nt (valsN (t.reverse ++ [k])) [.int .i64 (i : Nat)] rfl (int_one i) rfl (own_alloc (HOw.out wx HX.out) _) wx.heap.size rfl ⟨_, Go.heap_alloc_new wx _, rfl⟩ (by have h1 := Hnt.out; have h2 := Htl.out; omega) (by rw [World.size_alloc]; have := (HLr.out wx HX.out).2; omega) ?_; intro ov1 w1 own1 g1 loc1)
                have HS : Hid (SO o w (i + 1) u5 ov1 w1) := by
                  have s1 := g1.size
                  rw [World.size_alloc] at s1
                  obtain ⟨l0, hb1⟩ := HLr.out wx HX.out
                  have l1 : Below w.heap.size w w1 := own_low (v := .slice (some ⟨gf, 0, none⟩) nt cf) g1 (own_alloc (HOw.out wx HX.out) _) (l0.alloc hb1 _) (by rw [World.size_alloc]; omega)
                  have f0 := HFr.out wx HX.out
                  have f1 := own_other (own_alloc f0 (.cells #[.int .i64 (i : Nat)] 3)) g1 (fun q hq e => HAp.out q hq e)
                  have o1 : OwnN w.heap.size ((t.reverse ++ [k]) ++ [i]) ov1 w1 := OwnN.more own1 (by have h1 := Hnt.out; have h2 := Hnz.out; simp; omega)
                  have hFd := HFd.out
                  subst hFd
                  refine SO.keep HE5.out (HNo.out (by simp)) l1 f1 o1 (fun q hq e => ?_)
                  rcases loc1 with h | h
                  · exact HAp.out q hq (by rw [← e, h]; rfl)
                  · have h3 := own_blt f0 q hq
                    rw [h, World.size_alloc] at e
                    cases e
                    omega
                clear own1 g1 loc1
                go_wp2
                refine ⟨⟨i + 1, hlt, rfl, HS⟩, ?_⟩
                clear hwk
                simp only [intOf]
                omega
            · rintro ll aa wx i ⟨hI, z, ha, hz⟩ hi hu hw
              obtain rfl := ha.out
              have hsz := Lib.hid hI.out.1
              have hx := Lib.hid hI.out.2
              clear ha hI
              have hin : i < 12 := hi
              obtain rfl | rfl | rfl | rfl | rfl | rfl | rfl | rfl | rfl | rfl | rfl | rfl : i = 0 ∨ i = 1 ∨ i = 2 ∨ i = 3 ∨ i = 4 ∨ i = 5 ∨ i = 6 ∨ i = 7 ∨ i = 8 ∨ i = 9 ∨ i = 10 ∨ i = 11 := by omega
              · refine wpOp_plain rfl rfl ?_
                go_simp
                exact ⟨⟨by simp [hsz.out], hx.out⟩, upd z 38 (pg), (by unfold Hid; simp [upd]), hz.next apx hsz.out 0 (by decide) _ (fun _ h => Option.some.inj h)⟩
              · refine wpOp_plain rfl rfl ?_
                go_simp
                exact ⟨⟨by simp [hsz.out], hx.out⟩, upd z 39 (.slice (some ⟨gl, ol, none⟩) m c), (by unfold Hid; simp [upd]), hz.next apx hsz.out 1 (by decide) _ (fun _ h => Option.some.inj h)⟩
              · refine wpOp_plain rfl rfl ?_
                go_simp
                exact ⟨⟨by simp [hsz.out], hx.out⟩, upd z 40 (.slice (some ⟨gf, 0, none⟩) nt cf), (by unfold Hid; simp [upd]), hz.next apx hsz.out 2 (by decide) _ (fun _ h => Option.some.inj h)⟩
              · have e2 : z 40 = .slice (some ⟨gf, 0, none⟩) nt cf := hz 2 _ (hw 2 (by kernel_rfl)) rfl
                refine wpOp_plain rfl rfl ?_
                go_simp
                go_at_call 91
                refine (HLast.out wx hx.out).mono ?_
                rintro e w9 ⟨rfl, rfl⟩
                exact ⟨⟨by simp [hsz.out], hx.out⟩, upd z 41 (.int .i64 ((k : Nat) : Int)), (by unfold Hid; simp [upd, e2]), hz.next apx hsz.out 3 (by decide) _ (fun _ h => Option.some.inj h)⟩
              · have e1 : z 39 = .slice (some ⟨gl, ol, none⟩) m c := hz 1 _ (hw 1 (by kernel_rfl)) rfl
                have e3 : z 41 = .int .i64 ((k : Nat) : Int) := hz 3 _ (hw 3 (by kernel_rfl)) rfl
                refine wpOp_plain rfl rfl ?_
                go_simp
                exact ⟨⟨by simp [hsz.out], hx.out⟩, upd z 42 (.pointer (some ⟨gl, ol + k * 35, none⟩)), (by unfold Hid; simp [upd, e1, e3]), hz.next apx hsz.out 4 (by decide) _ (fun _ h => Option.some.inj h)⟩
              · have e4 : z 42 = .pointer (some ⟨gl, ol + k * 35, none⟩) := hz 4 _ (hw 4 (by kernel_rfl)) rfl
                have eg := HLX.out wx hx.out
                refine wpOp_plain rfl rfl ?_
                go_simp
                exact ⟨⟨by simp [hsz.out], hx.out⟩, upd z 43 (.agg (lnC x)), (by unfold Hid; simp [upd, e4]), hz.next apx hsz.out 5 (by decide) _ (fun _ h => Option.some.inj h)⟩
              · refine wpOp_plain rfl rfl ?_
                go_simp
                exact ⟨⟨by simp [hsz.out], hx.out⟩, upd z 44 (.slice (some ⟨gl, ol, none⟩) m c), (by unfold Hid; simp [upd]), hz.next apx hsz.out 6 (by decide) _ (fun _ h => Option.some.inj h)⟩
              · refine wpOp_plain rfl rfl ?_
                go_simp
                exact ⟨⟨by simp [hsz.out], hx.out⟩, upd z 45 (.int .i64 ((i : Nat) : Int)), (by unfold Hid; simp [upd]), hz.next apx hsz.out 7 (by decide) _ (fun _ h => Option.some.inj h)⟩
              · have e6 : z 44 = .slice (some ⟨gl, ol, none⟩) m c := hz 6 _ (hw 6 (by kernel_rfl)) rfl
                have e7 : z 45 = .int .i64 ((i : Nat) : Int) := hz 7 _ (hw 7 (by kernel_rfl)) rfl
                refine wpOp_plain rfl rfl ?_
                go_simp
                exact ⟨⟨by simp [hsz.out], hx.out⟩, upd z 46 (.pointer (some ⟨gl, ol + i * 35, none⟩)), (by unfold Hid; simp [upd, e6, e7]), hz.next apx hsz.out 8 (by decide) _ (fun _ h => Option.some.inj h)⟩
              · have e8 : z 46 = .pointer (some ⟨gl, ol + i * 35, none⟩) := hz 8 _ (hw 8 (by kernel_rfl)) rfl
                have eg := HLY9.out wx hx.out
                refine wpOp_plain rfl rfl ?_
                go_simp
                exact ⟨⟨by simp [hsz.out], hx.out⟩, upd z 47 (.agg (lnC y)), (by unfold Hid; simp [upd, e8]), hz.next apx hsz.out 9 (by decide) _ (fun _ h => Option.some.inj h)⟩
              · have e0 : z 38 = pg := hz 0 _ (hw 0 (by kernel_rfl)) rfl
                have e5 : z 43 = .agg (lnC x) := hz 5 _ (hw 5 (by kernel_rfl)) rfl
                have e9 : z 47 = .agg (lnC y) := hz 9 _ (hw 9 (by kernel_rfl)) rfl
                refine wpOp_plain rfl rfl ?_
                go_simp
                go_at_call 90
                refine (HOrd.out wx hx.out).mono ?_
                rintro e w9 ⟨rfl, low⟩
                exact ⟨⟨by simp [hsz.out], hx.out.trans (low.mono hx.out.size)⟩, upd z 48 (.bool B), (by unfold Hid; simp [upd, e0, e5, e9]), hz.next apx hsz.out 10 (by decide) _ (fun _ h => Option.some.inj h)⟩
              · have e10 : z 48 = .bool B := hz 10 _ (hw 10 (by kernel_rfl)) rfl
                refine wpOp_plain rfl rfl ?_
                go_simp
                exact ⟨⟨by simp [hsz.out], hx.out⟩, upd z 49 (.bool (!B)), (by unfold Hid; simp [upd, e10]), hz.next apx hsz.out 11 (by decide) _ (fun _ h => Option.some.inj h)⟩
            · exact ⟨⟨rfl, (Below.refl _ _).drew⟩, fun xx => (#[pg, .slice (some ⟨gl, ol, none⟩) m c, undef, undef, .slice none 0 0, u5, .slice (some ⟨gf, 0, none⟩) nt cf, .int .i64 ((i : Nat) : Int), .slice (some ⟨gl, ol, none⟩) m c, .int .i64 ((m : Nat) : Int), .int .i64 ((i : Nat) : Int), .bool true, .int .i64 ((i : Nat) : Int), u13, u14, u15, u16, u17, u18, u19, u20, u21, u22, u23, u24, u25, u26, u27, u28, u29, u30, u31, u32, u33, u34, .slice (some ⟨gf, 0, none⟩) nt cf, .int .i64 ((nt : Nat) : Int), .bool true, u38, u39, u40, u41, u42, u43, u44, u45, u46, u47, u48, u49, u50, u51, u52, u53, u54, u55, u56, u57, u58, u59, u60, u61, u62, u63, u64, u65, u66, u67, undef] : Array Value).getD xx undef, (by rfl), Holding.start⟩
    · obtain rfl : i = m := by omega
      have hltI : ¬ (i : Int) < (i : Int) := by omega
      have HF : Hid (SoQ w (solL o i) (.returned u5) w5) := ⟨u5, rfl, hI.out.f, hI.out.low⟩
      go_wp2
      go_ret
      exact HF.out
end Go.Proofs.YtnjeppmpnaemlaaDoor.Grf
