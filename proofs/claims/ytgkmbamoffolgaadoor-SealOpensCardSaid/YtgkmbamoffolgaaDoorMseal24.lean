/- DERIVED. Texts of ours, merged: XRefChaRound. -/
import Derived.Test.YtgkmbamoffolgaaDoorMseal23
import Derived.Test.YtgkmbamoffolgaaDoorMseal7
/- DERIVED. The contract of the reference's round of layer 3. Written by mkrefround.py. -/
namespace Go.Proofs.YtgkmbamoffolgaaDoor.Cha
open Go.RowKit
/-- the list that is read, the list that is written, each in its row. -/
structure RR (S L : List Int) (g gs : Nat) (w wx : World) : Prop where
  src : Wds wx gs S
  row : Wds wx g L
  free : ∀ j, j < 16 → wx.frozen? ⟨g, j, none⟩ = false
  low : Below w.heap.size w wx
  hg : w.heap.size ≤ g
  hgs : gs < w.heap.size
theorem RR.set {S L : List Int} {g gs : Nat} {w wx : World} (h : RR S L g gs w wx) (k : Nat) (v : Int) : RR S (L.set k v) g gs w (wx.setCell ⟨g, k, none⟩ (.int .u32 v)) := by
  have h1 := h.hg
  have h2 := h.hgs
  refine ⟨⟨by simpa using h.src.1, fun j hj => ?_⟩, ⟨by simpa using h.row.1, fun j hj => ?_⟩, fun j hj => by simpa using h.free j hj, h.low.setCell h1 _, h1, h2⟩
  · rw [World.cell?_setCell_other wx ⟨g, k, none⟩ ⟨gs, j, none⟩ _ (fun h0 => by injection h0 with hb; omega)]
    exact h.src.2 j hj
  · rw [List.length_set] at hj
    by_cases e : k = j
    · subst e
      rw [World.cell?_setCell_same _ _ _ (h.row.2 k hj)]
      simp [List.getD_eq_getElem?_getD, hj]
    · rw [World.cell?_setCell_other wx ⟨g, k, none⟩ ⟨g, j, none⟩ _ (fun h0 => e (by injection h0)), h.row.2 j hj]
      simp [List.getD_eq_getElem?_getD, e]
theorem RR.later {S L : List Int} {g gs : Nat} {w wx : World} (h : RR S L g gs w wx) : RR S L g gs w wx.drew :=
  ⟨h.src, h.row, h.free, h.low.trans (Below.refl _ _).drew, h.hg, h.hgs⟩
/-- what is known of the world, by what has come up: so many words are written. -/
structure RQ (S : List Int) (A B C D : Nat) (t : List Int) (l : Array Bool) (m g gs : Nat) (w wx : World) : Prop where
  sz : l.size = 38
  inv : RR S (wrote S A B C D t m) g gs w wx
  c1 : l.getD 31 false = decide (1 ≤ m)
  c2 : l.getD 33 false = decide (2 ≤ m)
  c3 : l.getD 35 false = decide (3 ≤ m)
  c4 : l.getD 37 false = decide (4 ≤ m)
  hm : m ≤ 4
section
variable {S : List Int} {A B C D : Nat} {t : List Int} {l : Array Bool} {m g gs : Nat} {w wx : World}
theorem RQ.read (h : RQ S A B C D t l m g gs w wx) (i : Nat) (hi : i ≠ 31 ∧ i ≠ 33 ∧ i ≠ 35 ∧ i ≠ 37) : RQ S A B C D t (l.setIfInBounds i true) m g gs w wx where
  sz := by simp [h.sz]
  inv := h.inv
  c1 := by rw [getD_set_ne false hi.1]; exact h.c1
  c2 := by rw [getD_set_ne false hi.2.1]; exact h.c2
  c3 := by rw [getD_set_ne false hi.2.2.1]; exact h.c3
  c4 := by rw [getD_set_ne false hi.2.2.2]; exact h.c4
  hm := h.hm
theorem RQ.w1 (h : RQ S A B C D t l m g gs w wx) (hu : l.getD 31 false = false) : m = 0 ∧ RQ S A B C D t (l.setIfInBounds 31 true) 1 g gs w (wx.setCell ⟨g, A, none⟩ (.int .u32 (t.getD 0 0))) := by
  have hm : m = 0 := by
    have h2 := h.c1
    rw [hu] at h2
    have h3 := of_decide_eq_false h2.symm
    omega
  subst hm
  refine ⟨rfl, by simp [h.sz], h.inv.set _ _, ?_, ?_, ?_, ?_, by omega⟩
  · simp [h.sz]
  · rw [getD_set_ne false (by omega), h.c2]; rfl
  · rw [getD_set_ne false (by omega), h.c3]; rfl
  · rw [getD_set_ne false (by omega), h.c4]; rfl
theorem RQ.w2 (h : RQ S A B C D t l m g gs w wx) (hp : l.getD 31 false = true) (hu : l.getD 33 false = false) : m = 1 ∧ RQ S A B C D t (l.setIfInBounds 33 true) 2 g gs w (wx.setCell ⟨g, B, none⟩ (.int .u32 (t.getD 1 0))) := by
  have hm : m = 1 := by
    have h1 := h.c1
    rw [hp] at h1
    have h4 := of_decide_eq_true h1.symm
    have h2 := h.c2
    rw [hu] at h2
    have h3 := of_decide_eq_false h2.symm
    omega
  subst hm
  refine ⟨rfl, by simp [h.sz], h.inv.set _ _, ?_, ?_, ?_, ?_, by omega⟩
  · rw [getD_set_ne false (by omega), h.c1]; rfl
  · simp [h.sz]
  · rw [getD_set_ne false (by omega), h.c3]; rfl
  · rw [getD_set_ne false (by omega), h.c4]; rfl
theorem RQ.w3 (h : RQ S A B C D t l m g gs w wx) (hp : l.getD 33 false = true) (hu : l.getD 35 false = false) : m = 2 ∧ RQ S A B C D t (l.setIfInBounds 35 true) 3 g gs w (wx.setCell ⟨g, C, none⟩ (.int .u32 (t.getD 2 0))) := by
  have hm : m = 2 := by
    have h1 := h.c2
    rw [hp] at h1
    have h4 := of_decide_eq_true h1.symm
    have h2 := h.c3
    rw [hu] at h2
    have h3 := of_decide_eq_false h2.symm
    omega
  subst hm
  refine ⟨rfl, by simp [h.sz], h.inv.set _ _, ?_, ?_, ?_, ?_, by omega⟩
  · rw [getD_set_ne false (by omega), h.c1]; rfl
  · rw [getD_set_ne false (by omega), h.c2]; rfl
  · simp [h.sz]
  · rw [getD_set_ne false (by omega), h.c4]; rfl
theorem RQ.w4 (h : RQ S A B C D t l m g gs w wx) (hp : l.getD 35 false = true) (hu : l.getD 37 false = false) : m = 3 ∧ RQ S A B C D t (l.setIfInBounds 37 true) 4 g gs w (wx.setCell ⟨g, D, none⟩ (.int .u32 (t.getD 3 0))) := by
  have hm : m = 3 := by
    have h1 := h.c3
    rw [hp] at h1
    have h4 := of_decide_eq_true h1.symm
    have h2 := h.c4
    rw [hu] at h2
    have h3 := of_decide_eq_false h2.symm
    omega
  subst hm
  refine ⟨rfl, by simp [h.sz], h.inv.set _ _, ?_, ?_, ?_, ?_, by omega⟩
  · rw [getD_set_ne false (by omega), h.c1]; rfl
  · rw [getD_set_ne false (by omega), h.c2]; rfl
  · rw [getD_set_ne false (by omega), h.c3]; rfl
  · simp [h.sz]
end
theorem dR_apart : apartB [16, 17, 18, 19, 20, 21, 22, 23, 24, 25, 26, 27, 28, 29, 30, 31, 32, 33, 34, 35, 36, 37, 38, 39, 40, 15, 41, 42, 43, 44, 45, 1000, 46, 1001, 47, 1002, 48, 1003] = true := by decide
set_option maxRecDepth 100000 in
set_option maxHeartbeats 4000000 in
theorem rround_any (S : List Int) (hS : S.length = 16) (gs cs : Nat) (A B C D : Nat) (a b c d : Int) (ea : a = (A : Nat)) (eb : b = (B : Nat)) (ec : c = (C : Nat)) (ed : d = (D : Nat)) (a16 : A < 16) (b16 : B < 16) (c16 : C < 16) (d16 : D < 16) (w : World) (hs : Wds w gs S) :
    Calls Tryd.prog 66 #[.slice (some ⟨gs, 0, none⟩) 16 cs, .int .i64 a, .int .i64 b, .int .i64 c, .int .i64 d] w fun e' w' => ∃ g cap, e' = .returned (.slice (some ⟨g, 0, none⟩) 16 cap) ∧ w.heap.size ≤ g ∧ Wds w' g (qstep S A B C D) ∧ Below w.heap.size w w' := by
  subst ea eb ec ed
  obtain ⟨i32, hi32, hz320, hz321, hz322⟩ := parts3 info32
  have HS := Lib.hid hS
  have Hs := Lib.hid hs
  have gi := Lib.hid hi32
  have gz0 := Lib.hid hz320
  have gz1 := Lib.hid hz321
  have gz2 := Lib.hid hz322
  clear hi32 hz320 hz321 hz322 hS hs
  go_enter Tryd.func66, Tryd.ntmps66
  go_upto_region 3 with (at_builtin; refine wpList_append_own_at _ rfl (.tmp 12) (.tmp 13) 97 rfl w.heap.size 26 i32 (.int .u32 0) 1 4 Tryd.underlying97 gi.out gz0.out gz1.out gz2.out rfl (by decide) (.slice none 0 0) 0 [] rfl (World.ownsRow_nil _ _ _ _) ⟨gs, 0, none⟩ 16 cs (vals32 S) rfl (by simp [vals32, HS.out]) (fun j u hj => by { have hj2 := (List.getElem?_eq_some_iff.1 hj).1; simp [vals32] at hj2; rw [Addr.add_mid, Nat.zero_add, Hs.out.2 j hj2, ← hj]; simp [vals32, hj2] }) (fun u hu => by { simp [vals32] at hu; obtain ⟨x, _, rfl⟩ := hu; rfl }) (by unfold maxLen; omega) (by omega) (Nat.le_refl _) ?_; intro v1 w1 hown1 hgrow1 _ _; have Hown1 := Lib.hid hown1; have Hgrow1 := Lib.hid hgrow1; clear hown1 hgrow1)
  obtain ⟨t, ht⟩ : ∃ t, t = quarterL [S.getD A 0, S.getD B 0, S.getD C 0, S.getD D 0] := ⟨_, rfl⟩
  have HT := Lib.hid ht
  obtain ⟨g, cap, rfl, hrr⟩ : ∃ g cap, v1 = .slice (some ⟨g, 0, none⟩) 16 cap ∧ RR S S g gs w w1 := by
    have hown := Hown1.out
    have hgr := Hgrow1.out
    rw [List.nil_append, Nat.zero_add] at hown
    have hlow : Below w.heap.size w w1 := (Below.refl _ _).grown hgr (Nat.le_refl _) (fun k hk => by cases hk)
    obtain ⟨g, cap, hv, hg, hw⟩ := own_cells32 hown HS.out (by decide)
    refine ⟨g, cap, hv, Hs.out.below hlow Hs.out.1, hw, fun j hj => ?_, hlow, hg, Hs.out.1⟩
    rcases hown.2 with ⟨hn, _⟩ | ⟨g2, cap2, cur, hv2, _, hh, _⟩
    · rw [hv] at hn; cases hn
    · rw [hv] at hv2
      cases hv2
      simp [World.frozen?, hh]
  have Hrr := Lib.hid hrr
  have a16' : (A : Int) < 16 := by omega
  have b16' : (B : Int) < 16 := by omega
  have c16' : (C : Int) < 16 := by omega
  have d16' : (D : Int) < 16 := by omega
  clear ht hrr Hown1 Hgrow1
  refine wp_region_any (by kernel_rfl) ?_
  change wpAny _ _ _ _ _ _ _ (World.drew _)
  refine wpAny_inv (fun l a wx => ∃ (m : Nat) (z : Nat → Value), Hid (a = ⟨#[.slice (some ⟨gs, 0, none⟩) 16 cs, .int .i64 (A : Nat), .int .i64 (B : Nat), .int .i64 (C : Nat), .int .i64 (D : Nat), undef, undef, undef, undef, undef, .slice none 0 0, .slice (some ⟨g, 0, none⟩) 16 cap, .slice none 0 0, .slice (some ⟨gs, 0, none⟩) 16 cs, .slice (some ⟨g, 0, none⟩) 16 cap, z 15, z 16, z 17, z 18, z 19, z 20, z 21, z 22, z 23, z 24, z 25, z 26, z 27, z 28, z 29, z 30, z 31, z 32, z 33, z 34, z 35, z 36, z 37, z 38, z 39, z 40, z 41, z 42, z 43, z 44, z 45, z 46, z 47, z 48, undef], []⟩) ∧ Holding [16, 17, 18, 19, 20, 21, 22, 23, 24, 25, 26, 27, 28, 29, 30, 31, 32, 33, 34, 35, 36, 37, 38, 39, 40, 15, 41, 42, 43, 44, 45, 1000, 46, 1001, 47, 1002, 48, 1003] [some (.slice (some ⟨g, 0, none⟩) 16 cap), some (.int .i64 (A : Nat)), some (.slice (some ⟨g, 0, none⟩) 16 cap), some (.int .i64 (B : Nat)), some (.slice (some ⟨g, 0, none⟩) 16 cap), some (.int .i64 (C : Nat)), some (.slice (some ⟨g, 0, none⟩) 16 cap), some (.int .i64 (D : Nat)), some (.slice (some ⟨gs, 0, none⟩) 16 cs), some (.int .i64 (A : Nat)), some (.pointer (some ⟨gs, A, none⟩)), some (.int .u32 (S.getD A 0)), some (.slice (some ⟨gs, 0, none⟩) 16 cs), some (.int .i64 (B : Nat)), some (.pointer (some ⟨gs, B, none⟩)), some (.int .u32 (S.getD B 0)), some (.slice (some ⟨gs, 0, none⟩) 16 cs), some (.int .i64 (C : Nat)), some (.pointer (some ⟨gs, C, none⟩)), some (.int .u32 (S.getD C 0)), some (.slice (some ⟨gs, 0, none⟩) 16 cs), some (.int .i64 (D : Nat)), some (.pointer (some ⟨gs, D, none⟩)), some (.int .u32 (S.getD D 0)), some (.tuple #[.int .u32 (t.getD 0 0), .int .u32 (t.getD 1 0), .int .u32 (t.getD 2 0), .int .u32 (t.getD 3 0)]), some (.tuple #[.int .u32 (t.getD 0 0), .int .u32 (t.getD 1 0), .int .u32 (t.getD 2 0), .int .u32 (t.getD 3 0)]), some (.int .u32 (t.getD 0 0)), some (.int .u32 (t.getD 1 0)), some (.int .u32 (t.getD 2 0)), some (.int .u32 (t.getD 3 0)), some (.pointer (some ⟨g, A, none⟩)), none, some (.pointer (some ⟨g, B, none⟩)), none, some (.pointer (some ⟨g, C, none⟩)), none, some (.pointer (some ⟨g, D, none⟩)), none] l z ∧ RQ S A B C D t l m g gs w wx) ?_ (by kernel_rfl) ?_ ?_ _ _ _ _ (unlisted_none _) ?_
  · rintro l a wx ⟨m, z, _, _, h⟩
    exact h.sz
  · rintro l a wx ⟨m, z, ha, hz, h⟩ hall
    obtain rfl := ha.out
    clear ha
    have h4 := h.c4
    rw [hall 37 (by decide)] at h4
    have hm := h.hm
    have h5 := of_decide_eq_true h4.symm
    obtain rfl : m = 4 := by omega
    have HR := Lib.hid h.inv
    have HW : Hid (wrote S A B C D t 4 = qstep S A B C D) := by show _ = _; rw [HT.out]; rfl
    clear h4 h5 hm h hz hall
    go_wp2
    go_ret
    exact ⟨g, ⟨cap, rfl⟩, HR.out.hg, by rw [← HW.out]; exact HR.out.row, HR.out.low⟩
  · rintro l a wx i ⟨m, z, ha, hz, h⟩ hi hu hw
    obtain rfl := ha.out
    clear ha
    have hi38 : i < 38 := hi
    obtain rfl | rfl | rfl | rfl | rfl | rfl | rfl | rfl | rfl | rfl | rfl | rfl | rfl | rfl | rfl | rfl | rfl | rfl | rfl | rfl | rfl | rfl | rfl | rfl | rfl | rfl | rfl | rfl | rfl | rfl | rfl | rfl | rfl | rfl | rfl | rfl | rfl | rfl : i = 0 ∨ i = 1 ∨ i = 2 ∨ i = 3 ∨ i = 4 ∨ i = 5 ∨ i = 6 ∨ i = 7 ∨ i = 8 ∨ i = 9 ∨ i = 10 ∨ i = 11 ∨ i = 12 ∨ i = 13 ∨ i = 14 ∨ i = 15 ∨ i = 16 ∨ i = 17 ∨ i = 18 ∨ i = 19 ∨ i = 20 ∨ i = 21 ∨ i = 22 ∨ i = 23 ∨ i = 24 ∨ i = 25 ∨ i = 26 ∨ i = 27 ∨ i = 28 ∨ i = 29 ∨ i = 30 ∨ i = 31 ∨ i = 32 ∨ i = 33 ∨ i = 34 ∨ i = 35 ∨ i = 36 ∨ i = 37 := by omega
    · refine wpOp_plain rfl rfl ?_
      go_simp
      exact ⟨m, upd z 16 (.slice (some ⟨g, 0, none⟩) 16 cap), (by unfold Hid; simp [upd]), hz.next dR_apart h.sz 0 (by decide) _ (fun _ h => Option.some.inj h), h.read 0 (by omega)⟩
    · refine wpOp_plain rfl rfl ?_
      go_simp
      exact ⟨m, upd z 17 (.int .i64 (A : Nat)), (by unfold Hid; simp [upd]), hz.next dR_apart h.sz 1 (by decide) _ (fun _ h => Option.some.inj h), h.read 1 (by omega)⟩
    · refine wpOp_plain rfl rfl ?_
      go_simp
      exact ⟨m, upd z 18 (.slice (some ⟨g, 0, none⟩) 16 cap), (by unfold Hid; simp [upd]), hz.next dR_apart h.sz 2 (by decide) _ (fun _ h => Option.some.inj h), h.read 2 (by omega)⟩
    · refine wpOp_plain rfl rfl ?_
      go_simp
      exact ⟨m, upd z 19 (.int .i64 (B : Nat)), (by unfold Hid; simp [upd]), hz.next dR_apart h.sz 3 (by decide) _ (fun _ h => Option.some.inj h), h.read 3 (by omega)⟩
    · refine wpOp_plain rfl rfl ?_
      go_simp
      exact ⟨m, upd z 20 (.slice (some ⟨g, 0, none⟩) 16 cap), (by unfold Hid; simp [upd]), hz.next dR_apart h.sz 4 (by decide) _ (fun _ h => Option.some.inj h), h.read 4 (by omega)⟩
    · refine wpOp_plain rfl rfl ?_
      go_simp
      exact ⟨m, upd z 21 (.int .i64 (C : Nat)), (by unfold Hid; simp [upd]), hz.next dR_apart h.sz 5 (by decide) _ (fun _ h => Option.some.inj h), h.read 5 (by omega)⟩
    · refine wpOp_plain rfl rfl ?_
      go_simp
      exact ⟨m, upd z 22 (.slice (some ⟨g, 0, none⟩) 16 cap), (by unfold Hid; simp [upd]), hz.next dR_apart h.sz 6 (by decide) _ (fun _ h => Option.some.inj h), h.read 6 (by omega)⟩
    · refine wpOp_plain rfl rfl ?_
      go_simp
      exact ⟨m, upd z 23 (.int .i64 (D : Nat)), (by unfold Hid; simp [upd]), hz.next dR_apart h.sz 7 (by decide) _ (fun _ h => Option.some.inj h), h.read 7 (by omega)⟩
    · refine wpOp_plain rfl rfl ?_
      go_simp
      exact ⟨m, upd z 24 (.slice (some ⟨gs, 0, none⟩) 16 cs), (by unfold Hid; simp [upd]), hz.next dR_apart h.sz 8 (by decide) _ (fun _ h => Option.some.inj h), h.read 8 (by omega)⟩
    · refine wpOp_plain rfl rfl ?_
      go_simp
      exact ⟨m, upd z 25 (.int .i64 (A : Nat)), (by unfold Hid; simp [upd]), hz.next dR_apart h.sz 9 (by decide) _ (fun _ h => Option.some.inj h), h.read 9 (by omega)⟩
    · have e8 : z 24 = .slice (some ⟨gs, 0, none⟩) 16 cs := hz 8 _ (hw 8 (by kernel_rfl)) rfl
      have e9 : z 25 = .int .i64 (A : Nat) := hz 9 _ (hw 9 (by kernel_rfl)) rfl
      refine wpOp_plain rfl rfl ?_
      go_simp
      exact ⟨m, upd z 26 (.pointer (some ⟨gs, A, none⟩)), (by unfold Hid; simp [upd, e8, e9]), hz.next dR_apart h.sz 10 (by decide) _ (fun _ h => Option.some.inj h), h.read 10 (by omega)⟩
    · have e10 : z 26 = .pointer (some ⟨gs, A, none⟩) := hz 10 _ (hw 10 (by kernel_rfl)) rfl
      have cc := h.inv.src.2 A (by rw [HS.out]; exact a16)
      refine wpOp_plain rfl rfl ?_
      go_simp
      exact ⟨m, upd z 27 (.int .u32 (S.getD A 0)), (by unfold Hid; simp [upd, e10]), hz.next dR_apart h.sz 11 (by decide) _ (fun _ h => Option.some.inj h), h.read 11 (by omega)⟩
    · refine wpOp_plain rfl rfl ?_
      go_simp
      exact ⟨m, upd z 28 (.slice (some ⟨gs, 0, none⟩) 16 cs), (by unfold Hid; simp [upd]), hz.next dR_apart h.sz 12 (by decide) _ (fun _ h => Option.some.inj h), h.read 12 (by omega)⟩
    · refine wpOp_plain rfl rfl ?_
      go_simp
      exact ⟨m, upd z 29 (.int .i64 (B : Nat)), (by unfold Hid; simp [upd]), hz.next dR_apart h.sz 13 (by decide) _ (fun _ h => Option.some.inj h), h.read 13 (by omega)⟩
    · have e12 : z 28 = .slice (some ⟨gs, 0, none⟩) 16 cs := hz 12 _ (hw 12 (by kernel_rfl)) rfl
      have e13 : z 29 = .int .i64 (B : Nat) := hz 13 _ (hw 13 (by kernel_rfl)) rfl
      refine wpOp_plain rfl rfl ?_
      go_simp
      exact ⟨m, upd z 30 (.pointer (some ⟨gs, B, none⟩)), (by unfold Hid; simp [upd, e12, e13]), hz.next dR_apart h.sz 14 (by decide) _ (fun _ h => Option.some.inj h), h.read 14 (by omega)⟩
    · have e14 : z 30 = .pointer (some ⟨gs, B, none⟩) := hz 14 _ (hw 14 (by kernel_rfl)) rfl
      have cc := h.inv.src.2 B (by rw [HS.out]; exact b16)
      refine wpOp_plain rfl rfl ?_
      go_simp
      exact ⟨m, upd z 31 (.int .u32 (S.getD B 0)), (by unfold Hid; simp [upd, e14]), hz.next dR_apart h.sz 15 (by decide) _ (fun _ h => Option.some.inj h), h.read 15 (by omega)⟩
    · refine wpOp_plain rfl rfl ?_
      go_simp
      exact ⟨m, upd z 32 (.slice (some ⟨gs, 0, none⟩) 16 cs), (by unfold Hid; simp [upd]), hz.next dR_apart h.sz 16 (by decide) _ (fun _ h => Option.some.inj h), h.read 16 (by omega)⟩
    · refine wpOp_plain rfl rfl ?_
      go_simp
      exact ⟨m, upd z 33 (.int .i64 (C : Nat)), (by unfold Hid; simp [upd]), hz.next dR_apart h.sz 17 (by decide) _ (fun _ h => Option.some.inj h), h.read 17 (by omega)⟩
    · have e16 : z 32 = .slice (some ⟨gs, 0, none⟩) 16 cs := hz 16 _ (hw 16 (by kernel_rfl)) rfl
      have e17 : z 33 = .int .i64 (C : Nat) := hz 17 _ (hw 17 (by kernel_rfl)) rfl
      refine wpOp_plain rfl rfl ?_
      go_simp
      exact ⟨m, upd z 34 (.pointer (some ⟨gs, C, none⟩)), (by unfold Hid; simp [upd, e16, e17]), hz.next dR_apart h.sz 18 (by decide) _ (fun _ h => Option.some.inj h), h.read 18 (by omega)⟩
    · have e18 : z 34 = .pointer (some ⟨gs, C, none⟩) := hz 18 _ (hw 18 (by kernel_rfl)) rfl
      have cc := h.inv.src.2 C (by rw [HS.out]; exact c16)
      refine wpOp_plain rfl rfl ?_
      go_simp
      exact ⟨m, upd z 35 (.int .u32 (S.getD C 0)), (by unfold Hid; simp [upd, e18]), hz.next dR_apart h.sz 19 (by decide) _ (fun _ h => Option.some.inj h), h.read 19 (by omega)⟩
    · refine wpOp_plain rfl rfl ?_
      go_simp
      exact ⟨m, upd z 36 (.slice (some ⟨gs, 0, none⟩) 16 cs), (by unfold Hid; simp [upd]), hz.next dR_apart h.sz 20 (by decide) _ (fun _ h => Option.some.inj h), h.read 20 (by omega)⟩
    · refine wpOp_plain rfl rfl ?_
      go_simp
      exact ⟨m, upd z 37 (.int .i64 (D : Nat)), (by unfold Hid; simp [upd]), hz.next dR_apart h.sz 21 (by decide) _ (fun _ h => Option.some.inj h), h.read 21 (by omega)⟩
    · have e20 : z 36 = .slice (some ⟨gs, 0, none⟩) 16 cs := hz 20 _ (hw 20 (by kernel_rfl)) rfl
      have e21 : z 37 = .int .i64 (D : Nat) := hz 21 _ (hw 21 (by kernel_rfl)) rfl
      refine wpOp_plain rfl rfl ?_
      go_simp
      exact ⟨m, upd z 38 (.pointer (some ⟨gs, D, none⟩)), (by unfold Hid; simp [upd, e20, e21]), hz.next dR_apart h.sz 22 (by decide) _ (fun _ h => Option.some.inj h), h.read 22 (by omega)⟩
    · have e22 : z 38 = .pointer (some ⟨gs, D, none⟩) := hz 22 _ (hw 22 (by kernel_rfl)) rfl
      have cc := h.inv.src.2 D (by rw [HS.out]; exact d16)
      refine wpOp_plain rfl rfl ?_
      go_simp
      exact ⟨m, upd z 39 (.int .u32 (S.getD D 0)), (by unfold Hid; simp [upd, e22]), hz.next dR_apart h.sz 23 (by decide) _ (fun _ h => Option.some.inj h), h.read 23 (by omega)⟩
    · have e11 : z 27 = .int .u32 (S.getD A 0) := hz 11 _ (hw 11 (by kernel_rfl)) rfl
      have e15 : z 31 = .int .u32 (S.getD B 0) := hz 15 _ (hw 15 (by kernel_rfl)) rfl
      have e19 : z 35 = .int .u32 (S.getD C 0) := hz 19 _ (hw 19 (by kernel_rfl)) rfl
      have e23 : z 39 = .int .u32 (S.getD D 0) := hz 23 _ (hw 23 (by kernel_rfl)) rfl
      refine wpOp_plain rfl rfl ?_
      go_simp
      go_at_call 75
      refine (rquarter_any _ _ _ _ _).mono ?_
      rintro e w' ⟨rfl, rfl⟩
      have et : Value.tuple #[.int .u32 (qa2 (S.getD A 0) (S.getD B 0) (S.getD C 0) (S.getD D 0)), .int .u32 (qb2 (S.getD A 0) (S.getD B 0) (S.getD C 0) (S.getD D 0)), .int .u32 (qc2 (S.getD A 0) (S.getD B 0) (S.getD C 0) (S.getD D 0)), .int .u32 (qd2 (S.getD A 0) (S.getD B 0) (S.getD C 0) (S.getD D 0))] = .tuple #[.int .u32 (t.getD 0 0), .int .u32 (t.getD 1 0), .int .u32 (t.getD 2 0), .int .u32 (t.getD 3 0)] := by rw [HT.out]; rfl
      have Et := Lib.hid et
      clear et
      exact ⟨m, upd z 40 (.tuple #[.int .u32 (t.getD 0 0), .int .u32 (t.getD 1 0), .int .u32 (t.getD 2 0), .int .u32 (t.getD 3 0)]), (by rw [← Et.out]; unfold Hid; simp [upd, e11, e15, e19, e23]), hz.next dR_apart h.sz 24 (by decide) _ (fun _ h => Option.some.inj h), h.read 24 (by omega)⟩
    · have e24 : z 40 = .tuple #[.int .u32 (t.getD 0 0), .int .u32 (t.getD 1 0), .int .u32 (t.getD 2 0), .int .u32 (t.getD 3 0)] := hz 24 _ (hw 24 (by kernel_rfl)) rfl
      refine wpOp_plain rfl rfl ?_
      go_simp
      exact ⟨m, upd z 15 (.tuple #[.int .u32 (t.getD 0 0), .int .u32 (t.getD 1 0), .int .u32 (t.getD 2 0), .int .u32 (t.getD 3 0)]), (by unfold Hid; simp [upd, e24]), hz.next dR_apart h.sz 25 (by decide) _ (fun _ h => Option.some.inj h), h.read 25 (by omega)⟩
    · have e25 : z 15 = .tuple #[.int .u32 (t.getD 0 0), .int .u32 (t.getD 1 0), .int .u32 (t.getD 2 0), .int .u32 (t.getD 3 0)] := hz 25 _ (hw 25 (by kernel_rfl)) rfl
      refine wpOp_plain rfl rfl ?_
      go_simp
      exact ⟨m, upd z 41 (.int .u32 (t.getD 0 0)), (by unfold Hid; simp [upd, e25]), hz.next dR_apart h.sz 26 (by decide) _ (fun _ h => Option.some.inj h), h.read 26 (by omega)⟩
    · have e25 : z 15 = .tuple #[.int .u32 (t.getD 0 0), .int .u32 (t.getD 1 0), .int .u32 (t.getD 2 0), .int .u32 (t.getD 3 0)] := hz 25 _ (hw 25 (by kernel_rfl)) rfl
      refine wpOp_plain rfl rfl ?_
      go_simp
      exact ⟨m, upd z 42 (.int .u32 (t.getD 1 0)), (by unfold Hid; simp [upd, e25]), hz.next dR_apart h.sz 27 (by decide) _ (fun _ h => Option.some.inj h), h.read 27 (by omega)⟩
    · have e25 : z 15 = .tuple #[.int .u32 (t.getD 0 0), .int .u32 (t.getD 1 0), .int .u32 (t.getD 2 0), .int .u32 (t.getD 3 0)] := hz 25 _ (hw 25 (by kernel_rfl)) rfl
      refine wpOp_plain rfl rfl ?_
      go_simp
      exact ⟨m, upd z 43 (.int .u32 (t.getD 2 0)), (by unfold Hid; simp [upd, e25]), hz.next dR_apart h.sz 28 (by decide) _ (fun _ h => Option.some.inj h), h.read 28 (by omega)⟩
    · have e25 : z 15 = .tuple #[.int .u32 (t.getD 0 0), .int .u32 (t.getD 1 0), .int .u32 (t.getD 2 0), .int .u32 (t.getD 3 0)] := hz 25 _ (hw 25 (by kernel_rfl)) rfl
      refine wpOp_plain rfl rfl ?_
      go_simp
      exact ⟨m, upd z 44 (.int .u32 (t.getD 3 0)), (by unfold Hid; simp [upd, e25]), hz.next dR_apart h.sz 29 (by decide) _ (fun _ h => Option.some.inj h), h.read 29 (by omega)⟩
    · have e0 : z 16 = .slice (some ⟨g, 0, none⟩) 16 cap := hz 0 _ (hw 0 (by kernel_rfl)) rfl
      have e1 : z 17 = .int .i64 (A : Nat) := hz 1 _ (hw 1 (by kernel_rfl)) rfl
      refine wpOp_plain rfl rfl ?_
      go_simp
      exact ⟨m, upd z 45 (.pointer (some ⟨g, A, none⟩)), (by unfold Hid; simp [upd, e0, e1]), hz.next dR_apart h.sz 30 (by decide) _ (fun _ h => Option.some.inj h), h.read 30 (by omega)⟩
    · have e30 : z 45 = .pointer (some ⟨g, A, none⟩) := hz 30 _ (hw 30 (by kernel_rfl)) rfl
      have e26 : z 41 = .int .u32 (t.getD 0 0) := hz 26 _ (hw 26 (by kernel_rfl)) rfl
      obtain ⟨rfl, hR⟩ := h.w1 hu
      have cc := h.inv.row.2 A (by rw [wrote_length, HS.out]; exact a16)
      have fz := h.inv.free A a16
      refine wpOp_plain rfl rfl ?_
      go_simp
      exact ⟨_, z, (by unfold Hid; simp [e30, e26]), hz.pass 31 rfl, hR⟩
    · have e2 : z 18 = .slice (some ⟨g, 0, none⟩) 16 cap := hz 2 _ (hw 2 (by kernel_rfl)) rfl
      have e3 : z 19 = .int .i64 (B : Nat) := hz 3 _ (hw 3 (by kernel_rfl)) rfl
      refine wpOp_plain rfl rfl ?_
      go_simp
      exact ⟨m, upd z 46 (.pointer (some ⟨g, B, none⟩)), (by unfold Hid; simp [upd, e2, e3]), hz.next dR_apart h.sz 32 (by decide) _ (fun _ h => Option.some.inj h), h.read 32 (by omega)⟩
    · have e32 : z 46 = .pointer (some ⟨g, B, none⟩) := hz 32 _ (hw 32 (by kernel_rfl)) rfl
      have e27 : z 42 = .int .u32 (t.getD 1 0) := hz 27 _ (hw 27 (by kernel_rfl)) rfl
      obtain ⟨rfl, hR⟩ := h.w2 (hw 31 (by kernel_rfl)) hu
      have cc := h.inv.row.2 B (by rw [wrote_length, HS.out]; exact b16)
      have fz := h.inv.free B b16
      refine wpOp_plain rfl rfl ?_
      go_simp
      exact ⟨_, z, (by unfold Hid; simp [e32, e27]), hz.pass 33 rfl, hR⟩
    · have e4 : z 20 = .slice (some ⟨g, 0, none⟩) 16 cap := hz 4 _ (hw 4 (by kernel_rfl)) rfl
      have e5 : z 21 = .int .i64 (C : Nat) := hz 5 _ (hw 5 (by kernel_rfl)) rfl
      refine wpOp_plain rfl rfl ?_
      go_simp
      exact ⟨m, upd z 47 (.pointer (some ⟨g, C, none⟩)), (by unfold Hid; simp [upd, e4, e5]), hz.next dR_apart h.sz 34 (by decide) _ (fun _ h => Option.some.inj h), h.read 34 (by omega)⟩
    · have e34 : z 47 = .pointer (some ⟨g, C, none⟩) := hz 34 _ (hw 34 (by kernel_rfl)) rfl
      have e28 : z 43 = .int .u32 (t.getD 2 0) := hz 28 _ (hw 28 (by kernel_rfl)) rfl
      obtain ⟨rfl, hR⟩ := h.w3 (hw 33 (by kernel_rfl)) hu
      have cc := h.inv.row.2 C (by rw [wrote_length, HS.out]; exact c16)
      have fz := h.inv.free C c16
      refine wpOp_plain rfl rfl ?_
      go_simp
      exact ⟨_, z, (by unfold Hid; simp [e34, e28]), hz.pass 35 rfl, hR⟩
    · have e6 : z 22 = .slice (some ⟨g, 0, none⟩) 16 cap := hz 6 _ (hw 6 (by kernel_rfl)) rfl
      have e7 : z 23 = .int .i64 (D : Nat) := hz 7 _ (hw 7 (by kernel_rfl)) rfl
      refine wpOp_plain rfl rfl ?_
      go_simp
      exact ⟨m, upd z 48 (.pointer (some ⟨g, D, none⟩)), (by unfold Hid; simp [upd, e6, e7]), hz.next dR_apart h.sz 36 (by decide) _ (fun _ h => Option.some.inj h), h.read 36 (by omega)⟩
    · have e36 : z 48 = .pointer (some ⟨g, D, none⟩) := hz 36 _ (hw 36 (by kernel_rfl)) rfl
      have e29 : z 44 = .int .u32 (t.getD 3 0) := hz 29 _ (hw 29 (by kernel_rfl)) rfl
      obtain ⟨rfl, hR⟩ := h.w4 (hw 35 (by kernel_rfl)) hu
      have cc := h.inv.row.2 D (by rw [wrote_length, HS.out]; exact d16)
      have fz := h.inv.free D d16
      refine wpOp_plain rfl rfl ?_
      go_simp
      exact ⟨_, z, (by unfold Hid; simp [e36, e29]), hz.pass 37 rfl, hR⟩
  · exact ⟨0, fun x => (#[.slice (some ⟨gs, 0, none⟩) 16 cs, .int .i64 (A : Nat), .int .i64 (B : Nat), .int .i64 (C : Nat), .int .i64 (D : Nat), undef, undef, undef, undef, undef, .slice none 0 0, .slice (some ⟨g, 0, none⟩) 16 cap, .slice none 0 0, .slice (some ⟨gs, 0, none⟩) 16 cs, .slice (some ⟨g, 0, none⟩) 16 cap, undef, undef, undef, undef, undef, undef, undef, undef, undef, undef, undef, undef, undef, undef, undef, undef, undef, undef, undef, undef, undef, undef, undef, undef, undef, undef, undef, undef, undef, undef, undef, undef, undef, undef, undef] : Array Value).getD x undef, rfl, Holding.start, ⟨rfl, Hrr.out.later, rfl, rfl, rfl, rfl, by omega⟩⟩
end Go.Proofs.YtgkmbamoffolgaaDoor.Cha
