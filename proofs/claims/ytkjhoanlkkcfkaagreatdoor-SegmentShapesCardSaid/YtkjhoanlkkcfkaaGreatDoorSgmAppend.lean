/- DERIVED. The contract of segment.Append. -/
import Derived.Test.YtkjhoanlkkcfkaaGreatDoorSgmApp3
namespace Go.Proofs.YtkjhoanlkkcfkaaGreatDoor.Sgm
open Go.RowKit Dsk Slt
/-- the record that is appended. -/
def recL (V : GV) (t : List Int) : List Int := Seal.sealL V.key V.C V.T.length V.ep t
/-- what Append makes, and answers. -/
def appG (D : DS) (S : LS) (V : GV) (t : List Int) : DS × LS × GV × Int :=
  if refX D S V t.length ≠ 0 then (D, S, V, refX D S V t.length)
  else if (appD D S (recL V t)).2.2 = 0 then ((appD D S (recL V t)).1, (appD D S (recL V t)).2.1, { V with T := V.T ++ [t] }, 0)
  else ((appD D S (recL V t)).1, (appD D S (recL V t)).2.1, { V with lost := true }, (appD D S (recL V t)).2.2)
theorem appG_ref {D : DS} {S : LS} {V : GV} {t : List Int} (h : refX D S V t.length ≠ 0) : appG D S V t = (D, S, V, refX D S V t.length) := if_pos h
theorem appG_ok {D : DS} {S : LS} {V : GV} {t : List Int} (h : refX D S V t.length = 0) (h2 : (appD D S (recL V t)).2.2 = 0) : appG D S V t = ((appD D S (recL V t)).1, (appD D S (recL V t)).2.1, { V with T := V.T ++ [t] }, 0) := by
  unfold appG; rw [if_neg (not_not_intro h), if_pos h2]
theorem appG_no {D : DS} {S : LS} {V : GV} {t : List Int} (h : refX D S V t.length = 0) (h2 : (appD D S (recL V t)).2.2 ≠ 0) : appG D S V t = ((appD D S (recL V t)).1, (appD D S (recL V t)).2.1, { V with lost := true }, (appD D S (recL V t)).2.2) := by
  unfold appG; rw [if_neg (not_not_intro h), if_neg h2]
theorem ref_zero {D : DS} {S : LS} {V : GV} {m : Nat} (h : refX D S V m = 0) : V.ep ≠ 0 ∧ m ≤ 131068 ∧ V.lost = false ∧ D.off = false ∧ (m : Int) ≤ roomG S := by
  unfold refX at h
  split at h
  · cases h
  split at h
  · cases h
  split at h
  · cases h
  split at h
  · cases h
  rename_i h1 h2 h3 h4
  refine ⟨h1, by omega, ?_, ?_, by omega⟩
  · cases hl : V.lost
    · rfl
    · exact absurd (.inl hl) h3
  · cases hl : D.off
    · rfl
    · exact absurd (.inr hl) h3
/-- what a call leaves. -/
structure AR (w : World) (K : DK) (J : LK) (G : GK) (X : List Nat) (D' : DS) (S' : LS) (V' : GV) (J' : LK) (G' : GK) (W : World) : Prop where
  sg : Sg W K J' G' S' V'
  dsk : Dsk W K D'
  jg : J'.g = J.g
  gg : G'.g = G.g
  chg : Chg X w W
  jbl : ∀ q ∈ J'.bl, q ∈ J.bl ∨ w.heap.size ≤ q
  jtx : ∀ q ∈ J'.tx, q ∈ J.tx ∨ w.heap.size ≤ q
  gbl : ∀ q ∈ G'.bl, q ∈ G.bl ∨ w.heap.size ≤ q
  gtx : ∀ q ∈ G'.tx, q ∈ G.tx ∨ w.heap.size ≤ q
def apF : Nat → Nat := fun i => [56, 58, 61, 63].getD i 0
def apC (bs bt be : Nat) : Nat → Array Value := fun i => [#[ptrV bs, ptrV bt], #[ptrV bs, ptrV bt, ptrV be], #[ptrV bs, ptrV be], #[ptrV bs, ptrV bt]].getD i #[]
def apV (bs bt be : Nat) : Array Value := #[.func (.func 56) #[] #[ptrV bs, ptrV bt], .func (.func 58) #[] #[ptrV bs, ptrV bt, ptrV be], .func (.func 61) #[] #[ptrV bs, ptrV be], .func (.func 63) #[] #[ptrV bs, ptrV bt]]
theorem ap_enter : ∀ i, i < 4 → ∀ x w, (callFunc (apF i) x).run Tryz.prog w = .ok (.enter (apF i) x) w := by
  intro i hi x w
  obtain rfl | rfl | rfl | rfl : i = 0 ∨ i = 1 ∨ i = 2 ∨ i = 3 := by omega
  · exact enter_of Tryz.func56 (by kernel_rfl) rfl x w
  · exact enter_of Tryz.func58 (by kernel_rfl) rfl x w
  · exact enter_of Tryz.func61 (by kernel_rfl) rfl x w
  · exact enter_of Tryz.func63 (by kernel_rfl) rfl x w
section
variable {w4 : World} {K : DK} {J : LK} {G : GK} {S : LS} {V : GV} {D : DS} {bs bt be gF : Nat} {A : Option Addr} {n c : Nat} {t : List Int}
/-- the boxes, and what the steps read. -/
structure A0 (K : DK) (G : GK) (bs bt be gF : Nat) (A : Option Addr) (n c : Nat) (t : List Int) (W : World) : Prop where
  s : W.heap[bs]? = some (.cells #[.pointer (some ⟨G.g, 0, none⟩)] 42 (0, 0))
  tt : W.heap[bt]? = some (.cells #[.slice A n c] 38 (0, 0))
  f : W.heap[gF]? = some (.cells (apV bs bt be) 82 (0, 0))
  b : Byt W A c t
/-- what all steps stand on. -/
structure AH (w4 : World) (K : DK) (J : LK) (G : GK) (S : LS) (V : GV) (D : DS) (bs bt be gF : Nat) (A : Option Addr) (n : Nat) (t : List Int) : Prop where
  sg : Sg w4 K J G S V
  dsk : Dsk w4 K D
  ti : InB t
  tl : t.length = n
  hn : n ≤ 9223372036854775807
  hN : V.T.length ≤ 16384
  laid : Seal.SLaid w4
  tab : be ∉ Tab
  hend : S.from_ + S.secs ≤ D.secs
  hw : D.writes ≤ 576460752303423488
  lt : bs < w4.heap.size ∧ bt < w4.heap.size ∧ be < w4.heap.size ∧ gF < w4.heap.size
  ne : bs ≠ be ∧ bt ≠ be ∧ gF ≠ be
  nb : ∀ q, q = bs ∨ q = bt ∨ q = be ∨ q = gF → q ∉ K.bl ∧ q ∉ J.bl ∧ q ∉ G.bl ∧ q ∉ G.tx ∧ q ∉ J.tx
  tb : 0 < t.length → ∀ a, A = some a → a.block ∉ K.bl ∧ a.block ∉ J.bl ∧ a.block ∉ G.bl ∧ a.block ≠ be
theorem A0.chg {X : List Nat} {W W' : World} (H : AH w4 K J G S V D bs bt be gF A n t) (h : A0 K G bs bt be gF A n c t W) (hc : Chg X W W') (hX : ∀ q ∈ X, q = be ∨ q ∈ K.bl ∨ q ∈ J.bl ∨ q ∈ G.bl) : A0 K G bs bt be gF A n c t W' := by
  have hnot : ∀ q, (q = bs ∨ q = bt ∨ q = gF) → q ∉ X := fun q hq hm => by
    have hb := H.nb q (by rcases hq with h | h | h <;> simp [h])
    rcases hX q hm with e | e | e | e
    · have := H.ne; rcases hq with h | h | h <;> omega
    · exact hb.1 e
    · exact hb.2.1 e
    · exact hb.2.2.1 e
  refine ⟨hc.at h.s (hnot _ (.inl rfl)), hc.at h.tt (hnot _ (.inr (.inl rfl))), hc.at h.f (hnot _ (.inr (.inr rfl))), byt_chg h.b hc (fun h0 a ha hm => ?_)⟩
  have := H.tb h0 a ha
  rcases hX _ hm with e | e | e | e
  · exact this.2.2.2 e
  · exact this.1 e
  · exact this.2.1 e
  · exact this.2.2.1 e
def AI (w4 : World) (K : DK) (J : LK) (G : GK) (S : LS) (V : GV) (D : DS) (bs bt be gF : Nat) (A : Option Addr) (n c : Nat) (t : List Int) : Nat → World → Prop
  | 0, W => A0 K G bs bt be gF A n c t W ∧ W.heap[be]? = some (.cells #[.slice none 0 0] 38 (0, 0)) ∧ Below w4.heap.size w4 W
  | 1, W => refX D S V n = 0 ∧ A0 K G bs bt be gF A n c t W ∧ W.heap[be]? = some (.cells #[.slice none 0 0] 38 (0, 0)) ∧ Below w4.heap.size w4 W
  | 2, W => refX D S V n = 0 ∧ A0 K G bs bt be gF A n c t W ∧ SeR be w4.heap.size (recL V t) undef W ∧ Chg [be] w4 W
  | 3, W => refX D S V n = 0 ∧ (appD D S (recL V t)).2.2 = 0 ∧ A0 K G bs bt be gF A n c t W ∧ ∃ J', AR w4 K J G (be :: (K.bl ++ J.bl ++ G.bl)) (appD D S (recL V t)).1 (appD D S (recL V t)).2.1 V J' G W
  | _, W => (appG D S V t).2.2.2 = 0 ∧ ∃ J' G', AR w4 K J G (be :: (K.bl ++ J.bl ++ G.bl)) (appG D S V t).1 (appG D S V t).2.1 (appG D S V t).2.2.1 J' G' W
def AQ (w4 : World) (K : DK) (J : LK) (G : GK) (S : LS) (V : GV) (D : DS) (be : Nat) (t : List Int) (x : Int) (W : World) : Prop := x = (appG D S V t).2.2.2 ∧ ∃ J' G', AR w4 K J G (be :: (K.bl ++ J.bl ++ G.bl)) (appG D S V t).1 (appG D S V t).2.1 (appG D S V t).2.2.1 J' G' W
variable (H : AH w4 K J G S V D bs bt be gF A n t)
include H
theorem astep0 {W : World} (h : AI w4 K J G S V D bs bt be gF A n c t 0 W) : Calls Tryz.prog (apF 0) (apC bs bt be 0) W (StepQ (AI w4 K J G S V D bs bt be gF A n c t 1) (AQ w4 K J G S V D be t)) := by
  obtain ⟨h0, he, hb⟩ := h
  refine (app1_any (H.sg.later hb) (H.dsk.later hb) h0.s h0.tt H.hn).mono ?_
  rintro e W' ⟨rfl, hb2⟩
  have hb3 : Below w4.heap.size w4 W' := hb.trans (hb2.mono hb.size)
  refine ⟨_, rfl, ?_⟩
  by_cases hx : refX D S V n = 0
  · exact .inl ⟨hx, hx, h0.chg H (Chg.of_below (S := []) hb2) (by simp), (hb2.block _ (Array.getElem?_eq_some_iff.1 he).1).trans he, hb3⟩
  · have e := appG_ref (D := D) (S := S) (V := V) (t := t) (by rw [H.tl]; exact hx)
    rw [H.tl] at e
    refine .inr ⟨hx, by rw [e], J, G, ?_⟩
    rw [e]
    exact ⟨H.sg.later hb3, H.dsk.later hb3, rfl, rfl, Chg.of_below hb3, fun _ h => .inl h, fun _ h => .inl h, fun _ h => .inl h, fun _ h => .inl h⟩
theorem astep1 {W : World} (h : AI w4 K J G S V D bs bt be gF A n c t 1 W) : Calls Tryz.prog (apF 1) (apC bs bt be 1) W (StepQ (AI w4 K J G S V D bs bt be gF A n c t 2) (AQ w4 K J G S V D be t)) := by
  obtain ⟨hx, h0, he, hb⟩ := h
  obtain ⟨r1, r2, r3, r4, r5⟩ := ref_zero hx
  have hbe := H.nb be (.inr (.inr (.inl rfl)))
  refine (app2_any (ev := .slice none 0 0) (H.sg.later hb) h0.s h0.tt he ⟨H.ne.1, H.ne.2.1, fun e => hbe.2.2.1 (by rw [← e]; simp [GK.bl]), fun a ha e => hbe.2.2.2.1 (by rw [← e]; simp [GK.tx, ha]), fun h1 a ha => (H.tb h1 a ha).2.2.2⟩ h0.b H.ti H.tl r2 H.hN (H.laid.later hb) H.tab).mono ?_
  rintro e W' ⟨rfl, hc, v, hv1, hv2⟩
  refine ⟨0, rfl, .inl ⟨rfl, hx, h0.chg H hc (by simp), ⟨v, hv1, ?_⟩, (Chg.of_below hb).trans hc⟩⟩
  exact Seal.OwnB.base hv2 hb.size
theorem astep2 {W : World} (h : AI w4 K J G S V D bs bt be gF A n c t 2 W) : Calls Tryz.prog (apF 2) (apC bs bt be 2) W (StepQ (AI w4 K J G S V D bs bt be gF A n c t 3) (AQ w4 K J G S V D be t)) := by
  obtain ⟨hx, h0, ⟨v, hv1, hv2⟩, hc⟩ := h
  obtain ⟨r1, r2, r3, r4, r5⟩ := ref_zero hx
  have hbe := H.nb be (.inr (.inr (.inl rfl)))
  have hbs := H.nb bs (.inl rfl)
  have hsg : Sg W K J G S V := H.sg.chg hc (fun q hq => by simp; rintro rfl; exact hbe.2.1 hq) (fun q hq => by simp; rintro rfl; exact hbe.2.2.2.2 hq) (fun q hq => by simp; rintro rfl; exact hbe.2.2.1 hq) (fun q hq => by simp; rintro rfl; exact hbe.2.2.2.1 hq)
  have hdk : Dsk W K D := H.dsk.chg hc (by simp; intro e; exact hbe.1 (by rw [← e]; simp [DK.bl])) (by simp; intro e; exact hbe.1 (by rw [← e]; simp [DK.bl]))
  obtain ⟨A5, c5, rfl⟩ := own_nilK hv2
  have hsl := Seal.OwnB.sl hv2
  obtain ⟨A5', c5', e5, hb5⟩ := hsl
  cases e5
  have hK : ∀ q ∈ K.bl, q < w4.heap.size := fun q hq => by
    simp [DK.bl] at hq
    rcases hq with rfl | rfl
    · exact H.dsk.glt
    · exact H.dsk.hlt
  refine (app3_any hsg hdk h0.s hv1 rfl hb5 (fun a ha hm => by subst ha; have := (World.ownsRow.lt hv2 a.block rfl).1; have := hK _ hm; omega) (Seal.sealL_in H.ti) ⟨hbs.1, hbs.2.1, fun e => hbs.2.2.1 (by rw [e]; simp [GK.bl])⟩ H.hend H.hw).mono ?_
  rintro e W' ⟨rfl, J', w1, hQ, rfl⟩
  refine ⟨_, rfl, ?_⟩
  have hsg1 := (hsg.app hQ).lose ((appD D S (recL V t)).2.2 != 0)
  have hGK : G.g ∉ K.bl := (H.sg.kap _ (by simp [GK.bl])).1
  have hc1 : Chg [G.g] w1 (w1.setCell ⟨G.g, 38, none⟩ (.bool ((appD D S (recL V t)).2.2 != 0))) := (Chg.refl [G.g] w1).setCell (by simp) _
  have hdk1 : Dsk (w1.setCell ⟨G.g, 38, none⟩ (.bool ((appD D S (recL V t)).2.2 != 0))) K (appD D S (recL V t)).1 := hQ.dsk.chg hc1 (by simp; intro e; exact hGK (by rw [← e]; simp [DK.bl])) (by simp; intro e; exact hGK (by rw [← e]; simp [DK.bl]))
  have hch : Chg (be :: (K.bl ++ J.bl ++ G.bl)) w4 (w1.setCell ⟨G.g, 38, none⟩ (.bool ((appD D S (recL V t)).2.2 != 0))) :=
    ((hc.mono (fun k hk => .inl (by simp at hk; simp [hk]))).trans (hQ.chg.mono (fun k hk => .inl (by rcases List.mem_append.1 hk with hk | hk <;> simp [hk])))).trans (hc1.mono (fun k hk => .inl (by simp at hk; simp [hk, GK.bl])))
  have hcW : Chg (K.bl ++ J.bl ++ [G.g]) W (w1.setCell ⟨G.g, 38, none⟩ (.bool ((appD D S (recL V t)).2.2 != 0))) :=
    (hQ.chg.mono (fun k hk => .inl (by rcases List.mem_append.1 hk with hk | hk <;> simp [hk]))).trans (hc1.mono (fun k hk => .inl (by simp at hk; simp [hk])))
  have hnew : ∀ V', Sg (w1.setCell ⟨G.g, 38, none⟩ (.bool ((appD D S (recL V t)).2.2 != 0))) K J' G (appD D S (recL V t)).2.1 V' → AR w4 K J G (be :: (K.bl ++ J.bl ++ G.bl)) (appD D S (recL V t)).1 (appD D S (recL V t)).2.1 V' J' G (w1.setCell ⟨G.g, 38, none⟩ (.bool ((appD D S (recL V t)).2.2 != 0))) := fun V' hV =>
    ⟨hV, hdk1, hQ.g, rfl, hch, fun q hq => (hQ.bl q hq).imp id (fun h => Nat.le_trans hc.size h), fun q hq => (hQ.tx q hq).imp id (fun h => Nat.le_trans hc.size h), fun _ h => .inl h, fun _ h => .inl h⟩
  by_cases hz : (appD D S (recL V t)).2.2 = 0
  · refine .inl ⟨hz, hx, hz, h0.chg H hcW (fun q hq => ?_), J', hnew V ?_⟩
    · rcases List.mem_append.1 hq with hq | hq
      · rcases List.mem_append.1 hq with hq | hq
        · exact .inr (.inl hq)
        · exact .inr (.inr (.inl hq))
      · simp at hq; subst hq; exact .inr (.inr (.inr (by simp [GK.bl])))
    · have e1 : ((appD D S (recL V t)).2.2 != 0) = false := by rw [hz]; rfl
      rw [e1] at hsg1 ⊢
      have e2 : { V with lost := false } = V := by cases V; simp_all
      rwa [e2] at hsg1
  · have e := appG_no (D := D) (S := S) (V := V) (t := t) (by rw [H.tl]; exact hx) hz
    refine .inr ⟨hz, by rw [e], J', G, ?_⟩
    rw [e]
    refine hnew _ ?_
    have e1 : ((appD D S (recL V t)).2.2 != 0) = true := by simpa using hz
    rw [e1] at hsg1 ⊢
    exact hsg1
theorem astep3 {W : World} (h : AI w4 K J G S V D bs bt be gF A n c t 3 W) : Calls Tryz.prog (apF 3) (apC bs bt be 3) W (StepQ (AI w4 K J G S V D bs bt be gF A n c t 4) (AQ w4 K J G S V D be t)) := by
  obtain ⟨hx, hz, h0, J', hr⟩ := h
  obtain ⟨r1, r2, r3, r4, r5⟩ := ref_zero hx
  have hbs := H.nb bs (.inl rfl)
  have hbt := H.nb bt (.inr (.inl rfl))
  have hK : ∀ q ∈ K.bl, q < W.heap.size := fun q hq => by
    simp [DK.bl] at hq
    rcases hq with rfl | rfl
    · exact hr.dsk.glt
    · exact hr.dsk.hlt
  refine (app4_any hr.sg hK h0.s h0.tt ⟨hbs.2.2.1, hbt.2.2.1⟩ h0.b H.ti H.tl r2 (Nat.le_trans H.hN (by decide))).mono ?_
  rintro e W' ⟨rfl, G', hk⟩
  have e := appG_ok (D := D) (S := S) (V := V) (t := t) (by rw [H.tl]; exact hx) hz
  refine ⟨0, rfl, .inl ⟨rfl, by rw [e], J', G', ?_⟩⟩
  rw [e]
  refine ⟨hk.sg, hr.dsk.chg hk.chg (fun hm => (hr.sg.kap _ hm).1 (by simp [DK.bl])) (fun hm => (hr.sg.kap _ hm).1 (by simp [DK.bl])), hr.jg, hk.g, hr.chg.trans (hk.chg.mono (fun k hk => .inl (by simp [hk]))), hr.jbl, hr.jtx, fun q hq => (hk.bl q hq).imp id (fun h => Nat.le_trans hr.chg.size h), fun q hq => (hk.tx q hq).imp id (fun h => Nat.le_trans hr.chg.size h)⟩
theorem asteps_any {W : World} (h : AI w4 K J G S V D bs bt be gF A n c t 0 W) : Calls Tryz.prog 41 #[.slice (some ⟨gF, 0, none⟩) 4 4] W (StepQ (AI w4 K J G S V D bs bt be gF A n c t 4) (AQ w4 K J G S V D be t)) := by
  refine first_any (m := 4) (by decide) apF ap_enter (apC bs bt be) (AI w4 K J G S V D bs bt be gF A n c t) (AQ w4 K J G S V D be t) ?_ ?_ W h
  · intro i W hi hI
    have hfs : W.heap[gF]? = some (.cells (apV bs bt be) 82 (0, 0)) := by
      obtain rfl | rfl | rfl | rfl : i = 0 ∨ i = 1 ∨ i = 2 ∨ i = 3 := by omega
      · exact hI.1.f
      · exact hI.2.1.f
      · exact hI.2.1.f
      · exact hI.2.2.1.f
    rw [cell_row hfs]
    obtain rfl | rfl | rfl | rfl : i = 0 ∨ i = 1 ∨ i = 2 ∨ i = 3 := by omega
    all_goals rfl
  · intro i W hi hI
    obtain rfl | rfl | rfl | rfl : i = 0 ∨ i = 1 ∨ i = 2 ∨ i = 3 := by omega
    · exact astep0 H hI
    · exact astep1 H hI
    · exact astep2 H hI
    · exact astep3 H hI
end
set_option maxRecDepth 100000 in
set_option maxHeartbeats 2000000 in
theorem gappend_any {w : World} {K : DK} {J : LK} {G : GK} {S : LS} {V : GV} {D : DS} (h : Sg w K J G S V) (hd : Dsk w K D) (A : Option Addr) (n c : Nat) (t : List Int) (htl : t.length = n) (hB : Byt w A c t) (hA : 0 < t.length → ∀ a, A = some a → a.block ∉ K.bl ∧ a.block ∉ J.bl ∧ a.block ∉ G.bl) (ht : InB t) (hn : n ≤ 9223372036854775807) (hN : V.T.length ≤ 16384) (hLd : Seal.SLaid w) (hend : S.from_ + S.secs ≤ D.secs) (hw : D.writes ≤ 576460752303423488) :
    Calls Tryz.prog 27 #[G.ptr, .slice A n c] w fun e w' => e = .returned (.int .i64 (appG D S V t).2.2.2) ∧ ∃ J' G', AR w K J G (K.bl ++ J.bl ++ G.bl) (appG D S V t).1 (appG D S V t).2.1 (appG D S V t).2.2.1 J' G' w' := by
  obtain ⟨w3, hw3⟩ : ∃ w3, w3 = ((w.alloc (.cells #[.pointer (some ⟨G.g, 0, none⟩)] 42)).alloc (.cells #[.slice A n c] 38)).alloc (.cells #[.slice none 0 0] 38) := ⟨_, rfl⟩
  obtain ⟨w4, hw4⟩ : ∃ w4, w4 = w3.alloc (.cells (apV w.heap.size (w.heap.size + 1) (w.heap.size + 1 + 1)) 82) := ⟨_, rfl⟩
  have hb3 : Below w.heap.size w w3 := by rw [hw3]; exact below3 w _ _ _
  have hs3 : w3.heap.size = w.heap.size + 3 := by rw [hw3, World.size_alloc, World.size_alloc, World.size_alloc]
  obtain ⟨t1, t2, t3⟩ := three_new w (.cells #[.pointer (some ⟨G.g, 0, none⟩)] 42) (.cells #[.slice A n c] 38) (.cells #[.slice none 0 0] 38)
  rw [← hw3] at t1 t2 t3
  have hb34 : Below w3.heap.size w3 w4 := by rw [hw4]; exact (Below.refl _ _).alloc (Nat.le_refl _) _
  have hs4 : w4.heap.size = w.heap.size + 4 := by rw [hw4, World.size_alloc, hs3]
  have hb4 : Below w.heap.size w w4 := hb3.trans (hb34.mono hb3.size)
  have hf4 : w4.heap[w3.heap.size]? = some (.cells (apV w.heap.size (w.heap.size + 1) (w.heap.size + 1 + 1)) 82 (0, 0)) := by rw [hw4]; exact Go.heap_alloc_new w3 _
  have hK : ∀ q ∈ K.bl, q < w.heap.size := fun q hq => by
    simp [DK.bl] at hq
    rcases hq with rfl | rfl
    · exact hd.glt
    · exact hd.hlt
  have hJ := jbl_lt h.lg
  have hG := gbl_lt h
  have hAH : AH w4 K J G S V D w.heap.size (w.heap.size + 1) (w.heap.size + 1 + 1) w3.heap.size A n t := by
    refine ⟨h.later hb4, hd.later hb4, ht, htl, hn, hN, hLd.later hb4, fun hm => by have := tab_lt hLd _ hm; omega, hend, hw, ⟨by omega, by omega, by omega, by omega⟩, ⟨by omega, by omega, by omega⟩, fun q hq => ⟨fun hm => by have := hK q hm; omega, fun hm => by have := hJ q hm; omega, fun hm => by have := hG q hm; omega, fun hm => by have := h.tlt q hm; omega, fun hm => by have := h.lg.tlt q hm; omega⟩, fun h0 a ha => ⟨(hA h0 a ha).1, (hA h0 a ha).2.1, (hA h0 a ha).2.2, ?_⟩⟩
    obtain ⟨g, off, e, hg, _⟩ := hB.2.2 h0
    rw [ha] at e
    cases e
    show g ≠ _
    omega
  have hAI : AI w4 K J G S V D w.heap.size (w.heap.size + 1) (w.heap.size + 1 + 1) w3.heap.size A n c t 0 w4 :=
    ⟨⟨(hb34.block _ (by omega)).trans t1, (hb34.block _ (by omega)).trans t2, hf4, hB.below hb4 (Nat.le_refl _)⟩, (hb34.block _ (by omega)).trans t3, Below.refl _ _⟩
  have HAH := Lib.hid hAH
  have HAI := Lib.hid hAI
  have Hb4 := Lib.hid hb4
  have Hs4 := Lib.hid hs4
  unfold apV ptrV at hw4
  rw [hw3] at hw4
  have Hw4 := Lib.hid hw4
  have hsz3 : Hid (w3.heap.size = w.heap.size + 1 + 1 + 1) := hs3
  unfold GK.ptr
  clear h hd htl hB hA ht hn hN hLd hend hw hw3 hw4 hb3 hs3 t1 t2 t3 hb34 hs4 hb4 hf4 hK hJ hG hAH hAI
  go_enter Tryz.func27, Tryz.ntmps27
  go_wp2_with (go_at_call 41; rw [← Hw4.out, ← hsz3.out]; refine (asteps_any HAH.out HAI.out).mono ?_; rintro ee w5 ⟨x, rfl, hx⟩; have Hx := Lib.hid hx; clear hx)
  go_ret
  have hq : AQ w4 K J G S V D (w.heap.size + 1 + 1) t x w5 := by
    rcases Hx.out with h | h
    · exact ⟨by rw [h.1]; exact h.2.1.symm, h.2.2⟩
    · exact h.2
  obtain ⟨hx1, J', G', hr⟩ := hq
  refine ⟨by rw [← hx1]; rfl, J', G', ?_⟩
  have h4 := Hb4.out
  have hsz := h4.size
  refine ⟨hr.sg, hr.dsk, hr.jg, hr.gg, ((Chg.of_below h4).trans hr.chg).mono (fun k hk => ?_), fun q hq => (hr.jbl q hq).imp id (fun h => Nat.le_trans hsz h), fun q hq => (hr.jtx q hq).imp id (fun h => Nat.le_trans hsz h), fun q hq => (hr.gbl q hq).imp id (fun h => Nat.le_trans hsz h), fun q hq => (hr.gtx q hq).imp id (fun h => Nat.le_trans hsz h)⟩
  rcases List.mem_cons.1 hk with rfl | hk
  · exact .inr (by omega)
  · exact .inl hk
end Go.Proofs.YtkjhoanlkkcfkaaGreatDoor.Sgm
