/- DERIVED. A disk and a segment that is open, in the law's own memory. -/
import Derived.Test.YtkjhoanlkkcfkaaGreatDoorSgmOpen
import Derived.Test.YtkjhoanlkkcfkaaGreatDoorSgmGood
import Derived.Test.YtkjhoanlkkcfkaaGreatDoorSgmTexts
import Derived.Test.YtkjhoanlkkcfkaaGreatDoorMseg17
import Derived.Test.YtkjhoanlkkcfkaaGreatDoorMseg15
import Derived.Test.YtkjhoanlkkcfkaaGreatDoorMseg16
namespace Go.Proofs.YtkjhoanlkkcfkaaGreatDoor.Sgm
open Go.RowKit Dsk Slt Epo
/-- a disk alone; w0: the world that the law begins with. -/
structure SD (w0 w : World) (K : DK) (D : DS) : Prop where
  dsk : Dsk w K D
  low : Below w0.heap.size w0 w
  kb : ∀ q ∈ K.bl, w0.heap.size ≤ q
  laid : Seal.SLaid w0
structure SE (w0 w : World) (K : DK) (D : DS) (J : LK) (G : GK) (S : LS) (V : GV) : Prop where
  sd : SD w0 w K D
  sg : Sg w K J G S V
  jn : ∀ q ∈ J.bl, w0.heap.size ≤ q
  jt : ∀ q ∈ J.tx, w0.heap.size ≤ q
  gn : ∀ q ∈ G.bl, w0.heap.size ≤ q
  gt : ∀ q ∈ G.tx, w0.heap.size ≤ q
theorem SD.kl {w0 w : World} {K : DK} {D : DS} (h : SD w0 w K D) : ∀ q ∈ K.bl, q < w.heap.size := fun q hq => by
  simp [DK.bl] at hq
  rcases hq with rfl | rfl
  · exact h.dsk.glt
  · exact h.dsk.hlt
theorem SD.lw {w0 w : World} {K : DK} {D : DS} (h : SD w0 w K D) : Seal.SLaid w := slaid_chg h.laid (X := []) (Chg.of_below h.low) (by simp)
theorem SD.kt {w0 w : World} {K : DK} {D : DS} (h : SD w0 w K D) : ∀ q ∈ K.bl, q ∉ Tab := fun q hq hm => by
  have := tab_lt h.laid q hm
  have := h.kb q hq
  omega
theorem SD.later {w0 w w' : World} {K : DK} {D : DS} (h : SD w0 w K D) (hb : Below w.heap.size w w') : SD w0 w' K D :=
  ⟨h.dsk.later hb, h.low.trans (hb.mono h.low.size), h.kb, h.laid⟩
theorem SD.chg {w0 w w' : World} {K : DK} {D D' : DS} {X : List Nat} (h : SD w0 w K D) (hd : Dsk w' K D') (hch : Chg X w w') (hX : ∀ q ∈ X, w0.heap.size ≤ q) : SD w0 w' K D' :=
  ⟨hd, hch.below h.low h.low.size (fun k hk => by have := hX k hk; omega), h.kb, h.laid⟩
theorem SE.later {w0 w w' : World} {K : DK} {D : DS} {J : LK} {G : GK} {S : LS} {V : GV} (h : SE w0 w K D J G S V) (hb : Below w.heap.size w w') : SE w0 w' K D J G S V :=
  ⟨h.sd.later hb, h.sg.later hb, h.jn, h.jt, h.gn, h.gt⟩
theorem SE.disk {w0 w w' : World} {K : DK} {D D' : DS} {J : LK} {G : GK} {S : LS} {V : GV} (h : SE w0 w K D J G S V) (hd : Dsk w' K D') (hc : Chg K.bl w w') : SE w0 w' K D' J G S V :=
  ⟨h.sd.chg hd hc h.sd.kb, h.sg.disk hc, h.jn, h.jt, h.gn, h.gt⟩
theorem sd_new (n : Nat) (w : World) (hL : Seal.SLaid w) (h1 : 1 ≤ n) (h2 : n ≤ 16384) : Calls Tryz.prog 9 #[.int .i64 n] w fun e w' => ∃ K : DK, e = .returned (.tuple #[.pointer (some ⟨K.g, 0, none⟩), .int .i64 0]) ∧ SD w w' K (newD n) :=
  (new_ok n w h1 h2).mono fun _ _ ⟨K, e, hd, hb, hg, hh⟩ => ⟨K, e, hd, hb, fun q hq => by
    simp [DK.bl] at hq
    rcases hq with rfl | rfl
    · exact hg
    · exact hh, hL⟩
theorem seals_short (k C : List Int) (most : Nat) : ∀ (r : List (List Int × Nat)) (i least : Nat), Ris most least r → ∀ t ∈ sealsL k C i r, t.length ≤ 200000 := by
  intro r
  induction r with
  | nil => intro i least _ t ht; cases ht
  | cons x r ih =>
    intro i least h t ht
    rcases List.mem_cons.1 ht with rfl | ht
    · rw [Seal.sealL_length _ _ _ _ h.1.2]
      have := (Seal.bkt_le h.1.2).1
      omega
    · exact ih _ _ h.2.2.2 t ht
/-- it has as many sectors as ever. -/
theorem opn_secs {D : DS} {k C : List Int} {v : Nat} {R : List (List Int × Nat)} (h : DG D k C v R) (hv : v < 1024) (ho : D.off = false) {key C' : List Int} {cs : List (List Int)} {e : Bool} (hx : opnX D key C' cs e = 0) : (opnD D key C' cs e).secs = D.secs := by
  have hvD : vD D = v := h.cnt.lead1
  have h0 : xs0 D = 0 := Decidable.byContradiction fun h0 => by rw [(opn_x0 h0).1] at hx; exact h0 hx
  have h1 : xs1 e = 0 := Decidable.byContradiction fun h1 => by rw [(opn_x1 h0 h1).1] at hx; exact h1 hx
  have h2 : xs2 (opnR D key C' cs) = 0 := Decidable.byContradiction fun h2 => by rw [(opn_x2 h0 h1 h2).1] at hx; exact h2 hx
  rw [(opn_x3 h0 h1 h2).2, hvD]
  have hN := next_q D 0 v ho (by have := h.w128; have := h.n9; omega)
  have hnD : nxtD D v = (nextD D 0 v).1 := by unfold nxtD; rw [if_neg (by omega)]
  rw [hnD]
  unfold DS.secs
  rw [hN.len]
/-- a segment that is new, and nothing changed but the disk. -/
structure Fresh (w w' : World) (K : DK) (J : LK) (G : GK) : Prop where
  chg : Chg K.bl w w'
  jn : ∀ q ∈ J.bl, w.heap.size ≤ q
  jt : ∀ q ∈ J.tx, w.heap.size ≤ q
  gn : ∀ q ∈ G.bl, w.heap.size ≤ q
  gt : ∀ q ∈ G.tx, w.heap.size ≤ q
set_option maxHeartbeats 1000000 in
/-- Open on a good disk. -/
theorem sd_open {w0 w : World} {K : DK} {D : DS} (h : SD w0 w K D) {key : List Int} (hk : key.length = 32) (hkb : InB key) (s : ByteArray) (hs : s.size ≤ 100) (lv : Int) (cp : Nat) {v : Nat} {R : List (List Int × Nat)} (hg : DG D key (ctxL s lv cp) v R) (hv : v < 1024) (ho : D.off = false) (hl : D.laid = false) (hw : D.writes ≤ 1152921504606846976) :
    Calls Tryz.prog 18 #[.pointer (some ⟨K.g, 0, none⟩), .agg (u8s key), .string s, .agg #[.int .i64 lv, .int .u64 (cp : Nat)]] w fun e w' => ∃ J G D' S, e = .returned (.tuple #[G.ptr, .int .i64 0]) ∧ SE w0 w' K D' J G S ⟨key, ctxL s lv cp, v + 1, R.map (·.1), false⟩ ∧ SGd D' S ⟨key, ctxL s lv cp, v + 1, R.map (·.1), false⟩ R ∧ D'.laid = false ∧ D'.writes ≤ D.writes + 1 ∧ D'.secs = D.secs ∧ Fresh w w' K J G := by
  obtain ⟨cs, Rr, e, hr⟩ := reads_all _ (logL D) (Nat.le_refl _)
  obtain ⟨q1, q2, q3, q4, q5, q6, q7, q8⟩ := open_good hg hv ho hl hr
  refine (open_any h.dsk hg.n9 hw key hk hkb s hs lv cp hr (by rw [q3]; exact seals_short _ _ _ _ _ _ hg.ris) h.lw h.kt h.kl).mono ?_
  rintro ee w' ⟨p, rfl, hd, hc, hS⟩
  unfold SgW at hS
  rw [if_pos q1] at hS
  obtain ⟨J, G, T, rfl, hT, hN⟩ := hS
  rw [q2] at hT
  cases hT
  rw [q4] at hN
  rw [q1]
  have hsz := h.low.size
  exact ⟨J, G, _, _, rfl, ⟨h.chg hd hc h.kb, hN.sg, fun q hq => Nat.le_trans hsz (hN.jn q hq), fun q hq => Nat.le_trans hsz (hN.jt q hq), fun q hq => Nat.le_trans hsz (hN.gn q hq), fun q hq => Nat.le_trans hsz (hN.gt q hq)⟩, q8 _ rfl, q6, q7, opn_secs hg hv ho q1, hc, hN.jn, hN.jt, hN.gn, hN.gt⟩
/-- a key that opens nothing. -/
theorem open_bad {D : DS} {k C k2 : List Int} {v : Nat} {R : List (List Int × Nat)} (h : DG D k C v R) (ho : D.off = false) {cs : List (List Int)} {Rr : List Int} {e : Bool} (hr : Reads (logL D) cs Rr e) (hn : opensL k2 C v 0 1 (sealsL k C 0 R) = none) :
    opnX D k2 C cs e = 9 ∧ opnD D k2 C cs e = D ∧ cs.map textC = sealsL k C 0 R := by
  obtain ⟨u, hu⟩ := h.log
  rw [← logL_reg] at hu
  obtain ⟨rfl, hcs, hus⟩ := log_reads hu hr
  have hvD : vD D = v := h.cnt.lead1
  have hx0 : xs0 D = 0 := by unfold xs0; rw [ho, if_neg (by decide)]; exact h.cnt.te
  have hR : opnR D k2 C cs = none := by
    unfold opnR
    rw [hvD, hcs]
    exact hn
  have hx2 : xs2 (opnR D k2 C cs) = 9 := by rw [hR]; rfl
  obtain ⟨e1, e2⟩ := opn_x2 (e := false) hx0 rfl (by rw [hx2]; decide)
  exact ⟨by rw [e1, hx2], e2, hcs⟩
set_option maxHeartbeats 1000000 in
theorem se_other {w0 w : World} {K : DK} {D : DS} {J : LK} {G : GK} {S : LS} {V : GV} (h : SE w0 w K D J G S V) {k key C : List Int} (hk : key.length = 32) (hkb : InB key) (s : ByteArray) (hs : s.size ≤ 100) (lv : Int) (cp : Nat) (hC : ctxL s lv cp = C) {v : Nat} {R : List (List Int × Nat)} (hg : DG D k C v R) (hn : opensL key C v 0 1 (sealsL k C 0 R) = none) (ho : D.off = false) (hw : D.writes ≤ 1152921504606846976) :
    Calls Tryz.prog 18 #[.pointer (some ⟨K.g, 0, none⟩), .agg (u8s key), .string s, .agg #[.int .i64 lv, .int .u64 (cp : Nat)]] w fun e w' => e = .returned (.tuple #[.pointer none, .int .i64 9]) ∧ SE w0 w' K D J G S V := by
  subst hC
  obtain ⟨cs, Rr, e, hr⟩ := reads_all _ (logL D) (Nat.le_refl _)
  obtain ⟨q1, q2, q3⟩ := open_bad hg ho hr hn
  refine (open_any h.sd.dsk hg.n9 hw key hk hkb s hs lv cp hr (by rw [q3]; exact seals_short _ _ _ _ _ _ hg.ris) h.sd.lw h.sd.kt h.sd.kl).mono ?_
  rintro ee w' ⟨p, rfl, hd, hc, hS⟩
  unfold SgW at hS
  rw [if_neg (by rw [q1]; decide)] at hS
  cases hS
  rw [q2] at hd
  rw [q1]
  exact ⟨rfl, h.disk hd hc⟩
theorem se_epoch {w0 w : World} {K : DK} {D : DS} {J : LK} {G : GK} {S : LS} {V : GV} (h : SE w0 w K D J G S V) : Calls Tryz.prog 26 #[G.ptr] w fun e w' => e = .returned (.int .i64 (V.ep : Nat)) ∧ w = w' := epoch_any h.sg
theorem se_texts {w0 w : World} {K : DK} {D : DS} {J : LK} {G : GK} {S : LS} {V : GV} (h : SE w0 w K D J G S V) (hN : V.T.length ≤ 16384) : Calls Tryz.prog 20 #[G.ptr] w fun e w' => ∃ g, e = .returned (.slice (some ⟨g, 0, none⟩) V.T.length V.T.length) ∧ Slt.Rows w.heap.size V.T V.T.length V.T.length g w' ∧ SE w0 w' K D J G S V ∧ Below w.heap.size w w' :=
  (texts_any h.sg hN).mono fun _ _ ⟨g, e, hr, hb⟩ => ⟨g, e, hr, h.later hb, hb⟩
set_option maxHeartbeats 1000000 in
/-- Append, the text anywhere else. -/
theorem se_append {w0 w : World} {K : DK} {D : DS} {J : LK} {G : GK} {S : LS} {V : GV} (h : SE w0 w K D J G S V) (A : Option Addr) (n c : Nat) (t : List Int) (htl : t.length = n) (hB : Byt w A c t) (hA : 0 < t.length → ∀ a, A = some a → a.block ∉ K.bl ∧ a.block ∉ J.bl ∧ a.block ∉ G.bl) (ht : InB t) (hn : n ≤ 131068) (hN : V.T.length ≤ 16384) (hend : S.from_ + S.secs ≤ D.secs) (hw : D.writes ≤ 576460752303423488) :
    Calls Tryz.prog 27 #[G.ptr, .slice A n c] w fun e w' => e = .returned (.int .i64 (appG D S V t).2.2.2) ∧ ∃ J' G', G'.g = G.g ∧ SE w0 w' K (appG D S V t).1 J' G' (appG D S V t).2.1 (appG D S V t).2.2.1 ∧ Chg (K.bl ++ J.bl ++ G.bl) w w' ∧ (∀ q ∈ K.bl ++ J.bl ++ G.bl, w0.heap.size ≤ q) ∧ AR w K J G (K.bl ++ J.bl ++ G.bl) (appG D S V t).1 (appG D S V t).2.1 (appG D S V t).2.2.1 J' G' w' := by
  refine (gappend_any h.sg h.sd.dsk A n c t htl hB hA ht (by omega) hN h.sd.lw hend hw).mono ?_
  rintro e w' ⟨rfl, J', G', hR⟩
  have hsz := h.sd.low.size
  have hX : ∀ q ∈ K.bl ++ J.bl ++ G.bl, w0.heap.size ≤ q := fun q hq => by
    rcases List.mem_append.1 hq with hq | hq
    · rcases List.mem_append.1 hq with hq | hq
      · exact h.sd.kb q hq
      · exact h.jn q hq
    · exact h.gn q hq
  refine ⟨rfl, J', G', hR.gg, ⟨h.sd.chg hR.dsk hR.chg hX, hR.sg, fun q hq => ?_, fun q hq => ?_, fun q hq => ?_, fun q hq => ?_⟩, hR.chg, hX, hR⟩
  · exact (hR.jbl q hq).elim (h.jn q) (fun h2 => Nat.le_trans hsz h2)
  · exact (hR.jtx q hq).elim (h.jt q) (fun h2 => Nat.le_trans hsz h2)
  · exact (hR.gbl q hq).elim (h.gn q) (fun h2 => Nat.le_trans hsz h2)
  · exact (hR.gtx q hq).elim (h.gt q) (fun h2 => Nat.le_trans hsz h2)
end Go.Proofs.YtkjhoanlkkcfkaaGreatDoor.Sgm
