/- DERIVED. The calls of SegmentCrash, over what its walk keeps. -/
import Derived.Test.YtjjdmdnklbdjcaaGreatDoorSgmCw
namespace Go.Proofs.YtjjdmdnklbdjcaaGreatDoor.Sgm
open Go.RowKit Dsk Slt Epo
/-- what a reopening leaves. -/
structure RO (i n : Nat) (key C : List Int) (V : GV) (qs : List Tp) (mb : Tp) (D' : DS) (S' : LS) (V' : GV) : Prop where
  ep : V'.ep = V.ep + 1
  lost : V'.lost = false
  same : V'.T = qs.map (·.M) ∨ (V.lost = true ∧ V'.T = qs.map (·.M) ++ [mb.M])
  ci : ∀ qs' mb', qs'.map (·.M) = V'.T → CI (i + 1) n key C D' S' V' qs' mb'
  tn : V'.T.length ≤ 1000
section
variable {w0 wr : World} {K : DK} {J : LK} {G : GK} {D : DS} {S : LS} {V : GV} {v : Value} {qs : List Tp} {i n : Nat} {key C : List Int} {mb : Tp}
theorem c_append (h : CW w0 wr K J G D S V v qs) (hg : CI i n key C D S V qs mb) (hi : i < 20) (t : Tp) (hB : Byt w0 t.A t.c t.M) (hin : InB t.M) (m : Nat) (hm : t.M.length = m) (hl : m ≤ 3000) :
    Calls Tryz.prog 16 #[.pointer (some ⟨G.g, 0, none⟩), .slice t.A m t.c] wr fun e w' => e = .returned (.int .i64 (appG D S V t.M).2.2.2) ∧ ∃ J' G', G'.g = G.g ∧ CW w0 w' K J' G' (appG D S V t.M).1 (appG D S V t.M).2.1 (appG D S V t.M).2.2.1 v qs := by
  have hw := hg.wr
  have htn := hg.tn
  have h9 := hg.n9
  have hs := hg.secs
  refine (se_append h.se t.A m t.c t.M hm (hB.below h.low (Nat.le_refl _)) (fun h0 a ha => ?_) hin (by omega) (by omega) (by rw [hg.from_, hg.ss]; omega) (by omega)).mono ?_
  · obtain ⟨g, off, e, hlt, _⟩ := hB.2.2 h0
    rw [e] at ha
    cases ha
    exact ⟨fun hm => by have := h.se.sd.kb _ hm; simp only at this; omega, fun hm => by have := h.se.jn _ hm; simp only at this; omega, fun hm => by have := h.se.gn _ hm; simp only at this; omega⟩
  · rintro e w' ⟨rfl, J', G', hgg, hs', _, _, q⟩
    exact ⟨rfl, J', G', hgg, h.app hs' q⟩
theorem c_cut (h : CW w0 wr K J G D S V v qs) (hg : CI i n key C D S V qs mb) (k : Int) (m : List Int) (hk : k ≤ 9223372036854775807) (hm : m.length = 16) (hb : InB m) :
    Calls Tryz.prog 17 #[.pointer (some ⟨K.g, 0, none⟩), .int .i64 k, .agg (vals m).toArray] wr fun e w' => (∃ E, e = .returned (.int .i64 E)) ∧ ∃ D', CW w0 w' K J G D' S V v qs ∧ CI (i + 1) n key C D' S V qs mb := by
  refine (cut_any h.se.sd.dsk k m hk hm hb).mono ?_
  rintro e w' ⟨rfl, hd, hc⟩
  exact ⟨⟨_, rfl⟩, _, h.disk hc hd, hg.cut k m⟩
theorem c_reopen {s : ByteArray} {lv : Int} {cp sc : Nat} (h : CW w0 wr K J G D S V v qs) (hg : CI i n key (ctxL s lv cp) D S V qs mb) (hi : i ≤ 20) (hk : key.length = 32) (hkb : InB key) (hs : s.size ≤ 100) :
    Calls Tryz.prog 18 #[.pointer (some ⟨K.g, 0, none⟩), .agg #[.string s, .int .i64 lv, .int .u64 (cp : Nat), .int .u8 (sc : Nat)], .agg (u8s key)] wr fun e w' => ∃ J' G' D' S' V', e = .returned (.tuple #[.pointer (some ⟨G'.g, 0, none⟩), .int .i64 0]) ∧ CW w0 w' K J' G' D' S' V' v qs ∧ RO i n key (ctxL s lv cp) V qs mb D' S' V' := by
  have hep := hg.ep
  have hwr := hg.wr
  obtain ⟨R, hR, hT⟩ : ∃ R, DG D key (ctxL s lv cp) V.ep R ∧ (R.map (·.1) = qs.map (·.M) ∨ (V.lost = true ∧ R.map (·.1) = qs.map (·.M) ++ [mb.M])) := by
    cases hlo : V.lost with
    | false =>
      obtain ⟨R, h1, h2⟩ := hg.good hlo
      have h3 := h1.dg
      rw [hg.ke, hg.ce] at h3
      exact ⟨R, h3, .inl h2⟩
    | true =>
      obtain ⟨R, h1, h2⟩ := hg.bad hlo
      exact ⟨R, h1, h2.imp id (fun h3 => ⟨rfl, h3⟩)⟩
  have hlen : (R.map (·.1)).length ≤ i := by
    rcases hT with e | ⟨hlo, e⟩
    · rw [e, List.length_map]; exact hg.qn.1
    · rw [e, List.length_append, List.length_map]
      exact hg.qn.2 hlo
  refine (reopen_any h.se.sd hk hkb s hs lv cp sc hR (by omega) (by omega)).mono ?_
  rintro e w' ⟨J', G', D', S', rfl, h1, h2, h3, h4, h5, h6⟩
  refine ⟨J', G', D', S', _, rfl, h.open h1 h6, rfl, rfl, hT, fun qs' mb' hq => ?_, Nat.le_trans hlen (by omega)⟩
  have hql : qs'.length ≤ i := by
    have := congrArg List.length hq
    rw [List.length_map] at this
    rw [this]
    exact hlen
  exact ⟨h5.trans hg.secs, h2.from_, h2.secs, hg.n9, by push_cast; omega, by show V.ep + 1 ≤ _; omega, by show V.ep + 1 ≠ 0; omega, rfl, rfl, Nat.le_succ_of_le hlen, ⟨by omega, fun e => by cases e⟩, fun _ => ⟨R, h2, hq.symm⟩, fun e => by cases e⟩
theorem c_texts (h : CW w0 wr K J G D S V v qs) (hN : V.T.length ≤ 1000) : Calls Tryz.prog 19 #[.pointer (some ⟨G.g, 0, none⟩)] wr fun e w' => ∃ g, e = .returned (.slice (some ⟨g, 0, none⟩) V.T.length V.T.length) ∧ Slt.Rows wr.heap.size V.T V.T.length V.T.length g w' ∧ CW w0 w' K J G D S V v qs ∧ Below wr.heap.size wr w' :=
  (se_texts h.se (by omega)).mono fun _ _ ⟨g, e, hr, _, hb⟩ => ⟨g, e, hr, h.later hb, hb⟩
theorem c_epoch (h : CW w0 wr K J G D S V v qs) : Calls Tryz.prog 15 #[.pointer (some ⟨G.g, 0, none⟩)] wr fun e w' => e = .returned (.int .i64 (V.ep : Nat)) ∧ wr = w' := se_epoch h.se
theorem c_same (h : CW w0 wr K J G D S V v qs) (A A2 : Option Addr) (n m c c2 : Nat) (L M : List (List Int)) (hn : L.length = n) (hm : M.length = m) (h1 : TxAt wr A L) (h2 : TxAt wr A2 M) (hn1 : n ≤ 1000) (hm1 : m ≤ 1000) (e : L = M) :
    Calls Tryz.prog 20 #[.slice A n c, .slice A2 m c2] wr fun e w' => e = .returned (.bool true) ∧ CW w0 w' K J G D S V v qs ∧ Below wr.heap.size wr w' := by
  refine (lsame_any A A2 n m c c2 L M hn hm h1 h2 (by omega) (by omega)).mono ?_
  rintro e w' ⟨rfl, hb⟩
  rw [decide_eq_true e]
  exact ⟨rfl, h.later hb, hb⟩
end
theorem CI.start {n : Nat} (hn : 9 ≤ n) {key C : List Int} {D' : DS} {S' : LS} (h : SGd D' S' ⟨key, C, 1, [], false⟩ []) (hw : D'.writes ≤ 1) (hs : D'.secs = n) : CI 0 n key C D' S' ⟨key, C, 1, [], false⟩ [] ⟨none, 0, []⟩ :=
  ⟨hs, h.from_, h.secs, hn, by push_cast; omega, by show 1 ≤ 0 + 1; decide, by show 1 ≠ 0; decide, rfl, rfl, Nat.le_refl _, ⟨Nat.le_refl _, fun e => by cases e⟩, fun _ => ⟨[], h, rfl⟩, fun e => by cases e⟩
theorem appG_ep (D : DS) (S : LS) (V : GV) (t : List Int) : (appG D S V t).2.2.1.ep = V.ep := by
  unfold appG
  split
  · rfl
  split <;> rfl
/-- where an act lies. -/
theorem act_at {w : World} {A : Option Addr} {c : Nat} {xs : List Ac} (h : Acts w A c xs) (ok : ∀ x ∈ xs, x.Ok ∧ Byt w x.A x.cap x.L) (hx : ∀ x ∈ xs, x.L.length ≤ 3000) (i n : Nat) (hn : xs.length = n) (hi : i < n) : ∃ (b off : Nat) (x : Ac) (m : Nat), A = some ⟨b, off, none⟩ ∧ x.L.length = m ∧ m ≤ 3000 ∧ (∀ W, Below w.heap.size w W → W.cell? ⟨b, off + i * 20, none⟩ = some (.int .u8 x.what) ∧ W.cell? ⟨b, off + i * 20 + 1, none⟩ = some (.slice x.A m x.cap) ∧ W.cell? ⟨b, off + i * 20 + 2, none⟩ = some (.int .u8 x.whole) ∧ W.rangeAt b (off + i * 20 + 3) (vals x.mask)) ∧ x.Ok ∧ Byt w x.A x.cap x.L := by
  obtain ⟨b, off, hA, hg, hc⟩ := h.2.2 (by omega)
  have hxi : xs[i]? = some xs[i] := List.getElem?_eq_getElem (by omega)
  have hr := hc i _ hxi
  have hm := List.getElem_mem (show i < xs.length by omega)
  obtain ⟨ho, hB⟩ := ok _ hm
  refine ⟨b, off, xs[i], _, hA, rfl, hx _ hm, fun W hb => ⟨(hb.cell (p := ⟨b, off + i * 20, none⟩) hg).trans (hr 0 _ rfl), (hb.cell (p := ⟨b, off + i * 20 + 1, none⟩) hg).trans (hr 1 _ rfl), (hb.cell (p := ⟨b, off + i * 20 + 2, none⟩) hg).trans (hr 2 _ rfl), fun j v hv => (hb.cell (p := ⟨b, off + i * 20 + 3 + j, none⟩) hg).trans ?_⟩, ho, hB⟩
  rw [Nat.add_assoc]
  refine hr (3 + j) v ?_
  have hj : j < (vals xs[i].mask).length := (List.getElem?_eq_some_iff.1 hv).1
  rw [Ac.c, show 3 + j = j + 3 by omega]
  simp only [List.getElem?_cons_succ]
  rw [List.getElem?_append_left hj]
  exact hv
end Go.Proofs.YtjjdmdnklbdjcaaGreatDoor.Sgm
