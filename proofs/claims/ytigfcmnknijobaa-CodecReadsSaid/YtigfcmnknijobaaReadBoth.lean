/- DERIVED. Each read of the reference's reader, whatever its error; both readers side by side. -/
import Derived.Test.YtigfcmnknijobaaRefRdLabel2
namespace Go.Proofs.Ytigfcmnknijobaa.Cod
open Go.RowKit Str
theorem q_num {B g : Nat} {L : List Int} {e : Int} {w : World} (h : QE B g L e w) (hb : InB L) (hle : L.length ≤ 100000) (most : Nat) (hmo : most < 18446744073709551616) :
    Calls Try.prog 16 #[.pointer (some ⟨g, 0, none⟩), .int .u64 (most : Nat)] w fun en w' => en = .returned (.int .u64 ((readN L e most).1 : Nat)) ∧ QE B g (readN L e most).2.1 (readN L e most).2.2 w' ∧ Chg [g] w w' := by
  obtain ⟨K, h1, h0⟩ := h
  by_cases he : e = 0
  · subst he
    obtain rfl := h0 rfl
    exact (rnum_on h1 hb hle most hmo).mono fun en w' ⟨k1, k2, k3⟩ => ⟨k1, k2.e, k3⟩
  · rw [readN_off he]
    exact (rnum_off h1 he most).mono fun en w' ⟨k1, k2⟩ => by subst k2; exact ⟨k1, ⟨K, h1, h0⟩, Chg.refl _ _⟩
theorem q_text {B g : Nat} {L : List Int} {e : Int} {w : World} (h : QE B g L e w) (hb : InB L) (hle : L.length ≤ 100000) (most : Int) (b0 : most ≤ 9223372036854775807) :
    Calls Try.prog 18 #[.pointer (some ⟨g, 0, none⟩), .int .i64 most] w fun en w' => en = .returned (.string (strOfNums (rdOf [] L e (textR L most)).1)) ∧ QE B g (rdOf [] L e (textR L most)).2.1 (rdOf [] L e (textR L most)).2.2 w' ∧ Chg [g] w w' := by
  obtain ⟨K, h1, h0⟩ := h
  by_cases he : e = 0
  · subst he
    obtain rfl := h0 rfl
    rw [rdOf_ok]
    exact rtext_on h1 hb hle most b0
  · rw [rdOf_no he]
    exact (rtext_off h1 he most b0).mono fun en w' ⟨k1, k2⟩ => by subst k2; exact ⟨k1, ⟨K, h1, h0⟩, Chg.refl _ _⟩
theorem q_hash {B g : Nat} {L : List Int} {e : Int} {w : World} (h : QE B g L e w) (hB : B ≤ w.heap.size) :
    Calls Try.prog 20 #[.pointer (some ⟨g, 0, none⟩)] w fun en w' => en = .returned (.agg (u8s (rdOf z32 L e (hashR L)).1)) ∧ QE B g (rdOf z32 L e (hashR L)).2.1 (rdOf z32 L e (hashR L)).2.2 w' ∧ Chg [g] w w' := by
  obtain ⟨K, h1, h0⟩ := h
  by_cases he : e = 0
  · subst he
    obtain rfl := h0 rfl
    rw [rdOf_ok]
    exact rhash_on h1 hB
  · rw [rdOf_no he]
    exact (rhash_off h1 he hB).mono fun en w' ⟨k1, k2, k3⟩ => ⟨k1, k2.any he, k3⟩
theorem q_label {B g : Nat} {L : List Int} {e : Int} {w : World} (h : QE B g L e w) (hb : InB L) (hle : L.length ≤ 100000) (hB : B ≤ w.heap.size) :
    Calls Try.prog 22 #[.pointer (some ⟨g, 0, none⟩)] w fun en w' => en = .returned (.agg (labC (rdOf (0, 0) L e (labelR L)).1)) ∧ QE B g (rdOf (0, 0) L e (labelR L)).2.1 (rdOf (0, 0) L e (labelR L)).2.2 w' ∧ Chg [g] w w' := by
  obtain ⟨K, h1, h0⟩ := h
  by_cases he : e = 0
  · subst he
    obtain rfl := h0 rfl
    rw [rdOf_ok]
    exact rlabel_on h1 hb hle hB
  · rw [rdOf_no he]
    exact (rlabel_off h1 he hB).mono fun en w' ⟨k1, k2, k3⟩ => ⟨k1, k2.any he, k3⟩
theorem q_vertex {B g : Nat} {L : List Int} {e : Int} {w : World} (h : QE B g L e w) (hb : InB L) (hle : L.length ≤ 100000) (hB : B ≤ w.heap.size) :
    Calls Try.prog 24 #[.pointer (some ⟨g, 0, none⟩)] w fun en w' => en = .returned (.agg (vtxP (rdOf (z32, 0) L e (vertexR L)).1)) ∧ QE B g (rdOf (z32, 0) L e (vertexR L)).2.1 (rdOf (z32, 0) L e (vertexR L)).2.2 w' ∧ Chg [g] w w' := by
  obtain ⟨K, h1, h0⟩ := h
  by_cases he : e = 0
  · subst he
    obtain rfl := h0 rfl
    rw [rdOf_ok]
    exact rvertex_on h1 hb hle hB
  · rw [rdOf_no he]
    exact (rvertex_off h1 he hB).mono fun en w' ⟨k1, k2, k3⟩ => ⟨k1, k2.any he, k3⟩
theorem q_done {B g : Nat} {L : List Int} {e : Int} {w : World} (h : QE B g L e w) :
    Calls Try.prog 8 #[.pointer (some ⟨g, 0, none⟩)] w fun en w' => en = .returned (.int .i64 (doneE L e)) ∧ w = w' := by
  obtain ⟨K, h1, h0⟩ := h
  have k := rdone_any h1
  by_cases he : e = 0
  · obtain rfl := h0 he
    exact k
  · unfold doneE at k ⊢
    rw [if_neg he] at k ⊢
    exact k
/-- the one reader stays when the other one's block changes. -/
theorem QE.past {B g rb : Nat} {L L0 : List Int} {e e0 : Int} {w w' : World} (h : QE B g L e w) (hr : Rdr rb L0 e0 w) (hc : Chg [rb] w w') (hne : g ≠ rb) : QE B g L e w' := by
  obtain ⟨K, ⟨v, h1, h2, h3⟩, h0⟩ := h
  obtain ⟨u, r1, r2⟩ := hr
  exact ⟨K, ⟨v, hc.at h1 (by simp; omega), slb_chg h2 hc (fun k hk => by obtain rfl := List.mem_singleton.1 hk; exact rdr_no8 r1 r2), h3⟩, h0⟩
theorem Rdr.past {B g rb : Nat} {L L0 : List Int} {e e0 : Int} {w w' : World} (h : Rdr rb L e w) (hq : QE B g L0 e0 w) (hc : Chg [g] w w') (hne : rb ≠ g) : Rdr rb L e w' := by
  obtain ⟨u, r1, r2⟩ := h
  obtain ⟨K, ⟨v, h1, h2, _⟩, _⟩ := hq
  exact ⟨u, hc.at r1 (by simp; omega), slb_chg r2 hc (fun k hk => by obtain rfl := List.mem_singleton.1 hk; exact qr_no8 h1 h2)⟩
theorem QE.later {B g : Nat} {L : List Int} {e : Int} {w w' : World} (h : QE B g L e w) (hb : Below w.heap.size w w') : QE B g L e w' := by
  obtain ⟨K, h1, h0⟩ := h
  exact ⟨K, h1.later hb, h0⟩
theorem QE.lt {B g : Nat} {L : List Int} {e : Int} {w : World} (h : QE B g L e w) : g < w.heap.size := by
  obtain ⟨K, h1, _⟩ := h
  exact h1.lt
theorem QE.cell1 {B g : Nat} {L : List Int} {e : Int} {w : World} (h : QE B g L e w) : w.cell? ⟨g, 1, none⟩ = some (.int .i64 e) := by
  obtain ⟨K, h1, _⟩ := h
  exact h1.cell1
end Go.Proofs.Ytigfcmnknijobaa.Cod
