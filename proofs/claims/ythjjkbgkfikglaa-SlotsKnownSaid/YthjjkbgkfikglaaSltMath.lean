/- DERIVED. What an append leaves on the disk, on lists. No program. -/
import Derived.Test.YthjjkbgkfikglaaSltSpec
import Derived.Test.YthjjkbgkfikglaaDskWr
import Derived.Test.YthjjkbgkfikglaaDskWrite
namespace Go.Proofs.Ythjjkbgkfikglaa.Slt
open Go.RowKit Dsk
/-- sectors written: the error tells whether the power went. -/
structure RunQ (D : DS) (n : Nat) (R : DS × Int) : Prop where
  err : R.2 = if R.1.off then 12 else 0
  len : R.1.data.length = D.data.length
  wr : R.1.writes ≤ D.writes + n
theorem RunQ.secs {D : DS} {n : Nat} {R : DS × Int} (h : RunQ D n R) : R.1.secs = D.secs := by simp [DS.secs, h.len]
theorem run_q (k : Nat) (b : List Int) : ∀ (n i : Nat) (D : DS), D.off = false → (k + i + n) * 128 ≤ D.data.length → (i + n) * 128 ≤ b.length → RunQ D n (runD D k b i n) := by
  intro n
  induction n with
  | zero => intro i D ho _ _; exact ⟨by simp [runD, ho], rfl, by simp [runD]⟩
  | succ n ih =>
    intro i D ho hd hb
    have hl := step_len D (k + i) (secL b i) (by omega) (secL_len b i (by omega))
    have hw := step_writes D (k + i) (secL b i)
    cases e : (stepD D (k + i) (secL b i)).off
    · rw [run_on e]
      have h := ih (i + 1) _ e (by rw [hl]; omega) (by omega)
      exact ⟨h.err, h.len.trans hl, by have := h.wr; omega⟩
    · rw [run_off e]
      exact ⟨by simp [e], hl, by simp only [hw]; omega⟩
/-- what an append of a text writes: k sectors, and the first one with the mark. -/
def writD (D : DS) (at_ : Nat) (t : List Int) (k : Nat) : DS × Int :=
  if (runD D at_ (slotB 0 t k) 0 k).2 = 0 then runD (runD D at_ (slotB 0 t k) 0 k).1 at_ ((slotB 1 t k).take 128) 0 1 else runD D at_ (slotB 0 t k) 0 k
theorem writD_yes {D : DS} {p k : Nat} {t : List Int} (h : (runD D p (slotB 0 t k) 0 k).2 = 0) : writD D p t k = runD (runD D p (slotB 0 t k) 0 k).1 p ((slotB 1 t k).take 128) 0 1 := if_pos h
theorem writD_no {D : DS} {p k : Nat} {t : List Int} (h : ¬ (runD D p (slotB 0 t k) 0 k).2 = 0) : writD D p t k = runD D p (slotB 0 t k) 0 k := if_neg h
theorem RunQ.on {D : DS} {n : Nat} {R : DS × Int} (h : RunQ D n R) (e : R.2 = 0) : R.1.off = false := by
  have := h.err
  cases ho : R.1.off
  · rfl
  · rw [ho] at this; rw [this] at e; cases e
theorem take128_len (m : Int) (t : List Int) (k : Nat) (h : t.length + 5 ≤ k * 128) : ((slotB m t k).take 128).length = 128 := by
  rw [List.length_take, slotB_len _ _ _ h]; omega
theorem writ_q {D : DS} {p k : Nat} {t : List Int} (ho : D.off = false) (hp : (p + k) * 128 ≤ D.data.length) (hk : t.length + 5 ≤ k * 128) : RunQ D (k + 1) (writD D p t k) := by
  have hl := slotB_len 0 t k hk
  have h := run_q p (slotB 0 t k) k 0 D ho (by omega) (by omega)
  by_cases e : (runD D p (slotB 0 t k) 0 k).2 = 0
  · rw [writD_yes e]
    have h2 := run_q p ((slotB 1 t k).take 128) 1 0 _ (h.on e) (by rw [h.len]; omega) (by rw [take128_len _ _ _ hk]; omega)
    exact ⟨h2.err, h2.len.trans h.len, by have := h2.wr; have := h.wr; omega⟩
  · rw [writD_no e]
    exact ⟨h.err, h.len, by have := h.wr; omega⟩
end Go.Proofs.Ythjjkbgkfikglaa.Slt
