/- DERIVED. A log on lists: the slots' bytes, and what is read of bytes. No program. -/
import Derived.Test.YthjjkbgkfikglaaDskTornMath
namespace Go.Proofs.Ythjjkbgkfikglaa.Slt
open Go.RowKit Dsk
/-- the sectors of a record of n bytes. -/
def tk (n : Nat) : Nat := (n + 132) / 128
theorem tk_pos (n : Nat) : 1 ≤ tk n := by unfold tk; omega
theorem tk_fit (n : Nat) : n + 5 ≤ tk n * 128 := by unfold tk; omega
def be4 (n : Nat) : List Int := [((n / 16777216 % 256 : Nat) : Int), ((n / 65536 % 256 : Nat) : Int), ((n / 256 % 256 : Nat) : Int), ((n % 256 : Nat) : Int)]
/-- k sectors: a mark, a length, a text, zeros. -/
def slotB (m : Int) (t : List Int) (k : Nat) : List Int := m :: (be4 t.length ++ (t ++ List.replicate (k * 128 - 5 - t.length) 0))
theorem slotB_len (m : Int) (t : List Int) (k : Nat) (h : t.length + 5 ≤ k * 128) : (slotB m t k).length = k * 128 := by
  simp [slotB, be4]; omega
theorem inb_nil : InB [] := fun j => by simp
theorem inb_cons {x : Int} {L : List Int} (hx : 0 ≤ x ∧ x < 256) (h : InB L) : InB (x :: L) := by
  intro j
  cases j with
  | zero => simpa using hx
  | succ j => simpa using h j
theorem inb_rep (n : Nat) : InB (List.replicate n 0) := by
  intro j
  simp only [List.getD_eq_getElem?_getD, List.getElem?_replicate]
  split <;> simp
theorem be4_in (n : Nat) : InB (be4 n) := by
  unfold be4
  exact inb_cons (by omega) (inb_cons (by omega) (inb_cons (by omega) (inb_cons (by omega) inb_nil)))
theorem slotB_in {m : Int} {t : List Int} {k : Nat} (hm : 0 ≤ m ∧ m < 256) (ht : InB t) : InB (slotB m t k) :=
  inb_cons hm ((be4_in _).append (ht.append (inb_rep _)))
/-- the length that a slot's head tells. -/
def lenB (b : List Int) : Nat := (b.getD 1 0).toNat * 16777216 + (b.getD 2 0).toNat * 65536 + (b.getD 3 0).toNat * 256 + (b.getD 4 0).toNat
theorem lenB_slot (m : Int) (t : List Int) (k : Nat) (R : List Int) (h : t.length < 4294967296) : lenB (slotB m t k ++ R) = t.length := by
  simp only [lenB, slotB, be4, List.cons_append, List.getD_cons_succ, List.getD_cons_zero, Int.toNat_natCast]
  omega
/-- a right slot, as bytes. -/
def Good (c : List Int) : Prop := c.getD 0 0 = 1 ∧ lenB c ≤ 262144 ∧ c.length = tk (lenB c) * 128
def textC (c : List Int) : List Int := (c.drop 5).take (lenB c)
theorem textC_len {c : List Int} (h : Good c) : (textC c).length = lenB c := by
  have := tk_fit (lenB c)
  simp [textC, h.2.2]; omega
theorem slotB_good (t : List Int) (h : t.length ≤ 262144) : Good (slotB 1 t (tk t.length)) := by
  have e : lenB (slotB 1 t (tk t.length)) = t.length := by simpa using lenB_slot 1 t (tk t.length) [] (by omega)
  exact ⟨rfl, by rw [e]; exact h, by rw [e]; exact slotB_len _ _ _ (tk_fit _)⟩
theorem slotB_text (t : List Int) (h : t.length ≤ 262144) : textC (slotB 1 t (tk t.length)) = t := by
  have e : lenB (slotB 1 t (tk t.length)) = t.length := by simpa using lenB_slot 1 t (tk t.length) [] (by omega)
  rw [textC, e]
  simp [slotB, be4]
/-- a slot that is not right, ahead of all that is left. -/
def BadB (R : List Int) : Prop := R ≠ [] ∧ R.getD 0 0 ≠ 0 ∧ ¬ (R.getD 0 0 = 1 ∧ lenB R ≤ 262144 ∧ tk (lenB R) * 128 ≤ R.length)
def Done (R : List Int) : Prop := R = [] ∨ R.getD 0 0 = 0
/-- the bytes are right slots, and what is left; e: is it a fault? -/
structure Reads (L : List Int) (cs : List (List Int)) (R : List Int) (e : Bool) : Prop where
  eq : L = cs.flatten ++ R
  good : ∀ c ∈ cs, Good c
  tail : if e then BadB R else Done R
theorem getD_append_lt {L R : List Int} {j : Nat} (h : j < L.length) : (L ++ R).getD j 0 = L.getD j 0 := by
  simp [List.getD_eq_getElem?_getD, List.getElem?_append_left h]
theorem getD_append_ge {L R : List Int} {j : Nat} (h : L.length ≤ j) : (L ++ R).getD j 0 = R.getD (j - L.length) 0 := by
  simp [List.getD_eq_getElem?_getD, List.getElem?_append_right h]
theorem getD_take' {L : List Int} {n j : Nat} (h : j < n) : (L.take n).getD j 0 = L.getD j 0 := by
  simp [List.getD_eq_getElem?_getD, h]
theorem getD_drop' {L : List Int} {n j : Nat} : (L.drop n).getD j 0 = L.getD (n + j) 0 := by
  simp [List.getD_eq_getElem?_getD]
theorem lenB_app {c : List Int} (h : 5 ≤ c.length) (R : List Int) : lenB (c ++ R) = lenB c := by
  unfold lenB
  rw [getD_append_lt (by omega), getD_append_lt (by omega), getD_append_lt (by omega), getD_append_lt (by omega)]
theorem lenB_take {c : List Int} {n : Nat} (h : 5 ≤ n) : lenB (c.take n) = lenB c := by
  unfold lenB
  rw [getD_take' (by omega), getD_take' (by omega), getD_take' (by omega), getD_take' (by omega)]
theorem Good.len {c : List Int} (h : Good c) : 128 ≤ c.length := by have := h.2.2; have := tk_pos (lenB c); omega
/-- each row of bytes is read so. -/
theorem reads_all : ∀ (n : Nat) (L : List Int), L.length ≤ n → ∃ cs R e, Reads L cs R e := by
  intro n
  induction n with
  | zero =>
    intro L h
    obtain rfl : L = [] := List.eq_nil_of_length_eq_zero (by omega)
    exact ⟨[], [], false, rfl, by simp, .inl rfl⟩
  | succ n ih =>
    intro L h
    by_cases h0 : L = [] ∨ L.getD 0 0 = 0
    · exact ⟨[], L, false, rfl, by simp, h0⟩
    · have h1 : L ≠ [] := fun e => h0 (.inl e)
      have h2 : L.getD 0 0 ≠ 0 := fun e => h0 (.inr e)
      by_cases hg : L.getD 0 0 = 1 ∧ lenB L ≤ 262144 ∧ tk (lenB L) * 128 ≤ L.length
      · have ht := tk_pos (lenB L)
        obtain ⟨cs, R, e, hr⟩ := ih (L.drop (tk (lenB L) * 128)) (by rw [List.length_drop]; omega)
        refine ⟨L.take (tk (lenB L) * 128) :: cs, R, e, ?_, ?_, hr.tail⟩
        · rw [List.flatten_cons, List.append_assoc, ← hr.eq, List.take_append_drop]
        · intro c hc
          rcases List.mem_cons.1 hc with rfl | hc
          · have e5 : lenB (L.take (tk (lenB L) * 128)) = lenB L := lenB_take (by omega)
            exact ⟨by rw [getD_take' (by omega)]; exact hg.1, by rw [e5]; exact hg.2.1, by rw [e5, List.length_take]; omega⟩
          · exact hr.good c hc
      · exact ⟨[], L, true, rfl, by simp, h1, h2, hg⟩
/-- and in no other way. -/
theorem reads_one : ∀ (cs cs' : List (List Int)) (L R R' : List Int) (e e' : Bool), Reads L cs R e → Reads L cs' R' e' → cs = cs' ∧ R = R' ∧ e = e' := by
  have key : ∀ (c R : List Int) (e : Bool), Good c → ∀ X, (if e then BadB R else Done R) → R = c ++ X → False := by
    intro c R e hc X ht hR
    have hl := hc.len
    have h0 : R.getD 0 0 = 1 := by rw [hR, getD_append_lt (by omega)]; exact hc.1
    have h1 : lenB R = lenB c := by rw [hR]; exact lenB_app (by omega) X
    cases e with
    | true =>
      obtain ⟨_, _, h⟩ := ht
      refine h ⟨h0, by rw [h1]; exact hc.2.1, ?_⟩
      rw [h1, ← hc.2.2, hR, List.length_append]; omega
    | false =>
      rcases ht with h | h
      · rw [h] at hR
        have := congrArg List.length hR
        simp at this; omega
      · rw [h0] at h; omega
  intro cs
  induction cs with
  | nil =>
    intro cs' L R R' e e' h h'
    cases cs' with
    | nil =>
      have : R = R' := by have := h.eq.symm.trans h'.eq; simpa using this
      subst this
      refine ⟨rfl, rfl, ?_⟩
      cases e <;> cases e'
      · rfl
      · rcases h.tail with a | a
        · exact absurd a h'.tail.1
        · exact absurd a h'.tail.2.1
      · rcases h'.tail with a | a
        · exact absurd a h.tail.1
        · exact absurd a h.tail.2.1
      · rfl
    | cons c cs' =>
      have hR : R = c ++ (cs'.flatten ++ R') := by have := h.eq.symm.trans h'.eq; simpa using this
      exact (key c R e (h'.good c (by simp)) _ h.tail hR).elim
  | cons c cs ih =>
    intro cs' L R R' e e' h h'
    cases cs' with
    | nil =>
      have hR : R' = c ++ (cs.flatten ++ R) := by have := h'.eq.symm.trans h.eq; simpa using this
      exact (key c R' e' (h.good c (by simp)) _ h'.tail hR).elim
    | cons c' cs' =>
      have hc := h.good c (by simp)
      have hc' := h'.good c' (by simp)
      have h2 : c ++ (cs.flatten ++ R) = c' ++ (cs'.flatten ++ R') := by have := h.eq.symm.trans h'.eq; simpa using this
      have hl := hc.len
      have hl' := hc'.len
      have e1 : lenB c = lenB c' := by
        have := congrArg lenB h2
        rwa [lenB_app (by omega), lenB_app (by omega)] at this
      have e2 : c.length = c'.length := by rw [hc.2.2, hc'.2.2, e1]
      obtain ⟨rfl, h3⟩ := List.append_inj h2 e2
      obtain ⟨rfl, rfl, rfl⟩ := ih cs' (cs.flatten ++ R) R R' e e' ⟨rfl, fun x hx => h.good x (by simp [hx]), h.tail⟩ ⟨h3, fun x hx => h'.good x (by simp [hx]), h'.tail⟩
      exact ⟨rfl, rfl, rfl⟩
/-- where the i-th slot begins. -/
def posC (cs : List (List Int)) (i : Nat) : Nat := (cs.take i).flatten.length
end Go.Proofs.Ythjjkbgkfikglaa.Slt
