/- DERIVED. append of a slice of labels to an own row; beginnings and ends of such slices. -/
import Derived.Test.YtmbcojpdigoojaaGreatDoorLabSame
import Derived.Laws.AppendOwnNone
namespace Go.Proofs.YtmbcojpdigoojaaGreatDoor.Lab
open Go.RowKit Str
theorem flatP_cell {ys : List (Int × Nat)} : ∀ (j : Nat) (u : Value), (flatP ys)[j]? = some u → ∃ i x r, j = i * 2 + r ∧ ys[i]? = some x ∧ (lab x.1 x.2).toList[r]? = some u := by
  induction ys with
  | nil => intro j u h; simp [flatP] at h
  | cons y ys ih =>
    intro j u h
    simp only [flatP, List.map_cons, List.flatten_cons] at h
    by_cases hj : j < 2
    · rw [List.getElem?_append_left (by simpa using hj)] at h
      exact ⟨0, y, j, by omega, rfl, h⟩
    · rw [List.getElem?_append_right (by simp; omega)] at h
      obtain ⟨i, x, r, e, h1, h2⟩ := ih (j - 2) u (by simpa [flatP] using h)
      exact ⟨i + 1, x, r, by omega, by simpa using h1, h2⟩
theorem flatP_len (xs : List (Int × Nat)) : (flatP xs).length = xs.length * 2 := by
  induction xs with
  | nil => rfl
  | cons x xs ih =>
    simp only [flatP, List.map_cons, List.flatten_cons, List.length_append, List.length_cons] at ih ⊢
    simp at ih ⊢
    omega
theorem flatP_apps (xs ys : List (Int × Nat)) : flatP (xs ++ ys) = flatP xs ++ flatP ys := by simp [flatP]
theorem flatP_one {ys : List (Int × Nat)} : ∀ u ∈ flatP ys, u.oneCell' = true := by
  intro u hu
  obtain ⟨j, hj, rfl⟩ := List.getElem_of_mem hu
  obtain ⟨i, x, r, _, _, h⟩ := flatP_cell j _ (List.getElem?_eq_getElem hj)
  exact lab_ones x.1 x.2 _ (List.mem_of_getElem? h)
theorem wpList_append_labs {w : World} {ops : Array Oper} {rest : List Oper} {o : Oper} {a : Act} {Q : Exit → Act → World → Prop} (hgd : o.guard = none) (s y : Operand)
    (ho : o.op = .call { callee := .builtin .append, args := #[s, y], argTypes := #[38, 38] }) (base : Nat) (v : Value) (xs ys : List (Int × Nat)) (hs : a.eval s = v) (hown : OwnL base xs v w)
    (A : Option Addr) (m c : Nat) (hy : a.eval y = .slice A m c) (hm : ys.length = m) (hY : Labs w A c ys) (h63 : xs.length + m ≤ 100000) (hbase : base ≤ w.heap.size)
    (h : ∀ v' w', OwnL base (xs ++ ys) v' w' → (∀ B u, Below B u w → B ≤ base → Below B u w') → wpList Tryz.prog ops Q rest (a.put o.dst v') w') : wpList Tryz.prog ops Q (o :: rest) a w := by
  obtain ⟨i0, hi0, hz00, hz10, hz20⟩ := info_parts infoLz
  have h0 : ys = [] → ∀ (_ : m = 0), OwnL base (xs ++ ys) v w := fun e _ => by rw [e, List.append_nil]; exact hown
  by_cases hA : A = none
  · subst hA
    have hc := hY.2.1 rfl
    have hm0 : m = 0 := by have := hY.1; omega
    have e : ys = [] := List.eq_nil_of_length_eq_zero (by omega)
    subst hm0 hc
    refine wpList_append_own_none hgd s y 38 ho base 34 i0 2 Tryz.underlying38 hi0 v xs.length (flatP xs) hs hown hy ?_
    exact h v w (h0 e rfl) (fun _ _ h _ => h)
  · obtain ⟨ad, rfl⟩ : ∃ ad, A = some ad := by cases A with | none => exact absurd rfl hA | some ad => exact ⟨ad, rfl⟩
    refine wpList_append_own_at _ hgd s y 38 ho base 34 i0 labZero 2 16 Tryz.underlying38 hi0 hz00 hz10 hz20 rfl (by decide) v xs.length (flatP xs) hs hown ad m c (flatP ys) hy (by rw [flatP_len, hm])
      (fun j u hu => ?_) flatP_one (by unfold maxLen; omega) (by omega) hbase ?_
    · obtain ⟨i, x, r, e, h1, h2⟩ := flatP_cell j u hu
      have hi : i < ys.length := (List.getElem?_eq_some_iff.1 h1).1
      obtain ⟨b, off, e2, hb, hc⟩ := hY.2.2 (by omega)
      obtain rfl := Option.some.inj e2
      rw [Addr.add_mid, e, ← Nat.add_assoc]
      exact hc i x h1 r u h2
    · intro v' w' hown' hgrow _ _
      refine h v' w' ?_ (fun B u hu hB => hu.grown hgrow (by omega) (fun k hk => by have := (World.ownsRow.lt hown k hk).1; omega))
      unfold OwnL
      rw [flatP_apps, List.length_append, hm]
      exact hown'
theorem Labs.take {w : World} {A : Option Addr} {c : Nat} {xs : List (Int × Nat)} (h : Labs w A c xs) (k : Nat) : Labs w A c (xs.take k) := by
  obtain ⟨h1, h2, h3⟩ := h
  refine ⟨by rw [List.length_take]; omega, h2, fun h0 => ?_⟩
  rw [List.length_take] at h0
  obtain ⟨b, off, e, hb, hc⟩ := h3 (by omega)
  refine ⟨b, off, e, hb, fun i x hx => hc i x ?_⟩
  rw [List.getElem?_take] at hx
  split at hx
  · exact hx
  · cases hx
theorem Labs.drop {w : World} {b off c : Nat} {xs : List (Int × Nat)} (h : Labs w (some ⟨b, off, none⟩) c xs) (k : Nat) (hk : k ≤ xs.length) : Labs w (some ⟨b, off + k * 2, none⟩) (c - k) (xs.drop k) := by
  obtain ⟨h1, _, h3⟩ := h
  refine ⟨by rw [List.length_drop]; omega, (fun h => by cases h), fun h0 => ?_⟩
  rw [List.length_drop] at h0
  obtain ⟨b', off', e, hb, hc⟩ := h3 (by omega)
  cases e
  refine ⟨b, off + k * 2, rfl, hb, fun i x hx => ?_⟩
  rw [List.getElem?_drop] at hx
  have e2 : off + k * 2 + i * 2 = off + (k + i) * 2 := by omega
  rw [e2]
  exact hc (k + i) x hx
theorem Labs.none (w : World) (b c : Nat) : Labs w (some ⟨b, 0, Option.none⟩) c [] := ⟨Nat.zero_le _, (fun h => by cases h), fun h => absurd h (Nat.lt_irrefl _)⟩
end Go.Proofs.YtmbcojpdigoojaaGreatDoor.Lab
