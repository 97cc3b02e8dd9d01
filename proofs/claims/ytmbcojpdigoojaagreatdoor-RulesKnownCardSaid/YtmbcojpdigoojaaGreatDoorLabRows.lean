/- DERIVED. Slices of labels: Labs (any), OwnL (an own row), an append of one. -/
import Derived.Test.YtmbcojpdigoojaaGreatDoorLabBoth
import Derived.Lib.AppendStr
import Derived.Great.BuildSlice
import Derived.Maps.AppendAt
namespace Go.Proofs.YtmbcojpdigoojaaGreatDoor.Lab
open Go.RowKit Str
/-- a slice that reads as labels: their Levels and Comps. -/
def Labs (w : World) (A : Option Addr) (c : Nat) (xs : List (Int × Nat)) : Prop :=
  xs.length ≤ c ∧ (A = none → c = 0) ∧ (0 < xs.length → ∃ b off, A = some ⟨b, off, none⟩ ∧ b < w.heap.size ∧ ∀ i x, xs[i]? = some x → w.rangeAt b (off + i * 2) (lab x.1 x.2).toList)
theorem Labs.below {w w' : World} {B c : Nat} {A : Option Addr} {xs : List (Int × Nat)} (h : Labs w A c xs) (hb : Below B w w') (hB : w.heap.size ≤ B) : Labs w' A c xs :=
  ⟨h.1, h.2.1, fun hl => by
    obtain ⟨b, off, hA, hg, hc⟩ := h.2.2 hl
    exact ⟨b, off, hA, Nat.lt_of_lt_of_le hg hb.size, fun i x hx j v hv => (hb.cell (p := ⟨b, off + i * 2 + j, none⟩) (Nat.lt_of_lt_of_le hg hB)).trans (hc i x hx j v hv)⟩⟩
def flatP (xs : List (Int × Nat)) : List Value := (xs.map fun x => (lab x.1 x.2).toList).flatten
theorem flatP_app (xs : List (Int × Nat)) (x : Int × Nat) : flatP (xs ++ [x]) = flatP xs ++ (lab x.1 x.2).toList := by simp [flatP]
theorem flatP_get {xs : List (Int × Nat)} : ∀ (i : Nat) (x : Int × Nat), xs[i]? = some x → ∀ j v, (lab x.1 x.2).toList[j]? = some v → (flatP xs)[i * 2 + j]? = some v := by
  induction xs with
  | nil => intro i x hx; simp at hx
  | cons y ys ih =>
    intro i x hx j v hv
    simp only [flatP, List.map_cons, List.flatten_cons]
    cases i with
    | zero =>
      obtain rfl := Option.some.inj hx
      have hj := (List.getElem?_eq_some_iff.1 hv).1
      rw [Nat.zero_mul, Nat.zero_add, List.getElem?_append_left (by omega)]
      exact hv
    | succ i =>
      rw [List.getElem?_append_right (by simp only [List.length_cons, List.length_nil]; omega)]
      have e : (i + 1) * 2 + j - 2 = i * 2 + j := by omega
      show (List.flatten _)[(i + 1) * 2 + j - 2]? = some v
      rw [e]
      exact ih i x (by simpa using hx) j v hv
/-- a row of labels of the call's own. -/
def OwnL (base : Nat) (xs : List (Int × Nat)) (v : Value) (w : World) : Prop := w.ownsRow base 34 2 v xs.length (flatP xs)
theorem OwnL.nil (w : World) (base : Nat) : OwnL base [] (.slice none 0 0) w := World.ownsRow_nil w base 34 2
theorem OwnL.labs {base : Nat} {xs : List (Int × Nat)} {v : Value} {w : World} (h : OwnL base xs v w) : ∃ A c, v = .slice A xs.length c ∧ Labs w A c xs := by
  rcases h.2 with ⟨rfl, h0⟩ | ⟨g, cap, cur, hv, hb, hg, hn, hm, hs, ht⟩
  · exact ⟨none, 0, by rw [h0], by omega, fun _ => rfl, fun h => by omega⟩
  · refine ⟨_, cap, hv, hn, (fun h => by cases h), fun _ => ⟨g, 0, rfl, (Array.getElem?_eq_some_iff.1 hg).1, fun i x hx j u hu => ?_⟩⟩
    have k := flatP_get i x hx j u hu
    rw [← ht] at k
    have hlt : i * 2 + j < xs.length * 2 := by
      have := (List.getElem?_eq_some_iff.1 k).1
      rw [List.length_take] at this
      omega
    rw [List.getElem?_take, if_pos hlt] at k
    rw [Nat.zero_add, cell_row hg]
    simpa using k
def labZero : Value := .agg (lab 0 0)
theorem infoLz : (Tryz.prog.info? 34).map (fun i => (i.zero, i.size, i.bytes)) = some (some labZero, 2, 16) := by kernel_rfl
theorem lab_ones (a : Int) (c : Nat) : ∀ u ∈ (lab a c).toList, u.oneCell' = true := by
  intro v hv
  simp only [List.mem_cons, List.mem_nil_iff, or_false] at hv
  rcases hv with rfl | rfl <;> rfl
/-- append(m, x), x laid in a block of its own. -/
theorem wpList_append_lab {w : World} {ops : Array Oper} {rest : List Oper} {o : Oper} {a : Act} {Q : Exit → Act → World → Prop} (hgd : o.guard = none) (s y : Operand)
    (ho : o.op = .call { callee := .builtin .append, args := #[s, y], argTypes := #[38, 38] }) (base : Nat) (v : Value) (xs : List (Int × Nat)) (x : Int × Nat) (hs : a.eval s = v) (hown : OwnL base xs v w)
    (g : Nat) (hy : a.eval y = .slice (some ⟨g, 0, none⟩) 1 1) (hg : w.heap[g]? = some (.cells (lab x.1 x.2) 34 (0, 0))) (h63 : xs.length ≤ 100000) (hbase : base ≤ w.heap.size)
    (h : ∀ v' w', OwnL base (xs ++ [x]) v' w' → w.grownBy w' v.ownBlock → wpList Tryz.prog ops Q rest (a.put o.dst v') w') : wpList Tryz.prog ops Q (o :: rest) a w := by
  obtain ⟨i0, hi0, hz00, hz10, hz20⟩ := info_parts infoLz
  refine wpList_append_own_at _ hgd s y 38 ho base 34 i0 labZero 2 16 Tryz.underlying38 hi0 hz00 hz10 hz20 rfl (by decide) v xs.length (flatP xs) hs hown ⟨g, 0, none⟩ 1 1 (lab x.1 x.2).toList hy rfl
    (fun j u hu => by rw [Addr.add_mid, Nat.zero_add, cell_row hg]; simpa using hu) (lab_ones _ _) (by unfold maxLen; omega) (by omega) hbase ?_
  intro v' w' hown' hgrow _ _
  refine h v' w' ?_ hgrow
  unfold OwnL
  rw [flatP_app, List.length_append]
  exact hown'
/-- equal labels that stand side by side, each once. -/
def distG (p : Int × Nat) : List (Int × Nat) → List (Int × Nat)
  | [] => []
  | x :: r => if x = p then distG p r else x :: distG x r
def distL : List (Int × Nat) → List (Int × Nat)
  | [] => []
  | x :: r => x :: distG x r
theorem distG_app (x : Int × Nat) : ∀ (r : List (Int × Nat)) (p : Int × Nat), distG p (r ++ [x]) = if x = r.getLast?.getD p then distG p r else distG p r ++ [x] := by
  intro r
  induction r with
  | nil => intro p; by_cases h : x = p <;> simp [distG, h]
  | cons y r ih =>
    intro p
    have hl : (y :: r).getLast?.getD p = r.getLast?.getD y := by
      cases r with
      | nil => rfl
      | cons z t =>
        rw [List.getLast?_cons_cons]
        cases hu : (z :: t).getLast? with
        | none => simp at hu
        | some u => rfl
    rw [hl, List.cons_append]
    by_cases h : y = p
    · subst h
      simp only [distG, if_true]
      exact ih y
    · simp only [distG, if_neg h]
      rw [ih y]
      split
      · rfl
      · rfl
/-- one more label. -/
theorem distL_step {xs : List (Int × Nat)} {k : Nat} {x : Int × Nat} (hx : xs[k]? = some x) (y : Int × Nat) (hy : k ≠ 0 → xs[k - 1]? = some y) :
    distL (xs.take (k + 1)) = if k ≠ 0 ∧ x = y then distL (xs.take k) else distL (xs.take k) ++ [x] := by
  rw [List.take_add_one, hx]
  cases k with
  | zero => simp [distL, distG]
  | succ k =>
    have hy := hy (by omega)
    rw [Nat.add_sub_cancel] at hy
    obtain ⟨z, r, hz⟩ : ∃ z r, xs.take (k + 1) = z :: r := by
      cases xs with
      | nil => simp at hx
      | cons z t => exact ⟨z, t.take k, rfl⟩
    have hlast : r.getLast?.getD z = y := by
      have h1 : (xs.take (k + 1)).getLast? = some y := by
        rw [List.take_add_one, hy]
        simp
      rw [hz] at h1
      cases r with
      | nil => simpa using h1
      | cons u t => rw [List.getLast?_cons_cons] at h1; rw [h1]; rfl
    rw [hz]
    show distL (z :: (r ++ [x])) = _
    simp only [distL]
    rw [distG_app, hlast]
    by_cases h : x = y
    · rw [if_pos h, if_pos ⟨by omega, h⟩]
    · rw [if_neg h, if_neg (fun h2 => h h2.2)]
      rfl
end Go.Proofs.YtmbcojpdigoojaaGreatDoor.Lab
