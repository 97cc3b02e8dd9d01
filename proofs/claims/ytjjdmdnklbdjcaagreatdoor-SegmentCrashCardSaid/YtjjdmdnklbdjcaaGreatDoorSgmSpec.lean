/- DERIVED. A segment on lists: its records, opened one behind the other. No program. -/
import Derived.Test.YtjjdmdnklbdjcaaGreatDoorMseg13
import Derived.Test.YtjjdmdnklbdjcaaGreatDoorMseg22
import Derived.Test.YtjjdmdnklbdjcaaGreatDoorMseg21
namespace Go.Proofs.YtjjdmdnklbdjcaaGreatDoor.Sgm
open Go.RowKit Dsk
/-- the records' texts: none is ErrTamper. -/
def opensL (k C : List Int) (most : Nat) : Nat → Nat → List (List Int) → Option (List (List Int))
  | _, _, [] => some []
  | i, least, s :: r => match Seal.openL k C i s with
    | none => none
    | some x => if x.2 < least ∨ most < x.2 then none else (opensL k C most (i + 1) x.2 r).map (x.1 :: ·)
/-- records that were sealed there, by epochs that do not fall, none above most. -/
def sealsL (k C : List Int) : Nat → List (List Int × Nat) → List (List Int)
  | _, [] => []
  | i, x :: r => Seal.sealL k C i x.2 x.1 :: sealsL k C (i + 1) r
def Ris (most : Nat) : Nat → List (List Int × Nat) → Prop
  | _, [] => True
  | least, x :: r => (InB x.1 ∧ x.1.length ≤ 131068) ∧ least ≤ x.2 ∧ x.2 ≤ most ∧ Ris most x.2 r
theorem opens_seals (k C : List Int) (most : Nat) (hm : most < 4294967296) : ∀ (r : List (List Int × Nat)) (i least : Nat), Ris most least r → opensL k C most i least (sealsL k C i r) = some (r.map (·.1)) := by
  intro r
  induction r with
  | nil => intro i least _; rfl
  | cons x r ih =>
    intro i least h
    obtain ⟨⟨h1, h2⟩, h3, h4, h5⟩ := h
    have he := Seal.open_seal k C x.1 i x.2 h1 h2 (by omega)
    show opensL k C most i least (Seal.sealL k C i x.2 x.1 :: sealsL k C (i + 1) r) = _
    unfold opensL
    rw [he]
    show (if x.2 < least ∨ most < x.2 then none else _) = _
    rw [if_neg (by omega)]
    show (opensL k C most (i + 1) x.2 (sealsL k C (i + 1) r)).map (x.1 :: ·) = _
    rw [ih (i + 1) x.2 h5]
    rfl
theorem seals_snoc (k C : List Int) (x : List Int × Nat) : ∀ (r : List (List Int × Nat)) (i : Nat), sealsL k C i (r ++ [x]) = sealsL k C i r ++ [Seal.sealL k C (i + r.length) x.2 x.1] := by
  intro r
  induction r with
  | nil => intro i; rfl
  | cons y r ih =>
    intro i
    show Seal.sealL k C i y.2 y.1 :: sealsL k C (i + 1) (r ++ [x]) = _
    rw [ih (i + 1), List.length_cons, show i + 1 + r.length = i + (r.length + 1) by omega]
    rfl
theorem seals_len (k C : List Int) : ∀ (r : List (List Int × Nat)) (i : Nat), (sealsL k C i r).length = r.length := by
  intro r
  induction r with
  | nil => intro i; rfl
  | cons y r ih => intro i; show _ + 1 = _; rw [ih]; rfl
theorem Ris.mono {most most' : Nat} (h : most ≤ most') : ∀ {r : List (List Int × Nat)} {least : Nat}, Ris most least r → Ris most' least r := by
  intro r
  induction r with
  | nil => intro least _; trivial
  | cons x r ih => intro least h2; exact ⟨h2.1, h2.2.1, Nat.le_trans h2.2.2.1 h, ih h2.2.2.2⟩
theorem Ris.snoc {most : Nat} {t : List Int} (ht : InB t) (hl : t.length ≤ 131068) : ∀ {r : List (List Int × Nat)} {least : Nat}, least ≤ most → Ris most least r → Ris most least (r ++ [(t, most)]) := by
  intro r
  induction r with
  | nil => intro least h1 _; exact ⟨⟨ht, hl⟩, h1, Nat.le_refl _, trivial⟩
  | cons x r ih => intro least h1 h2; exact ⟨h2.1, h2.2.1, h2.2.2.1, ih h2.2.2.1 h2.2.2.2⟩
/-- one by one: what is left to open. -/
theorem opens_len (k C : List Int) (most : Nat) : ∀ (l : List (List Int)) (i least : Nat) (T : List (List Int)), opensL k C most i least l = some T → T.length = l.length := by
  intro l
  induction l with
  | nil => intro i least T h; cases h; rfl
  | cons s r ih =>
    intro i least T h
    unfold opensL at h
    cases ho : Seal.openL k C i s with
    | none => rw [ho] at h; cases h
    | some x =>
      rw [ho] at h
      by_cases hc : x.2 < least ∨ most < x.2
      · simp only [if_pos hc] at h; cases h
      · simp only [if_neg hc] at h
        cases hr : opensL k C most (i + 1) x.2 r with
        | none => rw [hr] at h; cases h
        | some T' =>
          rw [hr] at h
          cases h
          rw [List.length_cons, List.length_cons, ih _ _ _ hr]
/-- the greatest text that fits: none is -1. -/
def roomA (r : Int) : Nat → Nat → Int → Int
  | 0, _, n => n
  | f + 1, b, n => if 36 + (b : Int) ≤ r then roomA r f (2 * b) ((b : Int) - 4) else n
def roomL (r : Int) : Int := roomA r 12 64 (-1)
end Go.Proofs.YtjjdmdnklbdjcaaGreatDoor.Sgm
