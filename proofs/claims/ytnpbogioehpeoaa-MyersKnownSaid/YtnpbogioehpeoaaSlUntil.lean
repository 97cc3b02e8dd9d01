/- DERIVED. What holds from one operation on until another one comes. -/
import Derived.Test.YtnpbogioehpeoaaSl
namespace Go.Proofs.Ytnpbogioehpeoaa
open Go.RowKit
/-- the same as Whn, until another operation comes. -/
def Whu (l : Array Bool) (i q : Nat) (p : Value → World → Prop) (v : Value) (w : World) : Prop := l.getD i false = true → l.getD q false = false → p v w
theorem Whu.get {l : Array Bool} {i q : Nat} {p : Value → World → Prop} {v : Value} {w : World} (h : Whu l i q p v w) (hl : l.getD i false = true) (hq : l.getD q false = false) : p v w := h hl hq
theorem Whu.keep {l : Array Bool} {i q k : Nat} {p : Value → World → Prop} {v : Value} {w : World} (h : Whu l i q p v w) (hne : i ≠ k) : Whu (l.setIfInBounds k true) i q p v w := fun hl hq => h ((getD_listed hl).resolve_left hne) (by
  cases e : l.getD q false with
  | false => rfl
  | true => rw [getD_set_true e] at hq; cases hq)
theorem Whu.map {l : Array Bool} {i q : Nat} {p : Value → World → Prop} {v : Value} {w w' : World} (h : Whu l i q p v w) (f : p v w → p v w') : Whu l i q p v w' := fun hl hq => f (h hl hq)
theorem Whu.done {l : Array Bool} {i q : Nat} {p : Value → World → Prop} {v : Value} {w : World} (h : p v w) : Whu l i q p v w := fun _ _ => h
theorem Whu.none {n i q : Nat} {p : Value → World → Prop} {v : Value} {w : World} (h : (Array.replicate n false).getD i false = false) : Whu (Array.replicate n false) i q p v w := fun hl => by rw [h] at hl; cases hl
theorem Whu.past {l : Array Bool} {i q : Nat} {p : Value → World → Prop} {v : Value} {w : World} (hq : q < l.size) : Whu (l.setIfInBounds q true) i q p v w := fun _ h => by
  simp [hq] at h
theorem Whu.gone {l : Array Bool} {i q k : Nat} {p : Value → World → Prop} {v : Value} {w : World} (h : l.getD q false = true) : Whu (l.setIfInBounds k true) i q p v w := fun _ hq => by rw [getD_set_true h] at hq; cases hq
theorem Whn.never {l : Array Bool} {i k : Nat} {p : Value → World → Prop} {v : Value} {w : World} (hne : i ≠ k) (h : l.getD i false = true → l.getD k false = true) (hu : l.getD k false = false) : Whn (l.setIfInBounds k true) i p v w := fun hl => by
  have := h ((getD_listed hl).resolve_left hne)
  rw [this] at hu
  cases hu
end Go.Proofs.Ytnpbogioehpeoaa
