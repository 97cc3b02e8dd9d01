/- DERIVED. PLAIN MATHEMATICS: the parts of SHA-256 on integers, in the words in which the walks leave them. No program. -/
import Derived.Test.YtblgblhoolpmiaaDoorBase
namespace Go.Proofs.YtblgblhoolpmiaaDoor
/-- x, turned right by n places. -/
def rotr (x : Int) (n : Nat) : Int := bits .or .u32 (x * 2 ^ (32 - n) % 4294967296) (x / 2 ^ n)
/-- four bytes as a word. -/
def word4 (a b c d : Int) : Int := bits .or .u32 (bits .or .u32 (bits .or .u32 (a * 16777216) (b * 65536)) (c * 256)) d
def xr (a b : Int) : Int := bits .xor .u32 a b
def ad (a b : Int) : Int := (a + b) % 4294967296
def s0 (x : Int) : Int := xr (xr (rotr x 7) (rotr x 18)) (x / 8)
def s1 (x : Int) : Int := xr (xr (rotr x 17) (rotr x 19)) (x / 1024)
/-- the next word behind the words f 0 .. f (i-1). -/
def nextW (f : Nat → Int) (i : Nat) : Int := (f (i - 16) + s0 (f (i - 15)) + f (i - 7) + s1 (f (i - 2))) % 4294967296
/-- the words of a block: the first 16, and n more. -/
def schedN (l : List Int) : Nat → List Int
  | 0 => (List.range 16).map fun i => word4 (l.getD (4 * i) 0) (l.getD (4 * i + 1) 0) (l.getD (4 * i + 2) 0) (l.getD (4 * i + 3) 0)
  | n + 1 => schedN l n ++ [nextW (fun j => (schedN l n).getD j 0) (16 + n)]
theorem schedN_length (l : List Int) (n : Nat) : (schedN l n).length = 16 + n := by
  induction n with
  | zero => simp [schedN]
  | succ n ih => simp [schedN, ih]; omega
theorem schedN_getD (l : List Int) (n m j : Nat) (h : n ≤ m) (hj : j < 16 + n) : (schedN l m).getD j 0 = (schedN l n).getD j 0 := by
  induction m with
  | zero => obtain rfl : n = 0 := by omega
            rfl
  | succ m ih =>
    by_cases e : n = m + 1
    · rw [e]
    · have hl := schedN_length l m
      rw [← ih (by omega)]
      simp only [schedN, List.getD_eq_getElem?_getD]
      rw [List.getElem?_append_left (by omega)]
/-- all 64 words of a block; the word number j. -/
def sched (l : List Int) : List Int := schedN l 48
def W (l : List Int) (j : Nat) : Int := (sched l).getD j 0
theorem sched_length (l : List Int) : (sched l).length = 64 := schedN_length l 48
theorem W_lt (l : List Int) (j : Nat) (h : j < 16) : W l j = word4 (l.getD (4 * j) 0) (l.getD (4 * j + 1) 0) (l.getD (4 * j + 2) 0) (l.getD (4 * j + 3) 0) := by
  unfold W sched
  rw [schedN_getD l 0 48 j (by omega) (by omega)]
  simp [schedN, List.getD_eq_getElem?_getD, h]
theorem nextW_congr (f g : Nat → Int) (i : Nat) (h : 16 ≤ i) (e : ∀ j, j < i → f j = g j) : nextW f i = nextW g i := by
  unfold nextW
  rw [e (i - 16) (by omega), e (i - 15) (by omega), e (i - 7) (by omega), e (i - 2) (by omega)]
theorem W_ge (l : List Int) (j : Nat) (h : 16 ≤ j) (h' : j < 64) : W l j = nextW (W l) j := by
  obtain ⟨n, rfl⟩ : ∃ n, j = 16 + n := ⟨j - 16, by omega⟩
  have hl := schedN_length l n
  have e : W l (16 + n) = nextW (fun j => (schedN l n).getD j 0) (16 + n) := by
    unfold W sched
    rw [schedN_getD l (n + 1) 48 (16 + n) (by omega) (by omega)]
    simp only [schedN, List.getD_eq_getElem?_getD]
    rw [List.getElem?_append_right (by omega), hl]
    simp
  rw [e]
  refine nextW_congr _ _ _ h fun i hi => ?_
  unfold W sched
  exact (schedN_getD l n 48 i (by omega) hi).symm
theorem W_of_sched (l : List Int) (j : Nat) : W l j = (sched l).getD j 0 := rfl
attribute [irreducible] W sched rotr

/-- a state's eight words. -/
structure W8 where
  a : Int
  b : Int
  c : Int
  d : Int
  e : Int
  f : Int
  g : Int
  h : Int
def W8.list (s : W8) : List Int := [s.a, s.b, s.c, s.d, s.e, s.f, s.g, s.h]
/-- one round. -/
def choice (e f g : Int) : Int := xr (bits .and .u32 e f) (bits .and .u32 (bits .xor .u32 IntKind.u32.max e) g)
def majority (a b c : Int) : Int := xr (xr (bits .and .u32 a b) (bits .and .u32 a c)) (bits .and .u32 b c)
def roundU (s : W8) (k w : Int) : Int := (s.h + xr (xr (rotr s.e 6) (rotr s.e 11)) (rotr s.e 25) + choice s.e s.f s.g + k + w) % 4294967296
def roundV (s : W8) : Int := (xr (xr (rotr s.a 2) (rotr s.a 13)) (rotr s.a 22) + majority s.a s.b s.c) % 4294967296
def round (s : W8) (k w : Int) : W8 := ⟨ad (roundU s k w) (roundV s), s.a, s.b, s.c, ad s.d (roundU s k w), s.e, s.f, s.g⟩
/-- the first n rounds. -/
def rounds (K : List Int) (l : List Int) (s : W8) : Nat → W8
  | 0 => s
  | n + 1 => round (rounds K l s n) (K.getD n 0) (W l n)
theorem rounds_step {K l : List Int} {s t : W8} {k : Nat} {x : Int} (h : rounds K l s k = t) (hx : x = K.getD k 0) : rounds K l s (k + 1) = round t x (W l k) := by
  rw [← h, hx]; rfl
/-- a state, mixed with a block. -/
def mixK (K : List Int) (s : W8) (l : List Int) : W8 :=
  let t := rounds K l s 64
  ⟨ad s.a t.a, ad s.b t.b, ad s.c t.c, ad s.d t.d, ad s.e t.e, ad s.f t.f, ad s.g t.g, ad s.h t.h⟩
theorem mixK_eq {K l : List Int} {s t : W8} (h : rounds K l s 64 = t) : mixK K s l = ⟨ad s.a t.a, ad s.b t.b, ad s.c t.c, ad s.d t.d, ad s.e t.e, ad s.f t.f, ad s.g t.g, ad s.h t.h⟩ := by
  unfold mixK; rw [h]
end Go.Proofs.YtblgblhoolpmiaaDoor
