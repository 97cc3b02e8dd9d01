/- DERIVED. PLAIN MATHEMATICS: the primes and the roots' digits that the reference of layer 1 looks for, and that what it does step by step ends at them. No program. -/
import Derived.Test.YtblgblhoolpmiaaDoorShaStart
namespace Go.Proofs.YtblgblhoolpmiaaDoor
/-- the first 64 primes; the roots of the first 8, and the third roots of all, with 32 binary digits behind the point. -/
def PR : List Int := [2, 3, 5, 7, 11, 13, 17, 19, 23, 29, 31, 37, 41, 43, 47, 53, 59, 61, 67, 71, 73, 79, 83, 89, 97, 101, 103, 107, 109, 113, 127, 131, 137, 139, 149, 151, 157, 163, 167, 173, 179, 181, 191, 193, 197, 199, 211, 223, 227, 229, 233, 239, 241, 251, 257, 263, 269, 271, 277, 281, 283, 293, 307, 311]
def R2 : List Int := [6074000999, 7439101573, 9603838834, 11363415354, 14244795007, 15485724812, 17708603819, 18721328409]
def R3 : List Int := [5411319704, 6194414737, 7344290767, 8215976869, 9551921755, 10098905585, 11043570340, 11460697813, 12214315672, 13195500289, 13492127166, 14311783875, 14809980276, 15046980094, 15499789991, 16133124468, 16720292289, 16907126662, 17444216262, 17784676812, 17950125167, 18429019306, 18734950876, 19175934170, 19734090066, 20001703533, 20132865992, 20390182855, 20516441075, 20764397895, 21588763473, 21813078375, 22141143685, 22248366392, 22769593852, 22871018771, 23170020180, 23461497531, 23651862830, 23931792517, 24205322401, 24295138891, 24734567280, 24820601251, 24990902297, 25075189284, 25569408389, 26045227120, 26200031510, 26276752392, 26428864332, 26653801653, 26727943347, 27092625994, 27306805839, 27517677555, 27725365998, 27793908591, 27997534228, 28131656200, 28198240250, 28526537963, 28973835255, 29099129074]
/-- is a number no multiple of those of the list whose squares are not above it? -/
def runP : List Int → Int → Bool
  | [], _ => true
  | x :: r, c => if x * x ≤ c then (if c % x = 0 then false else runP r c) else true
/-- the primes below k + 2. -/
def prN (k : Nat) : List Int := PR.filter fun p => decide (p < (k : Int) + 2)
theorem prN_step_all : ∀ k : Fin 311, prN (k.val + 1) = if runP (prN k.val) ((k.val : Int) + 2) = true then prN k.val ++ [(k.val : Int) + 2] else prN k.val := by decide +kernel
theorem prN_take_all : ∀ k : Fin 312, prN k.val = PR.take (prN k.val).length := by decide +kernel
theorem prN_few_all : ∀ k : Fin 312, (prN k.val).length < 64 → k.val < 310 := by decide +kernel
theorem prN_in_all : ∀ k : Fin 312, (prN k.val).length ≤ 64 := by decide +kernel
theorem prN_step (k : Nat) (h : k < 311) : prN (k + 1) = if runP (prN k) ((k : Int) + 2) = true then prN k ++ [(k : Int) + 2] else prN k := prN_step_all ⟨k, h⟩
theorem prN_take (k : Nat) (h : k < 312) : prN k = PR.take (prN k).length := prN_take_all ⟨k, h⟩
theorem prN_few (k : Nat) (h : k < 312) (hl : (prN k).length < 64) : k < 310 := prN_few_all ⟨k, h⟩ hl
theorem PR_in_all : ∀ j : Fin 64, 2 ≤ PR.getD j.val 0 ∧ PR.getD j.val 0 < 312 := by decide +kernel
theorem PR_in (j : Nat) (h : j < 64) : 2 ≤ PR.getD j 0 ∧ PR.getD j 0 < 312 := PR_in_all ⟨j, h⟩
theorem PR_length : PR.length = 64 := rfl
theorem prN_zero : prN 0 = [] := by decide +kernel
/-- the loop's tests from the j-th on. -/
theorem runP_step {l : List Int} {c : Int} (j : Nat) (h : j < l.length) : runP (l.drop j) c = if l.getD j 0 * l.getD j 0 ≤ c then (if c % l.getD j 0 = 0 then false else runP (l.drop (j + 1)) c) else true := by
  rw [List.drop_eq_getElem_cons h]
  have e : l.getD j 0 = l[j] := by simp [List.getD_eq_getElem?_getD, h]
  rw [e]
  rfl
theorem runP_end {l : List Int} {c : Int} (j : Nat) (h : l.length ≤ j) : runP (l.drop j) c = true := by
  rw [List.drop_eq_nil_of_le h]; rfl
end Go.Proofs.YtblgblhoolpmiaaDoor
