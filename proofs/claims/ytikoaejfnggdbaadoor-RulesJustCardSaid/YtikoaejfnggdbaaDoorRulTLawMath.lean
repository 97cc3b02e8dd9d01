/- DERIVED. PLAIN MATHEMATICS for RulesTouched: what its two loops keep. -/
import Derived.Test.YtikoaejfnggdbaaDoorRulTouched
namespace Go.Proofs.YtikoaejfnggdbaaDoor.Rul
open Go.RowKit Lab Pth
/-- mine, behind the first j labels. -/
def MineJ (m0 : Bool) (f : Int × Nat) (L : List (Int × Nat)) (j : Nat) : Bool := m0 || (L.take j).any fun x => decide (x = f)
theorem MineJ.zero (m0 : Bool) (f : Int × Nat) (L : List (Int × Nat)) : MineJ m0 f L 0 = m0 := by simp [MineJ]
theorem MineJ.next {m0 : Bool} {f x : Int × Nat} {L : List (Int × Nat)} {j : Nat} (h : L[j]? = some x) : MineJ m0 f L (j + 1) = (MineJ m0 f L j || decide (x = f)) := by
  unfold MineJ
  rw [List.take_add_one, h]
  simp [List.any_append, Bool.or_assoc]
theorem MineJ.last {q s : ByteArray} (rs : List Rl) : MineJ (!cov q s) (find s rs) (refL (touchF q rs)) (refL (touchF q rs)).length = true := by
  unfold MineJ
  rw [List.take_length]
  cases h : cov q s with
  | false => rfl
  | true =>
    rw [Bool.not_true, Bool.false_or, List.any_eq_true]
    exact ⟨find s rs, (mem_refL _ _).2 (find_touched h rs), by simp⟩
/-- known, behind the first k rules. -/
def KnJ (q : ByteArray) (f x : Int × Nat) (rs : List Rl) (k : Nat) : Bool := decide (x = f) || (rs.take k).any fun r => decide (r.a = x.1 ∧ r.c = x.2) && cov q r.p
theorem KnJ.zero (q : ByteArray) (f x : Int × Nat) (rs : List Rl) : KnJ q f x rs 0 = decide (x = f) := by simp [KnJ]
theorem KnJ.next {q : ByteArray} {f x : Int × Nat} {rs : List Rl} {k : Nat} {r : Rl} (h : rs[k]? = some r) : KnJ q f x rs (k + 1) = (KnJ q f x rs k || (decide (r.a = x.1 ∧ r.c = x.2) && cov q r.p)) := by
  unfold KnJ
  rw [List.take_add_one, h]
  simp [List.any_append, Bool.or_assoc]
theorem KnJ.last {q : ByteArray} {x : Int × Nat} {rs : List Rl} (h : x ∈ refL (touchF q rs)) : KnJ q (find q rs) x rs rs.length = true := by
  have h2 := (mem_refL _ _).1 h
  unfold KnJ
  rw [List.take_length]
  unfold touchF at h2
  rcases List.mem_cons.1 h2 with h2 | h2
  · rw [decide_eq_true h2]; rfl
  · obtain ⟨r, hr, e⟩ := List.mem_map.1 h2
    obtain ⟨hr1, hr2⟩ := List.mem_filter.1 hr
    rw [show (rs.any fun r => decide (r.a = x.1 ∧ r.c = x.2) && cov q r.p) = true from List.any_eq_true.2 ⟨r, hr1, by rw [← e]; simp; exact hr2⟩, Bool.or_true]
theorem eqlab (a b : Int × Nat) (W : World) : (if a.1 = b.1 then (if (a.2 : Int) = (b.2 : Int) then Result.ok (Next.value (Value.bool true)) W else Result.ok (Next.value (Value.bool false)) W) else Result.ok (Next.value (Value.bool false)) W) = Result.ok (Next.value (Value.bool (decide (a = b)))) W := by
  obtain ⟨a1, a2⟩ := a
  obtain ⟨b1, b2⟩ := b
  simp only
  by_cases h1 : a1 = b1
  · by_cases h2 : (a2 : Int) = (b2 : Int)
    · rw [if_pos h1, if_pos h2, decide_eq_true (by rw [h1, Int.ofNat_inj.1 h2])]
    · rw [if_pos h1, if_neg h2, decide_eq_false (fun e => h2 (by injection e with _ e; rw [e]))]
  · rw [if_neg h1, decide_eq_false (fun e => h1 (by injection e))]
end Go.Proofs.YtikoaejfnggdbaaDoor.Rul
