/- DERIVED. Labels in a seat of rules: what label's texts want of XLabBoth there. Written by mklite.py. -/
import Derived.Test.YtmbcojpdigoojaaGreatDoorProg
import Derived.Test.YtmbcojpdigoojaaGreatDoorBase2
import Derived.Test.YtmbcojpdigoojaaGreatDoorStr
import Derived.Test.YtmbcojpdigoojaaGreatDoorSlUntil
import Derived.Laws.BitsAllLaws
import Derived.Laws.Tables
import Derived.Laws.Rows
import Derived.Deep.CutBlock
import Derived.Deep.DeepCutAuto
import Derived.Lib.Hide
import Derived.KernelRfl
import Derived.IntWalk
namespace Go.Proofs.YtmbcojpdigoojaaGreatDoor.Lab
open Go.RowKit Str
def chk (lv : Int) : Int := if 0 ≤ lv ∧ lv ≤ 15 then 0 else 2
theorem check_any (lv : Int) (cp : Nat) (w : World) :
    Calls Tryz.prog 21 #[.agg #[.int .i64 lv, .int .u64 (cp : Nat)]] w fun e w' => e = .returned (.int .i64 (chk lv)) ∧ Below w.heap.size w w' := by
  have low : Below w.heap.size w (w.alloc (.cells #[.int .i64 lv, .int .u64 (cp : Nat)] 34)) := (Below.refl _ _).alloc (Nat.le_refl _) _
  have Low := Lib.hid low
  clear low
  by_cases h0 : lv < 0
  · have Hc : Hid (chk lv = 2) := by show _ = _; unfold chk; rw [if_neg (by omega)]
    go_enter Tryz.func21, Tryz.ntmps21
    go_wp2
    go_ret
    exact ⟨by rw [Hc.out]; rfl, Low.out⟩
  · by_cases h1 : 15 < lv
    · have Hc : Hid (chk lv = 2) := by show _ = _; unfold chk; rw [if_neg (by omega)]
      go_enter Tryz.func21, Tryz.ntmps21
      go_wp2
      go_ret
      exact ⟨by rw [Hc.out]; rfl, Low.out⟩
    · have Hc : Hid (chk lv = 0) := by show _ = _; unfold chk; rw [if_pos (by omega)]
      go_enter Tryz.func21, Tryz.ntmps21
      go_wp2
      go_ret
      exact ⟨by rw [Hc.out]; rfl, Low.out⟩
def OkC (c : Nat) : Prop := c < 18446744073709551616
abbrev lab (a : Int) (c : Nat) : Array Value := #[.int .i64 a, .int .u64 (c : Nat)]
theorem lab_one (a : Int) (c : Nat) : (lab a c).all (·.oneCell') = true := by
  rw [Array.all_eq_true_iff_forall_mem]
  intro v hv
  simp only [lab, List.mem_toArray, List.mem_cons, List.mem_nil_iff, or_false] at hv
  rcases hv with rfl | rfl <;> rfl
theorem infoL : (Tryz.prog.info? 34).map (·.size) = some 2 := by kernel_rfl
theorem infoLab (a : Int) (c : Nat) : (Tryz.prog.info? 34).map (·.size) = some (lab a c).size := infoL
theorem setRow_at {w : World} {g : Nat} {old cs : Array Value} {T : TypeId} (h : w.heap[g]? = some (.cells old T (0, 0))) : (w.setRow g cs).heap[g]? = some (.cells cs T (0, 0)) := by
  simp [World.setRow, Array.getElem?_modify, h]
theorem setRow_ne {w : World} {g k : Nat} {cs : Array Value} (h : g ≠ k) : (w.setRow g cs).heap[k]? = w.heap[k]? := by
  simp [World.setRow, Array.getElem?_modify, h]
theorem setRow_size (w : World) (g : Nat) (cs : Array Value) : (w.setRow g cs).heap.size = w.heap.size := by simp [World.setRow]
theorem below_setRow {B : Nat} {a w : World} (h : Below B a w) {g : Nat} (hg : B ≤ g) (cs : Array Value) : Below B a (w.setRow g cs) :=
  ⟨h.os, h.tape, h.output, by rw [setRow_size]; exact h.size, fun k hk => by rw [setRow_ne (by omega)]; exact h.block k hk⟩
theorem eq_run {x b : Int} {y d : Nat} {r : Bool} (h : (x == b && y == d) = r) (W : World) :
    (if x = b then if (y : Int) = (d : Int) then Result.ok (Next.value (Value.bool true)) W else Result.ok (Next.value (Value.bool false)) W else Result.ok (Next.value (Value.bool false)) W) = Result.ok (Next.value (Value.bool r)) W := by
  rw [← h]
  by_cases hx : x = b
  · by_cases hy : y = d
    · simp [hx, hy]
    · have : ¬ (y : Int) = (d : Int) := by omega
      simp [hx, hy, this]
  · simp [hx]
def ordL (a : Int) (c : Nat) (b : Int) (d : Nat) : Int := if a < b then -1 else if b < a then 1 else if c < d then -1 else if d < c then 1 else 0
end Go.Proofs.YtmbcojpdigoojaaGreatDoor.Lab
