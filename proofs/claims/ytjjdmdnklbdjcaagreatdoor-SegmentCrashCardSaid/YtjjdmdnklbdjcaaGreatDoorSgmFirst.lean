/- DERIVED. The contract of segment.first: the steps, one behind the other, up to the first that fails. -/
import Derived.Test.YtjjdmdnklbdjcaaGreatDoorMseg4
import Derived.Test.YtjjdmdnklbdjcaaGreatDoorProg
namespace Go.Proofs.YtjjdmdnklbdjcaaGreatDoor.Sgm
open Go.RowKit
theorem enter_of {K : Nat} {fn : Func} {c : Code} (hf : Tryz.prog.funcs[K]? = some fn) (hname : (fn.name == "runtime.NumGoroutine") = false) (hb : fn.body = some c) (x : Array Value) (w : World) : (callFunc K x).run Tryz.prog w = .ok (.enter K x) w := by
  have h1 : fn.name ≠ "runtime.NumGoroutine" := by simpa using hname
  simp [callFunc, hf, h1, hb]
/-- what a step answers. -/
def StepQ (I : World → Prop) (Q : Int → World → Prop) (e : Ending) (w' : World) : Prop := ∃ x, e = .returned (.int .i64 x) ∧ ((x = 0 ∧ I w') ∨ (x ≠ 0 ∧ Q x w'))
set_option maxHeartbeats 1000000 in
theorem first_any {m g : Nat} (hm : m ≤ 100) (K : Nat → Nat) (hK : ∀ i, i < m → ∀ x w, (callFunc (K i) x).run Tryz.prog w = .ok (.enter (K i) x) w) (cp : Nat → Array Value) (I : Nat → World → Prop) (Q : Int → World → Prop)
    (hrow : ∀ i w, i < m → I i w → w.cell? ⟨g, i, none⟩ = some (.func (.func (K i)) #[] (cp i)))
    (hst : ∀ i w, i < m → I i w → Calls Tryz.prog (K i) (cp i) w (StepQ (I (i + 1)) Q)) (w : World) (h : I 0 w) :
    Calls Tryz.prog 39 #[.slice (some ⟨g, 0, none⟩) m m] w (StepQ (I m) Q) := by
  have HK := Lib.hid hK
  have HR := Lib.hid hrow
  have HS := Lib.hid hst
  have H := Lib.hid h
  have hmI : (m : Int) ≤ 100 := by omega
  clear hK hrow hst h hm
  go_enter Tryz.func39, Tryz.ntmps39
  go_wp2
  go_loopw [8] (fun v wr => ∃ i : Nat, i ≤ m ∧ v = .int .i64 i ∧ Hid (I i wr)) (fun v _ => m - (intOf v).toNat)
  case atStart => exact ⟨0, Nat.zero_le _, rfl, H.out⟩
  case round =>
    clear H
    obtain ⟨i, hi, rfl, hI⟩ := hrel
    by_cases hlt : i < m
    · have hltI : (i : Int) < (m : Int) := by omega
      have hc := HR.out i wr hlt hI.out
      have hk := HK.out i hlt
      have Hs := Lib.hid (HS.out i wr hlt hI.out)
      obtain ⟨k, hk2⟩ : ∃ k, k = K i := ⟨_, rfl⟩
      obtain ⟨c, hc2⟩ : ∃ c, c = cp i := ⟨_, rfl⟩
      rw [← hk2, ← hc2] at hc
      rw [← hk2] at hk
      rw [← hk2, ← hc2] at Hs
      clear hk2 hc2 hI
      go_wp2_with (refine Hs.out.mono ?_; rintro e w2 ⟨x, rfl, hx⟩; have Hx := Lib.hid hx; clear hx)
      · have he0 : (x != 0) = true := by assumption
        have he : x ≠ 0 := by simpa using he0
        have hq : Q x w2 := by
          rcases Hx.out with h | h
          · exact absurd h.1 he
          · exact h.2
        clear he0 Hx
        go_ret
        exact ⟨x, rfl, .inr ⟨he, hq⟩⟩
      · have he0 : (x != 0) = false := by assumption
        have he : x = 0 := by simpa using he0
        have hq : I (i + 1) w2 := by
          rcases Hx.out with h | h
          · exact h.2
          · exact absurd he h.1
        exact ⟨⟨i + 1, by omega, by go_num, hq⟩, by simp [intOf]; omega⟩
    · obtain rfl : i = m := by omega
      have hltI : ¬ (i : Int) < (i : Int) := by omega
      go_wp2
      go_ret
      exact ⟨0, rfl, .inl ⟨rfl, hI.out⟩⟩
end Go.Proofs.YtjjdmdnklbdjcaaGreatDoor.Sgm
