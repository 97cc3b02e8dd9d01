/- DERIVED. The contract of the laws' few. -/
import Derived.Test.YtigfcmnknijobaaCodVals
namespace Go.Proofs.Ytigfcmnknijobaa.Cod
open Go.RowKit Str
def FewOk (xs : List Val) : Prop := xs.length ≤ 20 ∧ ∀ (i : Nat) (x : Val), xs[i]? = some x → x.s.size ≤ 300
/-- what few tells. -/
def FewR (xs : List Val) (B : Nat) (w : World) (e : Ending) (w' : World) : Prop := ∃ r, e = .returned (.bool r) ∧ (r = true → FewOk xs) ∧ Below B w w'
set_option maxHeartbeats 1000000 in
theorem few_any {A : Option Addr} {c : Nat} {xs : List Val} {w : World} (h : Vals w A c xs) (hm : xs.length ≤ maxLen) (hok : ∀ x ∈ xs, x.Ok) :
    Calls Try.prog 10 #[.slice A xs.length c] w fun e w' => FewR xs w.heap.size w e w' := by
  obtain ⟨n, hn⟩ : ∃ n, n = xs.length := ⟨_, rfl⟩
  have hm' : n ≤ maxLen := by omega
  unfold maxLen at hm'
  have hcap := h.1
  have hall : Hid (∀ (i : Nat) (x : Val), xs[i]? = some x → x.s.size ≤ maxLen) := fun i x hx => (hok x (List.mem_of_getElem? hx)).s
  have h2 := Lib.hid h.2.2
  rw [← hn] at hcap ⊢
  have Hn := Lib.hid hn
  clear h hm hok hn
  go_enter Try.func10, Try.ntmps10
  go_wp2
  go_loopw [3] (fun i wr => ∃ k : Nat, k ≤ n ∧ k ≤ 21 ∧ i = .int .i64 (k : Nat) ∧ Hid (∀ (j : Nat) (x : Val), xs[j]? = some x → j < k → x.s.size ≤ 300) ∧ Hid (Below w.heap.size w wr)) (fun i _ => 21 - (intOf i).toNat)
  case atStart => exact ⟨0, by omega, by omega, rfl, fun j x _ hj => absurd hj (Nat.not_lt_zero _), Below.refl _ _⟩
  case round =>
    obtain ⟨k, hk, hk2, rfl, hfew, hlow⟩ := hrel
    by_cases hlt : k < n
    · have hlt' : (k : Int) < n := by omega
      by_cases h21 : k < 21
      · have h21' : (k : Int) < 21 := by omega
        obtain ⟨b, off, rfl, hb, hcell⟩ := h2.out (by have := Hn.out; omega)
        obtain ⟨x, hx⟩ : ∃ x, xs[k]? = some x := ⟨_, List.getElem?_eq_getElem (by have := Hn.out; omega)⟩
        have hc0 : w.cell? ⟨b, off + k * 39 + 2, none⟩ = some (.string x.s) := hcell k x hx 2 _ (by rw [Array.getElem?_toList]; exact x.c2)
        have hc : wr.cell? ⟨b, off + k * 39 + 2, none⟩ = some (.string x.s) := (hlow.out.cell (p := ⟨b, off + k * 39 + 2, none⟩) hb).trans hc0
        have hsz := hall.out k x hx
        unfold maxLen at hsz
        have Hx := Lib.hid hx
        clear hcell hc0 hx
        by_cases h3 : x.s.size ≤ 300
        · have h3' : ¬ (300 : Int) < x.s.size := by omega
          go_wp2
          go_roundw
          case rel =>
            refine ⟨k + 1, by omega, by omega, by go_num, fun j y hy hj => ?_, hlow.out⟩
            by_cases e : j = k
            · subst e
              rw [Hx.out] at hy
              obtain rfl := Option.some.inj hy
              exact h3
            · exact hfew.out j y hy (by omega)
          case measure => simp [intOf]; omega
        · have h3' : (300 : Int) < x.s.size := by omega
          go_wp2
          go_ret
          exact ⟨false, rfl, (fun h => by cases h), hlow.out⟩
      · have h21' : ¬ (k : Int) < 21 := by omega
        have hn20 : ¬ (n : Int) ≤ 20 := by omega
        go_wp2
        go_ret
        exact ⟨false, rfl, (fun h => by cases h), hlow.out⟩
    · have hlt' : ¬ (k : Int) < n := by omega
      go_wp2
      go_ret
      refine ⟨decide ((n : Int) ≤ 20), rfl, (fun h => ?_), hlow.out⟩
      have h20 : (n : Int) ≤ 20 := of_decide_eq_true h
      have e := Hn.out
      refine ⟨by omega, fun j y hy => hfew.out j y hy ?_⟩
      have := (List.getElem?_eq_some_iff.1 hy).1
      omega
end Go.Proofs.Ytigfcmnknijobaa.Cod
