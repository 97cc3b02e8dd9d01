/- DERIVED. The parts of layer 12's laws: few, reopen, same, begins. -/
import Derived.Test.YtjjdmdnklbdjcaaGreatDoorSgmGood
import Derived.Test.YtjjdmdnklbdjcaaGreatDoorSgmTexts
import Derived.Test.YtjjdmdnklbdjcaaGreatDoorSgmArgs
import Derived.Test.YtjjdmdnklbdjcaaGreatDoorRef9Same
namespace Go.Proofs.YtjjdmdnklbdjcaaGreatDoor.Sgm
open Go.RowKit Dsk Slt Epo
/-- whether a law goes through these acts. -/
def fewB (xs : List Ac) : Bool := decide (xs.length ≤ 20 ∧ ∀ x ∈ xs, x.L.length ≤ 3000)
theorem few_done {xs : List Ac} (h : xs.length ≤ 20) (hx : ∀ j, j < xs.length → ∀ x, xs[j]? = some x → x.L.length ≤ 3000) : fewB xs = true := by
  unfold fewB
  refine decide_eq_true ⟨h, fun x hm => ?_⟩
  obtain ⟨j, hj⟩ := List.getElem?_of_mem hm
  exact hx j (List.getElem?_eq_some_iff.1 hj).1 x hj
theorem few_bad {xs : List Ac} {j : Nat} {x : Ac} (h : xs[j]? = some x) (hl : 3000 < x.L.length) : fewB xs = false := by
  unfold fewB
  refine decide_eq_false (fun hh => ?_)
  have := hh.2 x (List.mem_of_getElem? h)
  omega
theorem few_long {xs : List Ac} (h : 20 < xs.length) : fewB xs = false := by
  unfold fewB
  exact decide_eq_false (fun hh => by omega)
set_option maxRecDepth 100000 in
set_option maxHeartbeats 1000000 in
theorem few_any {w : World} (A : Option Addr) (c : Nat) (xs : List Ac) (h : Acts w A c xs) (hm : xs.length ≤ 9223372036854775807) (hok : ∀ x ∈ xs, x.L.length ≤ maxLen) :
    Calls Tryz.prog 8 #[.slice A xs.length c] w fun e w' => e = .returned (.bool (fewB xs)) ∧ w = w' := by
  obtain ⟨n, hn⟩ : ∃ n, xs.length = n := ⟨_, rfl⟩
  rw [hn] at hm ⊢
  have Hn := Lib.hid hn
  have H := Lib.hid h
  have Hok := Lib.hid hok
  clear h hn hok
  go_enter Tryz.func8, Tryz.ntmps8
  go_upto_region 2 with (fail)
  go_loopw [3] (fun v wr => ∃ i : Nat, i ≤ n ∧ i ≤ 21 ∧ v = .int .i64 i ∧ Hid (∀ j, j < i → ∀ x, xs[j]? = some x → x.L.length ≤ 3000) ∧ wr = w) (fun v _ => n - (intOf v).toNat)
  case atStart => exact ⟨0, Nat.zero_le _, Nat.zero_le _, rfl, (fun j hj => absurd hj (Nat.not_lt_zero _)), rfl⟩
  case round =>
    obtain ⟨i, hi, hi21, rfl, hx, rfl⟩ := hrel
    by_cases hlt : i < n ∧ i < 21
    · obtain ⟨h1, h2⟩ := hlt
      have h1I : (i : Int) < (n : Int) := by omega
      have h2I : (i : Int) < 21 := by omega
      obtain ⟨x, hxi⟩ : ∃ x, xs[i]? = some x := ⟨xs[i]'(by rw [Hn.out]; exact h1), List.getElem?_eq_getElem _⟩
      obtain ⟨b, off, rfl, hb, hr⟩ := H.out.2.2 (by rw [Hn.out]; omega)
      have hc := hr i x hxi 1 (.slice x.A x.L.length x.cap) rfl
      have hcap := H.out.1
      have hlm := Hok.out x (List.mem_of_getElem? hxi)
      obtain ⟨m, hm2⟩ : ∃ m, x.L.length = m := ⟨_, rfl⟩
      rw [hm2] at hc hlm
      have Hm2 := Lib.hid hm2
      have Hxi := Lib.hid hxi
      unfold maxLen at hlm
      clear hr hb hm2 hxi h1
      by_cases hl : 3000 < m
      · have hlI : (3000 : Int) < m := by omega
        have Hf := Lib.hid (few_bad Hxi.out (by rw [Hm2.out]; exact hl))
        clear hl hx
        go_wp2
        go_ret
        exact ⟨by rw [Hf.out]; rfl, rfl⟩
      · have hlI : ¬ (3000 : Int) < m := by omega
        have Hx2 : Hid (∀ j, j < i + 1 → ∀ x, xs[j]? = some x → x.L.length ≤ 3000) := fun j hj y hy => by
          by_cases e : j = i
          · subst e
            rw [Hxi.out] at hy
            cases hy
            rw [Hm2.out]; omega
          · exact hx.out j (by omega) y hy
        clear hx hl
        go_wp2
        exact ⟨⟨i + 1, by omega, by omega, by go_num, Hx2.out, trivial⟩, by simp [intOf]; omega⟩
    · by_cases h1 : i < n
      · obtain rfl : i = 21 := by omega
        have h1I : ((21 : Nat) : Int) < (n : Int) := by omega
        have h1I2 : (21 : Int) < (n : Int) := by omega
        have h2I : ¬ (n : Int) ≤ 20 := by omega
        have Hf := Lib.hid (few_long (xs := xs) (by rw [Hn.out]; omega))
        clear hx hlt h1
        go_wp2
        go_ret
        exact ⟨by rw [Hf.out]; rfl, rfl⟩
      · obtain rfl : i = n := by omega
        have h1I : ¬ (i : Int) < (i : Int) := by omega
        by_cases h20 : i ≤ 20
        · have h2I : (i : Int) ≤ 20 := by omega
          have Hf := Lib.hid (few_done (xs := xs) (by rw [Hn.out]; exact h20) (by rw [Hn.out]; exact hx.out))
          clear hx hlt h1
          go_wp2
          go_ret
          exact ⟨by rw [Hf.out]; rfl, rfl⟩
        · have h2I : ¬ (i : Int) ≤ 20 := by omega
          have Hf := Lib.hid (few_long (xs := xs) (by rw [Hn.out]; omega))
          clear hx hlt h1
          go_wp2
          go_ret
          exact ⟨by rw [Hf.out]; rfl, rfl⟩
theorem lsame_any {w : World} (A A2 : Option Addr) (n m c c2 : Nat) (L M : List (List Int)) (hn : L.length = n) (hm : M.length = m) (h1 : TxAt w A L) (h2 : TxAt w A2 M) (hn1 : n ≤ 9223372036854775807) (hm1 : m ≤ 9223372036854775807) :
    Calls Tryz.prog 20 #[.slice A n c, .slice A2 m c2] w fun e w' => e = .returned (.bool (decide (L = M))) ∧ Below w.heap.size w w' := by
  have Hs := Lib.hid (rsame_any A A2 n m c c2 L M hn hm h1 h2 hn1 hm1)
  obtain ⟨b, hb⟩ : ∃ b, b = decide (L = M) := ⟨_, rfl⟩
  rw [← hb] at Hs ⊢
  clear hn hm h1 h2 hb
  go_enter Tryz.func20, Tryz.ntmps20
  go_wp2_with (go_at_call 60; refine Hs.out.mono ?_; rintro e w2 ⟨rfl, hb2⟩; have Hb2 := Lib.hid hb2; clear hb2)
  go_ret
  exact ⟨rfl, Hb2.out⟩
/-- texts, told, as a list that may be compared. -/
theorem rows_tx {w : World} {B g : Nat} {L : List (List Int)} (h : Slt.Rows B L L.length L.length g w) (hi : ∀ t ∈ L, InB t) : TxAt w (some ⟨g, 0, none⟩) L := ⟨fun i hl => by
  obtain ⟨⟨C, hC, _, hx⟩, _⟩ := h
  obtain ⟨v, hv, ⟨A, c, rfl, hB⟩, _⟩ := hx i hl
  refine ⟨g, 0, A, c, rfl, (Array.getElem?_eq_some_iff.1 hC).1, by rw [Nat.zero_add, cell_row hC, hv], hB, hi _ ?_⟩
  rw [List.getD_eq_getElem?_getD, List.getElem?_eq_getElem hl, Option.getD_some]
  exact List.getElem_mem _⟩
set_option maxRecDepth 100000 in
set_option maxHeartbeats 1000000 in
theorem begins_any {w : World} (A A2 : Option Addr) (n m c c2 : Nat) (L M : List (List Int)) (hn : L.length = n) (hm : M.length = m) (h1 : TxAt w A L) (h2 : TxAt w A2 M) (hmc : m ≤ c2) (hn1 : n ≤ 1000000) (_hm1 : m ≤ 1000000) :
    Calls Tryz.prog 21 #[.slice A n c, .slice A2 m c2] w fun e w' => e = .returned (.bool (decide (n ≤ m ∧ L = M.take n))) ∧ Below w.heap.size w w' := by
  by_cases h : n ≤ m
  · have h2' : TxAt w A2 (M.take n) := ⟨fun i hi => by
      have hi' : i < n := by rw [List.length_take] at hi; omega
      obtain ⟨g, off, B, cc, e, a1, a2, a3, a4⟩ := h2.at_ i (by omega)
      have hg : (M.take n).getD i [] = M.getD i [] := by simp [List.getD_eq_getElem?_getD, hi']
      rw [hg]
      exact ⟨g, off, B, cc, e, a1, a2, a3, a4⟩⟩
    have Hs := Lib.hid (lsame_any A A2 n n c c2 L (M.take n) hn (by rw [List.length_take]; omega) h1 h2' (by omega) (by omega))
    have e1 : decide (n ≤ m ∧ L = M.take n) = decide (L = M.take n) := by
      by_cases e : L = M.take n
      · rw [decide_eq_true ⟨h, e⟩, decide_eq_true e]
      · rw [decide_eq_false (fun hh => e hh.2), decide_eq_false e]
    obtain ⟨b, hb⟩ : ∃ b, b = decide (L = M.take n) := ⟨_, rfl⟩
    rw [e1]
    rw [← hb] at Hs ⊢
    have hI : (n : Int) ≤ m := by omega
    have hIc : (n : Int) ≤ c2 := by omega
    have hn0 : (0 : Int) ≤ n := by omega
    clear hn hm h1 h2 h2' hb e1 h
    go_enter Tryz.func21, Tryz.ntmps21
    go_wp2_with (go_at_call 20; refine Hs.out.mono ?_; rintro e w2 ⟨rfl, hb2⟩; have Hb2 := Lib.hid hb2; clear hb2)
    go_ret
    exact ⟨rfl, Hb2.out⟩
  · have e1 : decide (n ≤ m ∧ L = M.take n) = false := decide_eq_false (fun hh => h hh.1)
    rw [e1]
    have hI : ¬ (n : Int) ≤ m := by omega
    clear hn hm h1 h2 e1 h
    go_enter Tryz.func21, Tryz.ntmps21
    go_wp2
    go_ret
    exact ⟨rfl, Below.refl _ _⟩
end Go.Proofs.YtjjdmdnklbdjcaaGreatDoor.Sgm
