/- DERIVED. Appending to a row of the call's own that is used on; hmac.Equal's contracts in worlds that are letters. -/
import Derived.Test.YtblgblhoolpmiaaDoorHmacWorks
import Derived.Test.YtblgblhoolpmiaaDoorShaApp
namespace Go.Proofs.YtblgblhoolpmiaaDoor
open Go.RowKit
/-- the first bytes of a slice. -/
theorem byt_take {w : World} {A : Option Addr} {c : Nat} {L : List Int} (h : Byt w A c L) (k : Nat) : Byt w A c (L.take k) :=
  ⟨by rw [List.length_take]; have := h.1; omega, h.2.1, fun hl => by
    rw [List.length_take] at hl
    obtain ⟨g, off, hA, hg, hc⟩ := h.2.2 (by omega)
    refine ⟨g, off, hA, hg, fun j hj => ?_⟩
    rw [List.length_take] at hj
    rw [hc j (by omega)]
    simp only [List.getD_eq_getElem?_getD, List.getElem?_take]
    rw [if_pos (by omega)]⟩
/-- nothing is written. -/
structure Still (w w' : World) : Prop where
  heap : w'.heap = w.heap
  low : Below w.heap.size w w'
theorem Still.drewN (w : World) (q : Nat) : Still w (w.drewN q) := ⟨rfl, ⟨rfl, rfl, rfl, Nat.le_refl _, fun _ _ => rfl⟩⟩
theorem own_still {w w' : World} {base n : Nat} {v : Value} {xs : List Value} (h : w.ownsRow base 5 1 v n xs) (k : Still w w') : w'.ownsRow base 5 1 v n xs := by
  unfold World.ownsRow at h ⊢
  rw [k.heap]; exact h
theorem Byt.still {w w' : World} {A : Option Addr} {c : Nat} {L : List Int} (h : Byt w A c L) (k : Still w w') : Byt w' A c L := h.below k.low (Nat.le_refl _)
theorem equal_yes' (L : List Int) (A A2 : Option Addr) (c c2 n : Nat) (w : World) (hn : L.length = n) (hb : InB L) (hB : Byt w A c L) (hB2 : Byt w A2 c2 L) (hx : n ≤ 9223372036854775807) :
    Calls Tryd.prog 22 #[.slice A n c, .slice A2 n c2] w fun e w' => e = .returned (.bool true) ∧ Still w w' :=
  (equal_yes L A A2 c c2 n w hn hb hB hB2 hx).mono (by rintro e w' ⟨he, q, rfl⟩; exact ⟨he, Still.drewN _ _⟩)
theorem equal_no' (L M : List Int) (A A2 : Option Addr) (c c2 n m : Nat) (w : World) (hn : L.length = n) (hm : M.length = m) (hb : InB L) (hb2 : InB M) (hB : Byt w A c L) (hB2 : Byt w A2 c2 M) (hx : n ≤ 9223372036854775807) (hne : L ≠ M) :
    Calls Tryd.prog 22 #[.slice A n c, .slice A2 m c2] w fun e w' => e = .returned (.bool false) ∧ Still w w' :=
  (equal_no L M A A2 c c2 n m w hn hm hb hb2 hB hB2 hx hne).mono (by rintro e w' ⟨he, q, rfl⟩; exact ⟨he, Still.drewN _ _⟩)
/-- texts of unlike length. -/
theorem equal_len (A A2 : Option Addr) (c c2 n m : Nat) (w : World) (hne : n ≠ m) :
    Calls Tryd.prog 22 #[.slice A n c, .slice A2 m c2] w fun e w' => e = .returned (.bool false) ∧ Still w w' := by
  have h1 : ¬ (n : Int) = m := by omega
  go_enter Tryd.func22, Tryd.ntmps22
  go_wp2
  go_ret
  exact ⟨rfl, Still.drewN _ 0⟩
/-- a row of the call's own reads as its bytes. -/
theorem own_byt {w : World} {base n : Nat} {v : Value} {L : List Int} (h : w.ownsRow base 5 1 v n (vals L)) : ∃ A c, v = .slice A n c ∧ L.length = n ∧ Byt w A c L := by
  have hlen : L.length = n := by have := h.1; rw [vals_length] at this; omega
  rcases h.2 with ⟨rfl, hx⟩ | ⟨g, cap, cur, rfl, _, hh, hcap, _, hs, ht⟩
  · subst hx
    obtain rfl : L = [] := List.eq_nil_of_length_eq_zero hlen
    exact ⟨none, 0, rfl, rfl, Nat.le_refl _, fun _ => rfl, fun h => absurd h (Nat.lt_irrefl 0)⟩
  · refine ⟨_, _, rfl, hlen, by omega, (fun h => by cases h), fun _ => ⟨g, 0, rfl, (Array.getElem?_eq_some_iff.1 hh).1, fun j hj => ?_⟩⟩
    rw [Nat.zero_add, cell_row hh]
    have h2 : cur[j]? = cur.toList[j]? := by simp
    have h3 : (cur.toList.take (n * 1))[j]? = cur.toList[j]? := by rw [List.getElem?_take, if_pos (by omega)]
    rw [h2, ← h3, ht]
    simp [vals, hj]
/-- what is appended to stays as it was. -/
theorem run_append_keeps {w : World} (ty : TypeId) (base : Nat) (v : Value) (n : Nat) (L : List Int) (hown : w.ownsRow base 5 1 v n (vals L)) (ad : Addr) (m c : Nat) (M : List Int) (hm : M.length = m) (hB : Byt w (some ad) c M) (h63 : n + m ≤ 100000) (hbase : base ≤ w.heap.size) :
    ∃ v' w', (lawAnybody.appendS #[26, 26] ty #[v, .slice (some ad) m c]).run Tryd.prog w = .ok v' w' ∧ w'.ownsRow base 5 1 v' (n + m) (vals (L ++ M)) ∧ w'.ownsRow base 5 1 v n (vals L) ∧ (∀ B u, Below B u w → B ≤ base → Below B u w') := by
  obtain ⟨i0, hi0, hz00, hz10, hz20⟩ := info_parts info5
  have hrun : ∀ x, (lawAnybody.appendS #[26, 26] ty x) = Builtin.append_ #[26, 26] ty x := fun x => (lawAnybody.appendS_eq _ _ _).symm
  rw [hrun]
  have hlm : (vals M).length = m * 1 := by rw [vals_length, hm]; omega
  have hnews := hB.cells (fun _ _ => rfl) ad rfl
  rcases hown.2 with ⟨rfl, hx⟩ | ⟨g, cap, cur, rfl, hbg, hh, hcap, hcm, hs, ht⟩
  · obtain ⟨v', w', hr, hown', hgrow, _⟩ := run_append_own (P := Tryd.prog) w base 26 ty 5 i0 (.int .u8 0) 1 1 Tryd.underlying26 hi0 hz00 hz10 hz20 rfl (by decide) _ n (vals L) hown ad m c (vals M) hlm hnews (vals_one _) (by unfold maxLen; omega) (by omega) hbase
    rw [vals_append] at hown'
    exact ⟨v', w', hr, hown', ⟨hown.1, .inl ⟨rfl, hx⟩⟩, fun B u hb hB' => hb.grown hgrow (by omega) (fun k hk => by cases hk)⟩
  · by_cases hroom : n + m ≤ cap
    · have hr := run_append_room (P := Tryd.prog) w 26 ty 5 i0 Tryd.underlying26 hi0 g n cap cur hh ad m c (vals M) (by rw [hlm, hz10]) hnews (vals_one _) hroom (by rw [hlm, hz10, hs]; omega)
      rw [hz10] at hr
      have hlen : (vals L).length = n * 1 := hown.1
      refine ⟨_, _, hr, ⟨by rw [vals_length, List.length_append, ← vals_length L, hlen, ← vals_length M, hlm]; omega, .inr ⟨g, cap, _, rfl, hbg, setRow_heap w g cur _ 5 _ hh, hroom, hcm, ?_, ?_⟩⟩, ⟨hlen, .inr ⟨g, cap, _, rfl, hbg, setRow_heap w g cur _ 5 _ hh, hcap, hcm, ?_, ?_⟩⟩, ?_⟩
      · simp only [List.size_toArray, List.length_append, List.length_take, List.length_drop, Array.length_toList]; omega
      · rw [ht, show vals (L ++ M) = vals L ++ vals M from (vals_append L M).symm]
        have : (n + m) * 1 = (vals L ++ vals M).length := by rw [List.length_append, hlen, hlm]; omega
        rw [this]
        exact List.take_left
      · simp only [List.size_toArray, List.length_append, List.length_take, List.length_drop, Array.length_toList]; omega
      · rw [ht, List.append_assoc, ← hlen]
        exact List.take_left
      · intro B u hb hB'
        exact below_setRow hb (by omega) _
    · obtain ⟨v', w', hr, hown', hgrow⟩ := run_append_arg_grows (P := Tryd.prog) w 26 ty 5 i0 (.int .u8 0) 1 1 Tryd.underlying26 hi0 hz00 hz10 hz20 rfl (by decide) ⟨g, 0, none⟩ n cap (vals L) hown.1 (hown.cells (g := g) rfl) ad m c (vals M) hlm hnews (by omega) (by unfold maxLen; omega) (by omega)
      rw [vals_append] at hown'
      refine ⟨v', w', hr, ?_, ⟨hown.1, .inr ⟨g, cap, cur, rfl, hbg, ?_, hcap, hcm, hs, ht⟩⟩, fun B u hb hB' => hb.grown hgrow (by omega) (fun k hk => by cases hk)⟩
      · refine ⟨hown'.1, hown'.2.imp id ?_⟩
        rintro ⟨g', cap', cur', h1, h2, h3⟩
        exact ⟨g', cap', cur', h1, Nat.le_trans hbase h2, h3⟩
      · rw [hgrow.block g (Array.getElem?_eq_some_iff.1 hh).1 (by simp)]; exact hh
end Go.Proofs.YtblgblhoolpmiaaDoor
