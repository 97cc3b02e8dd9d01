/- DERIVED. The contract of slots.slotOf. -/
import Derived.Test.YthjjkbgkfikglaaSlt
namespace Go.Proofs.Ythjjkbgkfikglaa.Slt
open Go.RowKit Dsk
theorem splice_slot (t : List Int) (k n : Nat) (hn : t.length = n) (h : n + 5 ≤ k * 128) : splice (splice (vals (List.replicate (k * 128) 0)) 0 (vals (0 :: be4 n))) 5 (vals t) = vals (slotB 0 t k) := by
  have e1 : k * 128 = n + 5 + (k * 128 - 5 - n) := by omega
  obtain ⟨r, hr⟩ : ∃ r, r = k * 128 - 5 - n := ⟨_, rfl⟩
  have e2 : slotB 0 t k = 0 :: (be4 n ++ (t ++ List.replicate r 0)) := by rw [slotB, hn, ← hr]
  rw [← hr] at e1
  rw [e1, e2]
  simp only [splice, vals, be4, List.map_cons, List.map_nil, List.length_cons, List.length_nil, List.length_map, List.take_zero, List.nil_append, List.map_replicate, List.drop_replicate, hn, List.map_append]
  rw [show n + 5 + r - 5 = n + r by omega]
  simp only [List.take_succ_cons, List.take_zero, List.cons_append, List.nil_append]
  rw [Nat.add_comm 5 n]
  have e3 : ∀ a b c d e : Value, List.drop (n + 5) (a :: b :: c :: d :: e :: List.replicate (n + r) (Value.int .u8 0)) = List.replicate r (Value.int .u8 0) := fun a b c d e => by
    show List.drop n (List.replicate (n + r) (Value.int .u8 0)) = _
    rw [List.drop_replicate, Nat.add_sub_cancel_left]
  rw [e3]
set_option maxRecDepth 100000 in
set_option maxHeartbeats 1000000 in
theorem slotOf_walk {w : World} (A : Option Addr) (n c F k : Nat) (t : List Int) (hl : t.length = n) (hn : n ≤ 262144) (hB : Byt w A c t) (hF2 : F ≤ 16384) (hk : k * 128 ≤ 300000) (hfit : n + 5 ≤ k * 128)
    (hmin : (if (F : Int) < ((tk n : Nat) : Int) + 1 then (F : Int) else ((tk n : Nat) : Int) + 1) = (k : Int)) :
    Calls Try.prog 43 #[.slice A n c, .int .i64 F] w fun e w' => ∃ g, e = .returned (.slice (some ⟨g, 0, none⟩) (k * 128) (k * 128)) ∧ w'.heap[g]? = some (.cells (vals (slotB 0 t k)).toArray 5 (0, 0)) ∧ w.heap.size ≤ g ∧ Below w.heap.size w w' := by
  have hmk := mk_any (k * 128) (by omega)
  rw [show ((k * 128 : Nat) : Int) = (k : Int) * 128 by omega] at hmk
  have Hs := Lib.hid (sectorsOf_any n (by omega))
  have Hh := Lib.hid (headOf_any n hn)
  have ht : tk n ≤ 3000 := by unfold tk; omega
  obtain ⟨T, hT⟩ : ∃ T, T = tk n := ⟨_, rfl⟩
  rw [← hT] at ht hmin Hs
  have Hl := Lib.hid hl
  have HB := Lib.hid hB
  have Hfit := Lib.hid hfit
  have Hmin := Lib.hid hmin
  have Hn := Lib.hid hn
  clear hB hmin hT hl hfit
  have Hone := Lib.hid (u8s_one (0 :: be4 n))
  have Hsz : Hid ((Try.prog.info? 90).map (·.size) = some (u8s (0 :: be4 n)).size) := info_head
  go_enter Try.func43, Try.ntmps43
  by_cases hc1 : (F : Int) < (T : Int) + 1
  all_goals
    have hk1 := Hmin.out
    first | rw [if_pos hc1] at hk1 | rw [if_neg hc1] at hk1
    rw [← hk1] at hmk
    clear hk1
    go_upto_region 3 with (first
      | (go_at_call 31; refine (Hs.out _).mono ?_; rintro e w' ⟨rfl, rfl⟩)
      | (go_at_call 48; refine (Hh.out _).mono ?_; rintro e w2 ⟨rfl, hb2⟩; have Hb2 := Lib.hid hb2; clear hb2)
      | (refine wpList_store_row rfl 90 (.tmp 6) (.tmp 17) rfl w2.heap.size (u8s (0 :: be4 n)) rfl rfl 90 _ (Go.heap_alloc_new w2 _) Hsz.out (by rfl) Hone.out ?_; rw [World.setRow_alloc_new]))
    have hb2 := Hb2.out
    have hs2 := hb2.size
    rw [World.size_alloc] at hs2
    have hz0 : w2.heap[w.heap.size]? = some (.cells (vals (List.replicate (k * 128) 0)).toArray 5 (0, 0)) := (hb2.block _ (by rw [World.size_alloc]; omega)).trans (Go.heap_alloc_new w _)
    have hz := (Go.heap_alloc_old w2 (.cells (u8s (0 :: be4 n)) 90) (by omega)).trans hz0
    have hh := Go.heap_alloc_new w2 (.cells (u8s (0 :: be4 n)) 90)
    have hlow : Below w.heap.size w (w2.alloc (.cells (u8s (0 :: be4 n)) 90)) := (((Below.refl w.heap.size w).alloc (Nat.le_refl _) _).trans (hb2.mono (by rw [World.size_alloc]; omega))).alloc (by omega) _
    have hs3 := World.size_alloc w2 (.cells (u8s (0 :: be4 n)) 90)
    obtain ⟨w3, hw3⟩ : ∃ w3, w3 = w2.alloc (.cells (u8s (0 :: be4 n)) 90) := ⟨_, rfl⟩
    rw [← hw3] at hz hh hlow hs3 ⊢
    have hbh : Byt w3 (some ⟨w2.heap.size, 0, none⟩) 5 (0 :: be4 n) := ⟨Nat.le_refl _, (fun h => by cases h), fun _ => ⟨w2.heap.size, 0, rfl, by omega, fun j hj => by rw [Nat.zero_add]; exact row8_cell hh j hj⟩⟩
    have hbt : Byt w3 A c t := HB.out.below hlow (Nat.le_refl _)
    have Hz := Lib.hid hz
    have Hbh := Lib.hid hbh
    have Hbt := Lib.hid hbt
    have Hlow := Lib.hid hlow
    have Hs3 : Hid (w.heap.size < w3.heap.size) := by show _ < _; omega
    have h5 : 5 ≤ k * 128 := by have := Hfit.out; omega
    have h5' : ¬ k * 128 = 5 := by omega
    clear hb2 hs2 hz0 hz hh hlow hs3 hw3 hbh hbt Hb2
    go_wp2_with (first
      | (refine wpList_copy_chg rfl (.tmp 18) (.tmp 19) rfl _ (k * 128) (k * 128) _ 5 5 (0 :: be4 n) (by rfl) (by rfl) rfl Hbh.out h5 w.heap.size 0 _ Hz.out (fun _ => rfl) (by rw [vals_length, List.length_replicate]; omega) ?_; intro w4 hh4 hc4; have Hh4 := Lib.hid hh4; have Hc4 := Lib.hid hc4; have Hb4 := Lib.hid (HB.out.below (hc4.below Hlow.out (Nat.le_of_lt Hs3.out) (fun q hq => by simp at hq; omega)) (Nat.le_refl _)); clear hh4 hc4)
      | (refine wpList_copy_chg rfl (.tmp 22) (.tmp 23) rfl _ (k * 128 - 5) (k * 128 - 5) _ n c t (by rfl) (by rfl) Hl.out Hb4.out (by have := Hfit.out; omega) w.heap.size 5 _ Hh4.out (fun _ => rfl) (by rw [splice_len _ _ _ (by simp [vals, be4]; omega), vals_length, List.length_replicate]; have := Hfit.out; omega) ?_; intro w5 hh5 hc5; have Hh5 := Lib.hid hh5; have Hc5 := Lib.hid hc5; clear hh5 hc5))
    go_ret
    refine ⟨_, rfl, ?_, Nat.le_refl _, ?_⟩
    · rw [Hh5.out, splice_slot t k n Hl.out Hfit.out]
    · exact Hc5.out.below (Hc4.out.below Hlow.out (Nat.le_of_lt Hs3.out) (fun q hq => by simp at hq; omega)) (Nat.le_trans (Nat.le_of_lt Hs3.out) Hc4.out.size) (fun q hq => by simp at hq; omega)
/-- the sectors of a first write: the slot, and one of zeros, if one is left. -/
def firstK (n F : Nat) : Nat := min (tk n + 1) F
theorem slotOf_any {w : World} (A : Option Addr) (n c F : Nat) (t : List Int) (hl : t.length = n) (hn : n ≤ 262144) (hB : Byt w A c t) (hF : tk n ≤ F) (hF2 : F ≤ 16384) :
    Calls Try.prog 43 #[.slice A n c, .int .i64 F] w fun e w' => ∃ g, e = .returned (.slice (some ⟨g, 0, none⟩) (firstK n F * 128) (firstK n F * 128)) ∧ w'.heap[g]? = some (.cells (vals (slotB 0 t (firstK n F))).toArray 5 (0, 0)) ∧ w.heap.size ≤ g ∧ Below w.heap.size w w' := by
  have h1 := tk_fit n
  have h2 : tk n ≤ 2100 := by unfold tk; omega
  have h3 : tk n ≤ firstK n F := by unfold firstK; omega
  have h4 : firstK n F ≤ tk n + 1 := by unfold firstK; omega
  exact slotOf_walk A n c F (firstK n F) t hl hn hB hF2 (by omega) (by omega) (by unfold firstK; split <;> omega)
end Go.Proofs.Ythjjkbgkfikglaa.Slt
