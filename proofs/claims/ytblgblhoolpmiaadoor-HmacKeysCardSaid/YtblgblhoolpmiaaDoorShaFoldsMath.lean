/- DERIVED. PLAIN MATHEMATICS: the blocks of the bytes and their padding, folded one by one, are the digest; a row of the call's own across a call. -/
import Derived.Test.YtblgblhoolpmiaaDoorShaDigest
namespace Go.Proofs.YtblgblhoolpmiaaDoor
open Go.RowKit
theorem blk_append_left (L M : List Int) (k : Nat) (h : 64 * k + 64 ≤ L.length) : blk (L ++ M) k = blk L k := by
  unfold blk
  rw [List.drop_append_of_le_length (by omega), List.take_append_of_le_length (by simp; omega)]
theorem foldB_append_left (s : W8) (L M : List Int) : ∀ k, 64 * k ≤ L.length → foldB s (L ++ M) k = foldB s L k
  | 0, _ => rfl
  | k + 1, h => by
    show mixK KW (foldB s (L ++ M) k) (blk (L ++ M) k) = mixK KW (foldB s L k) (blk L k)
    rw [foldB_append_left s L M k (by omega), blk_append_left L M k (by omega)]
theorem blk_drop (L : List Int) (a k : Nat) : blk (L.drop (64 * a)) k = blk L (a + k) := by
  unfold blk
  rw [List.drop_drop, ← Nat.mul_add]
theorem foldB_add (s : W8) (L : List Int) (a : Nat) : ∀ k, foldB (foldB s L a) (L.drop (64 * a)) k = foldB s L (a + k)
  | 0 => rfl
  | k + 1 => by
    show mixK KW (foldB (foldB s L a) (L.drop (64 * a)) k) (blk (L.drop (64 * a)) k) = mixK KW (foldB s L (a + k)) (blk L (a + k))
    rw [foldB_add s L a k, blk_drop]
/-- the whole blocks of L and M, one fold or two. -/
theorem fold_two (s : W8) (L M : List Int) : foldAll (foldAll s L) (L.drop (64 * (L.length / 64)) ++ M) = foldB s (L ++ M) ((L.length + M.length) / 64) := by
  have h : 64 * (L.length / 64) ≤ L.length := by omega
  have e : L.drop (64 * (L.length / 64)) ++ M = (L ++ M).drop (64 * (L.length / 64)) := (List.drop_append_of_le_length h).symm
  unfold foldAll
  rw [e, ← foldB_append_left s L M _ h, foldB_add]
  congr 1
  simp
  omega
theorem fin_eq (s : W8) (L : List Int) (n : Nat) : fin s L n = hashL (foldB s (L ++ padL n) ((L.length + padLen n) / 64)).list := by
  unfold fin
  rw [fold_two, padL_length]
theorem own_below {w w' : World} {base n : Nat} {v : Value} {xs : List Value} (h : w.ownsRow base 5 1 v n xs) (hb : Below w.heap.size w w') : w'.ownsRow base 5 1 v n xs := by
  obtain ⟨h0, h⟩ := h
  refine ⟨h0, ?_⟩
  rcases h with h | ⟨g, cap, cur, hv, hg, hh, r⟩
  · exact .inl h
  · exact .inr ⟨g, cap, cur, hv, hg, (hb.block g (Array.getElem?_eq_some_iff.1 hh).1).trans hh, r⟩
theorem own_form {w : World} {base n : Nat} {v : Value} {L : List Int} (h : w.ownsRow base 5 1 v n (vals L)) (hn : 0 < n) :
    ∃ g c, v = .slice (some ⟨g, 0, none⟩) n c ∧ Byt w (some ⟨g, 0, none⟩) c L ∧ L.length = n ∧ base ≤ g := by
  obtain ⟨h0, h⟩ := h
  rw [vals_length, Nat.mul_one] at h0
  rcases h with ⟨_, h⟩ | ⟨g, cap, cur, hv, hb, hh, hcap, _, hs, ht⟩
  · omega
  · refine ⟨g, cap, hv, ⟨by omega, (fun h => by cases h), fun _ => ⟨g, 0, rfl, (Array.getElem?_eq_some_iff.1 hh).1, fun j hj => ?_⟩⟩, h0, hb⟩
    rw [Nat.zero_add, cell_row hh]
    have h2 : cur[j]? = cur.toList[j]? := by simp
    have h3 : (cur.toList.take (n * 1))[j]? = cur.toList[j]? := by rw [List.getElem?_take, if_pos (by omega)]
    rw [h2, ← h3, ht]
    simp [vals, hj]
theorem own_empty (w : World) : (w.alloc (.cells #[] 5)).ownsRow w.heap.size 5 1 (.slice (some ⟨w.heap.size, 0, none⟩) 0 0) 0 (vals []) :=
  ⟨by simp [vals], .inr ⟨w.heap.size, 0, #[], rfl, Nat.le_refl _, Go.heap_alloc_new w _, Nat.le_refl _, Nat.zero_le _, rfl, by simp [vals]⟩⟩
theorem own_ge {w : World} {base n : Nat} {v : Value} {xs : List Value} (h : w.ownsRow base 5 1 v n xs) : ∀ k, v.ownBlock = some k → base ≤ k := by
  obtain ⟨_, h⟩ := h
  intro k hk
  rcases h with ⟨rfl, _⟩ | ⟨g, cap, cur, rfl, hg, _⟩
  · cases hk
  · cases hk; exact hg
theorem vals_append (L M : List Int) : vals L ++ vals M = vals (L ++ M) := by simp [vals]
theorem store_first (w : World) (s : W8) : opStore (.pointer (some ⟨w.heap.size, 0, none⟩)) (.agg (u32s s.list)) (w.alloc (.cells #[.int .u32 0, .int .u32 0, .int .u32 0, .int .u32 0, .int .u32 0, .int .u32 0, .int .u32 0, .int .u32 0] 24)) = .ok .skip (w.alloc (.cells (u32s s.list) 24)) := by
  have h := opStore_eq (s := ⟨0, 0, 0, 0, 0, 0, 0, 0⟩) (t := s) (Go.heap_alloc_new w (.cells (u32s (W8.mk 0 0 0 0 0 0 0 0).list) 24))
  rw [World.setRow_alloc_new] at h
  exact h
theorem setRow_new_drew (w : World) (c c' : Array Value) (t : TypeId) : ((w.alloc (.cells c t)).drew).setRow w.heap.size c' = (w.alloc (.cells c' t)).drew := by
  show ((w.alloc (.cells c t)).setRow w.heap.size c').drew = _
  rw [World.setRow_alloc_new]
end Go.Proofs.YtblgblhoolpmiaaDoor
