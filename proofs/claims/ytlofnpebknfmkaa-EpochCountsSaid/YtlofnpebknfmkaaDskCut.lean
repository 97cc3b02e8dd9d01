/- DERIVED. The contracts of disk's cut: due, count, tear. -/
import Derived.Test.YtlofnpebknfmkaaDsk
namespace Go.Proofs.Ytlofnpebknfmkaa.Dsk
open Go.RowKit
/-- the pointer to a disk's cut. -/
def DK.cutp (K : DK) : Value := .pointer (some ⟨K.g, 4, none⟩)
theorem due_any {w : World} {K : DK} {D : DS} (h : Dsk w K D) : Calls Try.prog 34 #[K.cutp] w fun e w' => e = .returned (.bool D.due) ∧ w = w' := by
  obtain ⟨_, _, _, _, c4, c5, _⟩ := row0 h.row
  unfold DK.cutp DS.due
  obtain ⟨l, hl⟩ : ∃ l, l = D.laid := ⟨_, rfl⟩
  obtain ⟨k, hk⟩ : ∃ k, k = D.whole := ⟨_, rfl⟩
  rw [← hl] at c4 ⊢
  rw [← hk] at c5 ⊢
  clear h hl hk
  cases l
  · go_enter Try.func34, Try.ntmps34
    go_wp2
    go_ret
    exact ⟨rfl, rfl⟩
  · by_cases e : k = 0
    · subst e
      go_enter Try.func34, Try.ntmps34
      go_wp2
      go_ret
      exact ⟨rfl, rfl⟩
    · rw [show (true && decide (k = 0)) = (k == 0) by rfl]
      go_enter Try.func34, Try.ntmps34
      go_wp2
      go_ret
      exact ⟨rfl, rfl⟩
theorem chg_one (w : World) (g off : Nat) (u : Value) : Chg [g] w (w.setCell ⟨g, off, none⟩ u) := (Chg.refl [g] w).setCell (p := ⟨g, off, none⟩) (List.mem_singleton.2 rfl) u
/-- the same disk, its struct's cells told anew. -/
theorem Dsk.setWhole {w : World} {K : DK} {D : DS} (h : Dsk w K D) (k : Int) (h0 : 0 ≤ k) (h1 : k ≤ 9223372036854775807) : Dsk (w.setCell ⟨K.g, 5, none⟩ (.int .i64 k)) K { D with whole := k } :=
  ⟨heap_setCell_same _ _ _ _ _ _ h.row, (Below.heap_setCell _ _ _ _ (Ne.symm h.ne)).trans h.body, h.ne, { h.ok with wh := ⟨h0, h1⟩ }⟩
theorem Dsk.setWrites {w : World} {K : DK} {D : DS} (h : Dsk w K D) (k : Int) (h0 : 0 ≤ k) : Dsk (w.setCell ⟨K.g, 2, none⟩ (.int .i64 k)) K { D with writes := k } :=
  ⟨heap_setCell_same _ _ _ _ _ _ h.row, (Below.heap_setCell _ _ _ _ (Ne.symm h.ne)).trans h.body, h.ne, { h.ok with wr := h0 }⟩
theorem Dsk.setOff {w : World} {K : DK} {D : DS} (h : Dsk w K D) (b : Bool) : Dsk (w.setCell ⟨K.g, 3, none⟩ (.bool b)) K { D with off := b } :=
  ⟨heap_setCell_same _ _ _ _ _ _ h.row, (Below.heap_setCell _ _ _ _ (Ne.symm h.ne)).trans h.body, h.ne, { h.ok with }⟩
theorem row_len {K : DK} {n : Nat} {wr : Int} {off l : Bool} {k : Int} {m : List Int} (hm : m.length = 16) : (rowC K n wr off (cutC l k m)).size = 22 := by
  simp [rowC, cutC, vals, hm]
theorem Dsk.there {w : World} {K : DK} {D : DS} (h : Dsk w K D) : w.there K.g 4 18 := fun j hj => by
  refine ⟨?_, free_row h.row _⟩
  rw [cell_row h.row, Array.getElem?_eq_getElem (by rw [row_len h.ok.mlen]; omega)]
  rfl
theorem Dsk.setCut {w : World} {K : DK} {D : DS} (h : Dsk w K D) (l : Bool) (k : Int) (m : List Int) (hm : m.length = 16) (hb : InB m) (h0 : 0 ≤ k) (h1 : k ≤ 9223372036854775807) : Dsk (w.setCells K.g 4 (cutC l k m)) K { D with laid := l, whole := k, mask := m } := by
  have hl : (cutC l k m).length = 18 := by simp [cutC, vals, hm]
  refine ⟨?_, ((Chg.refl [K.g] w).setCells (List.mem_singleton.2 rfl) _ _).at h.body (by simpa using Ne.symm h.ne), h.ne, { h.ok with mlen := hm, minb := hb, wh := ⟨h0, h1⟩ }⟩
  rw [heap_setCells _ _ _ _ h.row (by rw [row_len h.ok.mlen, hl]; omega)]
  congr 2
  have h2 : (cutC D.laid D.whole D.mask).length = 18 := by simp [cutC, vals, h.ok.mlen]
  simp only [rowC, splice, hl]
  simp [h2]
theorem count_any {w : World} {K : DK} {D : DS} (h : Dsk w K D) (hd : D.due = false) : Calls Try.prog 36 #[K.cutp] w fun e w' => e = .returned (.tuple #[]) ∧ Dsk w' K { D with whole := if D.laid then D.whole - 1 else D.whole } ∧ Chg [K.g] w w' := by
  obtain ⟨_, _, _, _, c4, c5, _⟩ := row0 h.row
  have f5 := free_row h.row 5
  have hw := h.ok.wh
  have H := Lib.hid h
  have hs := fun (h1 : D.whole ≠ 0) => Lib.hid (h.setWhole (D.whole - 1) (by omega) (by omega))
  unfold DK.cutp
  obtain ⟨data, writes, off, laid, whole, mask⟩ := D
  simp only at c4 c5 hw hs ⊢
  cases laid
  · clear h hd hw hs
    go_enter Try.func36, Try.ntmps36
    go_wp2
    refine bodyPost_end (results_none rfl _ _ _) rfl ?_
    exact ⟨rfl, H.out, Chg.refl _ _⟩
  · have hne : whole ≠ 0 := by
      intro h0
      simp [DS.due, h0] at hd
    have HS := hs hne
    clear h hd hs
    go_enter Try.func36, Try.ntmps36
    go_wp2
    refine bodyPost_end (results_none rfl _ _ _) rfl ?_
    exact ⟨rfl, HS.out, chg_one _ _ _ _⟩
/-- what the loop of tear keeps. -/
structure TInv (w : World) (K : DK) (D : DS) (at_ k : Nat) (b : List Int) (wr : World) : Prop where
  body : wr.heap[K.h]? = some (.cells (splice (vals D.data ++ K.sp) (at_ * 128) (vals ((tornL D.mask (secL D.data at_) b).take k))).toArray 5 (0, 0))
  chg : Chg [K.h] w wr
set_option maxRecDepth 100000 in
set_option maxHeartbeats 1000000 in
theorem tear_any {w : World} {K : DK} {D : DS} (h : Dsk w K D) (at_ : Nat) (hat : at_ < D.secs) (c1 c2 : Nat) (A : Option Addr) (b : List Int) (hb : b.length = 128) (hB : Byt w A c2 b) (hA : ∀ a, A = some a → a.block ∉ K.bl) :
    Calls Try.prog 35 #[K.cutp, .slice (some ⟨K.h, at_ * 128, none⟩) 128 c1, .slice A 128 c2] w fun e w' => e = .returned (.tuple #[]) ∧ TInv w K D at_ 128 b w' := by
  obtain ⟨_, _, _, _, _, _, cm⟩ := row0 h.row
  obtain ⟨gb, ob, rfl, hgb, hcb⟩ := hB.2.2 (by omega)
  have hAb := hA _ rfl
  unfold DK.cutp
  go_enter Try.func35, Try.ntmps35
  go_wp2
  go_loopw [9] (fun i wr => ∃ k : Nat, k ≤ 128 ∧ i = .int .i64 k ∧ TInv w K D at_ k b wr) (fun i _ => 128 - (intOf i).toNat)
  case atStart => exact ⟨0, Nat.zero_le _, rfl, ⟨by rw [h.body]; simp [splice, vals], Chg.refl _ _⟩⟩
  case round =>
    obtain ⟨k, hk, rfl, hinv⟩ := hrel
    by_cases hlt : k < 128
    · have hw := h.ok.whole128
      have hgh : K.g ∉ [K.h] := by simpa using h.ne
      have hbh : gb ∉ [K.h] := fun hm => hAb (List.mem_cons_of_mem _ hm)
      have cm1 : wr.cell? ⟨K.g, 6 + k / 8, none⟩ = some (.int .u8 (D.mask.getD (k / 8) 0)) := (World.cell?_of_block (hinv.chg.block K.g h.glt hgh)).trans (cm (k / 8) (by rw [h.ok.mlen]; omega))
      have cb1 : wr.cell? ⟨gb, ob + k, none⟩ = some (.int .u8 (b.getD k 0)) := (World.cell?_of_block (hinv.chg.block gb hgb hbh)).trans (hcb k (by omega))
      have lT : (tornL D.mask (secL D.data at_) b).length = 128 := torn_len _ _ _
      have lL : (vals D.data ++ K.sp).length = D.data.length + K.sp.length := by rw [List.length_append, vals_length]
      have lk : (vals ((tornL D.mask (secL D.data at_) b).take k)).length = k := by rw [vals_length, List.length_take, lT]; omega
      have old : (vals D.data ++ K.sp)[at_ * 128 + k]? = some (.int .u8 (D.data.getD (at_ * 128 + k) 0)) := by
        rw [List.getElem?_append_left (by rw [vals_length]; omega)]
        simp [vals, show at_ * 128 + k < D.data.length by omega]
      have ch1 : wr.cell? ⟨K.h, at_ * 128 + k, none⟩ = some (.int .u8 (D.data.getD (at_ * 128 + k) 0)) := by
        rw [cell_row hinv.body, List.getElem?_toArray, splice_get _ _ _ (by omega), if_neg (by omega), if_neg (by omega), old]
      have fh1 : wr.frozen? ⟨K.h, at_ * 128 + k, none⟩ = false := free_row hinv.body _
      have hT := torn_get D.mask (secL D.data at_) b k hlt
      rw [secL_get _ _ _ hlt] at hT
      have Hbit : bitM D.mask k = bitX (D.mask.getD (k / 8) 0) (k % 8) := rfl
      have Hat := Lib.hid (show at_ * 128 ≤ 2097152 by have := h.ok.most; omega)
      obtain ⟨x, hx⟩ : ∃ x, x = D.mask.getD (k / 8) 0 := ⟨_, rfl⟩
      rw [← hx] at cm1 Hbit
      have hx0 : 0 ≤ x ∧ x < 256 := by rw [hx]; exact h.ok.minb _
      obtain ⟨y, hy⟩ : ∃ y, y = b.getD k 0 := ⟨_, rfl⟩
      rw [← hy] at cb1 hT
      obtain ⟨z, hz⟩ : ∃ z, z = D.data.getD (at_ * 128 + k) 0 := ⟨_, rfl⟩
      rw [← hz] at ch1 old hT
      have hnext : (∀ v : Int, v = (tornL D.mask (secL D.data at_) b).getD k 0 → TInv w K D at_ (k + 1) b (wr.setCell ⟨K.h, at_ * 128 + k, none⟩ (.int .u8 v))) := fun v hv => ⟨by
        have := heap_setCell_same wr K.h (at_ * 128 + k) _ _ (.int .u8 v) hinv.body
        rwa [splice_more _ _ _ _ _ (by omega) (by omega) hv] at this, hinv.chg.setCell (p := ⟨K.h, at_ * 128 + k, none⟩) (List.mem_singleton.2 rfl) _⟩
      have hstay : z = (tornL D.mask (secL D.data at_) b).getD k 0 → TInv w K D at_ (k + 1) b wr := fun hv => ⟨by
        rw [← splice_same _ _ _ _ (by omega) (by omega) (by rw [old, hv])]; exact hinv.body, hinv.chg⟩
      have Hn := Lib.hid hnext
      have Hs := Lib.hid hstay
      have HT := Lib.hid hT
      have hlt' : (k : Int) < 128 := by omega
      clear hw hgh hbh lT lL lk old hT hx hy hz hnext hstay cm hcb hB hA hAb
      cases hbit : bitX x (k % 8)
      · rw [Hbit, hbit, if_neg (by decide)] at HT
        have hb2 : (bits .and .u8 (x / 2 ^ (k % 8)) 1 == 1) = false := hbit
        clear Hbit hbit
        go_wp2
        go_roundw
        case rel => exact ⟨k + 1, by omega, by go_num, Hs.out HT.out.symm⟩
        case measure => simp [intOf]; omega
      · rw [Hbit, hbit, if_pos rfl] at HT
        have hb2 : (bits .and .u8 (x / 2 ^ (k % 8)) 1 == 1) = true := hbit
        clear Hbit hbit
        go_wp2
        go_roundw
        case rel => exact ⟨k + 1, by omega, by go_num, Hn.out y HT.out.symm⟩
        case measure => simp [intOf]; omega
    · go_wp2
      refine bodyPost_end (results_none rfl _ _ _) rfl ?_
      obtain rfl : k = 128 := by omega
      exact ⟨rfl, hinv⟩
end Go.Proofs.Ytlofnpebknfmkaa.Dsk
