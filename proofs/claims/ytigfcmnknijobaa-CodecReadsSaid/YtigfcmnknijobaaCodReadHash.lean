/- DERIVED. The contract of Reader.Hash's closure. Written by mkreads.py. -/
import Derived.Test.YtigfcmnknijobaaCodReadText
import Derived.Laws.CopyOwn
import Derived.Deep.WholeRow
namespace Go.Proofs.Ytigfcmnknijobaa.Cod
open Go.RowKit Str
theorem size8 : (Try.prog.info? 5).map (·.size) = some 1 := by kernel_rfl
def z32 : List Int := List.replicate 32 0
def hashR (L : List Int) : List Int × List Int × Int := if L.length < 32 then (z32, [], 4) else (L.take 32, L.drop 32, 0)
/-- all blocks but the newest one. -/
theorem chg_last {w w' : World} {bx : Nat} (hbx : bx + 1 = w.heap.size) (h : Below bx w w') : Chg [bx] w w' :=
  ⟨h.os, h.tape, h.output, h.size, fun k hk hS => h.block k (by have : k ≠ bx := fun e => hS (List.mem_singleton.2 e); omega)⟩
theorem splice_all (X Y : List Value) (h : X.length = Y.length) : splice X 0 Y = Y := by
  simp [splice, ← h]
set_option maxRecDepth 100000 in
set_option maxHeartbeats 2000000 in
theorem hash1_any {L : List Int} {v : Value} {w0 w : World} {bx : Nat} (hv : SlB L v w0) (hb0 : Below w0.heap.size w0 w) (hbx : bx + 1 = w.heap.size) (hle : L.length ≤ 100000) (hz : w.heap[bx]? = some (.cells (u8s z32) 32 (0, 0))) :
    Calls Try.prog 41 #[v, .pointer (some ⟨bx, 0, none⟩)] w fun e w' => ∃ v' e1, e = .returned (.tuple #[v', .int .i64 e1]) ∧ QBo (hashR L).2.1 (hashR L).2.2 bx 32 (u8s (hashR L).1) w0 w v' e1 w' := by
  obtain ⟨A, c, rfl, hB⟩ := hv
  obtain ⟨n, hn⟩ : ∃ n, n = L.length := ⟨_, rfl⟩
  have hcap := hB.1
  unfold hashR QBo
  rw [← hn] at hle hcap ⊢
  by_cases hlt : n < 32
  · rw [if_pos hlt]
    have hlt' : (n : Int) < 32 := by omega
    have Hz := Lib.hid hz
    clear hB hz hb0 hn hbx
    go_enter Try.func41, Try.ntmps41
    go_wp2
    go_ret2
    exact ⟨_, _, rfl, rfl, slb_nil _, Hz.out, Chg.refl _ _⟩
  · rw [if_neg hlt]
    have hlt' : ¬ (n : Int) < 32 := by omega
    have hc32 : (32 : Int) ≤ (c : Int) := by omega
    have hn32 : (32 : Int) ≤ (n : Int) := by omega
    have hBw := Lib.hid (byt_take (hB.below hb0 (Nat.le_refl _)) 32)
    have hl32 : (L.take 32).length = 32 := by rw [List.length_take]; omega
    have Hl32 := Lib.hid hl32
    have hcut := Lib.hid (slb_cut hB hn.symm (show 32 ≤ n by omega))
    have Hz : Hid (w.heap[bx]? = some (.cells (vals z32).toArray 32 (0, 0))) := hz
    have Hmin : Hid ((vals (L.take 32)).length = Nat.min n 32) := by show _ = _; rw [vals_length, hl32]; exact (Nat.min_eq_right (by omega)).symm
    have Hpos : Hid (∃ ad, A = some ad ∧ ∀ j v, (vals (L.take 32))[j]? = some v → w.cell? (ad.add j) = some v) := by
      obtain ⟨g, off, hA, _⟩ := hBw.out.2.2 (by rw [hl32]; omega)
      exact ⟨_, hA, hBw.out.cells (fun _ _ => rfl) _ hA⟩
    have Hbx := Lib.hid hbx
    obtain ⟨ad, rfl⟩ : ∃ ad, A = some ad := by obtain ⟨ad, h, _⟩ := Hpos.out; exact ⟨ad, h⟩
    clear hB hz hb0 hn hl32 hBw hbx hlt
    by_cases hc : c = 32
    · subst hc
      rw [if_pos rfl] at hcut
      have hn3 : n = 32 := by omega
      have Hn3 := Lib.hid hn3
      clear hn3
      go_enter Try.func41, Try.ntmps41
      go_wp2_with (refine wpList_copy_splice rfl (.tmp 8) (.tmp 9) 22 22 rfl 5 Try.underlying22 size8 (some ⟨bx, 0, none⟩) (some ad) 32 32 n 32 (by rfl) (by rfl) bx 0 (vals z32) 32 Hz.out (vals (L.take 32)) Hmin.out (fun _ => ⟨rfl, Hpos.out⟩) (by rw [Hmin.out, vals_length]; simp [z32]; exact Nat.min_le_right _ _) (vals_one _) bx w (Below.refl _ _) (Nat.le_refl _) ?_; intro w2 h2 low2; have h3 := h2.out; rw [splice_all _ _ (by rw [vals_length, vals_length, Hl32.out]; rfl)] at h3; have H3 := Lib.hid h3; have Low2 := Lib.hid low2; clear h2 h3 low2)
      go_ret2
      have hc2 := hcut.out
      rw [Hn3.out] at hc2
      exact ⟨_, _, rfl, rfl, hc2, H3.out, chg_last Hbx.out Low2.out⟩
    · rw [if_neg hc] at hcut
      go_enter Try.func41, Try.ntmps41
      go_wp2_with (refine wpList_copy_splice rfl (.tmp 8) (.tmp 9) 22 22 rfl 5 Try.underlying22 size8 (some ⟨bx, 0, none⟩) (some ad) 32 32 n c (by rfl) (by rfl) bx 0 (vals z32) 32 Hz.out (vals (L.take 32)) Hmin.out (fun _ => ⟨rfl, Hpos.out⟩) (by rw [Hmin.out, vals_length]; simp [z32]; exact Nat.min_le_right _ _) (vals_one _) bx w (Below.refl _ _) (Nat.le_refl _) ?_; intro w2 h2 low2; have h3 := h2.out; rw [splice_all _ _ (by rw [vals_length, vals_length, Hl32.out]; rfl)] at h3; have H3 := Lib.hid h3; have Low2 := Lib.hid low2; clear h2 h3 low2)
      go_ret2
      exact ⟨_, _, rfl, rfl, hcut.out, H3.out, chg_last Hbx.out Low2.out⟩
end Go.Proofs.Ytigfcmnknijobaa.Cod
