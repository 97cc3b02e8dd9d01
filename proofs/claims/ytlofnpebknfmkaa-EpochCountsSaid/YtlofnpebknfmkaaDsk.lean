/- DERIVED. A disk in memory; the contracts of disk's small methods. -/
import Derived.Test.YtlofnpebknfmkaaDskSpec
import Derived.Test.YtlofnpebknfmkaaProg
import Derived.Lib.Builder
import Derived.LaidEqlPtr
namespace Go.Proofs.Ytlofnpebknfmkaa.Dsk
open Go.RowKit
/-- where a disk lies: its struct, its bytes, and what lies behind them. -/
structure DK where
  g : Nat
  h : Nat
  sp : List Value
def cutC (l : Bool) (k : Int) (m : List Int) : List Value := .bool l :: .int .i64 k :: vals m
def rowC (K : DK) (n : Nat) (wr : Int) (off : Bool) (c : List Value) : Array Value := (.pointer (some ⟨K.g, 0, none⟩) :: .slice (some ⟨K.h, 0, none⟩) n (n + K.sp.length) :: .int .i64 wr :: .bool off :: c).toArray
structure Dsk (w : World) (K : DK) (D : DS) : Prop where
  row : w.heap[K.g]? = some (.cells (rowC K D.data.length D.writes D.off (cutC D.laid D.whole D.mask)) 53 (0, 0))
  body : w.heap[K.h]? = some (.cells (vals D.data ++ K.sp).toArray 5 (0, 0))
  ne : K.g ≠ K.h
  ok : D.Ok
/-- its blocks. -/
def DK.bl (K : DK) : List Nat := [K.g, K.h]
theorem Dsk.glt {w : World} {K : DK} {D : DS} (h : Dsk w K D) : K.g < w.heap.size := (Array.getElem?_eq_some_iff.1 h.row).1
theorem Dsk.hlt {w : World} {K : DK} {D : DS} (h : Dsk w K D) : K.h < w.heap.size := (Array.getElem?_eq_some_iff.1 h.body).1
theorem Dsk.chg {w w' : World} {K : DK} {D : DS} {S : List Nat} (h : Dsk w K D) (hc : Chg S w w') (hg : K.g ∉ S) (hh : K.h ∉ S) : Dsk w' K D :=
  ⟨hc.at h.row hg, hc.at h.body hh, h.ne, h.ok⟩
theorem Dsk.later {w w' : World} {K : DK} {D : DS} (h : Dsk w K D) (hb : Below w.heap.size w w') : Dsk w' K D := h.chg (S := []) (Chg.of_below hb) (by simp) (by simp)
def DK.ptr (K : DK) : Value := .pointer (some ⟨K.g, 0, none⟩)
theorem row0 {w : World} {K : DK} {n : Nat} {wr : Int} {off l : Bool} {k : Int} {m : List Int} {T : Nat} {fr : Nat × Nat} (h : w.heap[K.g]? = some (.cells (rowC K n wr off (cutC l k m)) T fr)) :
    w.cell? ⟨K.g, 0, none⟩ = some (.pointer (some ⟨K.g, 0, none⟩)) ∧ w.cell? ⟨K.g, 1, none⟩ = some (.slice (some ⟨K.h, 0, none⟩) n (n + K.sp.length)) ∧ w.cell? ⟨K.g, 2, none⟩ = some (.int .i64 wr) ∧ w.cell? ⟨K.g, 3, none⟩ = some (.bool off) ∧ w.cell? ⟨K.g, 4, none⟩ = some (.bool l) ∧ w.cell? ⟨K.g, 5, none⟩ = some (.int .i64 k) ∧ ∀ j, j < m.length → w.cell? ⟨K.g, 6 + j, none⟩ = some (.int .u8 (m.getD j 0)) := by
  refine ⟨?_, ?_, ?_, ?_, ?_, ?_, fun j hj => ?_⟩ <;> rw [cell_row h]
  · rfl
  · rfl
  · rfl
  · rfl
  · rfl
  · rfl
  · rw [rowC, cutC, List.getElem?_toArray, show 6 + j = j + 6 by omega]
    simp [vals, hj]
theorem body_cell {w : World} {K : DK} {L : List Int} {T : Nat} {fr : Nat × Nat} (h : w.heap[K.h]? = some (.cells (vals L ++ K.sp).toArray T fr)) (j : Nat) (hj : j < L.length) : w.cell? ⟨K.h, j, none⟩ = some (.int .u8 (L.getD j 0)) := by
  rw [cell_row h, List.getElem?_toArray, List.getElem?_append_left (by rw [vals_length]; exact hj)]
  simp [vals, hj]
theorem eq_same (a : Addr) (w : World) : (binOp .eql 23 (.pointer (some a)) (.pointer (some a))).run Try.prog w = .ok (.bool true) w := by
  obtain ⟨j, hj⟩ : ∃ j, Try.prog.info? 53 = some j := Option.isSome_iff_exists.1 (by kernel_rfl)
  exact Go.run_eql_ptr_same w a (te := 53) Try.underlying23 hj
theorem made_any {w : World} {K : DK} {D : DS} (h : Dsk w K D) : Calls Try.prog 20 #[K.ptr] w fun e w' => e = .returned (.bool true) ∧ w = w' := by
  obtain ⟨c0, _⟩ := row0 h.row
  have he := eq_same ⟨K.g, 0, none⟩
  unfold DK.ptr
  clear h
  go_enter Try.func20, Try.ntmps20
  go_wp2
  go_ret
  exact ⟨rfl, rfl⟩
theorem within_any (k n o : Int) (w : World) (hk : k ≤ 9223372036854775807) (h0 : 0 ≤ o) (ho : o ≤ 9223372036854775807) : Calls Try.prog 21 #[.int .i64 k, .int .i64 n, .int .i64 o] w fun e w' => e = .returned (.bool (withinI k n o)) ∧ w = w' := by
  by_cases a1 : 0 ≤ k
  · by_cases a2 : 0 ≤ n
    · by_cases a3 : n ≤ o - k
      · rw [show withinI k n o = true by rw [withinI, decide_eq_true a1, decide_eq_true a2, decide_eq_true a3]; rfl]
        go_enter Try.func21, Try.ntmps21
        go_wp2
        go_ret
        exact ⟨rfl, rfl⟩
      · rw [show withinI k n o = false by rw [withinI, decide_eq_true a1, decide_eq_true a2, decide_eq_false a3]; rfl]
        go_enter Try.func21, Try.ntmps21
        go_wp2
        go_ret
        exact ⟨rfl, rfl⟩
    · rw [show withinI k n o = false by rw [withinI, decide_eq_true a1, decide_eq_false a2]; rfl]
      go_enter Try.func21, Try.ntmps21
      go_wp2
      go_ret
      exact ⟨rfl, rfl⟩
  · rw [show withinI k n o = false by rw [withinI, decide_eq_false a1]; rfl]
    go_enter Try.func21, Try.ntmps21
    go_wp2
    go_ret
    exact ⟨rfl, rfl⟩
theorem refuses_any {w : World} {K : DK} {D : DS} (h : Dsk w K D) (b : Bool) : Calls Try.prog 22 #[K.ptr, .bool b] w fun e w' => e = .returned (.int .i64 (refE D b)) ∧ w = w' := by
  have Hm := Lib.hid (made_any h)
  obtain ⟨_, _, _, c3, _⟩ := row0 h.row
  unfold refE DK.ptr at *
  obtain ⟨off, ho⟩ : ∃ off, off = D.off := ⟨_, rfl⟩
  rw [← ho] at c3 ⊢
  clear h ho
  cases b <;> cases off <;>
  · go_enter Try.func22, Try.ntmps22
    go_wp2_with (go_at_call 20; refine Hm.out.mono ?_; rintro e w' ⟨rfl, rfl⟩)
    go_ret
    exact ⟨rfl, rfl⟩
theorem sectors_count {w : World} {K : DK} {D : DS} (h : Dsk w K D) : Calls Try.prog 23 #[K.ptr] w fun e w' => e = .returned (.int .i64 D.secs) ∧ w = w' := by
  have Hm := Lib.hid (made_any h)
  obtain ⟨_, c1, _⟩ := row0 h.row
  have hn := h.ok.whole128
  have hm := h.ok.most
  unfold DK.ptr at *
  obtain ⟨s, hs⟩ : ∃ s, s = D.secs := ⟨_, rfl⟩
  rw [hn, ← hs] at c1
  rw [← hs] at hm ⊢
  clear h hn hs
  go_enter Try.func23, Try.ntmps23
  go_wp2_with (go_at_call 20; refine Hm.out.mono ?_; rintro e w' ⟨rfl, rfl⟩)
  go_ret
  refine ⟨?_, rfl⟩
  congr 3
/-- the slice of n sectors from the k-th on. -/
def secV (K : DK) (k n cap : Nat) : Value := .slice (if cap = k * 128 then some ⟨K.h, 0, none⟩ else some ⟨K.h, k * 128, none⟩) (n * 128) (cap - k * 128)
theorem secV_yes (K : DK) (k n cap : Nat) (h : cap = k * 128) : secV K k n cap = .slice (some ⟨K.h, 0, none⟩) ((k + n) * 128 - k * 128) (k * 128 - k * 128) := by
  unfold secV; rw [if_pos h, h]; congr 1; omega
theorem secV_no (K : DK) (k n cap : Nat) (h : ¬ cap = k * 128) : secV K k n cap = .slice (some ⟨K.h, k * 128, none⟩) ((k + n) * 128 - k * 128) (cap - k * 128) := by
  unfold secV; rw [if_neg h]; congr 1; omega
theorem sectors_any {w : World} {K : DK} {D : DS} (h : Dsk w K D) (k n : Nat) (hk : k + n ≤ D.secs) : Calls Try.prog 25 #[K.ptr, .int .i64 k, .int .i64 n] w fun e w' => e = .returned (secV K k n (D.data.length + K.sp.length)) ∧ w = w' := by
  obtain ⟨_, c1, _⟩ := row0 h.row
  have hn := h.ok.whole128
  have hm := h.ok.most
  unfold DK.ptr at *
  obtain ⟨s, hs⟩ : ∃ s, s = D.secs := ⟨_, rfl⟩
  rw [hn, ← hs] at c1
  rw [hn]
  rw [← hs] at hm hk ⊢
  obtain ⟨c, hc⟩ : ∃ c, c = s * 128 + K.sp.length := ⟨_, rfl⟩
  rw [← hc] at c1 ⊢
  have hcs : s * 128 ≤ c := by omega
  clear h hn hs hc
  by_cases e : c = k * 128
  · have hV := secV_yes K k n c e
    rw [hV]
    clear hV
    go_enter Try.func25, Try.ntmps25
    go_wp2
    go_ret
    exact ⟨rfl, rfl⟩
  · have hV := secV_no K k n c e
    rw [hV]
    clear hV
    go_enter Try.func25, Try.ntmps25
    go_wp2
    go_ret
    exact ⟨rfl, rfl⟩
end Go.Proofs.Ytlofnpebknfmkaa.Dsk
