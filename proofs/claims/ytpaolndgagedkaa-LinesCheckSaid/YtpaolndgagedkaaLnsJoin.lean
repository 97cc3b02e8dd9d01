/- DERIVED. The contract of lines.Join. -/
import Derived.Test.YtpaolndgagedkaaWriteStr
import Derived.Test.YtpaolndgagedkaaLnsCheck
namespace Go.Proofs.Ytpaolndgagedkaa.Lns
open Go.RowKit
theorem map_take_next {L : List ByteArray} {k : Nat} (h : k < L.length) : (L.take (k + 1)).map (·.data.toList) = (L.take k).map (·.data.toList) ++ [(nth L k).data.toList] := by
  rw [List.take_succ_eq_append_getElem h, List.map_append, nth_lt h]; rfl
/-- the first k texts, joined. -/
def jn (L : List ByteArray) (k : Nat) : List UInt8 := joinN ((L.take k).map (·.data.toList))
theorem jn_zero (L : List ByteArray) : jn L 0 = [] := rfl
theorem jn_next {L : List ByteArray} {k : Nat} (h : k < L.length) : jn L (k + 1) = (jn L k ++ (nth L k).data.toList) ++ [10] := by
  unfold jn
  rw [map_take_next h, joinN_app]
  simp [joinN]
theorem jn_all {L : List ByteArray} {k : Nat} (h : ¬ k < L.length) : jn L k = (joinB L).data.toList := by
  unfold jn
  rw [List.take_of_length_le (by omega)]; rfl
theorem jn_le {L : List ByteArray} {k : Nat} : (jn L k).length ≤ (joinB L).size := by
  rw [Lib.size_eq, joinB_data]
  have e : L.map (·.data.toList) = (L.take k).map (·.data.toList) ++ (L.drop k).map (·.data.toList) := by rw [← List.map_append, List.take_append_drop]
  rw [e, joinN_app, List.length_append]
  exact Nat.le_add_right _ _
theorem joinN_len : ∀ L : List (List UInt8), L.length ≤ (joinN L).length
  | [] => Nat.le_refl _
  | x :: t => by
    have := joinN_len t
    rw [joinN, List.length_append, List.length_cons, List.length_cons]
    omega
theorem joinB_len (L : List ByteArray) : L.length ≤ (joinB L).size := by
  rw [Lib.size_eq, joinB_data]
  have := joinN_len (L.map (·.data.toList))
  rwa [List.length_map] at this
theorem cells_app (a b : List UInt8) : Lib.byteCells (a ++ b) = Lib.byteCells a ++ Lib.byteCells b := by simp [Lib.byteCells]
theorem cells_len (a : List UInt8) : (Lib.byteCells a).length = a.length := by simp [Lib.byteCells]
set_option maxHeartbeats 2000000 in
theorem join_any (L : List ByteArray) (v : Value) (w : World) (hR : RdT L v w) (hj : (joinB L).size ≤ 500000) : Calls Try.prog 20 #[v] w fun e w' => e = .returned (.string (joinB L)) ∧ Below w.heap.size w w' := by
  obtain ⟨A, c, rfl, hc, hk⟩ := hR
  obtain ⟨n, hn⟩ : ∃ n, n = L.length := ⟨_, rfl⟩
  have hn9 : n ≤ 500000 := by have := joinB_len L; omega
  rw [← hn]
  have Hk := Lib.hid hk
  have Hn := Lib.hid hn
  have Hj := Lib.hid hj
  have hbu : WrS.IsB w.heap.size w.heap.size [] (w.alloc (.cells #[.pointer none, .slice none 0 0] 48)) := .inl ⟨by omega, .slice none 0 0, Go.heap_alloc_new _ _, World.ownsRow_nil _ _ _ _, by simp [Value.ownBlock]⟩
  have HB := Lib.hid hbu
  have HL : Hid (Below w.heap.size w (w.alloc (.cells #[.pointer none, .slice none 0 0] 48))) := (Below.refl _ _).alloc (Nat.le_refl _) _
  clear hk hn hc hj hbu
  go_enter Try.func20, Try.ntmps20
  go_wp2
  go_loopw [8] (fun i wr => ∃ k : Nat, i = .int .i64 k ∧ k ≤ n ∧ Hid (Below w.heap.size w wr ∧ WrS.IsB w.heap.size w.heap.size (Lib.byteCells (jn L k)) wr)) (fun i _ => n - (intOf i).toNat)
  case atStart => exact ⟨0, rfl, Nat.zero_le _, HL.out, HB.out⟩
  case round =>
    obtain ⟨k, rfl, hk, HI⟩ := hrel
    clear HB HL
    by_cases hp : k < n
    · have hpI : (k : Int) < n := by omega
      have hpl : k < L.length := by rw [← Hn.out]; exact hp
      obtain ⟨g, off, rfl, hg, hcell⟩ := Hk.out (by omega)
      have hc := (HI.out.1.cell (p := ⟨g, off + k, none⟩) hg).trans (hcell k hpl)
      have Hnx := Lib.hid (jn_next hpl)
      have Hle := Lib.hid (Nat.le_trans (jn_le (L := L) (k := k + 1)) Hj.out)
      have h1 := WrS.writes_any w.heap.size w.heap.size _ (nth L k) wr HI.out.2 (by
        have h := Hle.out
        rw [Hnx.out, List.length_append, List.length_append, ← Lib.size_eq] at h
        rw [cells_len]; omega) HI.out.1.size
      have H1 := Lib.hid h1
      have H2 : Hid (∀ w1, WrS.IsB w.heap.size w.heap.size (Lib.byteCells (jn L k) ++ Lib.strCells (nth L k)) w1 → w.heap.size ≤ w1.heap.size → Calls Try.prog 30 #[.pointer (some ⟨w.heap.size, 0, none⟩), .string ⟨#[10]⟩] w1 fun e w' => e = .returned (.tuple #[.int .i64 1, .nilIface]) ∧ (WrS.IsB w.heap.size w.heap.size (Lib.byteCells (jn L (k + 1))) w' ∧ Below w.heap.size w1 w')) := fun w1 hb1 hs1 => by
        refine (WrS.writes_any w.heap.size w.heap.size _ ⟨#[10]⟩ w1 hb1 (by
          have h := Hle.out
          rw [Hnx.out, List.length_append, List.length_append, ← Lib.size_eq] at h
          rw [List.length_append, cells_len, Lib.strCells_length]
          have : (⟨#[10]⟩ : ByteArray).size = 1 := rfl
          omega) hs1).mono ?_
        rintro e w' ⟨rfl, h1, h2, _⟩
        refine ⟨rfl, ?_, h2⟩
        rw [Hnx.out, cells_app, cells_app]
        rw [WrS.strCells_bytes, WrS.strCells_bytes] at h1
        exact h1
      clear hcell h1
      go_wp2_with (first
        | (go_at_call 30; refine H1.out.mono ?_; clear H1; rintro e w1 ⟨rfl, hb1, hl1, _⟩; have hl1' := HI.out.1.trans hl1; have H3 := Lib.hid (H2.out _ hb1 hl1'.size); have Hl1 := Lib.hid hl1'; clear hb1 hl1 hl1')
        | (go_at_call 30; refine H3.out.mono ?_; rintro e w2 ⟨rfl, hb2, hl2⟩; have Hb2 := Lib.hid hb2; have Hl2 := Lib.hid hl2; clear hb2 hl2))
      go_roundw
      case rel => exact ⟨k + 1, by go_num, by omega, Hl1.out.trans Hl2.out, Hb2.out⟩
      case measure => simp [intOf]; omega
    · have hpI : ¬ (k : Int) < n := by omega
      have hst := WrS.string_any w.heap.size w.heap.size _ wr HI.out.2 HI.out.1.size
      rw [jn_all (by rw [← Hn.out]; exact hp)] at hst
      have Hst := Lib.hid hst
      clear hst
      go_wp2_with (go_at_call 31; refine Hst.out.mono ?_; rintro e w1 ⟨rfl, hb1⟩; have Hb1 := Lib.hid hb1; clear hb1)
      go_ret
      exact ⟨rfl, HI.out.1.trans Hb1.out⟩
end Go.Proofs.Ytpaolndgagedkaa.Lns
