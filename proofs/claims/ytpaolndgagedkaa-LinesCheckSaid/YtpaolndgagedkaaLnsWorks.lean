/- DERIVED. The laws' is, no, awake, bytes. -/
import Derived.Test.YtpaolndgagedkaaLnsTold
import Derived.Test.YtpaolndgagedkaaLnsRJoin
namespace Go.Proofs.Ytpaolndgagedkaa.Lns
open Go.RowKit
set_option maxHeartbeats 2000000 in
theorem isl_any (s : ByteArray) (M : List ByteArray) (v : Value) (w : World) (hL : Laid w) (hs : s.size ≤ 50000) (hsp : spl s = (M, 0)) (hR2 : RdT M v w) (hn9 : M.length ≤ 1000) : Calls Try.prog 23 #[.string s, v] w fun e w' => e = .returned (.bool true) ∧ Below w.heap.size w w' := by
  obtain ⟨B, d, rfl, _, hk2⟩ := hR2
  obtain ⟨n, hn⟩ : ∃ n, n = M.length := ⟨_, rfl⟩
  have HK2 := Lib.hid hk2
  have Hn := Lib.hid hn
  have Hsp := Lib.hid hsp
  have HL := Lib.hid hL
  rw [← hn] at hn9 ⊢
  clear hk2 hn hsp hL
  go_enter Try.func23, Try.ntmps23
  go_wp2_with (go_at_call 8; refine (split_any _ _ HL.out hs).mono ?_; rw [Hsp.out]; rintro e w1 ⟨v1, rfl, ho, hb1⟩; obtain ⟨A, c, rfl, _, hk⟩ := ho.rd; rw [← Hn.out] at hk ⊢; have HK := Lib.hid hk; have Hb1 := Lib.hid hb1; clear hk hb1 ho)
  go_loopw [7] (fun i wr => ∃ k : Nat, i = .int .i64 k ∧ k ≤ n ∧ Below w1.heap.size w1 wr) (fun i _ => n - (intOf i).toNat)
  case atStart => exact ⟨0, rfl, Nat.zero_le _, Below.refl _ _⟩
  case round =>
    obtain ⟨k, rfl, hk, hb⟩ := hrel
    by_cases hp : k < n
    · have hpI : (k : Int) < n := by omega
      obtain ⟨g, off, rfl, hg, hc⟩ := HK.out (by omega)
      obtain ⟨g2, off2, rfl, hg2, hc2⟩ := HK2.out (by rw [← Hn.out]; omega)
      have e1 := (hb.cell (p := ⟨g, off + k, none⟩) hg).trans (hc k hp)
      have e2 := (hb.cell (p := ⟨g2, off2 + k, none⟩) (Nat.lt_of_lt_of_le hg2 Hb1.out.size)).trans ((Hb1.out.cell (p := ⟨g2, off2 + k, none⟩) hg2).trans (hc2 k (by rw [← Hn.out]; exact hp)))
      clear hc hc2
      go_wp2
      go_quiet (fail)
      go_wp2
      go_roundw
      case rel => exact ⟨k + 1, by go_num, by omega, Below.drewN hb _⟩
      case measure => simp [intOf]; omega
    · have hpI : ¬ (k : Int) < n := by omega
      go_wp2
      go_ret
      exact ⟨rfl, Hb1.out.trans (hb.mono Hb1.out.size)⟩
theorem no_any (s : ByteArray) (e0 : Int) (w : World) (hL : Laid w) (hs : s.size ≤ 50000) (hsp : spl s = ([], e0)) : Calls Try.prog 22 #[.string s, .int .i64 e0] w fun e w' => e = .returned (.bool true) ∧ Below w.heap.size w w' := by
  have Hsp := Lib.hid hsp
  have HL := Lib.hid hL
  clear hsp hL
  go_enter Try.func22, Try.ntmps22
  go_wp2_with (go_at_call 8; refine (split_any _ _ HL.out hs).mono ?_; rw [Hsp.out]; rintro e w1 ⟨v1, rfl, ho, hb1⟩; obtain ⟨A, c, rfl, _, hk⟩ := ho.rd; rw [List.length_nil]; have Hb1 := Lib.hid hb1; clear hk hb1 ho)
  go_ret
  exact ⟨rfl, Hb1.out⟩
/-- a new row of texts reads as they do. -/
theorem row_rd {w : World} {g : Nat} {L : List ByteArray} (h : w.heap[g]? = some (.cells (L.map Value.string).toArray 9 (0, 0))) {n : Nat} (hn : n = L.length) : RdT L (.slice (some ⟨g, 0, none⟩) n n) w := by
  subst hn
  refine ⟨_, _, rfl, Nat.le_refl _, fun _ => ⟨g, 0, rfl, (Array.getElem?_eq_some_iff.1 h).1, fun j hj => ?_⟩⟩
  rw [Nat.zero_add, cell_row h]
  simp [nth, hj]
theorem spl_ab : spl ⟨#[97, 10, 98, 10]⟩ = ([⟨#[97]⟩, ⟨#[98]⟩], 0) := by decide +kernel
theorem spl_none : spl ⟨#[]⟩ = ([], 0) := by decide +kernel
theorem spl_nl : spl ⟨#[10]⟩ = ([⟨#[]⟩], 0) := by decide +kernel
theorem spl_a : spl ⟨#[97]⟩ = ([], 4) := by decide +kernel
set_option maxHeartbeats 1000000 in
theorem awake_any (w : World) (hL : Laid w) : Calls Try.prog 7 #[] w fun e w' => e = .returned (.bool true) ∧ Below w.heap.size w w' := by
  have h0 := Lib.hid (From.refl hL)
  clear hL
  go_enter Try.func7, Try.ntmps7
  go_wp2_with fail
  have a1 := h0.out.alloc (.cells #[.string ⟨#[97]⟩, .string ⟨#[98]⟩] 9)
  refine (isl_any ⟨#[97, 10, 98, 10]⟩ [⟨#[97]⟩, ⟨#[98]⟩] _ _ a1.2 (by decide) spl_ab (row_rd (Go.heap_alloc_new w _) rfl) (by decide)).mono ?_
  rintro e w1 ⟨rfl, hb1⟩
  have a2 := a1.next hb1
  clear a1 hb1
  go_wp2_with fail
  refine (isl_any ⟨#[]⟩ [] _ _ a2.2 (by decide) spl_none (RdT.none _) (by decide)).mono ?_
  rintro e w2 ⟨rfl, hb2⟩
  have a3 := a2.next hb2
  clear a2 hb2
  go_wp2_with fail
  have a4 := a3.alloc (.cells #[.string ⟨#[]⟩] 9)
  refine (isl_any ⟨#[10]⟩ [⟨#[]⟩] _ _ a4.2 (by decide) spl_nl (row_rd (Go.heap_alloc_new w2 _) rfl) (by decide)).mono ?_
  rintro e w3 ⟨rfl, hb3⟩
  have a5 := a4.next hb3
  clear a3 a4 hb3
  go_wp2_with fail
  refine (no_any ⟨#[97]⟩ 4 _ a5.2 (by decide) spl_a).mono ?_
  rintro e w4 ⟨rfl, hb4⟩
  have a6 := a5.next hb4
  clear a5 hb4
  go_wp2
  go_ret
  exact ⟨rfl, a6.1⟩
def tot (L : List ByteArray) : Nat := (L.map ByteArray.size).sum
theorem tot_next {L : List ByteArray} {k : Nat} (h : k < L.length) : tot (L.take (k + 1)) = tot (L.take k) + (nth L k).size := by
  unfold tot
  rw [List.take_succ_eq_append_getElem h, List.map_append, List.sum_append, nth_lt h]
  simp
theorem join_size (L : List ByteArray) : (joinB L).size = L.length + tot L := by
  rw [Lib.size_eq, joinB_data]
  unfold tot
  induction L with
  | nil => rfl
  | cons x t ih =>
    rw [List.map_cons, joinN, List.length_append, List.length_cons, ih, List.map_cons, List.sum_cons, List.length_cons, Lib.size_eq]
    omega
theorem tot_le {L : List ByteArray} {x : ByteArray} (h : x ∈ L) : x.size ≤ tot L := by
  unfold tot
  induction L with
  | nil => cases h
  | cons y t ih =>
    rw [List.map_cons, List.sum_cons]
    rcases List.mem_cons.1 h with rfl | h
    · omega
    · have := ih h; omega
set_option maxHeartbeats 1000000 in
theorem bytes_any (L : List ByteArray) (v : Value) (w : World) (hR : RdT L v w) (hn9 : L.length ≤ 140737488355328) (hz : ∀ x ∈ L, x.size ≤ 140737488355328) : Calls Try.prog 13 #[v] w fun e w' => (∃ n : Int, e = .returned (.int .i64 n) ∧ (n ≤ 20000 → L.length + tot L ≤ 20000)) ∧ w = w' := by
  obtain ⟨A, c, rfl, _, hk⟩ := hR
  obtain ⟨n, hn⟩ : ∃ n, n = L.length := ⟨_, rfl⟩
  have HK := Lib.hid hk
  have Hn := Lib.hid hn
  have Hz := Lib.hid hz
  rw [← hn] at hn9 ⊢
  clear hk hn hz
  go_enter Try.func13, Try.ntmps13
  go_wp2
  go_loop [3, 4] (fun a i => ∃ k m : Nat, a = .int .i64 m ∧ i = .int .i64 k ∧ k ≤ n ∧ m ≤ 281474976710656 ∧ Hid (m = n + tot (L.take k))) (fun _ i => n - (intOf i).toNat)
  case atStart => exact ⟨0, n, rfl, rfl, Nat.zero_le _, by omega, rfl⟩
  case round =>
    obtain ⟨k, m, rfl, rfl, hk, hm, HM⟩ := hrel
    by_cases hp : k < n
    · have hpI : (k : Int) < n := by omega
      by_cases h2 : m ≤ 20000
      · have h2I : (m : Int) ≤ 20000 := by omega
        have hpl : k < L.length := by rw [← Hn.out]; exact hp
        obtain ⟨g, off, rfl, hg, hc⟩ := HK.out (by rw [← Hn.out]; omega)
        have e1 := hc k hpl
        have hsz := Hz.out _ (nth_mem hpl)
        have hnx := tot_next hpl
        have HM2 : Hid (m + (nth L k).size = n + tot (L.take (k + 1))) := by rw [Hid, hnx, HM.out]; omega
        clear hc hnx HM
        go_wp2
        go_round
        case rel => exact ⟨k + 1, m + (nth L k).size, by rw [Int.natCast_add], by go_num, by omega, by omega, HM2⟩
        case measure => simp [intOf]; omega
      · have h2I : ¬ (m : Int) ≤ 20000 := by omega
        go_wp2
        go_ret
        exact ⟨⟨_, rfl, fun h => absurd h (by omega)⟩, rfl⟩
    · have hpI : ¬ (k : Int) < n := by omega
      have hfin : Hid (m = n + tot L) := by
        have := HM.out
        rwa [List.take_of_length_le (by rw [← Hn.out]; omega)] at this
      go_wp2
      go_ret
      exact ⟨⟨_, rfl, fun h => by have := hfin.out; have := Hn.out; omega⟩, rfl⟩
end Go.Proofs.Ytpaolndgagedkaa.Lns
