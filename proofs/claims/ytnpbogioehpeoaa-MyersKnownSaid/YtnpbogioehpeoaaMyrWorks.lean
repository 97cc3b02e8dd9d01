/- DERIVED. The law's same, works. -/
import Derived.Test.YtnpbogioehpeoaaMyrCut
namespace Go.Proofs.Ytnpbogioehpeoaa.Myr
open Go.RowKit Lns
theorem lists_eq {L M : List ByteArray} (hl : L.length = M.length) (h : ∀ j, j < L.length → nth L j = nth M j) : L = M := by
  apply List.ext_getElem hl
  intro i h1 h2
  have := h i h1
  rwa [nth_lt h1, nth_lt h2] at this
set_option maxHeartbeats 1000000 in
theorem same_any (L M : List ByteArray) (u v : Value) (w : World) (hR : RdT L u w) (hR2 : RdT M v w) (hn9 : L.length ≤ 1000000) : Calls Try.prog 15 #[u, v] w fun e w' => e = .returned (.bool (decide (L = M))) ∧ Below w.heap.size w w' := by
  obtain ⟨A, c, rfl, _, hk⟩ := hR
  obtain ⟨B, d, rfl, _, hk2⟩ := hR2
  obtain ⟨n, hn⟩ : ∃ n, n = L.length := ⟨_, rfl⟩
  obtain ⟨m, hm⟩ : ∃ m, m = M.length := ⟨_, rfl⟩
  have HK := Lib.hid hk
  have HK2 := Lib.hid hk2
  have Hn := Lib.hid hn
  have Hm := Lib.hid hm
  rw [← hn] at hn9 ⊢
  rw [← hm]
  by_cases hnm : n = m
  · subst hnm
    clear hk hk2 hn hm
    go_enter Try.func15, Try.ntmps15
    go_wp2
    go_loopw [5] (fun i wr => ∃ k : Nat, i = .int .i64 k ∧ k ≤ n ∧ Below w.heap.size w wr ∧ Hid (∀ j, j < k → nth L j = nth M j)) (fun i _ => n - (intOf i).toNat)
    case atStart => exact ⟨0, rfl, Nat.zero_le _, Below.refl _ _, fun j hj => absurd hj (Nat.not_lt_zero _)⟩
    case round =>
      obtain ⟨k, rfl, hk, hb, HS⟩ := hrel
      by_cases hp : k < n
      · have hpI : (k : Int) < n := by omega
        obtain ⟨g, off, rfl, hg, hc⟩ := HK.out (by rw [← Hn.out]; omega)
        obtain ⟨g2, off2, rfl, hg2, hc2⟩ := HK2.out (by rw [← Hm.out]; omega)
        have e1 := (hb.cell (p := ⟨g, off + k, none⟩) hg).trans (hc k (by rw [← Hn.out]; exact hp))
        have e2 := (hb.cell (p := ⟨g2, off2 + k, none⟩) hg2).trans (hc2 k (by rw [← Hm.out]; exact hp))
        clear hc hc2
        by_cases he : nth L k = nth M k
        · have HS2 : Hid (∀ j, j < k + 1 → nth L j = nth M j) := fun j hj => by
            by_cases hjk : j < k
            · exact HS.out j hjk
            · obtain rfl : j = k := by omega
              exact he
          have hte : (nth L k).toList = (nth M k).toList := by rw [he]
          clear he HS
          go_wp2
          go_quiet (fail)
          go_wp2
          go_roundw
          case rel => exact ⟨k + 1, by go_num, by omega, Below.drewN hb _, HS2⟩
          case measure => simp [intOf]; omega
        · have hte := ne_lists (a := nth L k) (b := nth M k) (fun h => he (bytes_eq h))
          have HR : Hid (decide (L = M) = false) := decide_eq_false (fun h => he (by rw [h]))
          clear he HS
          go_wp2
          go_quiet (fail)
          go_wp2
          go_ret
          exact ⟨ret_b HR.out.symm, Below.drewN hb _⟩
      · have hpI : ¬ (k : Int) < n := by omega
        have HR : Hid (decide (L = M) = true) := decide_eq_true (lists_eq (Hn.out.symm.trans Hm.out) (fun j hj => HS.out j (by have := Hn.out; omega)))
        clear HS
        go_wp2
        go_ret
        exact ⟨ret_b HR.out.symm, hb⟩
  · have hI : ¬ (n : Int) = m := by omega
    have HR : Hid (decide (L = M) = false) := decide_eq_false (fun h => hnm (by rw [hn, hm, h]))
    clear hk hk2 hn hm
    go_enter Try.func15, Try.ntmps15
    go_wp2
    go_ret
    exact ⟨ret_b HR.out.symm, Below.refl _ _⟩

def tX : ByteArray := ⟨#[120]⟩
def tY : ByteArray := ⟨#[121]⟩
def tZ : ByteArray := ⟨#[122]⟩
theorem sel_xyz : (sel [tX, tY] [tY, tZ]).map up = [(1, 0, 0), (0, 1, 0), (2, 0, 1)] := by decide +kernel
theorem rd_two {w : World} {g : Nat} {x y : ByteArray} (h : w.heap[g]? = some (.cells #[.string x, .string y] 9 (0, 0))) : RdT [x, y] (.slice (some ⟨g, 0, none⟩) 2 2) w :=
  ⟨_, 2, rfl, Nat.le_refl _, fun _ => ⟨g, 0, rfl, (Array.getElem?_eq_some_iff.1 h).1, fun j hj => by
    rw [Nat.zero_add, cell_row h]
    match j, hj with
    | 0, _ => rfl
    | 1, _ => rfl⟩⟩
theorem OwnS.row {e : TypeId} {base : Nat} {S : List Sti} {v : Value} {w : World} (h : OwnS e base S v w) (hn : 0 < S.length) : ∃ g c, v = .slice (some ⟨g, 0, none⟩) S.length c ∧ S.length ≤ c ∧ g < w.heap.size ∧ ∀ j, j < S.length → w.cell? ⟨g, j * 3, none⟩ = some (.int .i64 (sth S j).1) ∧ w.cell? ⟨g, j * 3 + 1, none⟩ = some (.int .i64 (sth S j).2.1) ∧ w.cell? ⟨g, j * 3 + 2, none⟩ = some (.int .i64 (sth S j).2.2) := by
  obtain ⟨A, c, e1, hc, k⟩ := h.rd
  obtain ⟨g, off, e2, hg, k⟩ := k hn
  rcases h.2 with ⟨_, h0⟩ | ⟨g', cap, cur, hv, _, _, _, _, _, _⟩
  · omega
  · rw [e1] at hv
    rw [e2] at hv
    cases hv
    refine ⟨g, c, by rw [e1, e2], hc, hg, fun j hj => ?_⟩
    have := k j hj
    rwa [Nat.zero_add] at this
set_option maxRecDepth 100000 in
set_option maxHeartbeats 1000000 in
theorem works_any (w : World) : Calls Try.prog 12 #[] w fun e w' => e = .returned (.bool true) ∧ Below w.heap.size w w' := by
  go_enter Try.func12, Try.ntmps12
  go_wp2_with fail
  obtain ⟨t1, t2⟩ := two_new w (.cells #[.string tX, .string tY] 9) (.cells #[.string tY, .string tZ] 9)
  have hb : Below w.heap.size w ((w.alloc (.cells #[.string tX, .string tY] 9)).alloc (.cells #[.string tY, .string tZ] 9)) := ((Below.refl _ _).alloc (Nat.le_refl _) _).alloc (by simp) _
  refine (diff_any [tX, tY] [tY, tZ] _ _ _ (rd_two t1) (rd_two t2) (by decide) (by decide) (by decide) (by decide)).mono ?_
  rw [sel_xyz]
  rintro e w1 ⟨v, rfl, ho, hb1⟩
  have HB := Lib.hid (hb.trans (hb1.mono hb.size))
  obtain ⟨g, c, rfl, hc, hg, hcell⟩ := ho.row (by decide)
  obtain ⟨c0, c1, c2⟩ := hcell 0 (by decide)
  obtain ⟨c3, c4, c5⟩ := hcell 1 (by decide)
  obtain ⟨c6, c7, c8⟩ := hcell 2 (by decide)
  simp only [sth, List.getD_cons_zero, List.getD_cons_succ, List.length_cons, List.length_nil, Nat.zero_mul, Nat.one_mul, Nat.zero_add, Nat.reduceMul, Nat.reduceAdd] at c0 c1 c2 c3 c4 c5 c6 c7 c8 hc ⊢
  clear ho hb hb1 t1 t2 hcell
  go_wp2
  go_ret
  exact ⟨rfl, HB.out⟩
end Go.Proofs.Ytnpbogioehpeoaa.Myr
