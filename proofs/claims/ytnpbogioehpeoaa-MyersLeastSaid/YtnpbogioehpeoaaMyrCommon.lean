/- DERIVED. The law's common: how much two lists have in common, from the front. -/
import Derived.Test.YtnpbogioehpeoaaMyrKept
namespace Go.Proofs.Ytnpbogioehpeoaa.Myr
open Go.RowKit Lns
def rowC (a b : List ByteArray) (i : Nat) : List Int := (List.range (b.length + 1)).map fun q => (lcs (a.take i) (b.take q) : Int)
def nxtC (a b : List ByteArray) (i j : Nat) : List Int := (List.range (b.length + 1)).map fun q => if q ≤ j then (lcs (a.take (i + 1)) (b.take q) : Int) else 0
theorem rowC_len (a b : List ByteArray) (i : Nat) : (rowC a b i).length = b.length + 1 := by simp [rowC]
theorem nxtC_len (a b : List ByteArray) (i j : Nat) : (nxtC a b i j).length = b.length + 1 := by simp [nxtC]
theorem rowC_get (a b : List ByteArray) (i j : Nat) (h : j ≤ b.length) : (rowC a b i).getD j 0 = (lcs (a.take i) (b.take j) : Int) := by
  simp [rowC, List.getD_eq_getElem?_getD, show j < b.length + 1 by omega]
theorem nxtC_get (a b : List ByteArray) (i j q : Nat) (h : q ≤ b.length) (hq : q ≤ j) : (nxtC a b i j).getD q 0 = (lcs (a.take (i + 1)) (b.take q) : Int) := by
  simp [nxtC, List.getD_eq_getElem?_getD, show q < b.length + 1 by omega, hq]
theorem rowC_start (a b : List ByteArray) : rowC a b 0 = List.replicate (b.length + 1) 0 := by
  apply List.ext_getElem
  · simp [rowC]
  · intro j h1 h2
    simp only [rowC, List.getElem_map, List.getElem_replicate, List.take_zero, lcs]
    rfl
theorem nxtC_start (a b : List ByteArray) (i : Nat) : nxtC a b i 0 = List.replicate (b.length + 1) 0 := by
  apply List.ext_getElem
  · simp [nxtC]
  · intro j h1 h2
    simp only [nxtC, List.getElem_map, List.getElem_range, List.getElem_replicate]
    split
    · obtain rfl : j = 0 := by omega
      rw [List.take_zero, lcs_nil]; rfl
    · rfl
theorem nxtC_done (a b : List ByteArray) (i : Nat) : nxtC a b i b.length = rowC a b (i + 1) := by
  apply List.ext_getElem
  · simp [nxtC, rowC]
  · intro j h1 h2
    rw [nxtC_len] at h1
    simp only [nxtC, rowC, List.getElem_map, List.getElem_range]
    rw [if_pos (by omega)]
theorem nxtC_set (a b : List ByteArray) (i j : Nat) : (nxtC a b i j).set (j + 1) (lcs (a.take (i + 1)) (b.take (j + 1)) : Int) = nxtC a b i (j + 1) := by
  apply List.ext_getElem
  · simp [nxtC]
  · intro q h1 h2
    rw [List.getElem_set]
    simp only [nxtC, List.getElem_map, List.getElem_range]
    by_cases e : j + 1 = q
    · subst e; rw [if_pos rfl, if_pos (Nat.le_refl _)]
    · rw [if_neg e]
      by_cases h : q ≤ j
      · rw [if_pos h, if_pos (by omega)]
      · rw [if_neg h, if_neg (by omega)]
theorem set_set (L : List Int) (j : Nat) (x y : Int) : (L.set j x).set j y = L.set j y := List.set_set ..
theorem take_at {L : List ByteArray} {k : Nat} (h : k < L.length) : L.take (k + 1) = L.take k ++ [nth L k] := take_next h
theorem lcs_yes {a b : List ByteArray} {i j : Nat} (hi : i < a.length) (hj : j < b.length) (e : nth a i = nth b j) : lcs (a.take (i + 1)) (b.take (j + 1)) = max (max (lcs (a.take i) (b.take (j + 1))) (lcs (a.take (i + 1)) (b.take j))) (lcs (a.take i) (b.take j) + 1) := by
  rw [take_at hi, take_at hj, lcs_snoc, if_pos e]
theorem lcs_not {a b : List ByteArray} {i j : Nat} (hi : i < a.length) (hj : j < b.length) (e : nth a i ≠ nth b j) : lcs (a.take (i + 1)) (b.take (j + 1)) = max (lcs (a.take i) (b.take (j + 1))) (lcs (a.take (i + 1)) (b.take j)) := by
  rw [take_at hi, take_at hj, lcs_snoc, if_neg e, Nat.max_zero]
theorem mk_int1 (n : Nat) (hn : n ≤ 1000000) (w : World) : (Instr.makeSlice 47 (.int .i64 ((n : Int) + 1)) (.int .i64 ((n : Int) + 1))).run Try.prog w = .ok (.slice (some ⟨w.heap.size, 0, none⟩) (n + 1) (n + 1)) (w.alloc (.cells (iv .i64 (List.replicate (n + 1) 0)) 3)) := mk_ints (n + 1) (by omega) w
/-- a round's rows. -/
structure CR (w : World) (a b : List ByteArray) (g i : Nat) (wr : World) : Prop where
  row : RowI .i64 3 wr g (rowC a b i)
  ge : w.heap.size ≤ g
  low : Below w.heap.size w wr
structure CN (w : World) (a b : List ByteArray) (g g2 i j : Nat) (wr : World) : Prop where
  row : RowI .i64 3 wr g (rowC a b i)
  nxt : RowI .i64 3 wr g2 (nxtC a b i j)
  ne : g ≠ g2
  ge : w.heap.size ≤ g2
  low : Below w.heap.size w wr
theorem CR.next {w wr : World} {a b : List ByteArray} {g i : Nat} (h : CR w a b g i wr) : CN w a b g wr.heap.size i 0 (wr.alloc (.cells (iv .i64 (List.replicate (b.length + 1) 0)) 3)) :=
  ⟨h.row.block (Go.heap_alloc_old _ _ h.row.lt), by rw [nxtC_start]; exact row_new _ _ _ _, fun e => by have := h.row.lt; omega, h.low.size, h.low.alloc h.low.size _⟩
theorem CN.drewN {w wr : World} {a b : List ByteArray} {g g2 i j : Nat} (h : CN w a b g g2 i j wr) (k : Nat) : CN w a b g g2 i j (wr.drewN k) := ⟨h.row, h.nxt, h.ne, h.ge, Below.drewN h.low k⟩
theorem CN.done {w wr : World} {a b : List ByteArray} {g g2 i : Nat} (h : CN w a b g g2 i b.length wr) : CR w a b g2 (i + 1) wr := ⟨by rw [← nxtC_done]; exact h.nxt, h.ge, h.low⟩
/-- between the two stores of a round. -/
structure CM (w : World) (a b : List ByteArray) (g g2 i j : Nat) (x : Int) (wr : World) : Prop where
  row : RowI .i64 3 wr g (rowC a b i)
  nxt : RowI .i64 3 wr g2 ((nxtC a b i j).set (j + 1) x)
  ne : g ≠ g2
  ge : w.heap.size ≤ g2
  low : Below w.heap.size w wr
theorem CM.drewN {w wr : World} {a b : List ByteArray} {g g2 i j : Nat} {x : Int} (h : CM w a b g g2 i j x wr) (k : Nat) : CM w a b g g2 i j x (wr.drewN k) := ⟨h.row, h.nxt, h.ne, h.ge, Below.drewN h.low k⟩
theorem CN.put {w wr : World} {a b : List ByteArray} {g g2 i j : Nat} (h : CN w a b g g2 i j wr) (x : Int) : CM w a b g g2 i j x (wr.setCell ⟨g2, j + 1, none⟩ (.int .i64 x)) :=
  ⟨h.row.block (heap_setCell_other _ _ _ _ (fun e => h.ne (by simpa using e))), h.nxt.set _ _, h.ne, h.ge, h.low.setCell h.ge _⟩
theorem CM.put {w wr : World} {a b : List ByteArray} {g g2 i j : Nat} {x : Int} (h : CM w a b g g2 i j x wr) (y : Int) : CM w a b g g2 i j y (wr.setCell ⟨g2, j + 1, none⟩ (.int .i64 y)) :=
  ⟨h.row.block (heap_setCell_other _ _ _ _ (fun e => h.ne (by simpa using e))), by have := h.nxt.set (j + 1) y; rwa [set_set] at this, h.ne, h.ge, h.low.setCell h.ge _⟩
theorem CM.done {w wr : World} {a b : List ByteArray} {g g2 i j : Nat} {x : Int} (h : CM w a b g g2 i j x wr) (e : x = (lcs (a.take (i + 1)) (b.take (j + 1)) : Nat)) : CN w a b g g2 i (j + 1) wr := ⟨h.row, by rw [← nxtC_set, ← e]; exact h.nxt, h.ne, h.ge, h.low⟩
set_option maxRecDepth 100000 in
set_option maxHeartbeats 4000000 in
theorem common_any (a b : List ByteArray) (va vb : Value) (w : World) (hA : RdT a va w) (hB : RdT b vb w) (hn : a.length ≤ 1024) (hm : b.length ≤ 1024) :
    Calls Try.prog 16 #[va, vb] w fun e w' => e = .returned (.int .i64 (lcs a b)) ∧ Below w.heap.size w w' := by
  obtain ⟨A1, cc1, rfl, hcc1, hka⟩ := hA
  obtain ⟨A2, cc2, rfl, hcc2, hkb⟩ := hB
  have hmk := mk_int1 b.length (by omega)
  have Hst : Hid (CR w a b w.heap.size 0 (w.alloc (.cells (iv .i64 (List.replicate (b.length + 1) 0)) 3))) := ⟨by rw [rowC_start]; exact row_new _ _ _ _, Nat.le_refl _, (Below.refl _ _).alloc (Nat.le_refl _) _⟩
  obtain ⟨Z, hZ⟩ : ∃ Z, Z = iv .i64 (List.replicate (b.length + 1) 0) := ⟨_, rfl⟩
  have Hnx : Hid (∀ g i wr, CR w a b g i wr → CN w a b g wr.heap.size i 0 (wr.alloc (.cells Z 3))) := by rw [hZ]; exact fun g i wr h => h.next
  rw [← hZ] at hmk Hst
  obtain ⟨n, hn1⟩ : ∃ n, n = a.length := ⟨_, rfl⟩
  obtain ⟨m, hm1⟩ : ∃ m, m = b.length := ⟨_, rfl⟩
  rw [← hn1] at hka hn ⊢
  rw [← hm1] at hkb hm hmk ⊢
  have HN := Lib.hid hn1
  have HM := Lib.hid hm1
  have HKA := Lib.hid hka
  have HKB := Lib.hid hkb
  clear hcc1 hcc2 hka hkb hn1 hm1 hZ
  go_enter Try.func16, Try.ntmps16
  go_wp2
  go_loopw [5, 6] (fun v i wr => ∃ g k : Nat, v = .slice (some ⟨g, 0, none⟩) (m + 1) (m + 1) ∧ i = .int .i64 k ∧ k ≤ n ∧ Hid (CR w a b g k wr)) (fun _ i _ => n - (intOf i).toNat)
  case atStart => exact ⟨_, 0, rfl, rfl, Nat.zero_le _, Hst⟩
  case round =>
    obtain ⟨g, k, rfl, rfl, hk, HI⟩ := hrel
    clear Hst
    by_cases hp : k < n
    · have hpI : (k : Int) < n := by omega
      have HP := Lib.hid (Hnx.out g k wr HI.out)
      obtain ⟨g2, hg2⟩ : ∃ g2, g2 = wr.heap.size := ⟨_, rfl⟩
      have Hg2 := Lib.hid hg2
      rw [← hg2] at HP
      clear hg2 HI
      go_upto_region 6 with (fail)
      generalize wr.alloc (.cells Z 3) = w1 at HP ⊢
      rw [← Hg2.out]
      go_wp2
      go_loopw [8] (fun j wr => ∃ q : Nat, j = .int .i64 q ∧ q ≤ m ∧ Hid (CN w a b g g2 k q wr)) (fun j _ => m - (intOf j).toNat)
      case atStart => exact ⟨0, rfl, Nat.zero_le _, HP⟩
      case round =>
        obtain ⟨q, rfl, hq, HJ⟩ := hrel
        clear HP
        by_cases hr : q < m
        · have hrI : (q : Int) < m := by omega
          obtain ⟨ga, oa, rfl, hga, hca⟩ := HKA.out (by omega)
          obtain ⟨gb, ob, rfl, hgb, hcb⟩ := HKB.out (by omega)
          have Hca := Lib.hid (hca k hp)
          have Hcb := Lib.hid (hcb q hr)
          have c1 : wr.cell? ⟨g, q + 1, none⟩ = some (.int .i64 (lcs (a.take k) (b.take (q + 1)) : Nat)) := by rw [HJ.out.row.cell _ (by rw [rowC_len, ← HM.out]; omega), rowC_get _ _ _ _ (by rw [← HM.out]; omega)]
          have c2 : wr.cell? ⟨g2, q, none⟩ = some (.int .i64 (lcs (a.take (k + 1)) (b.take q) : Nat)) := by rw [HJ.out.nxt.cell _ (by rw [nxtC_len, ← HM.out]; omega), nxtC_get _ _ _ _ _ (by rw [← HM.out]; omega) (Nat.le_refl _)]
          have H4 : Hid ((rowC a b k).getD q 0 = (lcs (a.take k) (b.take q) : Nat)) := rowC_get _ _ _ _ (by rw [← HM.out]; omega)
          have c3 := HJ.out.nxt.cell (q + 1) (by rw [nxtC_len, ← HM.out]; omega)
          have f3 := HJ.out.nxt.free (q + 1)
          have hyes := Lib.hid (fun e => lcs_yes (a := a) (b := b) (i := k) (j := q) (by rw [← HN.out]; exact hp) (by rw [← HM.out]; exact hr) e)
          have hno := Lib.hid (fun e => lcs_not (a := a) (b := b) (i := k) (j := q) (by rw [← HN.out]; exact hp) (by rw [← HM.out]; exact hr) e)
          have bd : Hid (lcs (a.take k) (b.take q) ≤ 1024) := by have h := lcs_left (a.take k) (b.take q); rw [List.length_take] at h; show _ ≤ 1024; omega
          obtain ⟨vu, hvu⟩ : ∃ vu, vu = lcs (a.take k) (b.take (q + 1)) := ⟨_, rfl⟩
          obtain ⟨vl, hvl⟩ : ∃ vl, vl = lcs (a.take (k + 1)) (b.take q) := ⟨_, rfl⟩
          obtain ⟨vd, hvd⟩ : ∃ vd, vd = lcs (a.take k) (b.take q) := ⟨_, rfl⟩
          rw [← hvu, ← hvl] at hno
          rw [← hvu, ← hvl, ← hvd] at hyes
          rw [← hvu] at c1
          rw [← hvl] at c2
          rw [← hvd] at H4 bd
          obtain ⟨tv, htv⟩ : ∃ tv, tv = (nxtC a b k q).getD (q + 1) 0 := ⟨_, rfl⟩
          rw [← htv] at c3
          have i3 : (q : Int) < (m : Int) + 1 := by omega
          have i4 : (q : Int) + 1 < (m : Int) + 1 := by omega
          have j3 : (q : Int) ≤ m := by omega
          have j4 : (q : Int) + 1 ≤ m := by omega
          have o3 : (0 : Int) ≤ (q : Int) + 1 := by omega
          have q5 : ¬ ((q : Int) + 1 < 0) := by omega
          have q7 : ((q : Int) + 1).toNat = q + 1 := by omega
          have l2 : IntKind.i64.wrap ((q : Int) + 1) = (q : Int) + 1 := by rw [IntKind.wrap_i64]; omega
          clear hca hcb hvu hvl hvd htv
          go_wp2
          go_still_tail 14, (by kernel_rfl)
          change wpList _ _ _ _ _ wr.drew
          have HJ4 := Lib.hid (HJ.out.drewN 1)
          have c3' : wr.drew.cell? ⟨g2, q + 1, none⟩ = some (.int .i64 tv) := c3
          have f3' : wr.drew.frozen? ⟨g2, q + 1, none⟩ = false := f3
          change Hid (CN w a b g g2 k q wr.drew) at HJ4
          generalize wr.drew = w4 at HJ4 c3' f3' ⊢
          clear c1 c2 c3 f3
          have HM5 := Lib.hid (HJ4.out.put (max (vu : Int) (vl : Int)))
          go_upto_region 10 with (fail)
          generalize w4.setCell ⟨g2, q + 1, none⟩ (.int .i64 (max (vu : Int) (vl : Int))) = w5 at HM5 ⊢
          have ca := (HM5.out.low.cell (p := ⟨ga, oa + k, none⟩) hga).trans Hca.out
          have cb := (HM5.out.low.cell (p := ⟨gb, ob + q, none⟩) hgb).trans Hcb.out
          clear c3' f3' HJ HJ4
          by_cases he : nth a k = nth b q
          · have hte : (nth a k).toList = (nth b q).toList := by rw [he]
            have hv := hyes.out he
            clear hyes hno he
            go_quiet (fail)
            have HM6 := Lib.hid (HM5.out.drewN nq)
            generalize w5.drewN nq = w6 at HM6 ⊢
            have c1 : w6.cell? ⟨g2, q + 1, none⟩ = some (.int .i64 (max (vu : Int) (vl : Int))) := by
              rw [HM6.out.nxt.cell _ (by rw [List.length_set, nxtC_len, ← HM.out]; omega)]
              simp [List.getD_eq_getElem?_getD, nxtC_len, ← HM.out, hr]
            have c2 : w6.cell? ⟨g, q, none⟩ = some (.int .i64 (vd : Nat)) := by
              rw [HM6.out.row.cell _ (by rw [rowC_len, ← HM.out]; omega), H4.out]
            have bdK : vd ≤ 1024 := bd.out
            have bdW : IntKind.i64.wrap ((vd : Int) + 1) = (vd : Int) + 1 := by rw [IntKind.wrap_i64]; omega
            clear ca cb hte HM5
            go_wp2
            go_still_tail 15, (by kernel_rfl)
            change wpList _ _ _ _ _ w6.drew
            have HM7 : Hid (CM w a b g g2 k q (max (vu : Int) (vl : Int)) w6.drew) := HM6.out.drewN 1
            generalize w6.drew = w7 at HM7 ⊢
            clear c1 c2 HM6
            have bdJ : (vd : Int) ≤ 1024 := by have := bd.out; omega
            have c1 : w7.cell? ⟨g2, q + 1, none⟩ = some (.int .i64 (max (vu : Int) (vl : Int))) := by
              rw [HM7.out.nxt.cell _ (by rw [List.length_set, nxtC_len, ← HM.out]; omega)]
              simp [List.getD_eq_getElem?_getD, nxtC_len, ← HM.out, hr]
            have f1 := HM7.out.nxt.free (q + 1)
            have HN8 := Lib.hid ((HM7.out.put (max (vu : Int) (max (vl : Int) ((vd : Int) + 1)))).done (by rw [hv]; omega))
            have bdI : vd ≤ 1024 := bd.out
            clear hv HM7
            go_wp2
            go_roundw
            case rel => exact ⟨q + 1, by go_num, by omega, HN8⟩
            case measure => simp [intOf]; omega
          · have hte := ne_lists (a := nth a k) (b := nth b q) (fun h => he (bytes_eq h))
            have HN6 := Lib.hid (HM5.out.done (by rw [hno.out he]; omega))
            clear hyes hno he HM5
            go_quiet (fail)
            have HN7 := Lib.hid (HN6.out.drewN nq)
            generalize w5.drewN nq = w6 at HN7 ⊢
            clear HN6 ca cb hte
            go_wp2
            go_roundw
            case rel => exact ⟨q + 1, by go_num, by omega, HN7⟩
            case measure => simp [intOf]; omega
        · have hrI : ¬ (q : Int) < m := by omega
          have HR : Hid (CR w a b g2 (k + 1) wr) := by
            have h := HJ.out
            obtain rfl : q = m := by omega
            rw [HM.out] at h
            exact h.done
          clear HJ
          go_wp2
          go_roundw
          case rel => exact ⟨g2, k + 1, rfl, by go_num, by omega, HR⟩
          case measure => simp [intOf]; omega
    · have hpI : ¬ (k : Int) < n := by omega
      have c1 : wr.cell? ⟨g, m, none⟩ = some (.int .i64 (lcs a b : Nat)) := by
        rw [HI.out.row.cell _ (by rw [rowC_len, ← HM.out]; omega), rowC_get _ _ _ _ (by rw [← HM.out]; omega), List.take_of_length_le (by rw [← HN.out]; omega), List.take_of_length_le (by rw [← HM.out]; omega)]
      have Hlow := Lib.hid HI.out.low
      have j3 : (m : Int) ≤ m := by omega
      clear HI
      go_wp2
      go_ret
      exact ⟨rfl, Hlow.out⟩
end Go.Proofs.Ytnpbogioehpeoaa.Myr
