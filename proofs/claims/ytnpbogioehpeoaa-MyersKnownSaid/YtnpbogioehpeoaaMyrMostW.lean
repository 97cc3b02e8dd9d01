/- DERIVED. The contract of myers.mostKept. -/
import Derived.Test.YtnpbogioehpeoaaMyrMost
namespace Go.Proofs.Ytnpbogioehpeoaa.Myr
open Go.RowKit Lns
set_option maxHeartbeats 4000000 in
theorem most_any (x y : List Int) (gx gy : Nat) (w : World) (hx : RowI .i64 3 w gx x) (hy : RowI .i64 3 w gy y) (hn : x.length ≤ 1024) (hm : y.length ≤ 1024) :
    Calls Try.prog 23 #[.slice (some ⟨gx, 0, none⟩) x.length x.length, .slice (some ⟨gy, 0, none⟩) y.length y.length] w fun e w' => e = .returned (.slice (some ⟨w.heap.size, 0, none⟩) (x.length + 1) (x.length + 1)) ∧ MT w x y 0 w' := by
  obtain ⟨C, hC, hCz, hmk1⟩ := mk_rows x.length (by omega)
  have hmk2 := mk_row y.length (by omega)
  obtain ⟨Z, hZ⟩ : ∃ Z, Z = iv .u16 (List.replicate (y.length + 1) 0) := ⟨_, rfl⟩
  have Hst := Lib.hid (MT.start (w := w) (x := x) (y := y) hC)
  have Hnx : Hid (∀ i wr, MT w x y (i + 1) wr → i < x.length → MP w x y i y.length ((wr.alloc (.cells Z 53)).setCell ⟨w.heap.size, i, none⟩ (.slice (some ⟨wr.heap.size, 0, none⟩) (y.length + 1) (y.length + 1)))) := by
    rw [hZ]; exact fun i wr h hi => h.next hi
  obtain ⟨t1, t2⟩ := two_new w (.cells C 54) (.cells Z 53)
  have hc0 : ((w.alloc (.cells C 54)).alloc (.cells Z 53)).cell? ⟨w.heap.size, x.length, none⟩ = some (.slice none 0 0) := by rw [cell_row t1]; exact hCz _ (by omega)
  have hf0 : ((w.alloc (.cells C 54)).alloc (.cells Z 53)).frozen? ⟨w.heap.size, x.length, none⟩ = false := free_row t1 _
  rw [← hZ] at hmk2 Hst
  have hgx : gx < w.heap.size := hx.lt
  have hgy : gy < w.heap.size := hy.lt
  have Hx := Lib.hid hx
  have Hy := Lib.hid hy
  have Hgx := Lib.hid hgx
  have Hgy := Lib.hid hgy
  obtain ⟨n, hn0⟩ : ∃ n, n = x.length := ⟨_, rfl⟩
  obtain ⟨m, hm0⟩ : ∃ m, m = y.length := ⟨_, rfl⟩
  rw [← hn0] at hn hmk1 hc0 hf0 Hst ⊢
  rw [← hm0] at hm hmk2 Hst ⊢
  rw [← hm0, ← hn0] at Hnx
  have Hn := Lib.hid hn0
  have Hm := Lib.hid hm0
  clear hx hy hgx hgy hn0 hm0 hC hCz t1 t2 hZ
  go_enter Try.func23, Try.ntmps23
  go_wp2
  clear hmk1 hc0 hf0
  go_loopw [6] (fun i wr => ∃ k : Nat, i = .int .i64 ((k : Int) - 1) ∧ k ≤ n ∧ Hid (MT w x y k wr)) (fun i _ => (intOf i + 1).toNat)
  case atStart => exact ⟨n, rfl, Nat.le_refl _, Hst⟩
  case round =>
    obtain ⟨k, rfl, hk, HI⟩ := hrel
    clear Hst
    cases k with
    | zero =>
      go_wp2
      go_ret
      exact ⟨rfl, HI.out⟩
    | succ p =>
      have e1 : (((p + 1 : Nat) : Int) - 1) = (p : Int) := by omega
      rw [e1]
      clear e1
      have hpn : p < x.length := by rw [← Hn.out]; omega
      have hs := HI.out.size
      obtain ⟨C, hC, ho, hq⟩ := HI.out.out
      have hw : w.heap.size < wr.heap.size := by omega
      have ho1 : (wr.alloc (.cells Z 53)).heap[w.heap.size]? = some (.cells C 54 (0, 0)) := (Go.heap_alloc_old _ _ hw).trans ho
      have hc1 : ∃ u, (wr.alloc (.cells Z 53)).cell? ⟨w.heap.size, p, none⟩ = some u := ⟨_, by rw [cell_row ho1]; exact Array.getElem?_eq_getElem (by omega)⟩
      obtain ⟨u, hc1⟩ := hc1
      have hf1 : (wr.alloc (.cells Z 53)).frozen? ⟨w.heap.size, p, none⟩ = false := free_row ho1 _
      have HP := Lib.hid (Hnx.out p wr HI.out (by omega))
      have hpI : (p : Int) < n := by omega
      clear hs hC ho hq hw ho1 HI
      go_wp2
      clear hc1 hf1
      generalize (wr.alloc (.cells Z 53)).setCell ⟨w.heap.size, p, none⟩ (.slice (some ⟨wr.heap.size, 0, none⟩) (m + 1) (m + 1)) = w1 at HP ⊢
      go_loopw [7] (fun j wr => ∃ q : Nat, j = .int .i64 ((q : Int) - 1) ∧ q ≤ m ∧ Hid (MP w x y p q wr)) (fun j _ => (intOf j + 1).toNat)
      case atStart => exact ⟨m, rfl, Nat.le_refl _, HP⟩
      case round =>
        obtain ⟨q, rfl, hq, HJ⟩ := hrel
        clear HP
        cases q with
        | zero =>
          have HK := Lib.hid HJ.out.done
          clear HJ
          go_wp2
          go_roundw
          case rel => exact ⟨p, rfl, by omega, HK⟩
          case measure => first | (simp [intOf]; done) | (simp [intOf]; omega)
        | succ r =>
          have e1 : (((r + 1 : Nat) : Int) - 1) = (r : Int) := by omega
          rw [e1]
          clear e1
          have hrI : (r : Int) < m := by omega
          have hpl : p < x.length := hpn
          have hrl : r < y.length := by rw [← Hm.out]; omega
          have hlow := HJ.out.low
          have cx : wr.cell? ⟨gx, p, none⟩ = some (.int .i64 (x.getD p 0)) := (hlow.cell (p := ⟨gx, p, none⟩) Hgx.out).trans (Hx.out.cell p hpl)
          have cy : wr.cell? ⟨gy, r, none⟩ = some (.int .i64 (y.getD r 0)) := (hlow.cell (p := ⟨gy, r, none⟩) Hgy.out).trans (Hy.out.cell r hrl)
          have Hf : Hid (∀ w9, MP w x y p (r + 1) w9 → MF w.heap.size n m p r (w.heap.size + 1 + (x.length - p)) (w.heap.size + 1 + (x.length - (p + 1))) (lcs (x.drop (p + 1)) (y.drop (r + 1))) (lcs (x.drop (p + 1)) (y.drop r)) (lcs (x.drop p) (y.drop (r + 1))) w9) := by
            rw [Hn.out, Hm.out]; exact fun w9 h => h.facts hpl hrl
          have Hs : Hid (∀ w9, MP w x y p (r + 1) w9 → MP w x y p r (w9.setCell ⟨w.heap.size + 1 + (x.length - p), r, none⟩ (.int .u16 (lcs (x.drop p) (y.drop r) : Nat)))) := fun w9 h => h.step (by omega) _ rfl
          have hat := lcs_at (x := x) (y := y) hpl hrl
          obtain ⟨a0, ha0⟩ : ∃ a0, a0 = w.heap.size + 1 + (x.length - p) := ⟨_, rfl⟩
          obtain ⟨a1, ha1⟩ : ∃ a1, a1 = w.heap.size + 1 + (x.length - (p + 1)) := ⟨_, rfl⟩
          have hmy : Hid (y.length ≤ 1024) := by rw [← Hm.out]; exact hm
          have b1 : lcs (x.drop (p + 1)) (y.drop (r + 1)) ≤ 1024 := by have := lcs_right (x.drop (p + 1)) (y.drop (r + 1)); rw [List.length_drop] at this; have := hmy.out; omega
          obtain ⟨vd, hvd⟩ : ∃ vd, vd = lcs (x.drop (p + 1)) (y.drop (r + 1)) := ⟨_, rfl⟩
          obtain ⟨vu, hvu⟩ : ∃ vu, vu = lcs (x.drop (p + 1)) (y.drop r) := ⟨_, rfl⟩
          obtain ⟨vl, hvl⟩ : ∃ vl, vl = lcs (x.drop p) (y.drop (r + 1)) := ⟨_, rfl⟩
          have HU := Lib.hid hvu
          have HL := Lib.hid hvl
          rw [← ha0, ← ha1, ← hvd, ← hvu, ← hvl] at Hf
          rw [← ha0] at Hs
          rw [← hvd, ← hvu, ← hvl] at hat
          rw [← hvd] at b1
          obtain ⟨xv, hxv⟩ : ∃ xv, xv = x.getD p 0 := ⟨_, rfl⟩
          obtain ⟨yv, hyv⟩ : ∃ yv, yv = y.getD r 0 := ⟨_, rfl⟩
          rw [← hxv] at cx hat
          rw [← hyv] at cy hat
          have i1 : (p : Int) < (n : Int) + 1 := by omega
          have i2 : (p : Int) + 1 < (n : Int) + 1 := by omega
          have i3 : (r : Int) < (m : Int) + 1 := by omega
          have i4 : (r : Int) + 1 < (m : Int) + 1 := by omega
          have j1 : (p : Int) ≤ n := by omega
          have j2 : (p : Int) + 1 ≤ n := by omega
          have j3 : (r : Int) ≤ m := by omega
          have j4 : (r : Int) + 1 ≤ m := by omega
          clear hlow ha0 ha1 hvd hvu hvl hxv hyv hpl
          have l1 : IntKind.i64.wrap ((p : Int) + 1) = (p : Int) + 1 := by rw [IntKind.wrap_i64]; omega
          have l2 : IntKind.i64.wrap ((r : Int) + 1) = (r : Int) + 1 := by rw [IntKind.wrap_i64]; omega
          have o1 : (0 : Int) ≤ (p : Int) + 1 := by omega
          have o3 : (0 : Int) ≤ (r : Int) + 1 := by omega
          have q1 : p < n := by omega
          have q2 : r < m := by omega
          have q3 : p + 1 ≤ n := by omega
          have q4 : ¬ ((p : Int) + 1 < 0) := by omega
          have q5 : ¬ ((r : Int) + 1 < 0) := by omega
          have q6 : ((p : Int) + 1).toNat = p + 1 := by omega
          have q7 : ((r : Int) + 1).toNat = r + 1 := by omega
          by_cases heq : xv = yv
          · rw [if_pos heq] at hat
            have hq1 : (xv == yv) = true := by simpa using heq
            have hw1 : IntKind.u16.wrap ((vd : Int) + 1) = (vd : Int) + 1 := by rw [IntKind.wrap_u16]; omega
            rw [hat] at Hs
            clear hat heq
            go_wp2
            go_quiet (fail)
            rename_i nq
            have M3 := Lib.hid (HJ.out.drewN nq)
            generalize wr.drewN nq = w3 at M3 ⊢
            obtain ⟨co0, co1, cd, cu, cl, ⟨tv, ct⟩, cf⟩ := Hf.out w3 M3.out
            clear cx cy hq1 HJ
            go_wp2
            go_still_tail 16, (by kernel_rfl)
            change wpList _ _ _ _ _ w3.drew
            have M4 := Lib.hid M3.out.drew
            generalize w3.drew = w4 at M4 ⊢
            clear co0 co1 cd cu cl ct cf M3
            obtain ⟨co0, co1, cd, cu, cl, ⟨tv, ct⟩, cf⟩ := Hf.out w4 M4.out
            clear co0 co1 cd cu cl
            have Hnx2 := Lib.hid (Hs.out w4 M4.out)
            go_wp2
            go_roundw
            case rel => exact ⟨r, by go_num, by omega, Hnx2⟩
            case measure => first | (simp [intOf]; done) | (simp [intOf]; omega)
          · rw [if_neg heq] at hat
            have hq1 : (xv == yv) = false := by simpa using heq
            have bu : vu ≤ 1024 := by have h := lcs_right (x.drop (p + 1)) (y.drop r); rw [List.length_drop] at h; rw [HU.out]; have := hmy.out; omega
            have bl : vl ≤ 1024 := by have h := lcs_right (x.drop p) (y.drop (r + 1)); rw [List.length_drop] at h; rw [HL.out]; have := hmy.out; omega
            rw [hat, show ((max vu vl : Nat) : Int) = max (vu : Int) (vl : Int) by omega] at Hs
            clear hat heq
            go_wp2
            go_quiet (fail)
            rename_i nq
            have M3 := Lib.hid (HJ.out.drewN nq)
            generalize wr.drewN nq = w3 at M3 ⊢
            obtain ⟨co0, co1, cd, cu, cl, ⟨tv, ct⟩, cf⟩ := Hf.out w3 M3.out
            clear cx cy hq1 HJ
            go_wp2
            go_still_tail 23, (by kernel_rfl)
            change wpList _ _ _ _ _ w3.drew
            have M4 := Lib.hid M3.out.drew
            generalize w3.drew = w4 at M4 ⊢
            clear co0 co1 cd cu cl ct cf M3
            obtain ⟨co0, co1, cd, cu, cl, ⟨tv, ct⟩, cf⟩ := Hf.out w4 M4.out
            clear co0 co1 cd cu cl
            have Hnx2 := Lib.hid (Hs.out w4 M4.out)
            go_wp2
            go_roundw
            case rel => exact ⟨r, by go_num, by omega, Hnx2⟩
            case measure => first | (simp [intOf]; done) | (simp [intOf]; omega)
end Go.Proofs.Ytnpbogioehpeoaa.Myr
