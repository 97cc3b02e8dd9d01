/- DERIVED. The walk of MyersKnown. -/
import Derived.Test.YtnpbogioehpeoaaMyrPlay
namespace Go.Proofs.Ytnpbogioehpeoaa.Myr
open Go.RowKit Lns
def t7 : ByteArray := ⟨#[97, 98, 99, 97, 98, 98, 97]⟩
def t6 : ByteArray := ⟨#[99, 98, 97, 98, 97, 99]⟩
def wantS : List Sti := [(1, 0, 0), (1, 1, 0), (0, 2, 0), (1, 3, 0), (0, 4, 1), (2, 0, 2), (0, 5, 3), (0, 6, 4), (2, 0, 5)]
theorem sel_abc : (sel (letL t7 t7.size) (letL t6 t6.size)).map up = wantS := by decide +kernel
theorem sel_xy : (sel [tX] [tY]).map up = [(1, 0, 0), (2, 0, 0)] := by decide +kernel
theorem sel_no : (sel ([] : List ByteArray) []).map up = [] := rfl
theorem rd_flat {w : World} {g : Nat} {S : List Sti} {C : Array Value} {t : TypeId} (h : w.heap[g]? = some (.cells C t (0, 0))) (hC : C = (flatS S).toArray) : RdS S (.slice (some ⟨g, 0, none⟩) S.length S.length) w :=
  ⟨_, S.length, rfl, Nat.le_refl _, fun _ => ⟨g, 0, rfl, (Array.getElem?_eq_some_iff.1 h).1, fun j hj => by
    obtain ⟨k1, k2, k3⟩ := flatS_at S j hj
    rw [cell_row h, cell_row h, cell_row h, hC, Nat.zero_add, List.getElem?_toArray, List.getElem?_toArray, List.getElem?_toArray]
    exact ⟨k1, k2, k3⟩⟩⟩
theorem rd_one {w : World} {g : Nat} {x : ByteArray} (h : w.heap[g]? = some (.cells #[.string x] 9 (0, 0))) : RdT [x] (.slice (some ⟨g, 0, none⟩) 1 1) w :=
  ⟨_, 1, rfl, Nat.le_refl _, fun _ => ⟨g, 0, rfl, (Array.getElem?_eq_some_iff.1 h).1, fun j hj => by
    rw [Nat.zero_add, cell_row h]
    match j, hj with
    | 0, _ => rfl⟩⟩
theorem RdS.none (w : World) : RdS [] (.slice Option.none 0 0) w := ⟨Option.none, 0, rfl, Nat.le_refl _, fun h => absurd h (Nat.lt_irrefl _)⟩
theorem mk_big : ∃ C : Array Value, ∀ w, (Instr.makeSlice 22 (.int .i64 1025) (.int .i64 1025)).run Try.prog w = .ok (.slice (some ⟨w.heap.size, 0, none⟩) 1025 1025) (w.alloc (.cells C 9)) := by
  obtain ⟨i0, hi, hz0, hz1, hz2⟩ := info_parts infoTz
  refine ⟨madeCells (Value.cells (.string ByteArray.empty)) 1025, fun w => ?_⟩
  have h := run_make (P := Try.prog) w 22 9 i0 (.string ByteArray.empty) Try.underlying22 hi hz0 .i64 .i64 1025 1025 (by omega) (by omega) (by rw [hz2]; omega) (by omega)
  rw [hz1] at h
  exact h
theorem play_x : codeP (plays [tX] [] [] 0 0 []) = 4 := by decide +kernel
theorem play_xy : codeP (plays [tX] [tY] [(0, 0, 0)] 0 0 []) = 4 := by decide +kernel
theorem play_3 : codeP (plays [] [] [(3, 0, 0)] 0 0 []) = 4 := by decide +kernel
set_option maxRecDepth 100000 in
set_option maxHeartbeats 4000000 in
theorem known_walk (w : World) : Calls Try.prog 7 #[] w fun e w' => e = .returned (.bool true) ∧ Below w.heap.size w w' := by
  go_enter Try.func7, Try.ntmps7
  go_wp2_with fail
  refine (letters_any t7 w (by decide)).mono ?_
  rintro e w1 ⟨v1, rfl, o1, b1⟩
  have O1 := Lib.hid o1
  have B1 := Lib.hid b1
  clear o1 b1
  go_wp2_with fail
  refine (letters_any t6 w1 (by decide)).mono ?_
  rintro e w2 ⟨v2, rfl, o2, b2⟩
  have R1 := Lib.hid (O1.out.later b2).rd
  have R2 := Lib.hid o2.rd
  have B2 := Lib.hid (B1.out.trans (b2.mono B1.out.size))
  clear o2 b2 O1 B1
  have n7 : Hid ((letL t7 t7.size).length ≤ 1024) := by show _ ≤ _; rw [letL_len]; decide
  have n6 : Hid ((letL t6 t6.size).length ≤ 1024) := by show _ ≤ _; rw [letL_len]; decide
  have z7 : Hid (∀ x ∈ letL t7 t7.size, x.size ≤ 100000) := by show ∀ x ∈ letL t7 t7.size, x.size ≤ 100000; decide +kernel
  have z6 : Hid (∀ x ∈ letL t6 t6.size, x.size ≤ 100000) := by show ∀ x ∈ letL t6 t6.size, x.size ≤ 100000; decide +kernel
  go_wp2_with fail
  refine (diff_any _ _ v1 v2 w2 R1.out R2.out n7.out n6.out z7.out z6.out).mono ?_
  rw [sel_abc]
  rintro e w3 ⟨v3, rfl, o3, b3⟩
  have S3 := Lib.hid o3.rd
  have B3 := Lib.hid (B2.out.trans (b3.mono B2.out.size))
  clear o3 b3 R1 R2 B2 n7 n6 z7 z6
  obtain ⟨A3, c3', rfl, hc3, hk3⟩ := S3.out
  have HK3 := Lib.hid hk3
  clear hc3 hk3 S3
  rw [show wantS.length = 9 from rfl]
  go_upto_region 3 with (fail)
  have hw4 := heap_alloc_new w3 (.cells #[.int .i64 1, .int .i64 0, .int .i64 0, .int .i64 1, .int .i64 1, .int .i64 0, .int .i64 0, .int .i64 2, .int .i64 0, .int .i64 1, .int .i64 3, .int .i64 0, .int .i64 0, .int .i64 4, .int .i64 1, .int .i64 2, .int .i64 0, .int .i64 2, .int .i64 0, .int .i64 5, .int .i64 3, .int .i64 0, .int .i64 6, .int .i64 4, .int .i64 2, .int .i64 0, .int .i64 5] 43)
  have R4 := Lib.hid (rd_flat (S := wantS) hw4 rfl)
  have B4 := Lib.hid (B3.out.alloc B3.out.size (.cells #[.int .i64 1, .int .i64 0, .int .i64 0, .int .i64 1, .int .i64 1, .int .i64 0, .int .i64 0, .int .i64 2, .int .i64 0, .int .i64 1, .int .i64 3, .int .i64 0, .int .i64 0, .int .i64 4, .int .i64 1, .int .i64 2, .int .i64 0, .int .i64 2, .int .i64 0, .int .i64 5, .int .i64 3, .int .i64 0, .int .i64 6, .int .i64 4, .int .i64 2, .int .i64 0, .int .i64 5] 43))
  have B34 : Hid (Below w3.heap.size w3 (w3.alloc (.cells #[.int .i64 1, .int .i64 0, .int .i64 0, .int .i64 1, .int .i64 1, .int .i64 0, .int .i64 0, .int .i64 2, .int .i64 0, .int .i64 1, .int .i64 3, .int .i64 0, .int .i64 0, .int .i64 4, .int .i64 1, .int .i64 2, .int .i64 0, .int .i64 2, .int .i64 0, .int .i64 5, .int .i64 3, .int .i64 0, .int .i64 6, .int .i64 4, .int .i64 2, .int .i64 0, .int .i64 5] 43))) := (Below.refl _ _).alloc (Nat.le_refl _) _
  clear hw4
  generalize w3.alloc (.cells #[.int .i64 1, .int .i64 0, .int .i64 0, .int .i64 1, .int .i64 1, .int .i64 0, .int .i64 0, .int .i64 2, .int .i64 0, .int .i64 1, .int .i64 3, .int .i64 0, .int .i64 0, .int .i64 4, .int .i64 1, .int .i64 2, .int .i64 0, .int .i64 2, .int .i64 0, .int .i64 5, .int .i64 3, .int .i64 0, .int .i64 6, .int .i64 4, .int .i64 2, .int .i64 0, .int .i64 5] 43) = w4 at R4 B4 B34 ⊢
  obtain ⟨A4, c4', e4, hc4, hk4⟩ := R4.out
  rw [show wantS.length = 9 from rfl] at e4 hk4
  cases e4
  obtain ⟨g4, hg4⟩ : ∃ g4, g4 = w3.heap.size := ⟨_, rfl⟩
  rw [← hg4] at hk4 ⊢
  have HK4 := Lib.hid hk4
  have HK3' : Hid (∃ g off, A3 = some ⟨g, off, none⟩ ∧ g < w4.heap.size ∧ ∀ j, j < 9 → w4.cell? ⟨g, off + j * 3, none⟩ = some (.int .i64 (sth wantS j).1) ∧ w4.cell? ⟨g, off + j * 3 + 1, none⟩ = some (.int .i64 (sth wantS j).2.1) ∧ w4.cell? ⟨g, off + j * 3 + 2, none⟩ = some (.int .i64 (sth wantS j).2.2)) := by
    obtain ⟨g, off, e, hg, hc⟩ := HK3.out (by decide)
    exact ⟨g, off, e, Nat.lt_of_lt_of_le hg B34.out.size, fun j hj => ⟨(B34.out.cell (p := ⟨g, off + j * 3, none⟩) hg).trans (hc j hj).1, (B34.out.cell (p := ⟨g, off + j * 3 + 1, none⟩) hg).trans (hc j hj).2.1, (B34.out.cell (p := ⟨g, off + j * 3 + 2, none⟩) hg).trans (hc j hj).2.2⟩⟩
  clear hk4 hc4 hg4 R4 HK3 B34 B3
  go_wp2
  go_loopw [4] (fun i wr => ∃ k : Nat, i = .int .i64 k ∧ k ≤ 9 ∧ Hid (Below w4.heap.size w4 wr)) (fun i _ => 9 - (intOf i).toNat)
  case atStart => exact ⟨0, rfl, Nat.zero_le _, Below.refl _ _⟩
  case round =>
    obtain ⟨k, rfl, hk, HL⟩ := hrel
    by_cases hp : k < 9
    · have hpI : (k : Int) < 9 := by omega
      obtain ⟨ga, oa, rfl, hga, hca⟩ := HK3'.out
      obtain ⟨gb, ob, eb, hgb, hcb⟩ := HK4.out (by decide)
      cases eb
      obtain ⟨d0, d1, d2⟩ := hca k hp
      obtain ⟨f0, f1, f2⟩ := hcb k hp
      have d0 := (HL.out.cell (p := ⟨ga, oa + k * 3, none⟩) hga).trans d0
      have d1 := (HL.out.cell (p := ⟨ga, oa + k * 3 + 1, none⟩) hga).trans d1
      have d2 := (HL.out.cell (p := ⟨ga, oa + k * 3 + 2, none⟩) hga).trans d2
      have f0 := (HL.out.cell (p := ⟨g4, 0 + k * 3, none⟩) hgb).trans f0
      have f1 := (HL.out.cell (p := ⟨g4, 0 + k * 3 + 1, none⟩) hgb).trans f1
      have f2 := (HL.out.cell (p := ⟨g4, 0 + k * 3 + 2, none⟩) hgb).trans f2
      rw [Nat.zero_add] at f0 f1 f2
      obtain ⟨⟨t0, t1, t2⟩, ht⟩ : ∃ t, t = sth wantS k := ⟨_, rfl⟩
      rw [← ht] at d0 d1 d2 f0 f1 f2
      dsimp only at d0 d1 d2 f0 f1 f2
      have q0 : (t0 == t0) = true := by simp
      have q1 : (t1 == t1) = true := by simp
      have q2 : (t2 == t2) = true := by simp
      clear hca hcb ht
      go_wp2
      go_quiet (fail)
      have HL2 := Lib.hid (Below.drewN HL.out nq)
      generalize wr.drewN nq = w6 at HL2 ⊢
      clear d0 d1 d2 f0 f1 f2 HL
      go_wp2
      go_roundw
      case rel => exact ⟨k + 1, by go_num, by omega, HL2⟩
      case measure => simp [intOf]; omega
    · have hpI : ¬ (k : Int) < 9 := by omega
      obtain rfl : k = 9 := by omega
      have B5 := Lib.hid (B4.out.trans (HL.out.mono B4.out.size))
      clear HL HK3' HK4 B4
      go_wp2_with fail
      obtain ⟨y1, y2⟩ := two_new wr (.cells #[.string tX] 9) (.cells #[.string tY] 9)
      have b6 : Below wr.heap.size wr ((wr.alloc (.cells #[.string tX] 9)).alloc (.cells #[.string tY] 9)) := ((Below.refl _ _).alloc (Nat.le_refl _) _).alloc (by simp) _
      refine (diff_any [tX] [tY] _ _ _ (rd_one y1) (rd_one y2) (by decide) (by decide) (by decide) (by decide)).mono ?_
      rw [sel_xy]
      rintro e w6 ⟨v6, rfl, o6, b6'⟩
      have B6 := Lib.hid (B5.out.trans ((b6.trans (b6'.mono b6.size)).mono B5.out.size))
      have S6 := Lib.hid o6.rd
      clear o6 b6 b6' y1 y2 B5
      go_wp2_with fail
      refine (diff_any [] [] _ _ w6 (RdT.none _) (RdT.none _) (by decide) (by decide) (by decide) (by decide)).mono ?_
      rw [sel_no]
      rintro e w7 ⟨v7, rfl, o7, b7⟩
      have B7 := Lib.hid (B6.out.trans (b7.mono B6.out.size))
      have S67 := Lib.hid (S6.out.later b7)
      obtain ⟨A7, c7, rfl, _, _⟩ := o7.rd
      rw [show ([] : List Sti).length = 0 from rfl]
      obtain ⟨C, hC⟩ := mk_big
      have HC := Lib.hid (hC w7)
      clear o7 b7 S6 B6
      have hmk := HC.out
      clear hC
      go_wp2_with fail
      have b8 : Below w7.heap.size w7 (w7.alloc (.cells C 9)) := (Below.refl _ _).alloc (Nat.le_refl _) _
      refine (diff_long _ none 1025 0 1025 0 _ (.inl (by decide))).mono ?_
      rintro e w8 ⟨rfl, rfl⟩
      have B8 := Lib.hid (B7.out.trans (b8.mono B7.out.size))
      have S68 := Lib.hid (S67.out.later b8)
      generalize w7.alloc (.cells C 9) = w8 at B8 S68 ⊢
      clear hmk HC b8 B7 S67
      go_wp2_with fail
      have b9 : Below w8.heap.size w8 (w8.alloc (.cells #[.string tX] 9)) := (Below.refl _ _).alloc (Nat.le_refl _) _
      refine (play_any [tX] [] [] _ _ _ _ (rd_one (heap_alloc_new w8 _)) (RdT.none _) (RdS.none _) (by decide) (by decide) (by decide)).mono ?_
      rw [play_x]
      rintro e w9 ⟨v9, rfl, _, b9'⟩
      have b99 := b9.trans (b9'.mono b9.size)
      have B9 := Lib.hid (B8.out.trans (b99.mono B8.out.size))
      have S69 := Lib.hid (S68.out.later b99)
      clear b9 b9' b99 B8 S68
      go_wp2_with fail
      obtain ⟨y1, y2, y3⟩ := three_new w9 (.cells #[.string tX] 9) (.cells #[.string tY] 9) (.cells #[.int .i64 0, .int .i64 0, .int .i64 0] 43)
      have b10 := below3 w9 (.cells #[.string tX] 9) (.cells #[.string tY] 9) (.cells #[.int .i64 0, .int .i64 0, .int .i64 0] 43)
      refine (play_any [tX] [tY] [(0, 0, 0)] _ _ _ _ (rd_one y1) (rd_one y2) (rd_flat (S := [(0, 0, 0)]) y3 rfl) (by decide) (by decide) (by decide)).mono ?_
      rw [play_xy]
      rintro e w10 ⟨v10, rfl, _, b10'⟩
      have b11 := b10.trans (b10'.mono b10.size)
      have B10 := Lib.hid (B9.out.trans (b11.mono B9.out.size))
      have S610 := Lib.hid (S69.out.later b11)
      clear b10 b10' b11 B9 S69 y1 y2 y3
      go_wp2_with fail
      have b12 : Below w10.heap.size w10 (w10.alloc (.cells #[.int .i64 3, .int .i64 0, .int .i64 0] 43)) := (Below.refl _ _).alloc (Nat.le_refl _) _
      refine (play_any [] [] [(3, 0, 0)] _ _ _ _ (RdT.none _) (RdT.none _) (rd_flat (S := [(3, 0, 0)]) (heap_alloc_new w10 _) rfl) (by decide) (by decide) (by decide)).mono ?_
      rw [play_3]
      rintro e w11 ⟨v11, rfl, _, b12'⟩
      have b13 := b12.trans (b12'.mono b12.size)
      have B11 := Lib.hid (B10.out.trans (b13.mono B10.out.size))
      have S611 := Lib.hid (S610.out.later b13)
      clear b12 b12' b13 B10 S610
      obtain ⟨A6, c6, rfl, hc6, hk6⟩ := S611.out
      obtain ⟨g6, off6, rfl, hg6, hcell⟩ := hk6 (by decide)
      obtain ⟨k0, k1, k2⟩ := hcell 0 (by decide)
      obtain ⟨k3, k4, k5⟩ := hcell 1 (by decide)
      simp only [sth, List.getD_cons_zero, List.getD_cons_succ, List.length_cons, List.length_nil, Nat.zero_mul, Nat.one_mul, Nat.add_zero, Nat.reduceMul, Nat.reduceAdd] at k0 k1 k2 k3 k4 k5 hc6 ⊢
      clear hcell hk6 S611
      go_wp2_with fail
      refine (works_any w11).mono ?_
      rintro e w12 ⟨rfl, b14⟩
      have B12 := Lib.hid (B11.out.trans (b14.mono B11.out.size))
      clear b14
      go_wp2
      go_ret
      exact ⟨rfl, B12.out⟩
end Go.Proofs.Ytnpbogioehpeoaa.Myr
