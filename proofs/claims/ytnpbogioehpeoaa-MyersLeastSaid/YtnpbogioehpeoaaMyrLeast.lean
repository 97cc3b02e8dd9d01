/- DERIVED. The walk of MyersLeast. -/
import Derived.Test.YtnpbogioehpeoaaMyrPlay
import Derived.Test.YtnpbogioehpeoaaMyrCommon
namespace Go.Proofs.Ytnpbogioehpeoaa.Myr
open Go.RowKit Lns
theorem dropT {L : List ByteArray} {k : Nat} (h : k < L.length) : L.drop k = nth L k :: L.drop (k + 1) := by rw [nth_lt h]; exact List.drop_eq_getElem_cons h
theorem plays_cons {a b : List ByteArray} {s : Sti} {l : List Sti} {i j i' j' : Nat} {t : Bool} {o : List ByteArray} (e : pst a b s i j = some (i', j', t)) : plays a b (s :: l) i j o = plays a b l i' j' (if t then o ++ [nth b j] else o) := by rw [plays, e]
theorem plays_sel {a b : List ByteArray} : ∀ (f i j : Nat) (o : List ByteArray), i ≤ a.length → j ≤ b.length → a.length - i + (b.length - j) ≤ f → plays a b ((selF f (a.drop i) (b.drop j) i j).map up) i j o = some (o ++ b.drop j)
  | 0, i, j, o, hi, hj, h => by
    rw [selF, List.map_nil, plays, if_neg (by omega), List.drop_of_length_le (by omega), List.append_nil]
  | f + 1, i, j, o, hi, hj, h => by
    by_cases h1 : i < a.length
    · by_cases h2 : j < b.length
      · have e1 := dropT h1
        have e2 := dropT h2
        have fin : o ++ b.drop j = (o ++ [nth b j]) ++ b.drop (j + 1) := by rw [e2]; simp
        by_cases e : nth a i = nth b j
        · rw [e1, e2, selF, if_pos e, List.map_cons, ← e2, fin]
          rw [show up (0, i, j) = (0, (i : Int), (j : Int)) from rfl, plays_cons (pst_keep h1 h2 e), if_pos rfl]
          exact plays_sel f (i + 1) (j + 1) _ h1 h2 (by omega)
        · by_cases k : lcs (nth a i :: a.drop (i + 1)) (b.drop (j + 1)) ≤ lcs (a.drop (i + 1)) (nth b j :: b.drop (j + 1))
          · rw [e1, e2, selF, if_neg e, if_pos k, List.map_cons, ← e2]
            rw [show up (1, i, 0) = (1, (i : Int), 0) from rfl, plays_cons (pst_gone h1), if_neg (by decide)]
            exact plays_sel f (i + 1) j _ h1 hj (by omega)
          · rw [e1, e2, selF, if_neg e, if_neg k, List.map_cons, ← e1, ← e2, fin]
            rw [show up (2, 0, j) = (2, 0, (j : Int)) from rfl, plays_cons (pst_new h2), if_pos rfl]
            exact plays_sel f i (j + 1) _ hi h2 (by omega)
      · have e1 := dropT h1
        have e2 : b.drop j = [] := List.drop_of_length_le (by omega)
        have ih := plays_sel f (i + 1) j o h1 hj (by omega)
        rw [e2] at ih ⊢
        rw [e1, selF, List.map_cons, show up (1, i, 0) = (1, (i : Int), 0) from rfl, plays_cons (pst_gone h1), if_neg (by decide)]
        exact ih
    · have e1 : a.drop i = [] := List.drop_of_length_le (by omega)
      by_cases h2 : j < b.length
      · have e2 := dropT h2
        have fin : o ++ b.drop j = (o ++ [nth b j]) ++ b.drop (j + 1) := by rw [e2]; simp
        have ih := plays_sel f i (j + 1) (o ++ [nth b j]) hi h2 (by omega)
        rw [fin]
        rw [e1] at ih ⊢
        rw [e2, selF, List.map_cons, show up (2, 0, j) = (2, 0, (j : Int)) from rfl, plays_cons (pst_new h2), if_pos rfl]
        exact ih
      · have e2 : b.drop j = [] := List.drop_of_length_le (by omega)
        rw [e1, e2, selF, List.map_nil, plays, if_neg (by omega), List.append_nil]
theorem plays_all (a b : List ByteArray) : plays a b ((sel a b).map up) 0 0 [] = some b := by
  have h := plays_sel (a := a) (b := b) (a.length + b.length) 0 0 [] (Nat.zero_le _) (Nat.zero_le _) (by omega)
  simpa [sel] using h
set_option maxRecDepth 100000 in
set_option maxHeartbeats 4000000 in
theorem least_walk (La Lb : List ByteArray) (va vb : Value) (w : World) (hA : RdT La va w) (hB : RdT Lb vb w) : Calls Try.prog 5 #[va, vb] w fun e w' => e = .returned (.bool true) ∧ Below w.heap.size w w' := by
  have HA := Lib.hid hA
  have HB := Lib.hid hB
  clear hA hB
  go_enter Try.func5, Try.ntmps5
  go_wp2_with fail
  refine (cut_any La va w HA.out).mono ?_
  rintro e w1 ⟨v1, rfl, o1, b1⟩
  have hB1 := HB.out.later b1
  go_wp2_with fail
  refine (cut_any Lb vb w1 hB1).mono ?_
  rintro e w2 ⟨v2, rfl, o2, b2⟩
  have R1 := Lib.hid (o1.later b2).rd
  have R2 := Lib.hid o2.rd
  have B2 := Lib.hid (b1.trans (b2.mono b1.size))
  have l1 := cutL_len La
  have l2 := cutL_len Lb
  have z1 : Hid (∀ x ∈ cutL La, x.size ≤ 100000) := fun x hx => by have := cutL_size hx; omega
  have z2 : Hid (∀ x ∈ cutL Lb, x.size ≤ 100000) := fun x hx => by have := cutL_size hx; omega
  generalize cutL La = a at o1 R1 l1 z1
  generalize cutL Lb = b at o2 R2 l2 z2
  clear HA HB hB1 o1 o2 b1 b2
  go_wp2_with fail
  refine (diff_any a b v1 v2 w2 R1.out R2.out (by omega) (by omega) z1.out z2.out).mono ?_
  rintro e w3 ⟨v3, rfl, o3, b3⟩
  have B3 := Lib.hid (B2.out.trans (b3.mono B2.out.size))
  have S3 := Lib.hid o3.rd
  have R13 := Lib.hid (R1.out.later b3)
  have R23 := Lib.hid (R2.out.later b3)
  clear o3 b3 R1 R2 B2
  go_wp2_with fail
  refine (diff_any b a v2 v1 w3 R23.out R13.out (by omega) (by omega) z2.out z1.out).mono ?_
  rintro e w4 ⟨v4, rfl, o4, b4⟩
  have B4 := Lib.hid (B3.out.trans (b4.mono B3.out.size))
  have S4 := Lib.hid o4.rd
  have S34 := Lib.hid (S3.out.later b4)
  have R14 := Lib.hid (R13.out.later b4)
  have R24 := Lib.hid (R23.out.later b4)
  clear o4 b4 R13 R23 B3 S3
  go_wp2_with fail
  refine (diff_any a a v1 v1 w4 R14.out R14.out (by omega) (by omega) z1.out z1.out).mono ?_
  rintro e w5 ⟨v5, rfl, o5, b5⟩
  have B5 := Lib.hid (B4.out.trans (b5.mono B4.out.size))
  have S55 := Lib.hid o5.rd
  have S35 := Lib.hid (S34.out.later b5)
  have S45 := Lib.hid (S4.out.later b5)
  have R15 := Lib.hid (R14.out.later b5)
  have R25 := Lib.hid (R24.out.later b5)
  clear o5 b5 R14 R24 B4 S34 S4
  have n3 : Hid (((sel a b).map up).length ≤ 1000) := by have h := sel_len a b; show _ ≤ 1000; rw [List.length_map]; omega
  go_wp2_with fail
  refine (play_any a b ((sel a b).map up) v1 v2 v3 w5 R15.out R25.out S35.out n3.out z1.out z2.out).mono ?_
  rw [plays_all, show codeP (some b) = 0 from rfl]
  rintro e w6 ⟨v6, rfl, o6, b6⟩
  simp only [Option.getD_some] at o6
  have B6 := Lib.hid (B5.out.trans (b6.mono B5.out.size))
  have Q6 := Lib.hid o6.rd
  have S36 := Lib.hid (S35.out.later b6)
  have S46 := Lib.hid (S45.out.later b6)
  have S56 := Lib.hid (S55.out.later b6)
  have R16 := Lib.hid (R15.out.later b6)
  have R26 := Lib.hid (R25.out.later b6)
  clear o6 b6 R15 R25 B5 S35 S45 S55
  go_wp2_with fail
  refine (common_any a b v1 v2 w6 R16.out R26.out (by omega) (by omega)).mono ?_
  rintro e w7 ⟨rfl, b7⟩
  have B7 := Lib.hid (B6.out.trans (b7.mono B6.out.size))
  have Q7 := Lib.hid (Q6.out.later b7)
  have S37 := Lib.hid (S36.out.later b7)
  have S47 := Lib.hid (S46.out.later b7)
  have S57 := Lib.hid (S56.out.later b7)
  have R17 := Lib.hid (R16.out.later b7)
  have R27 := Lib.hid (R26.out.later b7)
  clear b7 R16 R26 B6 S36 S46 S56 Q6 z1 z2
  have k3 : keptS ((sel a b).map up) = lcs a b := by rw [keptS_up, sel_kept]
  have k4 : keptS ((sel b a).map up) = lcs a b := by rw [keptS_up, sel_kept, lcs_comm]
  have k5 : keptS ((sel a a).map up) = a.length := by rw [keptS_up, sel_kept, lcs_self]
  have e3 : ((sel a b).map up).length + lcs a b = a.length + b.length := by rw [List.length_map]; exact sel_len a b
  have e4 : ((sel b a).map up).length + lcs a b = a.length + b.length := by rw [List.length_map, lcs_comm]; have := sel_len b a; omega
  have e5 : ((sel a a).map up).length = a.length := by rw [List.length_map]; have := sel_len a a; rw [lcs_self] at this; omega
  generalize (sel a b).map up = l3 at S37 k3 e3
  generalize (sel b a).map up = l4 at S47 k4 e4
  generalize (sel a a).map up = l5 at S57 k5 e5
  obtain ⟨lab, hlab⟩ : ∃ x, x = lcs a b := ⟨_, rfl⟩
  rw [← hlab] at k3 k4 e3 e4 ⊢
  have K3 := Lib.hid k3
  have K4 := Lib.hid k4
  have K5 := Lib.hid k5
  have m3 : Hid (l3.length ≤ 100000) := by show _ ≤ 100000; omega
  have m4 : Hid (l4.length ≤ 100000) := by show _ ≤ 100000; omega
  have m5 : Hid (l5.length ≤ 100000) := by show _ ≤ 100000; omega
  have mb : Hid (b.length ≤ 1000000) := by show _ ≤ 1000000; omega
  clear k3 k4 k5 hlab
  obtain ⟨A3, c3, rfl, _, _⟩ := S37.out
  obtain ⟨A5, c5, rfl, _, _⟩ := S57.out
  obtain ⟨A1, c1, rfl, _, _⟩ := R17.out
  obtain ⟨A2, c2, rfl, _, _⟩ := R27.out
  obtain ⟨n1, hn1⟩ : ∃ n, n = a.length := ⟨_, rfl⟩
  obtain ⟨n2, hn2⟩ : ∃ n, n = b.length := ⟨_, rfl⟩
  obtain ⟨p3, hp3⟩ : ∃ n, n = l3.length := ⟨_, rfl⟩
  obtain ⟨p5, hp5⟩ : ∃ n, n = l5.length := ⟨_, rfl⟩
  have N1 := Lib.hid hn1
  have N2 := Lib.hid hn2
  have P3 := Lib.hid hp3
  have P5 := Lib.hid hp5
  rw [← hn1] at R17 K5 e3 e5 l1 ⊢
  rw [← hn2] at R27 e3 l2 ⊢
  rw [← hp3] at S37 e3 ⊢
  rw [← hp5] at S57 e5 ⊢
  clear hn1 hn2 hp3 hp5 e4
  subst e5
  have hlb : lab ≤ 120 := by omega
  have hq3 : ((p3 : Int) == (p5 : Int) + n2 - lab) = true := by simp; omega
  have e3I : (p3 : Int) = (p5 : Int) + n2 - lab := by omega
  have HE := Lib.hid e3
  clear e3
  go_wp2_with fail
  refine (same_any b b v6 _ w7 Q7.out R27.out mb.out).mono ?_
  rw [decide_eq_true rfl]
  rintro e w8 ⟨rfl, b8⟩
  have B8 := Lib.hid (B7.out.trans (b8.mono B7.out.size))
  have S38 := Lib.hid (S37.out.later b8)
  have S48 := Lib.hid (S47.out.later b8)
  have S58 := Lib.hid (S57.out.later b8)
  clear b8 B7 S37 S47 S57
  go_wp2_with fail
  refine (kept_any l3 _ w8 S38.out m3.out).mono ?_
  rw [K3.out]
  rintro e w9 ⟨rfl, rfl⟩
  go_wp2_with fail
  refine (kept_any l4 _ w8 S48.out m4.out).mono ?_
  rw [K4.out]
  rintro e w9 ⟨rfl, rfl⟩
  go_wp2_with fail
  refine (kept_any l5 _ w8 S58.out m5.out).mono ?_
  rw [K5.out]
  rintro e w9 ⟨rfl, rfl⟩
  go_wp2_with fail
  refine (works_any w8).mono ?_
  rintro e w9 ⟨rfl, b9⟩
  have B9 := Lib.hid (B8.out.trans (b9.mono B8.out.size))
  clear b9
  go_wp2
  go_ret
  exact ⟨rfl, B9.out⟩
end Go.Proofs.Ytnpbogioehpeoaa.Myr
