/- DERIVED. The reference's Under and Order. -/
import Derived.Test.YtihdmfkkpdajlaaDoorPthRef2
import Derived.BigQuiet
import Derived.Deep.QuietTactic
namespace Go.Proofs.YtihdmfkkpdajlaaDoor.Pth
open Go.RowKit
theorem pre_long {p l : ByteArray} (h : ¬ p.size < l.size) : Lib.hasPrefix l.data.toList (p.data.toList ++ [47]) = false := by
  rw [Bool.eq_false_iff]
  intro k
  obtain ⟨r, e⟩ := (pre_iff _ _).1 k
  have := congrArg List.length e
  rw [← Lib.size_eq] at this
  simp at this
  omega
theorem pre_cut {p l : ByteArray} (h : p.size < l.size) : l.data.toList = (l.extract 0 p.size).data.toList ++ l[p.size] :: l.data.toList.drop (p.size + 1) := by
  have k := List.take_append_drop p.size l.data.toList
  rw [drop_at l p.size h] at k
  rw [Lib.extract_data, List.drop_zero, Nat.sub_zero]
  exact k.symm
theorem pre_other {p l : ByteArray} (hn : (l.extract 0 p.size).data.toList ≠ p.data.toList) : Lib.hasPrefix l.data.toList (p.data.toList ++ [47]) = false := by
  rw [Bool.eq_false_iff]
  intro k
  obtain ⟨r, e⟩ := (pre_iff _ _).1 k
  apply hn
  rw [Lib.extract_data, e, List.drop_zero, Nat.sub_zero, List.append_assoc, List.take_append_of_le_length (by rw [← Lib.size_eq]; omega), List.take_of_length_le (by rw [← Lib.size_eq]; omega)]
theorem pre_same {p l : ByteArray} (h : p.size < l.size) (he : (l.extract 0 p.size).data.toList = p.data.toList) : Lib.hasPrefix l.data.toList (p.data.toList ++ [47]) = decide (l[p.size] = 47) := by
  have c := pre_cut h
  rw [he] at c
  rw [Bool.eq_iff_iff, pre_iff, decide_eq_true_eq, c]
  constructor
  · rintro ⟨r, e⟩
    rw [List.append_assoc, List.append_cancel_left_eq] at e
    simpa using (List.cons.inj e).1
  · intro e
    exact ⟨l.data.toList.drop (p.size + 1), by rw [e]; simp⟩
theorem und_pre {p l : ByteArray} (h : pre p ≠ 0) : undB p l = false := by
  cases e : undB p l
  · rfl
  · rcases und_prefix e with k | k
    · exact absurd (if_pos k) h
    · refine absurd ?_ h
      unfold pre
      split
      · rfl
      · exact chk_yes k
theorem pre_in (p : ByteArray) : pre p = 0 ∨ pre p = 15 := by
  unfold pre chk
  split
  · exact .inl rfl
  · split
    · exact .inl rfl
    · exact .inr rfl
set_option maxHeartbeats 2000000 in
theorem runder_any (p l : ByteArray) (w : World) (hp : p.size ≤ 1000) (hl : l.size ≤ 1000) : Calls Tryd.prog 18 #[.string p, .string l] w fun e w' => e = .returned (.bool (undB p l)) ∧ Below w.heap.size w w' := by
  rcases pre_in p with hpr | hpr
  · cases hi : isB l
    · have HR : Hid (undB p l = false) := und_no hi
      go_enter Tryd.func18, Tryd.ntmps18
      go_wp2_with fail
      refine (rprefix_any p w hp).mono ?_
      rw [hpr]
      rintro e w1 ⟨rfl, hb1⟩
      go_wp2_with fail
      refine (ris_any l w1 hl).mono ?_
      rw [hi]
      rintro e w2 ⟨rfl, hb2⟩
      go_wp2
      go_ret
      exact ⟨ret_b HR.out.symm, hb1.trans (hb2.mono hb1.size)⟩
    · by_cases h0 : p.data.toList = []
      · have HR : Hid (undB p l = true) := und_empty hi h0
        have hl0 : p.toList = [] := by rw [Lib.toList_data, h0]
        clear h0
        go_enter Tryd.func18, Tryd.ntmps18
        go_wp2_with fail
        refine (rprefix_any p w hp).mono ?_
        rw [hpr]
        rintro e w1 ⟨rfl, hb1⟩
        go_wp2_with fail
        refine (ris_any l w1 hl).mono ?_
        rw [hi]
        rintro e w2 ⟨rfl, hb2⟩
        go_wp2
        go_ret
        exact ⟨ret_b HR.out.symm, hb1.trans (hb2.mono hb1.size)⟩
      · have hl0 := ne_empty h0
        by_cases he : p.data.toList = l.data.toList
        · have HR : Hid (undB p l = true) := und_same hi he
          have hle := eq_lists he
          clear h0 he
          go_enter Tryd.func18, Tryd.ntmps18
          go_wp2_with fail
          refine (rprefix_any p w hp).mono ?_
          rw [hpr]
          rintro e w1 ⟨rfl, hb1⟩
          go_wp2_with fail
          refine (ris_any l w1 hl).mono ?_
          rw [hi]
          rintro e w2 ⟨rfl, hb2⟩
          go_wp2
          go_ret
          exact ⟨ret_b HR.out.symm, hb1.trans (hb2.mono hb1.size)⟩
        · have HE : Hid (undB p l = _) := und_else hi h0 he
          have hle := ne_lists he
          clear h0 he
          go_enter Tryd.func18, Tryd.ntmps18
          go_wp2_with fail
          refine (rprefix_any p w hp).mono ?_
          rw [hpr]
          rintro e w1 ⟨rfl, hb1⟩
          go_wp2_with fail
          refine (ris_any l w1 hl).mono ?_
          rw [hi]
          rintro e w2 ⟨rfl, hb2⟩
          have hb := hb1.trans (hb2.mono hb1.size)
          clear hb1 hb2
          by_cases hlt : p.size < l.size
          · by_cases hx : (l.extract 0 p.size).data.toList = p.data.toList
            · have HR := Lib.hid (HE.out.trans (pre_same hlt hx))
              have hxe := eq_lists hx
              by_cases hc : l[p.size] = 47
              · have hc' : ((l[p.size].toNat : Int) == 47) = true := by rw [hc]; rfl
                have HF := Lib.hid (HR.out.trans (decide_eq_true hc))
                clear hx HE HR hc
                go_wp2
                go_ret
                exact ⟨ret_b HF.out.symm, hb⟩
              · have hc' : ((l[p.size].toNat : Int) == 47) = false := by
                  rw [beq_eq_false_iff_ne]
                  intro e
                  exact hc (UInt8.toNat_inj.1 (by show (l[p.size]).toNat = 47; omega))
                have HF := Lib.hid (HR.out.trans (decide_eq_false hc))
                clear hx HE HR hc
                go_wp2
                go_ret
                exact ⟨ret_b HF.out.symm, hb⟩
            · have HF := Lib.hid (HE.out.trans (pre_other hx))
              have hxe := ne_lists hx
              clear hx HE
              go_wp2
              go_ret
              exact ⟨ret_b HF.out.symm, hb⟩
          · have HF := Lib.hid (HE.out.trans (pre_long hlt))
            clear HE
            go_wp2
            go_ret
            exact ⟨ret_b HF.out.symm, hb⟩
  · have HR : Hid (undB p l = false) := und_pre (by omega)
    go_enter Tryd.func18, Tryd.ntmps18
    go_wp2_with fail
    refine (rprefix_any p w hp).mono ?_
    rw [hpr]
    rintro e w1 ⟨rfl, hb1⟩
    go_wp2
    go_ret
    exact ⟨ret_b HR.out.symm, hb1⟩
theorem ord_less {a b : ByteArray} {k : Nat} (ha : k < a.size) (hb : k < b.size) (h : (a[k].toNat : Int) < (b[k].toNat : Int)) : ordL (a.data.toList.drop k) (b.data.toList.drop k) = -1 := by
  rw [drop_at a k ha, drop_at b k hb, ordL, if_pos (by rw [UInt8.lt_iff_toNat_lt]; omega)]
theorem ord_more {a b : ByteArray} {k : Nat} (ha : k < a.size) (hb : k < b.size) (h : (b[k].toNat : Int) < (a[k].toNat : Int)) : ordL (a.data.toList.drop k) (b.data.toList.drop k) = 1 := by
  rw [drop_at a k ha, drop_at b k hb, ordL, if_neg (by rw [UInt8.lt_iff_toNat_lt]; omega), if_pos (by rw [UInt8.lt_iff_toNat_lt]; omega)]
theorem ord_same {a b : ByteArray} {k : Nat} (ha : k < a.size) (hb : k < b.size) (h : (a[k].toNat : Int) = (b[k].toNat : Int)) : ordL (a.data.toList.drop k) (b.data.toList.drop k) = ordL (a.data.toList.drop (k + 1)) (b.data.toList.drop (k + 1)) := by
  rw [drop_at a k ha, drop_at b k hb, ordL, if_neg (by rw [UInt8.lt_iff_toNat_lt]; omega), if_neg (by rw [UInt8.lt_iff_toNat_lt]; omega)]
theorem ord_short {a b : ByteArray} {k : Nat} (ha : ¬ k < a.size) (hb : k < b.size) : ordL (a.data.toList.drop k) (b.data.toList.drop k) = -1 := by
  rw [drop_end a k ha, drop_at b k hb, ordL]
theorem ord_long {a b : ByteArray} {k : Nat} (ha : k < a.size) (hb : ¬ k < b.size) : ordL (a.data.toList.drop k) (b.data.toList.drop k) = 1 := by
  rw [drop_at a k ha, drop_end b k hb, ordL]
theorem ord_both {a b : ByteArray} {k : Nat} (ha : ¬ k < a.size) (hb : ¬ k < b.size) : ordL (a.data.toList.drop k) (b.data.toList.drop k) = 0 := by
  rw [drop_end a k ha, drop_end b k hb, ordL]
def OrdAt (a b : ByteArray) (k : Nat) : Prop := ordL (a.data.toList.drop k) (b.data.toList.drop k) = ordB a b ∧ k ≤ a.size ∧ k ≤ b.size
set_option maxHeartbeats 2000000 in
theorem rorder_any (a b : ByteArray) (w : World) (ha : a.size ≤ 1000) : Calls Tryd.prog 20 #[.string a, .string b] w fun e w' => e = .returned (.int .i64 (ordB a b)) ∧ Below w.heap.size w w' := by
  go_enter Tryd.func20, Tryd.ntmps20
  go_wp2
  go_loopw [5] (fun i wr => ∃ k : Nat, i = .int .i64 k ∧ Hid (OrdAt a b k) ∧ Below w.heap.size w wr) (fun i _ => a.size - (intOf i).toNat)
  case atStart => exact ⟨0, rfl, ⟨by simp [ordB], Nat.zero_le _, Nat.zero_le _⟩, Below.refl _ _⟩
  case round =>
    obtain ⟨k, rfl, HS, hbw⟩ := hrel
    obtain ⟨hr, ka, kb⟩ := HS.out
    by_cases ha1 : k < a.size
    · by_cases hb1 : k < b.size
      · rcases Int.lt_trichotomy (a[k].toNat : Int) (b[k].toNat : Int) with h | h | h
        · rw [ord_less ha1 hb1 h] at hr
          have HR := Lib.hid hr
          clear hr HS
          go_wp2
          go_quiet (fail)
          go_wp2
          go_ret
          exact ⟨ret_z HR.out, by first | exact Below.drewN hbw _ | exact Below.drewN (Below.drewN hbw _) _⟩
        · rw [ord_same ha1 hb1 h] at hr
          have HR := Lib.hid hr
          have h1 : ¬ (a[k].toNat : Int) < (b[k].toNat : Int) := by omega
          have h2 : ¬ (b[k].toNat : Int) < (a[k].toNat : Int) := by omega
          clear hr HS h
          go_wp2
          go_quiet (fail)
          go_wp2
          go_quiet (fail)
          go_wp2
          go_roundw
          case rel => exact ⟨k + 1, by go_num, ⟨HR.out, by omega, by omega⟩, by first | exact Below.drewN hbw _ | exact Below.drewN (Below.drewN hbw _) _⟩
          case measure => simp [intOf]; omega
        · rw [ord_more ha1 hb1 h] at hr
          have HR := Lib.hid hr
          have h1 : ¬ (a[k].toNat : Int) < (b[k].toNat : Int) := by omega
          clear hr HS
          go_wp2
          go_quiet (fail)
          go_wp2
          go_quiet (fail)
          go_wp2
          go_ret
          exact ⟨ret_z HR.out, by first | exact Below.drewN hbw _ | exact Below.drewN (Below.drewN hbw _) _⟩
      · rw [ord_long ha1 hb1] at hr
        have HR := Lib.hid hr
        have h1 : ¬ a.size < b.size := by omega
        have h2 : b.size < a.size := by omega
        clear hr HS
        go_wp2
        go_ret
        exact ⟨ret_z HR.out, hbw⟩
    · by_cases hb1 : k < b.size
      · rw [ord_short ha1 hb1] at hr
        have HR := Lib.hid hr
        have h1 : a.size < b.size := by omega
        clear hr HS
        go_wp2
        go_ret
        exact ⟨ret_z HR.out, hbw⟩
      · rw [ord_both ha1 hb1] at hr
        have HR := Lib.hid hr
        have h1 : ¬ a.size < b.size := by omega
        have h2 : ¬ b.size < a.size := by omega
        clear hr HS
        go_wp2
        go_ret
        exact ⟨ret_z HR.out, hbw⟩
end Go.Proofs.YtihdmfkkpdajlaaDoor.Pth
