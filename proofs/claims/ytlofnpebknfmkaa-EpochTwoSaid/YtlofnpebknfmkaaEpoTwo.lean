/- DERIVED. The walk of EpochTwo. -/
import Derived.Test.YtlofnpebknfmkaaEpoEl
import Derived.BigQuiet
import Derived.Deep.DeepCutAuto
namespace Go.Proofs.Ytlofnpebknfmkaa.Epo
open Go.RowKit Dsk
/-- two counters, behind k rounds. -/
structure TW (w0 w : World) (K : DK) (D : DS) (gx gy u v : Nat) : Prop where
  el : EL w0 w K D [(gy, ⟨2, 256, v⟩), (gx, ⟨0, 256, u⟩)]
  off : D.off = false
  laid : D.laid = false
  len : D.data.length = 512
  wr : D.writes ≤ u + v
  cx : Cnt (regL D 0 256) u
  cy : Cnt (regL D 2 256) v
theorem secs4 {D : DS} (h : D.data.length = 512) : D.secs = 4 := by unfold DS.secs; rw [h]
theorem due_no {D : DS} (h : D.laid = false) : D.due = false := by unfold DS.due; rw [h]; rfl
theorem tw_x {w0 w : World} {K : DK} {D : DS} {gx gy u v : Nat} (h : TW w0 w K D gx gy u v) (hu : u < 200) (hv : v < 200) : Calls Try.prog 16 #[.pointer (some ⟨gx, 0, none⟩)] w fun e w' => e = .returned (.int .i64 0) ∧ ∃ D', TW w0 w' K D' gx gy (u + 1) v := by
  have hlen := h.len
  have hwr := h.wr
  have hd := due_no h.laid
  have q := next_q D 0 u h.off (by omega)
  obtain ⟨y1, y2, y3, _, _⟩ := q.yes hd
  refine (el_next (L1 := [(gy, ⟨2, 256, v⟩)]) (L2 := []) h.el ⟨by show u < 256; omega, by show 0 * 128 + 256 ≤ _; omega, by omega⟩ h.off).mono ?_
  rintro e w' ⟨rfl, hel⟩
  have hcx := q.cnt (n := 256) (by omega) (by omega) h.cx
  rw [if_pos (.inl hd)] at hcx
  have hel' : EL w0 w' K (nextD D 0 u).1 [(gy, ⟨2, 256, v⟩), (gx, ⟨0, 256, u + 1⟩)] := by
    have hst : (CV.mk 0 256 u).step (nextD D 0 u).2 = ⟨0, 256, u + 1⟩ := by rw [y1]; rfl
    rw [← hst]; exact hel
  exact ⟨by simp only [y1], _, hel', y2, by rw [y3]; exact h.laid, by rw [q.len]; exact hlen, by rw [q.wr]; omega, hcx, q.other (by omega) (fun j hj => by omega) h.cy⟩
theorem tw_y {w0 w : World} {K : DK} {D : DS} {gx gy u v : Nat} (h : TW w0 w K D gx gy u v) (hu : u < 200) (hv : v < 200) : Calls Try.prog 16 #[.pointer (some ⟨gy, 0, none⟩)] w fun e w' => e = .returned (.int .i64 0) ∧ ∃ D', TW w0 w' K D' gx gy u (v + 1) := by
  have hlen := h.len
  have hwr := h.wr
  have hd := due_no h.laid
  have q := next_q D 2 v h.off (by omega)
  obtain ⟨y1, y2, y3, _, _⟩ := q.yes hd
  refine (el_next (L1 := []) (L2 := [(gx, ⟨0, 256, u⟩)]) h.el ⟨by show v < 256; omega, by show 2 * 128 + 256 ≤ _; omega, by omega⟩ h.off).mono ?_
  rintro e w' ⟨rfl, hel⟩
  have hcy := q.cnt (n := 256) (by omega) (by omega) h.cy
  rw [if_pos (.inl hd)] at hcy
  have hel' : EL w0 w' K (nextD D 2 v).1 [(gy, ⟨2, 256, v + 1⟩), (gx, ⟨0, 256, u⟩)] := by
    have hst : (CV.mk 2 256 v).step (nextD D 2 v).2 = ⟨2, 256, v + 1⟩ := by rw [y1]; rfl
    rw [← hst]; exact hel
  exact ⟨by simp only [y1], _, hel', y2, by rw [y3]; exact h.laid, by rw [q.len]; exact hlen, by rw [q.wr]; omega, q.other (by omega) (fun j hj => by omega) h.cx, hcy⟩
theorem tw_new (w : World) : Calls Try.prog 8 #[.int .i64 4] w fun e w' => ∃ K : DK, e = .returned (.tuple #[.pointer (some ⟨K.g, 0, none⟩), .int .i64 0]) ∧ EL w w' K (newD 4) [] := el_new 4 w (by decide) (by decide)
theorem tw_open0 {w0 w : World} {K : DK} (h : EL w0 w K (newD 4) []) : Calls Try.prog 11 #[.pointer (some ⟨K.g, 0, none⟩), .int .i64 0, .int .i64 2] w fun e w' => ∃ g, e = .returned (.tuple #[.pointer (some ⟨g, 0, none⟩), .int .i64 0]) ∧ EL w0 w' K (newD 4) [(g, ⟨0, 256, 0⟩)] :=
  (el_open h 0 2 0 (by decide) (by rw [newD_secs]; decide) rfl (cnt_new 4 0 256 (by decide))).mono fun _ _ ⟨g, e, h, _⟩ => ⟨g, e, h⟩
theorem tw_open2 {w0 w : World} {K : DK} {gx : Nat} (h : EL w0 w K (newD 4) [(gx, ⟨0, 256, 0⟩)]) : Calls Try.prog 11 #[.pointer (some ⟨K.g, 0, none⟩), .int .i64 2, .int .i64 2] w fun e w' => ∃ g, e = .returned (.tuple #[.pointer (some ⟨g, 0, none⟩), .int .i64 0]) ∧ TW w0 w' K (newD 4) gx g 0 0 :=
  (el_open h 2 2 0 (by decide) (by rw [newD_secs]; decide) rfl (cnt_new 4 2 256 (by decide))).mono fun _ _ ⟨g, e, h, _⟩ => ⟨g, e, h, rfl, rfl, List.length_replicate, Int.le_refl 0, cnt_new 4 0 256 (by decide), cnt_new 4 2 256 (by decide)⟩
theorem tw_last0 {w0 w : World} {K : DK} {D : DS} {gx gy u v : Nat} (h : TW w0 w K D gx gy u v) : Calls Try.prog 11 #[.pointer (some ⟨K.g, 0, none⟩), .int .i64 0, .int .i64 2] w fun e w' => ∃ g, e = .returned (.tuple #[.pointer (some ⟨g, 0, none⟩), .int .i64 0]) ∧ TW w0 w' K D gx gy u v ∧ EC w0 w' K D g ⟨0, 256, u⟩ :=
  (el_open h.el 0 2 u (by decide) (by rw [secs4 h.len]; decide) h.off h.cx).mono fun _ _ ⟨g, e, h2, _, hb⟩ => ⟨g, e, ⟨h.el.later hb, h.off, h.laid, h.len, h.wr, h.cx, h.cy⟩, h2.ec (List.mem_cons_self ..)⟩
theorem tw_last2 {w0 w : World} {K : DK} {D : DS} {gx gy u v p : Nat} (h : TW w0 w K D gx gy u v) (hp : EC w0 w K D p ⟨0, 256, u⟩) : Calls Try.prog 11 #[.pointer (some ⟨K.g, 0, none⟩), .int .i64 2, .int .i64 2] w fun e w' => ∃ g, e = .returned (.tuple #[.pointer (some ⟨g, 0, none⟩), .int .i64 0]) ∧ TW w0 w' K D gx gy u v ∧ EC w0 w' K D p ⟨0, 256, u⟩ ∧ EC w0 w' K D g ⟨2, 256, v⟩ :=
  (el_open h.el 2 2 v (by decide) (by rw [secs4 h.len]; decide) h.off h.cy).mono fun _ _ ⟨g, e, h2, _, hb⟩ => ⟨g, e, ⟨h.el.later hb, h.off, h.laid, h.len, h.wr, h.cx, h.cy⟩, hp.later hb, h2.ec (List.mem_cons_self ..)⟩
set_option maxRecDepth 100000 in
set_option maxHeartbeats 8000000 in
theorem two_walk (a b : Int) (ha : 0 ≤ a ∧ a ≤ 255) (hb : 0 ≤ b ∧ b ≤ 255) (w : World) :
    Calls Try.prog 6 #[.int .u8 a, .int .u8 b] w fun e w' => e = .returned (.bool true) ∧ Below w.heap.size w w' := by
  obtain ⟨n, hn, hn3⟩ : ∃ n : Nat, a % 151 = n ∧ n ≤ 150 := ⟨(a % 151).toNat, by omega, by omega⟩
  obtain ⟨m, hm, hm3⟩ : ∃ m : Nat, b % 151 = m ∧ m ≤ 150 := ⟨(b % 151).toNat, by omega, by omega⟩
  have Hn := Lib.hid hn
  have Hm := Lib.hid hm
  clear hn hm
  go_enter Try.func6, Try.ntmps6
  go_upto_region 10 with (first
    | (go_at_call 8; with_reducible refine (tw_new w).mono ?_; rintro e w1 ⟨K, rfl, hq1⟩; have Q1 := Lib.hid hq1; clear hq1)
    | (go_at_call 11; with_reducible refine (tw_open0 Q1.out).mono ?_; rintro e w2 ⟨gx, rfl, hq2⟩; have Q2 := Lib.hid hq2; clear hq2)
    | (go_at_call 11; with_reducible refine (tw_open2 Q2.out).mono ?_; rintro e w3 ⟨gy, rfl, hq3⟩; have Q3 := Lib.hid hq3; clear hq3))
  rw [Hn.out, Hm.out]
  clear Q1 Q2
  go_loopw [13] (fun v wr => ∃ k u q : Nat, k ≤ max n m ∧ u = min k n ∧ q = min k m ∧ v = .int .i64 k ∧ ∃ D, Hid (TW w wr K D gx gy u q)) (fun v _ => max n m - (intOf v).toNat)
  case atStart => exact ⟨0, 0, 0, Nat.zero_le _, by rw [Nat.zero_min], by rw [Nat.zero_min], rfl, _, Q3.out⟩
  case round =>
    obtain ⟨k, u, v, hk, hu, hv, rfl, D, hr⟩ := hrel
    clear Q3
    have Hu := Lib.hid hu
    have Hv := Lib.hid hv
    have hu3 : u ≤ 150 := by omega
    have hv3 : v ≤ 150 := by omega
    clear hu hv
    by_cases hlt : k < max n m
    · by_cases h1 : k < n
      · by_cases h2 : k < m
        · by_cases h3 : n < m
          · have hnm : (n : Int) < (m : Int) := by omega
            have hkn : (k : Int) < (n : Int) := by omega
            have hkm : (k : Int) < (m : Int) := by omega
            have Hx := Lib.hid (tw_x hr.out (by omega) (by omega))
            clear hr
            go_wp2_with (first
                | (go_at_call 16; with_reducible refine Hx.out.mono ?_; rintro e w4 ⟨rfl, D4, hq4⟩; have Q4 := Lib.hid hq4; clear hq4)
                | (go_at_call 16; with_reducible refine (tw_y Q4.out (by omega) (by omega)).mono ?_; rintro e w5 ⟨rfl, D5, hq5⟩; have Q5 := Lib.hid hq5; clear hq5))
            exact ⟨⟨k + 1, u + 1, v + 1, by omega, by have := Hu.out; omega, by have := Hv.out; omega, by go_num, _, Q5.out⟩, by simp [intOf] <;> omega⟩
          · have hnm : ¬ (n : Int) < (m : Int) := by omega
            have hkn : (k : Int) < (n : Int) := by omega
            have hkm : (k : Int) < (m : Int) := by omega
            have Hx := Lib.hid (tw_x hr.out (by omega) (by omega))
            clear hr
            go_wp2_with (first
                | (go_at_call 16; with_reducible refine Hx.out.mono ?_; rintro e w4 ⟨rfl, D4, hq4⟩; have Q4 := Lib.hid hq4; clear hq4)
                | (go_at_call 16; with_reducible refine (tw_y Q4.out (by omega) (by omega)).mono ?_; rintro e w5 ⟨rfl, D5, hq5⟩; have Q5 := Lib.hid hq5; clear hq5))
            exact ⟨⟨k + 1, u + 1, v + 1, by omega, by have := Hu.out; omega, by have := Hv.out; omega, by go_num, _, Q5.out⟩, by simp [intOf] <;> omega⟩
        · have hnm : ¬ (n : Int) < (m : Int) := by omega
          have hkn : (k : Int) < (n : Int) := by omega
          have hkm : ¬ (k : Int) < (m : Int) := by omega
          have Hx := Lib.hid (tw_x hr.out (by omega) (by omega))
          clear hr
          go_wp2_with (go_at_call 16; with_reducible refine Hx.out.mono ?_; rintro e w4 ⟨rfl, D4, hq4⟩; have Q4 := Lib.hid hq4; clear hq4)
          exact ⟨⟨k + 1, u + 1, v, by omega, by have := Hu.out; omega, by have := Hv.out; omega, by go_num, _, Q4.out⟩, by simp [intOf] <;> omega⟩
      · have hnm : (n : Int) < (m : Int) := by omega
        have hkn : ¬ (k : Int) < (n : Int) := by omega
        have hkm : (k : Int) < (m : Int) := by omega
        have Hy := Lib.hid (tw_y hr.out (by omega) (by omega))
        clear hr
        go_wp2_with (go_at_call 16; with_reducible refine Hy.out.mono ?_; rintro e w5 ⟨rfl, D5, hq5⟩; have Q5 := Lib.hid hq5; clear hq5)
        exact ⟨⟨k + 1, u, v + 1, by omega, by have := Hu.out; omega, by have := Hv.out; omega, by go_num, _, Q5.out⟩, by simp [intOf] <;> omega⟩
    · by_cases h3 : n < m
      · have Hl := Lib.hid hr.out
        have hu' : u = n := by have := Hu.out; omega
        have hv' : v = m := by have := Hv.out; omega
        subst hu' hv'
        have hnm : (u : Int) < (v : Int) := by omega
        have hku : ¬ (k : Int) < (u : Int) := by omega
        have hkv : ¬ (k : Int) < (v : Int) := by omega
        clear hr Hu Hv hlt
        go_wp2_with (first
          | (go_at_call 11; with_reducible refine (tw_last2 Q4.out P4.out).mono ?_; rintro e w5 ⟨q, rfl, hq5, hp5, hr5⟩; have Q5 := Lib.hid hq5; have P5 := Lib.hid hp5; have R5 := Lib.hid hr5; clear hq5 hp5 hr5)
          | (go_at_call 11; with_reducible refine (tw_last0 Hl.out).mono ?_; rintro e w4 ⟨p, rfl, hq4, hp4⟩; have Q4 := Lib.hid hq4; have P4 := Lib.hid hp4; clear hq4 hp4)
          | (go_at_call 14; with_reducible refine (wk_value P5.out u rfl).mono ?_; rintro e w' ⟨rfl, rfl⟩)
          | (go_at_call 14; with_reducible refine (wk_value R5.out v rfl).mono ?_; rintro e w' ⟨rfl, rfl⟩)
          | (go_at_call 14; with_reducible refine (el_value Q5.out.el (g := gx) (List.mem_cons_of_mem _ (List.mem_cons_self ..)) u rfl).mono ?_; rintro e w' ⟨rfl, rfl⟩)
          | (go_at_call 12; with_reducible refine (works_any _).mono ?_; rintro e w11 ⟨rfl, hb11⟩; have L11 := Lib.hid (Q5.out.el.ed.low.trans (hb11.mono Q5.out.el.ed.low.size)); clear hb11))
        go_ret
        exact ⟨rfl, L11.out⟩
      · have Hl := Lib.hid hr.out
        have hu' : u = n := by have := Hu.out; omega
        have hv' : v = m := by have := Hv.out; omega
        subst hu' hv'
        have hnm : ¬ (u : Int) < (v : Int) := by omega
        have hku : ¬ (k : Int) < (u : Int) := by omega
        have hkv : ¬ (k : Int) < (v : Int) := by omega
        clear hr Hu Hv hlt
        go_wp2_with (first
          | (go_at_call 11; with_reducible refine (tw_last2 Q4.out P4.out).mono ?_; rintro e w5 ⟨q, rfl, hq5, hp5, hr5⟩; have Q5 := Lib.hid hq5; have P5 := Lib.hid hp5; have R5 := Lib.hid hr5; clear hq5 hp5 hr5)
          | (go_at_call 11; with_reducible refine (tw_last0 Hl.out).mono ?_; rintro e w4 ⟨p, rfl, hq4, hp4⟩; have Q4 := Lib.hid hq4; have P4 := Lib.hid hp4; clear hq4 hp4)
          | (go_at_call 14; with_reducible refine (wk_value P5.out u rfl).mono ?_; rintro e w' ⟨rfl, rfl⟩)
          | (go_at_call 14; with_reducible refine (wk_value R5.out v rfl).mono ?_; rintro e w' ⟨rfl, rfl⟩)
          | (go_at_call 14; with_reducible refine (el_value Q5.out.el (g := gx) (List.mem_cons_of_mem _ (List.mem_cons_self ..)) u rfl).mono ?_; rintro e w' ⟨rfl, rfl⟩)
          | (go_at_call 12; with_reducible refine (works_any _).mono ?_; rintro e w11 ⟨rfl, hb11⟩; have L11 := Lib.hid (Q5.out.el.ed.low.trans (hb11.mono Q5.out.el.ed.low.size)); clear hb11))
        go_ret
        exact ⟨rfl, L11.out⟩
end Go.Proofs.Ytlofnpebknfmkaa.Epo
