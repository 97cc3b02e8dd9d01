/- DERIVED. The walk of EpochOpens. -/
import Derived.Test.YtlofnpebknfmkaaEpoEl
import Derived.Test.YtlofnpebknfmkaaEpoTells
import Derived.Deep.DeepCutAuto
namespace Go.Proofs.Ytlofnpebknfmkaa.Epo
open Go.RowKit Dsk
theorem byt_take' {w : World} {A : Option Addr} {c : Nat} {L : List Int} (h : Byt w A c L) (k : Nat) : Byt w A c (L.take k) :=
  ⟨by have := h.1; rw [List.length_take]; omega, h.2.1, fun hl => by
    rw [List.length_take] at hl
    obtain ⟨g, off, hA, hg, hc⟩ := h.2.2 (by omega)
    exact ⟨g, off, hA, hg, fun j hj => by
      rw [List.length_take] at hj
      rw [hc j (by omega)]
      simp [List.getD_eq_getElem?_getD, show j < k by omega]⟩⟩
/-- the disk with these bytes. -/
def opD (L : List Int) : DS := { newD 8 with data := splice (newD 8).data 0 (L.take 1024) }
theorem new8_len : (newD 8).data.length = 1024 := List.length_replicate
theorem opD_len (L : List Int) : (opD L).data.length = 1024 := by
  show (splice (newD 8).data 0 (L.take 1024)).length = 1024
  rw [splice_len _ _ _ (by rw [new8_len, List.length_take]; omega), new8_len]
theorem opD_secs (L : List Int) : (opD L).secs = 8 := by unfold DS.secs; rw [opD_len]
theorem op_new (w : World) : Calls Try.prog 8 #[.int .i64 8] w fun e w' => ∃ K : DK, e = .returned (.tuple #[.pointer (some ⟨K.g, 0, none⟩), .int .i64 0]) ∧ EL w w' K (newD 8) [] ∧ Below w.heap.size w w' :=
  (el_new 8 w (by decide) (by decide)).mono fun _ _ ⟨K, e, h⟩ => ⟨K, e, h, h.ed.low⟩
theorem op_put {w0 w : World} {K : DK} {L : List Int} {A : Option Addr} {c n m : Nat} (h : EL w0 w K (newD 8) []) (hB : Byt w A c L) (hn : L.length = n) (hi : InB L) (hm : m = min n 1024) : Calls Try.prog 9 #[.pointer (some ⟨K.g, 0, none⟩), .int .i64 0, .slice A m c] w fun e w' => e = .returned (.int .i64 0) ∧ EL w0 w' K (opD L) [] :=
  (el_put h 0 m (by rw [new8_len]; omega) A c (L.take 1024) (by rw [List.length_take, hn, hm, Nat.min_comm]) (hi.take 1024) (byt_take' hB 1024)).mono fun _ _ ⟨e, h, _⟩ => ⟨e, h⟩
theorem refE_on {D : DS} (h : D.off = false) (b : Bool) : refE D b = if b then 0 else 2 := by
  unfold refE
  rw [h]
  cases b <;> rfl
theorem open_zero' {w : World} {K : DK} {D : DS} (h : Dsk w K D) (k n : Nat) (hn : n = 0) (hk : k ≤ D.secs) (ho : D.off = false) : Calls Try.prog 11 #[.pointer (some ⟨K.g, 0, none⟩), .int .i64 k, .int .i64 n] w fun e w' => e = .returned (.tuple #[.pointer none, .int .i64 2]) ∧ Below w.heap.size w w' := by
  subst hn
  exact open_zero h k hk ho
set_option maxRecDepth 100000 in
set_option maxHeartbeats 8000000 in
theorem opens_walk (A : Option Addr) (n c : Nat) (L : List Int) (hn : L.length = n) (w : World) (hB : Byt w A c L) (hin : InB L) (x y : Int) (hx : x ≤ 9223372036854775807) :
    Calls Try.prog 3 #[.slice A n c, .int .i64 x, .int .i64 y] w fun e w' => e = .returned (.bool true) ∧ Below w.heap.size w w' := by
  have hcn : n ≤ c := by rw [← hn]; exact hB.1
  have Hnone : Hid (A = none → c = 0) := hB.2.1
  have HB := Lib.hid hB
  have Hn := Lib.hid hn
  have Hi := Lib.hid hin
  clear hB hn hin
  go_enter Try.func3, Try.ntmps3
  go_upto_region 2 with (go_at_call 8; with_reducible refine (op_new w).mono ?_; rintro e w1 ⟨K, rfl, hq1, hb1⟩; have Q1 := Lib.hid hq1; have B1 := Lib.hid (HB.out.below hb1 (Nat.le_refl _)); clear hq1 hb1)
  go_cut [30] from 19 to 30 (fun s30 wx => s30 = .bool false ∧ EL w wx K (opD L) [])
  case first =>
    by_cases hle : n ≤ 1024
    · by_cases hA : A = none
      · have hC := Hnone.out hA
        subst hA hC
        obtain rfl : n = 0 := by omega
        clear hle
        go_wp2_with (go_at_call 9; refine (op_put Q1.out B1.out Hn.out Hi.out rfl).mono ?_; rintro e w2 ⟨rfl, hq2⟩; have Q2 := Lib.hid hq2; clear hq2)
        go_meet
        exact ⟨rfl, Q2.out⟩
      · obtain ⟨a, rfl⟩ := Option.ne_none_iff_exists'.1 hA
        clear hA
        have HM := Lib.hid (Nat.min_eq_left hle).symm
        go_wp2_with (go_at_call 9; refine (op_put Q1.out B1.out Hn.out Hi.out HM.out).mono ?_; rintro e w2 ⟨rfl, hq2⟩; have Q2 := Lib.hid hq2; clear hq2)
        go_meet
        exact ⟨rfl, Q2.out⟩
    · obtain ⟨a, rfl⟩ : ∃ a, A = some a := by
        cases A with
        | none => have := Hnone.out rfl; omega
        | some a => exact ⟨a, rfl⟩
      have hle' : 1024 < n := by omega
      have HM := Lib.hid (Nat.min_eq_right (Nat.le_of_lt hle')).symm
      go_wp2_with (go_at_call 9; refine (op_put Q1.out B1.out Hn.out Hi.out HM.out).mono ?_; rintro e w2 ⟨rfl, hq2⟩; have Q2 := Lib.hid hq2; clear hq2)
      go_meet
      exact ⟨rfl, Q2.out⟩
  case rest =>
    obtain ⟨rfl, hq⟩ := hcut
    have Q := Lib.hid hq
    clear hq
    have ho : (opD L).off = false := rfl
    have hR := refE_on (D := opD L) ho (withinI x y (opD L).secs)
    rw [opD_secs] at hR
    by_cases hw : withinI x y 8 = true
    · obtain ⟨a, b, rfl, rfl, hab⟩ := within_yes (s := 8) hw
      clear hR hw Q1 B1 HB Hn Hi Hnone
      by_cases hb0 : b = 0
      · have hb1 : (b : Int) < 1 := by omega
        have Hb0 := Lib.hid hb0
        clear hb0
        have Hr := Lib.hid (read_own Q.out.ed.dsk a b (by rw [opD_secs]; exact hab) rfl)
        unfold DK.ptr at Hr
        go_wp2_with (first
          | (go_at_call 10; with_reducible refine Hr.out.mono ?_; rintro e w2 ⟨v2, rfl, hb2, _⟩; have Q2 := Lib.hid (Q.out.later hb2); clear hb2)
          | (go_at_call 11; with_reducible refine (open_zero' Q2.out.ed.dsk a b Hb0.out (by rw [opD_secs]; omega) rfl).mono ?_; rintro e w3 ⟨rfl, hb3⟩; have Q3 := Lib.hid (Q2.out.later hb3); clear hb3)
          | (go_at_call 12; with_reducible refine (works_any _).mono ?_; rintro e w11 ⟨rfl, hb11⟩; have L11 := Lib.hid (Q3.out.ed.low.trans (hb11.mono Q3.out.ed.low.size)); clear hb11))
        go_ret
        exact ⟨rfl, L11.out⟩
      · have hb1 : ¬ (b : Int) < 1 := by omega
        have Hr := Lib.hid (read_reg Q.out.ed.dsk a b (by omega) (by rw [opD_secs]; exact hab) rfl)
        unfold DK.ptr at Hr
        have hm : b * 128 ≤ 4194304 := by omega
        rcases tell_cases (regL (opD L) a (b * 128)) with ⟨t1, t2⟩ | ⟨t1, t2, t3⟩
        · have Ht1 := Lib.hid t1
          have Ht2 := Lib.hid t2
          clear t1 t2
          obtain ⟨R, hR⟩ : ∃ R, R = regL (opD L) a (b * 128) := ⟨_, rfl⟩
          have hop := Lib.hid (fun (wx : World) (h : EL w wx K (opD L) []) => open_bad h.ed.dsk a b (by omega) (by rw [opD_secs]; exact hab) rfl Ht1.out)
          unfold DK.ptr at hop
          rw [← hR] at Hr Ht1 Ht2
          have N : Hid (∀ w : World, BadC (.pointer none) w) := fun _ => .inl rfl
          clear hR
          go_wp2_with (first
            | (go_at_call 10; with_reducible refine Hr.out.mono ?_; rintro e w2 ⟨g2, c2, rfl, hb2, _, _, hB2, hl2⟩; have Q2 := Lib.hid (Q.out.later hb2); have B2 := Lib.hid hB2; have L2 := Lib.hid hl2; clear hb2 hB2 hl2)
            | (go_at_call 11; with_reducible refine (hop.out _ Q2.out).mono ?_; rintro e w3 ⟨rfl, hb3⟩; have Q3 := Lib.hid (Q2.out.later hb3); have B3 := Lib.hid (B2.out.below hb3 (Nat.le_refl _)); clear hb3)
            | (go_at_call 13; with_reducible refine (tells_any _ _ _ R _ B3.out L2.out hm).mono ?_; rw [Ht1.out, Ht2.out]; rintro e w' ⟨rfl, rfl⟩)
            | (go_at_call 14; with_reducible refine (bad_value (N.out _)).mono ?_; rintro e w' ⟨rfl, rfl⟩)
            | (go_at_call 12; with_reducible refine (works_any _).mono ?_; rintro e w11 ⟨rfl, hb11⟩; have L11 := Lib.hid (Q3.out.ed.low.trans (hb11.mono Q3.out.ed.low.size)); clear hb11))
          go_ret
          exact ⟨rfl, L11.out⟩
        · have Ht1 := Lib.hid t1
          have Ht3 := Lib.hid t3
          have Ht2 := Lib.hid t2
          clear t1 t2 t3
          obtain ⟨R, hR⟩ : ∃ R, R = regL (opD L) a (b * 128) := ⟨_, rfl⟩
          have hop := Lib.hid (fun (wx : World) (h : EL w wx K (opD L) []) => el_open h a b _ (by omega) (by rw [opD_secs]; exact hab) rfl Ht2.out)
          rw [← hR] at Hr Ht1 Ht3 hop
          obtain ⟨v, hv⟩ : ∃ v, v = lead 1 R := ⟨_, rfl⟩
          rw [← hv] at Ht3 hop
          clear hR hv Ht2
          go_wp2_with (first
            | (go_at_call 10; with_reducible refine Hr.out.mono ?_; rintro e w2 ⟨g2, c2, rfl, hb2, _, _, hB2, hl2⟩; have Q2 := Lib.hid (Q.out.later hb2); have B2 := Lib.hid hB2; have L2 := Lib.hid hl2; clear hb2 hB2 hl2)
            | (go_at_call 11; with_reducible refine (hop.out _ Q2.out).mono ?_; rintro e w3 ⟨g3, rfl, hq3, _, hb3⟩; have Q3 := Lib.hid hq3; have B3 := Lib.hid (B2.out.below hb3 (Nat.le_refl _)); clear hb3 hq3)
            | (go_at_call 13; with_reducible refine (tells_any _ _ _ R _ B3.out L2.out hm).mono ?_; rw [Ht1.out, Ht3.out]; rintro e w' ⟨rfl, rfl⟩)
            | (go_at_call 14; with_reducible refine (el_value Q3.out (List.mem_cons_self ..) v rfl).mono ?_; rintro e w' ⟨rfl, rfl⟩)
            | (go_at_call 12; with_reducible refine (works_any _).mono ?_; rintro e w11 ⟨rfl, hb11⟩; have L11 := Lib.hid (Q3.out.ed.low.trans (hb11.mono Q3.out.ed.low.size)); clear hb11))
          go_ret
          exact ⟨rfl, L11.out⟩
    · have hR2 : refE (opD L) (withinI x y (opD L).secs) = 2 := by rw [opD_secs, hR]; exact if_neg hw
      have Hr := Lib.hid (read_no Q.out.ed.dsk x y hx (by rw [hR2]; decide))
      have Ho := Lib.hid (open_no Q.out.ed.dsk x y hx (by rw [hR2]; decide))
      rw [hR2] at Hr Ho
      unfold DK.ptr at Hr Ho
      clear hR hw hR2 hx ho
      go_wp2_with (first
        | (go_at_call 10; with_reducible refine Hr.out.mono ?_; rintro e w' ⟨rfl, rfl⟩)
        | (go_at_call 11; with_reducible refine Ho.out.mono ?_; rintro e w' ⟨rfl, rfl⟩)
        | (go_at_call 12; with_reducible refine (works_any _).mono ?_; rintro e w11 ⟨rfl, hb11⟩; have L11 := Lib.hid (Q.out.ed.low.trans (hb11.mono Q.out.ed.low.size)); clear hb11))
      go_ret
      exact ⟨rfl, L11.out⟩
end Go.Proofs.Ytlofnpebknfmkaa.Epo
