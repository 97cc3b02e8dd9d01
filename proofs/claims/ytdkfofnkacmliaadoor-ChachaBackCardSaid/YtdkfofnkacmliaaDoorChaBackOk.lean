/- DERIVED. The walk of the law ChachaBack, where there are counters enough. -/
import Derived.Test.YtdkfofnkacmliaaDoorChaBack
import Derived.IntWalk
namespace Go.Proofs.YtdkfofnkacmliaaDoor.Cha
open Go.RowKit
attribute [local go_sem ↓ high] loadAtK loadAtN
/-- behind the second call: the Case, the table, the three slices' bytes. -/
structure BW (K : List Int) (c : Int) (Nn : List Int) (w : World) (A : Option Addr) (cap : Nat) (A1 : Option Addr) (q1 : Nat) (A2 : Option Addr) (q2 : Nat) (L X : List Int) (wx : World) : Prop where
  bi : BI K c Nn w wx
  b : Byt wx A cap L
  x : Byt wx A1 q1 X
  y : Byt wx A2 q2 L
theorem BW.later {K Nn L X : List Int} {c : Int} {A A1 A2 : Option Addr} {cap q1 q2 : Nat} {w wx wy : World} (h : BW K c Nn w A cap A1 q1 A2 q2 L X wx) (hL : Laid w) (hb : Below wx.heap.size wx wy) : BW K c Nn w A cap A1 q1 A2 q2 L X wy :=
  ⟨h.bi.later hL hb, h.b.below hb (Nat.le_refl _), h.x.below hb (Nat.le_refl _), h.y.below hb (Nat.le_refl _)⟩
set_option maxRecDepth 100000 in
set_option maxHeartbeats 8000000 in
theorem back_ok (K Nn L : List Int) (c t : Int) (A : Option Addr) (n cap : Nat) (hK : K.length = 32) (hN : Nn.length = 12) (bK : InB K) (bN : InB Nn) (bL : InB L) (hl : L.length = n) (hn : n ≤ 2000) (c0 : 0 ≤ c) (c1 : c < 4294967296) (t0 : 0 ≤ t) (t1 : t < 65536) (cb : c + (nbl n : Nat) ≤ 4294967296) (w : World) (hB : Byt w A cap L) (hL : Laid w) :
    Calls Tryd.prog 6 #[.agg (caseC K c Nn), .slice A n cap, .int .u16 t] w fun e w' => e = .returned (.bool true) ∧ Below w.heap.size w w' := by
  have hn' : ¬ (2000 : Int) < (n : Int) := by omega
  obtain ⟨k, hk⟩ : ∃ k, k = t.toNat % (n + 1) := ⟨_, rfl⟩
  have hkn : k ≤ n := by rw [hk]; have := Nat.mod_lt t.toNat (show 0 < n + 1 by omega); omega
  have hem : t % ((n : Int) + 1) = (k : Int) := by
    have e : ((n : Int) + 1) = ((n + 1 : Nat) : Int) := by omega
    rw [e, hk, ← Int.toNat_of_nonneg t0, ← Int.natCast_emod, Int.toNat_natCast]
  have htm : t.tmod ((n : Int) + 1) = (k : Int) := by rw [Int.tmod_eq_emod_of_nonneg t0, hem]
  have hwr : IntKind.i64.wrap ((n : Int) + 1) = (n : Int) + 1 := IntWalk.i64_in _ (by omega)
  have hne : ¬ (n : Int) + 1 = 0 := by omega
  have Hk := Lib.hid hk
  have Hkn := Lib.hid hkn
  have i0 : BI K c Nn w (w.alloc (.cells (caseC K c Nn) 37)) := BI.start hL
  have k1 := i0.case.key hK
  have k2 := i0.case.count hK
  have k3 := i0.case.nonce hK hN
  have HLaid := Lib.hid hL
  have HKl := Lib.hid hK
  have HNl := Lib.hid hN
  have I0 := Lib.hid i0
  obtain ⟨X, hX⟩ : ∃ X, X = streamL K c Nn L := ⟨_, rfl⟩
  have hXl : X.length = n := by rw [hX, streamL_length, hl]
  have hXX : streamL K c Nn X = L := by rw [hX]; exact stream_twice K c Nn L bL
  have HX := Lib.hid hX
  have Hst := fun (Y : List Int) (B : Option Addr) (cap' : Nat) (hY : Y.length = n) => stream_any K Nn Y c B n cap' hK hN bK bN hY (by omega) c0 c1 cb
  have hG := fun (Y : List Int) (B : Option Addr) (m cap' : Nat) (d : Int) (hY : Y.length = m) (hm : m ≤ 2000) (d0 : 0 ≤ d) (d1 : d < 4294967296) (db : d + (nbl m : Nat) ≤ 4294967296) => stream_any K Nn Y d B m cap' hK hN bK bN hY (by omega) d0 d1 db
  have HG := Lib.hid hG
  have HC : Hid (n ≤ 2000 ∧ 0 ≤ c ∧ c < 4294967296 ∧ c + (nbl n : Nat) ≤ 4294967296) := ⟨hn, c0, c1, cb⟩
  have HB := Lib.hid hB
  have HSt := Lib.hid Hst
  have HXl := Lib.hid hXl
  have HXX := Lib.hid hXX
  have Hl := Lib.hid hl
  clear hG hk hkn hn cb c1 hK hN i0 hX hXl hXX Hst hB hL hl
  go_enter Tryd.func6, Tryd.ntmps6
  go_upto_region 7 with (first
    | (go_at_call 12; refine (HSt.out X A1 q1 HXl.out _ Byt1.out I1.out.laid).mono ?_; rintro e w2 ⟨A2, q2, rfl, byt2, low2⟩; have I2 := Lib.hid (I1.out.later HLaid.out low2); have Byt2 : Hid (Byt w2 A2 q2 L) := by { show Byt _ _ _ _; rw [← HXX.out]; exact byt2 }; have Low2 := Lib.hid low2; have p1 := I2.out.case.key HKl.out; have p2 := I2.out.case.count HKl.out; have p3 := I2.out.case.nonce HKl.out HNl.out; clear byt2 low2)
    | (go_at_call 12; refine (HSt.out L A cap Hl.out _ (HB.out.alloc _) I0.out.laid).mono ?_; rintro e w1 ⟨A1, q1, rfl, byt1, low1⟩; have I1 := Lib.hid (I0.out.later HLaid.out low1); have Byt1 : Hid (Byt w1 A1 q1 X) := by { show Byt _ _ _ _; rw [HX.out]; exact byt1 }; have m1 := I1.out.case.key HKl.out; have m2 := I1.out.case.count HKl.out; have m3 := I1.out.case.nonce HKl.out HNl.out; clear byt1 low1))
  have hbw : BW K c Nn w A cap A1 q1 A2 q2 L X w2 := ⟨I2.out, HB.out.below I2.out.low (Nat.le_refl _), Byt1.out.below Low2.out (Nat.le_refl _), Byt2.out⟩
  have BW2 := Lib.hid hbw
  have ht16 : t ≤ 65535 := by omega
  clear k1 k2 k3 m1 m2 m3 HB Byt1 Byt2 Low2 I0 I1 I2 hbw
  go_cut [11] (fun s11 wx => s11 = .int .i64 (k : Nat) ∧ Hid (wx = w2))
  case first =>
    go_wp2_with fail
    go_meet
    exact ⟨rfl, rfl⟩
  case rest =>
    obtain ⟨rfl, hw2⟩ := hcut
    obtain rfl := hw2.out
    rename World => w3
    have hd3 : BW K c Nn w A cap A1 q1 A2 q2 L X w3.drew := BW2.out.later HLaid.out (Below.refl _ _).drew
    have D3 := Lib.hid hd3
    have r1 := hd3.bi.case.key HKl.out
    have r2 := hd3.bi.case.count HKl.out
    have r3 := hd3.bi.case.nonce HKl.out HNl.out
    have hkn' : (k : Int) ≤ (n : Int) := by have := Hkn.out; omega
    have hkc' : (k : Int) ≤ (cap : Int) := by have := Hkn.out; have := D3.out.b.1; have := Hl.out; omega
    have Hst8 : Hid (∀ W, Byt W A cap L → Laid W → Calls Tryd.prog 12 #[.agg (u8s K), .int .u32 c, .agg (u8s Nn), .slice A k cap] W fun e' w' => ∃ A' c', e' = .returned (.tuple #[.slice A' k c', .int .i64 0]) ∧ Byt w' A' c' (X.take k) ∧ Below W.heap.size W w') := by
      intro W hbW hLW
      have h := HG.out (L.take k) A k cap c (by rw [List.length_take, Hl.out]; exact Nat.min_eq_left Hkn.out) (Nat.le_trans Hkn.out HC.out.1) HC.out.2.1 HC.out.2.2.1 (by have h1 := nbl_mono Hkn.out; have h2 := HC.out.2.2.2; omega) W (byt_take hbW k) hLW
      rw [stream_take K c Nn L k (by rw [Hl.out]; exact Hkn.out), ← HX.out] at h
      exact h
    clear hem htm hwr hne hd3 hw2 ht16
    go_upto_region 8 with (fail)
    go_cut [12, 13] (fun s12 s13 wx => s13 = .int .i64 0 ∧ ∃ A3 q3, s12 = .slice A3 k q3 ∧ Hid (Byt wx A3 q3 (X.take k) ∧ BW K c Nn w A cap A1 q1 A2 q2 L X wx))
    case first =>
      go_region_with (go_at_call 12; refine (Hst8.out _ D3.out.b D3.out.bi.laid).mono ?_; rintro e w4 ⟨A3, q3, rfl, byt3, low3⟩; have Byt3 := Lib.hid byt3; have BW4 := Lib.hid (D3.out.later HLaid.out low3); clear byt3 low3)
      all_goals
        go_wp2_with fail
        go_meet
        exact ⟨rfl, A3, q3, rfl, Byt3.out, BW4.out⟩
    case rest =>
      obtain ⟨rfl, A3, q3, rfl, h4⟩ := hcut
      rename World => w5
      clear p1 p2 p3 r1 r2 r3 D3 BW2 Hst8
      have Byt3 := Lib.hid h4.out.1
      have BW5 := Lib.hid h4.out.2
      have cv1 : ∀ a, (convert 38 9 (.slice A n cap)).run Tryd.prog (w5.drewN a) = .ok (.string (strOfNums L)) (w5.drewN a) := fun a => conv_any (BW5.out.b.below (Below.drewN (Below.refl _ _) a) (Nat.le_refl _)) Hl.out
      have cv2 : ∀ a, (convert 38 9 (.slice A2 n q2)).run Tryd.prog (w5.drewN a) = .ok (.string (strOfNums L)) (w5.drewN a) := fun a => conv_any (BW5.out.y.below (Below.drewN (Below.refl _ _) a) (Nat.le_refl _)) Hl.out
      have cv3 : ∀ a, (convert 38 9 (.slice A3 k q3)).run Tryd.prog (w5.drewN a) = .ok (.string (strOfNums (X.take k))) (w5.drewN a) := fun a => conv_any (Byt3.out.below (Below.drewN (Below.refl _ _) a) (Nat.le_refl _)) (by rw [List.length_take, HXl.out]; exact Nat.min_eq_left Hkn.out)
      have cv4 : ∀ a, (convert 38 9 (.slice A1 k q1)).run Tryd.prog (w5.drewN a) = .ok (.string (strOfNums (X.take k))) (w5.drewN a) := fun a => conv_any (byt_take (BW5.out.x.below (Below.drewN (Below.refl _ _) a) (Nat.le_refl _)) k) (by rw [List.length_take, HXl.out]; exact Nat.min_eq_left Hkn.out)
      have z1 := cv1 0
      have z2 := cv2 0
      have z3 := cv3 0
      have z4 := cv4 0
      have hkq : (k : Int) ≤ (q1 : Int) := by have := Hkn.out; have := BW5.out.x.1; have := HXl.out; omega
      clear h4
      go_wp2_with (fail)
      go_quiet (fail)
      clear cv1 cv2 cv3 cv4 z1 z2 z3 z4 hkq hkn' hkc' Byt3
      have hb6 : BW K c Nn w A cap A1 q1 A2 q2 L X (w5.drewN nq) := BW5.out.later HLaid.out (Below.drewN (Below.refl _ _) nq)
      obtain ⟨w6, hw6⟩ : ∃ w6, w6 = w5.drewN nq := ⟨_, rfl⟩
      rw [← hw6] at hb6 ⊢
      have BW6 := Lib.hid hb6
      clear hw6 BW5
      obtain ⟨q, hq⟩ : ∃ q, q = k / 64 := ⟨_, rfl⟩
      obtain ⟨d, hd⟩ : ∃ d, d = IntKind.u32.wrap (c + (q : Nat)) := ⟨_, rfl⟩
      have Hqn : Hid (64 * q ≤ n) := by show _ ≤ _; rw [hq]; have := Hkn.out; omega
      have Hqc : Hid (64 * q ≤ cap) := by show _ ≤ _; have := Hqn.out; have := hb6.b.1; have := Hl.out; omega
      have Hqx : Hid (64 * q ≤ q1) := by show _ ≤ _; have := Hqn.out; have := hb6.x.1; have := HXl.out; omega
      have Hst12 : Hid (∀ W, Byt W A cap L → Laid W → Calls Tryd.prog 12 #[.agg (u8s K), .int .u32 d, .agg (u8s Nn), .slice (if cap = 64 * q then A else A.map (·.add (64 * q))) (n - 64 * q) (cap - 64 * q)] W fun e' w' => ∃ A' c', e' = .returned (.tuple #[.slice A' (n - 64 * q) c', .int .i64 0]) ∧ Byt w' A' c' (X.drop (64 * q)) ∧ Below W.heap.size W w') := by
        intro W hbW hLW
        have hcut := hbW.cut (n := 64 * q) (by rw [Hl.out]; exact Hqn.out)
        have hC := HC.out
        have hln : (L.drop (64 * q)).length = n - 64 * q := by rw [List.length_drop, Hl.out]
        by_cases hlt : 64 * q < n
        · have hnb := nbl_drop hlt
          have hde : d = c + (q : Nat) := by
            rw [hd]
            exact IntWalk.u32_in _ (by have : 0 < nbl (n - 64 * q) := by { unfold nbl; omega }; omega)
          have h := HG.out (L.drop (64 * q)) _ (n - 64 * q) (cap - 64 * q) d hln (by omega) (by omega) (by unfold nbl at hnb hC; omega) (by omega) W hcut hLW
          rw [hde, stream_drop K c Nn L q, ← HX.out, ← hde] at h
          exact h
        · have h0 : n - 64 * q = 0 := by omega
          have hL0 : L.drop (64 * q) = [] := List.eq_nil_of_length_eq_zero (by rw [hln, h0])
          have hX0 : X.drop (64 * q) = [] := List.eq_nil_of_length_eq_zero (by rw [List.length_drop, HXl.out, h0])
          have hd0 : 0 ≤ d ∧ d < 4294967296 := by rw [hd, IntKind.wrap_u32']; omega
          have h := HG.out (L.drop (64 * q)) _ (n - 64 * q) (cap - 64 * q) d hln (by omega) hd0.1 hd0.2 (by rw [h0]; unfold nbl; omega) W hcut hLW
          rw [hL0, streamL_nil, ← hX0] at h
          exact h
      obtain ⟨A6, hA6⟩ : ∃ B, (if cap = 64 * q then A else A.map (·.add (64 * q))) = B := ⟨_, rfl⟩
      obtain ⟨A7, hA7⟩ : ∃ B, (if q1 = 64 * q then A1 else A1.map (·.add (64 * q))) = B := ⟨_, rfl⟩
      rw [hA6] at Hst12
      have HA7 := Lib.hid hA7
      have v1 : (k : Int).tdiv 64 = (q : Int) := by rw [hq]; rfl
      have v2 : (k : Int) / 64 = (q : Int) := by rw [hq]; rfl
      have v3 : IntKind.i64.wrap (64 * (q : Int)) = 64 * (q : Int) := IntWalk.i64_in _ (by have := Hqn.out; omega)
      have v4 : (64 * (q : Int)).toNat = 64 * q := by omega
      have v5 : (0 : Int) ≤ 64 * (q : Int) := by omega
      have v6 : 64 * (q : Int) ≤ (n : Int) := by have := Hqn.out; omega
      have v7 : IntKind.u32.wrap (c + (q : Int)) = d := hd.symm
      have v8 : (q : Int) ≤ 31 := by have := Hqn.out; have := HC.out.1; omega
      have v9 : IntKind.u32.wrap (q : Int) = (q : Int) := IntWalk.u32_in _ (by omega)
      clear hd hq
      go_upto_region 12 with (fail)
      have hd6 : BW K c Nn w A cap A1 q1 A2 q2 L X w6.drew := BW6.out.later HLaid.out (Below.refl _ _).drew
      have D6 := Lib.hid hd6
      have r1 := hd6.bi.case.key HKl.out
      have r2 := hd6.bi.case.count HKl.out
      have r3 := hd6.bi.case.nonce HKl.out HNl.out
      clear hd6 hb6
      go_cut [15, 16] (fun s15 s16 wx => s16 = .int .i64 0 ∧ ∃ A4 q4, s15 = .slice A4 (n - 64 * q) q4 ∧ Hid (Byt wx A4 q4 (X.drop (64 * q)) ∧ BW K c Nn w A cap A1 q1 A2 q2 L X wx))
      case first =>
        go_region_with (go_at_call 12; refine (Hst12.out _ D6.out.b D6.out.bi.laid).mono ?_; rintro e w7 ⟨A4, q4, rfl, byt4, low4⟩; have Byt4 := Lib.hid byt4; have BW7 := Lib.hid (D6.out.later HLaid.out low4); clear byt4 low4)
        all_goals
          go_wp2_with fail
          go_meet
          exact ⟨rfl, A4, q4, rfl, Byt4.out, BW7.out⟩
      case rest =>
        obtain ⟨rfl, A4, q4, rfl, h4⟩ := hcut
        rename World => w8
        have Byt4 := Lib.hid h4.out.1
        have BW8 := Lib.hid h4.out.2
        clear r1 r2 r3 D6 BW6 Hst12 h4
        by_cases he : 64 * q = n
        · have he' : (64 : Int) * (q : Int) = (n : Int) := by omega
          go_wp2_with (go_at_call 11; refine (awake_any _).mono ?_; rintro e w9 ⟨rfl, low9⟩; have Low9 : Hid (Below w.heap.size w w9) := BW8.out.bi.low.trans (low9.mono BW8.out.bi.low.size); clear low9)
          go_ret
          exact ⟨rfl, Low9.out⟩
        · have he' : ¬ (64 : Int) * (q : Int) = (n : Int) := by omega
          go_upto_region 15 with (fail)
          have hbw8 : BW K c Nn w A cap A1 q1 A2 q2 L X w8.drew := BW8.out.later HLaid.out (Below.refl _ _).drew
          have cv1 : (convert 38 9 (.slice A4 (n - 64 * q) q4)).run Tryd.prog w8.drew = .ok (.string (strOfNums (X.drop (64 * q)))) w8.drew := conv_any (Byt4.out.below (Below.refl _ _).drew (Nat.le_refl _)) (by rw [List.length_drop, HXl.out])
          have cv2 : (convert 38 9 (.slice A7 (n - 64 * q) (q1 - 64 * q))).run Tryd.prog w8.drew = .ok (.string (strOfNums (X.drop (64 * q)))) w8.drew := by
            rw [← HA7.out]
            exact conv_any (hbw8.x.cut (by rw [HXl.out]; exact Hqn.out)) (by rw [List.length_drop, HXl.out])
          have cw1 : (convert 38 9 (.slice A4 (n - 64 * q) q4)).run Tryd.prog w8 = .ok (.string (strOfNums (X.drop (64 * q)))) w8 := conv_any Byt4.out (by rw [List.length_drop, HXl.out])
          have cw2 : (convert 38 9 (.slice A7 (n - 64 * q) (q1 - 64 * q))).run Tryd.prog w8 = .ok (.string (strOfNums (X.drop (64 * q)))) w8 := by
            rw [← HA7.out]
            exact conv_any (BW8.out.x.cut (by rw [HXl.out]; exact Hqn.out)) (by rw [List.length_drop, HXl.out])
          clear hbw8
          go_wp2_with fail
          go_still_tail 13, (by kernel_rfl)
          change wpList _ _ _ _ _ w8.drew
          go_wp2_with (go_at_call 11; refine (awake_any _).mono ?_; rintro e w9 ⟨rfl, low9⟩; have Low9 : Hid (Below w.heap.size w w9) := ((BW8.out.bi.low.trans (Below.refl _ _).drew).trans (low9.mono BW8.out.bi.low.size)); clear low9)
          go_ret
          exact ⟨rfl, Low9.out⟩
end Go.Proofs.YtdkfofnkacmliaaDoor.Cha
