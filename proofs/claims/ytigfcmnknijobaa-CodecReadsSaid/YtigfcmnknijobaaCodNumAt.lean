/- DERIVED. The contracts of bytes.Equal and codec.numAt. -/
import Derived.Test.YtigfcmnknijobaaCodVertex
namespace Go.Proofs.Ytigfcmnknijobaa.Cod
open Go.RowKit Str
theorem equal_yes (A A2 : Option Addr) (c c2 n : Nat) (L : List Int) (w : World) (hn : L.length = n) (hB : Byt w A c L) (hB2 : Byt w A2 c2 L) :
    Calls Try.prog 51 #[.slice A n c, .slice A2 n c2] w fun e w' => e = .returned (.bool true) ∧ w = w' := by
  have k1 := conv_any hB hn
  have k2 := conv_any hB2 hn
  clear hB hB2 hn
  go_enter Try.func51, Try.ntmps51
  go_wp2
  go_ret
  exact ⟨by simp, rfl⟩
theorem equal_no (A A2 : Option Addr) (c c2 n m : Nat) (L M : List Int) (w : World) (hn : L.length = n) (hm : M.length = m) (hb : InB L) (hb2 : InB M) (hB : Byt w A c L) (hB2 : Byt w A2 c2 M) (hne : L ≠ M) :
    Calls Try.prog 51 #[.slice A n c, .slice A2 m c2] w fun e w' => e = .returned (.bool false) ∧ w = w' := by
  have k1 := conv_any hB hn
  have k2 := conv_any hB2 hm
  have hs := Lib.hid (str_ne hb hb2 hne)
  clear hB hB2 hn hm hne hb hb2
  go_enter Try.func51, Try.ntmps51
  go_wp2
  go_ret
  exact ⟨by simp; exact hs.out, rfl⟩
theorem equal_sl {L M : List Int} {va vb : Value} {w : World} (hb : InB L) (hb2 : InB M) (ha : SlB L va w) (hb' : SlB M vb w) :
    Calls Try.prog 51 #[va, vb] w fun e w' => e = .returned (.bool (decide (L = M))) ∧ w = w' := by
  obtain ⟨A, c, rfl, b1⟩ := ha
  obtain ⟨A2, c2, rfl, b2⟩ := hb'
  by_cases e : L = M
  · subst e; rw [decide_eq_true rfl]; exact equal_yes A A2 c c2 _ L w rfl b1 b2
  · rw [decide_eq_false e]; exact equal_no A A2 c c2 _ _ L M w rfl rfl hb hb2 b1 b2 e
theorem numAt_at {k y : Nat} {L : List Int} (hk : k < 10) (hl : k < L.length) (h : ∀ j, j < k → 128 ≤ L.getD j 0) (hx : L.getD k 0 < 128) (hy : y = valL (L.take (k + 1)) % 18446744073709551616) (b : Bool) (hb : b = decide (encN y = L.take (k + 1))) :
    (b = true → numAt L = (y, k + 1)) ∧ (b = false → numAt L = (0, 0)) := by
  have hs := sizeF_at hk hl h hx
  unfold numAt
  rw [hs, if_neg (by omega), ← hy]
  by_cases e : encN y = L.take (k + 1)
  · rw [hb, decide_eq_true e, if_pos e]; exact ⟨fun _ => rfl, (fun h => by cases h)⟩
  · rw [hb, decide_eq_false e, if_neg e]; exact ⟨(fun h => by cases h), fun _ => rfl⟩
set_option maxRecDepth 100000 in
set_option maxHeartbeats 1000000 in
theorem numAt_any (A : Option Addr) (c n : Nat) (L : List Int) (hn : L.length = n) (hle : n ≤ 100000) (hb : InB L) (w : World) (hB : Byt w A c L) :
    Calls Try.prog 49 #[.slice A n c] w fun e w' => e = .returned (.tuple #[.int .u64 ((numAt L).1 : Nat), .int .i64 ((numAt L).2 : Nat)]) ∧ Below w.heap.size w w' := by
  have hcap := hB.1
  rw [hn] at hcap
  have HB := Lib.hid hB
  have Hn := Lib.hid hn
  have Hb := Lib.hid hb
  obtain ⟨m, hm⟩ : ∃ m, m = min n 10 := ⟨_, rfl⟩
  have hm1 : m ≤ n := by omega
  have hm2 : m ≤ 10 := by omega
  have hmI : (if ((n : Nat) : Int) < 10 then ((n : Nat) : Int) else 10) = (m : Nat) := by split <;> omega
  have Hm := Lib.hid hm
  clear hB hn hb hm
  go_enter Try.func49, Try.ntmps49
  go_upto_region 2 with (fail)
  go_cut [11, 12, 13] (fun s11 s12 s13 wx => s11 = .slice A m c ∧ s12 = .int .i64 (m : Nat) ∧ s13 = .int .i64 0 ∧ wx = w)
  case first =>
    by_cases h10 : n ≤ 10
    · obtain rfl : m = n := by have := Hm.out; omega
      have h10' : (m : Int) ≤ 10 := by omega
      clear Hm Hn hmI
      go_wp2
      go_meet
      exact ⟨rfl, rfl, rfl, rfl⟩
    · obtain rfl : m = 10 := by have := Hm.out; omega
      have h10' : ¬ (n : Int) ≤ 10 := by omega
      have h11' : ¬ (n : Int) < 10 := by omega
      have hcI : (10 : Int) ≤ (c : Int) := by omega
      clear Hm Hn hmI
      go_wp2
      go_meet
      exact ⟨rfl, rfl, rfl, rfl⟩
  case rest =>
    obtain ⟨rfl, rfl, rfl, hww⟩ := hcut
    subst hww
    go_wp2
    go_loop [4, 13] (fun v i => ∃ k y : Nat, k ≤ m ∧ i = .int .i64 (k : Nat) ∧ v = .int .u64 (y : Nat) ∧ Hid (y = valL (L.take k) % 18446744073709551616) ∧ Hid (∀ j, j < k → 128 ≤ L.getD j 0)) (fun _ i => m - (intOf i).toNat)
    case atStart => exact ⟨0, 0, Nat.zero_le _, rfl, rfl, rfl, fun j h => absurd h (Nat.not_lt_zero _)⟩
    case round =>
      obtain ⟨k, y, hk, rfl, rfl, hy, hge⟩ := hrel
      by_cases hlt : k < m
      · have hkl : k < L.length := by have := Hn.out; omega
        obtain ⟨g, off, rfl, hg, hc⟩ := HB.out.2.2 (by omega)
        have cc := hc k hkl
        have hx := Hb.out k
        have htk : L.take (k + 1) = L.take k ++ [L.getD k 0] := by rw [List.take_succ_eq_append_getElem hkl]; simp [List.getD_eq_getElem?_getD, hkl]
        obtain ⟨x, hx'⟩ : ∃ x, x = L.getD k 0 := ⟨_, rfl⟩
        rw [← hx'] at cc hx htk
        have hst := or_step (L.take k) k (by rw [List.length_take]; omega) (by omega) x hx.1
        rw [← hy.out, ← htk] at hst
        obtain ⟨y2, hy2⟩ : ∃ y2, y2 = valL (L.take (k + 1)) % 18446744073709551616 := ⟨_, rfl⟩
        rw [← hy2] at hst
        have Hx := Lib.hid hx'
        have Hy2 := Lib.hid hy2
        obtain ⟨hx0, hx1⟩ := hx
        have hlt' : (k : Int) < (m : Int) := by omega
        clear hx' hc hy2 htk
        by_cases h128 : x < 128
        · have h128' : ¬ (128 : Int) ≤ x := by omega
          go_upto_region 7 with (fail)
          obtain ⟨b, hb0⟩ : ∃ b, b = decide (encN y2 = L.take (k + 1)) := ⟨_, rfl⟩
          have Hdb := Lib.hid hb0
          have Hat := Lib.hid (numAt_at (by omega) hkl hge.out (by rw [← Hx.out]; exact h128) Hy2.out b hb0)
          have Hy3 : Hid (y2 < 18446744073709551616) := by show _ < _; rw [Hy2.out]; exact Nat.mod_lt _ (by decide)
          have Ht : Hid (SlB (L.take (k + 1)) (.slice (some ⟨g, off, none⟩) (k + 1) c) wc) := ⟨some ⟨g, off, none⟩, c, by rw [List.length_take, Nat.min_eq_left (by omega)], byt_take HB.out (k + 1)⟩
          have Hw1 : Hid (IntKind.i64.wrap ((k : Nat) + 1) = (k : Nat) + 1) := IntWalk.i64_in _ (by omega)
          have Ht1 : Hid (((k : Nat) + 1 : Int).toNat = k + 1) := by show _ = _; omega
          have hk1c : ((k : Nat) : Int) + 1 ≤ (c : Nat) := by omega
          have hk10 : (0 : Int) ≤ ((k : Nat) : Int) + 1 := by omega
          clear hb0 hst
          have apx : apartB [28, 29, 30, 31, 32, 33, 34, 35] = true := by decide
          refine wp_region_any (by kernel_rfl) ?_
          change wpAny _ _ _ _ _ _ _ (World.drew _)
          refine wpAny_inv (fun ll aa wx => Hid (ll.size = 8 ∧ Below wc.heap.size wc wx) ∧ ∃ (z : Nat → Value), Hid (aa = ⟨#[.slice (some ⟨g, off, none⟩) n c, undef, u2, u3, .int .u64 (y2 : Nat), .int .i64 (k : Nat), .int .u8 x, u7, u8, u9, u10, .slice (some ⟨g, off, none⟩) m c, .int .i64 (m : Nat), .int .i64 (k : Nat), .bool true, .int .i64 (k : Nat), .pointer (some ⟨g, off + k, none⟩), .int .u8 x, .int .u64 (y : Nat), .int .u8 x, .int .u8 (x % 128), .int .u64 (x % 128), .int .i64 (k : Nat), .int .i64 (7 * (k : Nat)), .int .u64 (IntKind.u64.wrap (x % 128 * 2 ^ (7 * k))), .int .u64 (y2 : Nat), .int .u8 x, .bool false, z 28, z 29, z 30, z 31, z 32, z 33, z 34, z 35, u36, u37, u38, u39], []⟩) ∧ Holding [28, 29, 30, 31, 32, 33, 34, 35] [some (.int .u64 (y2 : Nat)), none, some (.slice (some ⟨g, off, none⟩) n c), some (.int .i64 (k : Nat)), some (.int .i64 ((k : Nat) + 1)), some (.slice (some ⟨g, off, none⟩) (k + 1) c), some (.bool b), some (.bool (!b))] ll z ∧ Whn ll 1 (SlB (encN y2)) (z 29) wx) ?_ (by kernel_rfl) ?_ ?_ _ _ _ _ (unlisted_none _) ?_
          · rintro ll aa wx ⟨hI, _⟩
            exact hI.out.1
          · rintro ll aa wx ⟨hI, z, ha, hz, hp1⟩ hall
            have hx := Lib.hid hI.out.2
            have e0 : z 28 = .int .u64 (y2 : Nat) := hz 0 _ (hall 0 (by decide)) rfl
            have e2 : z 30 = .slice (some ⟨g, off, none⟩) n c := hz 2 _ (hall 2 (by decide)) rfl
            have e3 : z 31 = .int .i64 (k : Nat) := hz 3 _ (hall 3 (by decide)) rfl
            have e4 : z 32 = .int .i64 ((k : Nat) + 1) := hz 4 _ (hall 4 (by decide)) rfl
            have e5 : z 33 = .slice (some ⟨g, off, none⟩) (k + 1) c := hz 5 _ (hall 5 (by decide)) rfl
            have e6 : z 34 = .bool b := hz 6 _ (hall 6 (by decide)) rfl
            have e7 : z 35 = .bool (!b) := hz 7 _ (hall 7 (by decide)) rfl
            have p1 := hp1.get (hall 1 (by decide))
            clear hall hz hI hp1
            obtain rfl := ha.out
            clear ha
            clear apx
            clear e0 e2 e3 e4 e5 p1
            have Hx3 := Lib.hid hx.out
            cases b with
            | true =>
              have Hz := Lib.hid (Hat.out.1 rfl)
              clear Hat
              simp only [Bool.not_true] at e7
              go_wp2
              go_ret2
              exact ⟨by rw [Hz.out]; rfl, Hx3.out⟩
            | false =>
              have Hz := Lib.hid (Hat.out.2 rfl)
              clear Hat
              simp only [Bool.not_false] at e7
              go_wp2
              go_ret2
              exact ⟨by rw [Hz.out]; rfl, Hx3.out⟩
          · rintro ll aa wx i ⟨hI, z, ha, hz, hp1⟩ hi hu hw
            obtain rfl := ha.out
            have hsz := Lib.hid hI.out.1
            have hx := Lib.hid hI.out.2
            clear ha hI
            have hin : i < 8 := hi
            obtain rfl | rfl | rfl | rfl | rfl | rfl | rfl | rfl : i = 0 ∨ i = 1 ∨ i = 2 ∨ i = 3 ∨ i = 4 ∨ i = 5 ∨ i = 6 ∨ i = 7 := by omega
            · refine wpOp_plain rfl rfl ?_
              go_simp
              exact ⟨⟨by simp [hsz.out], hx.out⟩, upd z 28 (.int .u64 (y2 : Nat)), (by unfold Hid; simp [upd]), hz.next apx hsz.out 0 (by decide) _ (fun _ h => Option.some.inj h), hp1.keep (by decide)⟩
            · have e0 : z 28 = .int .u64 (y2 : Nat) := hz 0 _ (hw 0 (by kernel_rfl)) rfl
              refine wpOp_plain rfl rfl ?_
              go_simp
              go_at_call 47
              refine (digits_new y2 Hy3.out _).mono ?_
              rintro e w' ⟨vr, rfl, own, low⟩
              exact ⟨⟨by simp [hsz.out], hx.out.trans (low.mono hx.out.size)⟩, upd z 29 (vr), (by unfold Hid; simp [upd, e0]), hz.next apx hsz.out 1 (by decide) _ (fun _ h => by cases h), Whn.done (own.sl)⟩
            · refine wpOp_plain rfl rfl ?_
              go_simp
              exact ⟨⟨by simp [hsz.out], hx.out⟩, upd z 30 (.slice (some ⟨g, off, none⟩) n c), (by unfold Hid; simp [upd]), hz.next apx hsz.out 2 (by decide) _ (fun _ h => Option.some.inj h), hp1.keep (by decide)⟩
            · refine wpOp_plain rfl rfl ?_
              go_simp
              exact ⟨⟨by simp [hsz.out], hx.out⟩, upd z 31 (.int .i64 (k : Nat)), (by unfold Hid; simp [upd]), hz.next apx hsz.out 3 (by decide) _ (fun _ h => Option.some.inj h), hp1.keep (by decide)⟩
            · have e3 : z 31 = .int .i64 (k : Nat) := hz 3 _ (hw 3 (by kernel_rfl)) rfl
              have hw1 := Hw1.out
              refine wpOp_plain rfl rfl ?_
              go_simp
              exact ⟨⟨by simp [hsz.out], hx.out⟩, upd z 32 (.int .i64 ((k : Nat) + 1)), (by unfold Hid; simp [upd, e3]), hz.next apx hsz.out 4 (by decide) _ (fun _ h => Option.some.inj h), hp1.keep (by decide)⟩
            · have e2 : z 30 = .slice (some ⟨g, off, none⟩) n c := hz 2 _ (hw 2 (by kernel_rfl)) rfl
              have e4 : z 32 = .int .i64 ((k : Nat) + 1) := hz 4 _ (hw 4 (by kernel_rfl)) rfl
              have ht1 := Ht1.out
              refine wpOp_plain rfl rfl ?_
              go_simp
              exact ⟨⟨by simp [hsz.out], hx.out⟩, upd z 33 (.slice (some ⟨g, off, none⟩) (k + 1) c), (by unfold Hid; simp [upd, e2, e4]), hz.next apx hsz.out 5 (by decide) _ (fun _ h => Option.some.inj h), hp1.keep (by decide)⟩
            · have e5 : z 33 = .slice (some ⟨g, off, none⟩) (k + 1) c := hz 5 _ (hw 5 (by kernel_rfl)) rfl
              have p1 := hp1.get (hw 1 (by kernel_rfl))
              refine wpOp_plain rfl rfl ?_
              go_simp
              go_at_call 51
              refine (equal_sl (encN_in Hy3.out) (Hb.out.take (k + 1)) p1 (Ht.out.at hx.out (Nat.le_refl _))).mono ?_
              rintro e w' ⟨rfl, rfl⟩
              rw [← Hdb.out]
              exact ⟨⟨by simp [hsz.out], hx.out⟩, upd z 34 (.bool b), (by unfold Hid; simp [upd, e5]), hz.next apx hsz.out 6 (by decide) _ (fun _ h => Option.some.inj h), hp1.keep (by decide)⟩
            · have e6 : z 34 = .bool b := hz 6 _ (hw 6 (by kernel_rfl)) rfl
              refine wpOp_plain rfl rfl ?_
              go_simp
              exact ⟨⟨by simp [hsz.out], hx.out⟩, upd z 35 (.bool (!b)), (by unfold Hid; simp [upd, e6]), hz.next apx hsz.out 7 (by decide) _ (fun _ h => Option.some.inj h), hp1.keep (by decide)⟩
          · exact ⟨⟨rfl, (Below.refl _ _).drew⟩, fun xx => (#[.slice (some ⟨g, off, none⟩) n c, undef, u2, u3, .int .u64 (y2 : Nat), .int .i64 (k : Nat), .int .u8 x, u7, u8, u9, u10, .slice (some ⟨g, off, none⟩) m c, .int .i64 (m : Nat), .int .i64 (k : Nat), .bool true, .int .i64 (k : Nat), .pointer (some ⟨g, off + k, none⟩), .int .u8 x, .int .u64 (y : Nat), .int .u8 x, .int .u8 (x % 128), .int .u64 (x % 128), .int .i64 (k : Nat), .int .i64 (7 * (k : Nat)), .int .u64 (IntKind.u64.wrap (x % 128 * 2 ^ (7 * k))), .int .u64 (y2 : Nat), .int .u8 x, .bool false, u28, u29, u30, u31, u32, u33, u34, u35, u36, u37, u38, u39] : Array Value).getD xx undef, rfl, Holding.start, Whn.none (by decide)⟩
        · have h128' : (128 : Int) ≤ x := by omega
          go_wp2
          go_round
          case rel => exact ⟨k + 1, y2, by omega, by go_num, rfl, Hy2.out, fun j hj => by
            by_cases e : j = k
            · subst e; rw [← Hx.out]; exact h128'
            · exact hge.out j (by omega)⟩
          case measure => simp [intOf]; omega
      · have hsz : sizeF 10 L = 0 := sizeF_none (fun j h1 h2 => hge.out j (by have := Hm.out; have := Hn.out; omega))
        have hz : Hid (numAt L = (0, 0)) := by show _ = _; unfold numAt; rw [if_pos hsz]
        have hlt' : ¬ (k : Int) < (m : Int) := by omega
        clear hsz hy hge
        go_wp2
        go_ret2
        exact ⟨by rw [hz.out]; rfl, Below.refl _ _⟩
end Go.Proofs.Ytigfcmnknijobaa.Cod
