/- DERIVED. The walk of HmacPads. -/
import Derived.Test.YtbondffjghanlaaDoorHmacKeep
import Derived.Test.YtbondffjghanlaaDoorShaEq
namespace Go.Proofs.YtbondffjghanlaaDoor.lawPads
open Go.RowKit lawAnybody
/-- what the loop keeps: the key, and bytes 0 behind it. -/
def Longer (K : List Int) (m : Nat) (x : Int) (w : World) (v i : Value) (wr : World) : Prop :=
  ∃ (j : Nat) (A1 : Option Addr) (c1 : Nat), (j : Int) ≤ x ∧ m + j ≤ 64 ∧ i = .int .i64 j ∧ v = .slice A1 (m + j) c1 ∧ Hid (wr.ownsRow w.heap.size 5 1 (.slice A1 (m + j) c1) (m + j) (vals (K ++ List.replicate j 0))) ∧ Hid (Below w.heap.size w wr)
theorem byt_zero (w : World) : Byt (w.alloc (.cells #[.int .u8 0] 5)) (some ⟨w.heap.size, 0, none⟩) 1 [0] := byt_rowF (l := [0]) (fr := (0, 0)) (t := 5) (Go.heap_alloc_new w _) rfl
theorem zeros_snoc (K : List Int) (j : Nat) : K ++ List.replicate j 0 ++ [0] = K ++ List.replicate (j + 1) 0 := by
  rw [List.append_assoc, List.replicate_succ']
set_option maxRecDepth 100000 in
set_option maxHeartbeats 2000000 in
theorem walk_few (K T : List Int) (A A2 : Option Addr) (c n c2 n2 m2 : Nat) (x : Int) (w : World) (hx0 : 0 ≤ x) (hx1 : x < 256) (hn64 : n ≤ 64) (hn : K.length = n) (hcn : n ≤ c) (hb : InB K) (hB : Byt w A c K) (hn2 : T.length = m2) (hm2 : m2 ≤ 600) (hb2 : InB T) (hB2 : Byt w A2 c2 T) (hL : Laid w)
    (hcut : Calls Tryd.prog 34 #[.slice A2 n2 c2] w fun e w' => e = .returned (.slice A2 m2 c2) ∧ w = w') :
    Calls Tryd.prog 13 #[.slice A n c, .slice A2 n2 c2, .int .u8 x] w fun e w' => e = .returned (.bool true) ∧ Below w.heap.size w w' := by
  have HC := Lib.hid hcut
  have HB := Lib.hid hB
  have HL := Lib.hid hL
  have Hn := Lib.hid hn
  have Hb := Lib.hid hb
  have HB2 := Lib.hid hB2
  have Hn2 := Lib.hid hn2
  have Hb2 := Lib.hid hb2
  have hsz := hL.sz
  have o0 := Lib.hid (own_empty w)
  have low0 := Lib.hid ((Below.refl w.heap.size w).alloc (Nat.le_refl _) (.cells #[] 5))
  have hcI : (n : Int) ≤ c := by omega
  obtain ⟨S, hS⟩ : ∃ S, S = hmacL K T := ⟨_, rfl⟩
  have HS := Lib.hid hS
  have hS32 : S.length = 32 := by rw [hS]; exact hmacL_length _ _
  have e0 := fun W => eql35_same S hS32 W
  have e1 := fun W => equal35_same S hS32 W
  clear hcut hB hL hn hb hB2 hn2 hb2 hS hS32
  go_enter Tryd.func13, Tryd.ntmps13
  go_wp2_with (first
    | (go_at_call 34; refine HC.out.mono ?_; rintro e w' ⟨rfl, rfl⟩)
    | (at_builtin; refine wpList_append_byt rfl (.tmp 16) (.tmp 17) rfl w.heap.size _ 0 [] rfl o0.out A n c K rfl Hn.out (HB.out.below low0.out (Nat.le_refl _)) (by omega) (by simp) ?_; intro v1 w1 hown1 hlow1 _; have Low1 := Lib.hid (hlow1 _ _ low0.out (Nat.le_refl _)); simp only [List.nil_append, Nat.zero_add] at hown1; obtain ⟨A1, c1, rfl, _, _⟩ := own_byt hown1; have Own1 := Lib.hid hown1; clear hown1 hlow1))
  go_loopw [7, 8] (fun v i wr => Longer K n x w v i wr) (fun _ i _ => 64 - (intOf i).toNat)
  case atStart => exact ⟨0, A1, c1, hx0, by omega, rfl, rfl, by show World.ownsRow _ _ _ _ _ _ _; rw [Nat.add_zero, List.replicate_zero, List.append_nil]; exact Own1.out, Low1⟩
  case round =>
    obtain ⟨j, A1, c1, hjx, hj, rfl, rfl, own, low⟩ := hrel
    clear Own1 Low1 o0 low0
    by_cases hgo : (j : Int) < x ∧ n + j < 64
    · obtain ⟨h1, h2⟩ := hgo
      have h3 : ((n : Nat) : Int) + j < 64 := by omega
      have hz := byt_zero wr
      go_wp2_with (at_builtin; refine wpList_append_byt rfl (.tmp 30) (.tmp 31) rfl w.heap.size _ (n + j) (K ++ List.replicate j 0) rfl (own_below own.out ((Below.refl _ _).alloc (Nat.le_refl _) _)) _ 1 1 [0] rfl rfl hz (by omega) (Nat.le_trans low.out.size (by simp)) ?_; intro v2 w2 hown2 hlow2 _; have Low2 := Lib.hid (hlow2 _ _ (low.out.alloc low.out.size _) (Nat.le_refl _)); rw [zeros_snoc] at hown2; obtain ⟨A2', c2', rfl, _, _⟩ := own_byt hown2; have Own2 := Lib.hid hown2; clear hown2 hlow2)
      go_roundw
      case rel => exact ⟨j + 1, A2', c2', by omega, by omega, by go_num, rfl, Own2, Low2⟩
      case measure => simp [intOf]; omega
    · obtain ⟨A3, c3, he, hl3, byt3⟩ := own_byt own.out
      injection he with e1' _ e3'
      subst e1' e3'
      have HB3 := Lib.hid byt3
      have Hl3 := Lib.hid hl3
      have HS2 : Hid (hmacL (K ++ List.replicate j 0) T = S) := by show _ = _; rw [HS.out]; unfold hmacL; rw [blockL_zeros K j (by rw [Hn.out]; exact hj)]
      have HI3 := Lib.hid (Hb.out.append (InB.zeros j))
      clear hl3 byt3 own
      by_cases h1 : (j : Int) < x
      all_goals
        have h2 : ¬ (((n : Nat) : Int) + j < 64 ∧ (j : Int) < x) := by omega
        first | (have h3 : ¬ (((n : Nat) : Int) + j < 64) := by omega) | skip
        clear hgo h2
        go_wp2_with (first
          | (go_at_call 38; refine (works_any w4 (HL.out.below Low4.out hsz)).mono ?_; rintro e w5 ⟨rfl, low5⟩)
          | (go_at_call 35; refine (hmac_any (K ++ List.replicate j 0) T A1 A2 c1 (n + j) c2 m2 w3 Hl3.out Hn2.out HI3.out Hb2.out (HB3.out.below Low3'.out (Nat.le_refl _)) (HB2.out.below Low3.out (Nat.le_refl _)) (HL.out.below Low3.out hsz) (by omega) (by omega)).mono ?_; rintro e w4 ⟨rfl, low4⟩; rw [HS2.out]; have Low4 := Lib.hid (Low3.out.trans (low4.mono Low3.out.size)); clear low4)
          | (go_at_call 35; refine (hmac_any K T A A2 c n c2 m2 wr Hn.out Hn2.out Hb.out Hb2.out (HB.out.below low.out (Nat.le_refl _)) (HB2.out.below low.out (Nat.le_refl _)) (HL.out.below low.out hsz) (by omega) (by omega)).mono ?_; rintro e w3 ⟨rfl, low3⟩; rw [← HS.out]; have Low3 := Lib.hid (low.out.trans (low3.mono low.out.size)); have Low3' := Lib.hid low3; clear low3))
        go_ret
        exact ⟨rfl, Low4.out.trans (low5.mono Low4.out.size)⟩
set_option maxRecDepth 100000 in
set_option maxHeartbeats 2000000 in
theorem walk_many (K T : List Int) (A A2 : Option Addr) (c n c2 n2 m2 : Nat) (x : Int) (w : World) (hx0 : 0 ≤ x) (hx1 : x < 256) (hn64 : 64 < n) (hn : K.length = 64) (hcn : n ≤ c) (hb : InB K) (hB : Byt w A c K) (hn2 : T.length = m2) (hm2 : m2 ≤ 600) (hb2 : InB T) (hB2 : Byt w A2 c2 T) (hL : Laid w)
    (hcut : Calls Tryd.prog 34 #[.slice A2 n2 c2] w fun e w' => e = .returned (.slice A2 m2 c2) ∧ w = w') :
    Calls Tryd.prog 13 #[.slice A n c, .slice A2 n2 c2, .int .u8 x] w fun e w' => e = .returned (.bool true) ∧ Below w.heap.size w w' := by
  have HC := Lib.hid hcut
  have HB := Lib.hid hB
  have HL := Lib.hid hL
  have Hn := Lib.hid hn
  have Hb := Lib.hid hb
  have HB2 := Lib.hid hB2
  have Hn2 := Lib.hid hn2
  have Hb2 := Lib.hid hb2
  have hsz := hL.sz
  have o0 := Lib.hid (own_empty w)
  have low0 := Lib.hid ((Below.refl w.heap.size w).alloc (Nat.le_refl _) (.cells #[] 5))
  have hcI : (n : Int) ≤ c := by omega
  obtain ⟨S, hS⟩ : ∃ S, S = hmacL K T := ⟨_, rfl⟩
  have HS := Lib.hid hS
  have hS32 : S.length = 32 := by rw [hS]; exact hmacL_length _ _
  have e0 := fun W => eql35_same S hS32 W
  have e1 := fun W => equal35_same S hS32 W
  clear hcut hB hL hn hb hB2 hn2 hb2 hS hS32
  go_enter Tryd.func13, Tryd.ntmps13
  go_wp2_with (first
    | (go_at_call 34; refine HC.out.mono ?_; rintro e w' ⟨rfl, rfl⟩)
    | (at_builtin; refine wpList_append_byt rfl (.tmp 16) (.tmp 17) rfl w.heap.size _ 0 [] rfl o0.out A 64 c K rfl Hn.out (HB.out.below low0.out (Nat.le_refl _)) (by omega) (by simp) ?_; intro v1 w1 hown1 hlow1 _; have Low1 := Lib.hid (hlow1 _ _ low0.out (Nat.le_refl _)); simp only [List.nil_append, Nat.zero_add] at hown1; obtain ⟨A1, c1, rfl, _, _⟩ := own_byt hown1; have Own1 := Lib.hid hown1; clear hown1 hlow1))
  go_loopw [7, 8] (fun v i wr => Longer K 64 x w v i wr) (fun _ i _ => 64 - (intOf i).toNat)
  case atStart => exact ⟨0, A1, c1, hx0, by omega, rfl, rfl, by show World.ownsRow _ _ _ _ _ _ _; rw [Nat.add_zero, List.replicate_zero, List.append_nil]; exact Own1.out, Low1⟩
  case round =>
    obtain ⟨j, A1, c1, hjx, hj, rfl, rfl, own, low⟩ := hrel
    clear Own1 Low1 o0 low0
    by_cases hgo : (j : Int) < x ∧ 64 + j < 64
    · omega
    · obtain ⟨A3, c3, he, hl3, byt3⟩ := own_byt own.out
      injection he with e1' _ e3'
      subst e1' e3'
      have HB3 := Lib.hid byt3
      have Hl3 := Lib.hid hl3
      have HS2 : Hid (hmacL (K ++ List.replicate j 0) T = S) := by show _ = _; rw [HS.out]; unfold hmacL; rw [blockL_zeros K j (by rw [Hn.out]; exact hj)]
      have HI3 := Lib.hid (Hb.out.append (InB.zeros j))
      clear hl3 byt3 own
      by_cases h1 : (j : Int) < x
      all_goals
        have h2 : ¬ (((64 : Nat) : Int) + j < 64 ∧ (j : Int) < x) := by omega
        first | (have h3 : ¬ (((64 : Nat) : Int) + j < 64) := by omega) | skip
        clear hgo h2
        go_wp2_with (first
          | (go_at_call 38; refine (works_any w4 (HL.out.below Low4.out hsz)).mono ?_; rintro e w5 ⟨rfl, low5⟩)
          | (go_at_call 35; refine (hmac_any (K ++ List.replicate j 0) T A1 A2 c1 (64 + j) c2 m2 w3 Hl3.out Hn2.out HI3.out Hb2.out (HB3.out.below Low3'.out (Nat.le_refl _)) (HB2.out.below Low3.out (Nat.le_refl _)) (HL.out.below Low3.out hsz) (by omega) (by omega)).mono ?_; rintro e w4 ⟨rfl, low4⟩; rw [HS2.out]; have Low4 := Lib.hid (Low3.out.trans (low4.mono Low3.out.size)); clear low4)
          | (go_at_call 35; refine (hmac_any K T A A2 c 64 c2 m2 wr Hn.out Hn2.out Hb.out Hb2.out (HB.out.below low.out (Nat.le_refl _)) (HB2.out.below low.out (Nat.le_refl _)) (HL.out.below low.out hsz) (by omega) (by omega)).mono ?_; rintro e w3 ⟨rfl, low3⟩; rw [← HS.out]; have Low3 := Lib.hid (low.out.trans (low3.mono low.out.size)); have Low3' := Lib.hid low3; clear low3))
        go_ret
        exact ⟨rfl, Low4.out.trans (low5.mono Low4.out.size)⟩
end Go.Proofs.YtbondffjghanlaaDoor.lawPads
