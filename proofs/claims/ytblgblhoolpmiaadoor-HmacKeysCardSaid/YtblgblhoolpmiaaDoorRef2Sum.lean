/- DERIVED. The contracts of the reference's Block, changed and Sum of layer 2. Written by mkref2.py. -/
import Derived.Test.YtblgblhoolpmiaaDoorRef1Sum
import Derived.Test.YtblgblhoolpmiaaDoorHmacSpec
import Derived.Test.YtblgblhoolpmiaaDoorOwn2
namespace Go.Proofs.YtblgblhoolpmiaaDoor
open Go.RowKit
set_option maxRecDepth 100000 in
set_option maxHeartbeats 2000000 in
theorem rblock2_any (K : List Int) (A : Option Addr) (c n : Nat) (w : World) (hn : K.length = n) (hb : InB K) (hB : Byt w A c K) (hx : n ≤ 90000) :
    Calls Tryd.prog 42 #[.slice A n c] w fun e w' => ∃ A' c', e = .returned (.slice A' 64 c') ∧ Byt w' A' c' (blockL K) ∧ Below w.heap.size w w' := by
  obtain ⟨i8, hi8, hz80, hz81, hz82⟩ := partsK info8k
  have gi := Lib.hid hi8
  have gz0 := Lib.hid hz80
  have gz1 := Lib.hid hz81
  have gz2 := Lib.hid hz82
  have Hn := Lib.hid hn
  have Hb := Lib.hid hb
  have HB := Lib.hid hB
  clear hi8 hz80 hz81 hz82 hn hb hB
  by_cases h64 : n ≤ 64
  · have h64I : ¬ (64 : Int) < n := by omega
    go_enter Tryd.func42, Tryd.ntmps42
    go_wp2_with (at_builtin; refine lawAnybody.wpList_append_byt rfl (.tmp 21) (.tmp 22) rfl w.heap.size _ 0 [] rfl (World.ownsRow_nil _ _ _ _) A n c K rfl Hn.out HB.out (by omega) (Nat.le_refl _) ?_; intro v1 w1 hown1 hlow1 _; have Low1 := Lib.hid (hlow1 _ _ (Below.refl w.heap.size w) (Nat.le_refl _)); simp only [List.nil_append, Nat.zero_add] at hown1; obtain ⟨A1, c1, hv1⟩ := own_nilK hown1; subst hv1; have Own1 := Lib.hid hown1; clear hown1 hlow1)
    go_loopw [3] (fun v wr => ∃ (j c : Nat) (A : Option Addr), n + j ≤ 64 ∧ v = .slice A (n + j) c ∧ Hid (wr.ownsRow w.heap.size 5 1 v (n + j) (valsK .u8 (K ++ List.replicate j 0)) ∧ Below w.heap.size w wr)) (fun v _ => match v with | .slice _ m _ => 64 - m | _ => 0)
    case atStart => exact ⟨0, _, _, by omega, rfl, by rw [List.replicate_zero, List.append_nil]; exact ⟨Own1.out, Low1.out⟩⟩
    case round =>
      obtain ⟨j, c', A', hj, rfl, hr⟩ := hrel
      by_cases hlt : n + j < 64
      · have hltI : ((n : Nat) : Int) + (j : Int) < 64 := by omega
        go_wp2_with (at_builtin; refine wpList_append_mine rfl (.tmp 27) (.tmp 28) 26 rfl w.heap.size 5 i8 (.int .u8 0) 1 Tryd.underlying26 gi.out gz0.out gz1.out gz2.out rfl (by decide) _ (n + j) (K ++ List.replicate j 0) 0 rfl hr.out.1 rfl (by omega) hr.out.2.size ?_; intro v' w' hgr; obtain ⟨A2, c2, hv'⟩ := own_nilK hgr.own; subst hv'; have Hgr := Lib.hid hgr; clear hgr)
        go_roundw
        case rel => exact ⟨j + 1, c2, A2, by omega, by rw [show n + j + 1 = n + (j + 1) by omega], by { have h := Hgr.out.own; rw [List.append_assoc, ← List.replicate_succ'] at h; exact ⟨h, Hgr.out.low _ _ hr.out.2 (Nat.le_refl _)⟩ }⟩
        case measure => show 64 - (n + j + 1) < 64 - (n + j); omega
      · have hltI : ¬ ((n : Nat) : Int) + (j : Int) < 64 := by omega
        have hown := hr.out.1
        have e64 : n + j = 64 := by omega
        have hbl : K ++ List.replicate j 0 = blockL K := by unfold blockL keyL; rw [if_pos (by rw [Hn.out]; exact h64), pad64, Hn.out, show 64 - n = j by omega]
        rw [hbl] at hown
        have hlen : (blockL K).length = n + j := by rw [blockL_length, e64]
        have hq : ∃ A2 c2, Value.slice A' (n + j) c' = .slice A2 (n + j) c2 ∧ Byt wr A2 c2 (blockL K) := own_bytK hown hlen
        obtain ⟨A2, c2, hv, hbyt⟩ := hq
        injection hv with hA hn2 hc
        subst hA hc
        have Hbyt := Lib.hid hbyt
        have Low2 := Lib.hid hr.out.2
        have E64 := Lib.hid e64
        clear hown hr hbyt hbl e64 hlen
        go_wp2
        go_ret
        refine ⟨A', c', ?_, Hbyt.out, Low2.out⟩
        show Ending.returned (Value.slice A' (n + j) c') = _
        rw [E64.out]
  · have h64I : (64 : Int) < n := by omega
    obtain ⟨X, hX⟩ : ∃ X, X = sumL K := ⟨_, rfl⟩
    have hX32 : X.length = 32 := by rw [hX, sumL_length]
    have HX := Lib.hid hX
    have HX32 := Lib.hid hX32
    have H35 : Hid ((Tryd.prog.info? 35).map (·.size) = some (u8s X).size) := by show _ = _; rw [u8s_size, hX32]; exact info35
    clear hX hX32
    go_enter Tryd.func42, Tryd.ntmps42
    go_wp2_with (first
      | (go_at_call 16; refine (rsum_any K A c n w Hn.out Hb.out HB.out hx).mono ?_; rintro e w1 ⟨rfl, low1⟩; rw [← HX.out]; have Low1 := Lib.hid low1; clear low1)
      | (refine wpList_store_row rfl 35 (.tmp 4) (.tmp 10) rfl w1.heap.size (u8s X) rfl rfl 35 _ (Go.heap_alloc_new _ _) H35.out (by rw [u8s_size, HX32.out]; rfl) (u8s_one _) ?_; rw [World.setRow_alloc_new]; generalize hw2 : World.alloc w1 _ = w2; have Hw2 := Lib.hid hw2; clear hw2))
    have hrow2 : w2.heap[w1.heap.size]? = some (.cells (u8s X) 35 (0, 0)) := by rw [← Hw2.out]; exact Go.heap_alloc_new _ _
    have hs2 : w2.heap.size = w1.heap.size + 1 := by rw [← Hw2.out, World.size_alloc]
    have low2 : Below w.heap.size w w2 := by rw [← Hw2.out]; exact Low1.out.alloc Low1.out.size _
    have Hrow2 := Lib.hid hrow2
    have Hs2 := Lib.hid hs2
    have Low2 := Lib.hid low2
    clear hrow2 hs2 low2 Hw2
    go_wp2
    go_loopw [3, 5] (fun v i wr => ∃ j : Nat, j ≤ 32 ∧ i = .int .i64 j ∧ Hid (wr.ownsRow w2.heap.size 5 1 v j (valsK .u8 (X.take j)) ∧ Below w2.heap.size w2 wr)) (fun _ i _ => 32 - (intOf i).toNat)
    case atStart => exact ⟨0, by omega, rfl, World.ownsRow_nil _ _ _ _, Below.refl _ _⟩
    case round =>
      obtain ⟨j, hj, rfl, hr⟩ := hrel
      by_cases hlt : j < 32
      · have hltI : (j : Int) < 32 := by omega
        obtain ⟨x, hx⟩ : ∃ x, x = X.getD j 0 := ⟨_, rfl⟩
        have cell : wr.cell? ⟨w1.heap.size, j, none⟩ = some (.int .u8 x) := by rw [hx]; exact row8_cell ((hr.out.2.block _ (by rw [Hs2.out]; omega)).trans Hrow2.out) j (by rw [HX32.out]; exact hlt)
        have hmore : X.take j ++ [x] = X.take (j + 1) := by rw [hx]; exact take_getD (by rw [HX32.out]; exact hlt)
        have Hmore := Lib.hid hmore
        clear hx hmore
        go_wp2_with (at_builtin; refine wpList_append_mine rfl (.tmp 15) (.tmp 19) 26 rfl w2.heap.size 5 i8 (.int .u8 0) 1 Tryd.underlying26 gi.out gz0.out gz1.out gz2.out rfl (by decide) _ j (X.take j) x rfl hr.out.1 rfl (by omega) hr.out.2.size ?_; intro v' w' hgr; have Hgr := Lib.hid hgr; clear hgr)
        go_roundw
        case rel => exact ⟨j + 1, by omega, by go_num, by rw [← Hmore.out]; exact ⟨Hgr.out.own, Hgr.out.low _ _ hr.out.2 (Nat.le_refl _)⟩⟩
        case measure => simp [intOf]; omega
      · have hge : ¬ (j : Int) < 32 := by omega
        have e32 : j = 32 := by omega
        have own := hr.out.1
        rw [e32, List.take_of_length_le (Nat.le_of_eq HX32.out)] at own
        have own2 := own_lower own Low2.out.size
        obtain ⟨A3, c3, rfl⟩ := own_nilK own2
        have Own3 := Lib.hid own2
        have Low3 := Lib.hid (Low2.out.trans (hr.out.2.mono Low2.out.size))
        clear own own2 hr e32 hj hlt
        go_wp2
        go_loopw [3] (fun v wr => ∃ (j c : Nat) (A : Option Addr), 32 + j ≤ 64 ∧ v = .slice A (32 + j) c ∧ Hid (wr.ownsRow w.heap.size 5 1 v (32 + j) (valsK .u8 (X ++ List.replicate j 0)) ∧ Below w.heap.size w wr)) (fun v _ => match v with | .slice _ m _ => 64 - m | _ => 0)
        case atStart => exact ⟨0, _, _, by omega, rfl, by rw [List.replicate_zero, List.append_nil]; exact ⟨Own3.out, Low3.out⟩⟩
        case round =>
          obtain ⟨j, c', A', hj, rfl, hr⟩ := hrel
          by_cases hlt : 32 + j < 64
          · have hltI : ((32 : Nat) : Int) + (j : Int) < 64 := by omega
            go_wp2_with (at_builtin; refine wpList_append_mine rfl (.tmp 27) (.tmp 28) 26 rfl w.heap.size 5 i8 (.int .u8 0) 1 Tryd.underlying26 gi.out gz0.out gz1.out gz2.out rfl (by decide) _ (32 + j) (X ++ List.replicate j 0) 0 rfl hr.out.1 rfl (by omega) hr.out.2.size ?_; intro v' w' hgr; obtain ⟨A2, c2, hv'⟩ := own_nilK hgr.own; subst hv'; have Hgr := Lib.hid hgr; clear hgr)
            go_roundw
            case rel => exact ⟨j + 1, c2, A2, by omega, by rw [show 32 + j + 1 = 32 + (j + 1) by omega], by { have h := Hgr.out.own; rw [List.append_assoc, ← List.replicate_succ'] at h; exact ⟨h, Hgr.out.low _ _ hr.out.2 (Nat.le_refl _)⟩ }⟩
            case measure => show 64 - (32 + j + 1) < 64 - (32 + j); omega
          · have hltI : ¬ ((32 : Nat) : Int) + (j : Int) < 64 := by omega
            have hown := hr.out.1
            have e64 : 32 + j = 64 := by omega
            have hbl : X ++ List.replicate j 0 = blockL K := by unfold blockL keyL; rw [if_neg (by rw [Hn.out]; omega), ← HX.out, pad64, HX32.out, show 64 - 32 = j by omega]
            rw [hbl] at hown
            have hlen : (blockL K).length = 32 + j := by rw [blockL_length, e64]
            have hq : ∃ A2 c2, Value.slice A' (32 + j) c' = .slice A2 (32 + j) c2 ∧ Byt wr A2 c2 (blockL K) := own_bytK hown hlen
            obtain ⟨A2, c2, hv, hbyt⟩ := hq
            injection hv with hA hn2 hc
            subst hA hc
            have Hbyt := Lib.hid hbyt
            have Low2 := Lib.hid hr.out.2
            have E64 := Lib.hid e64
            clear hown hr hbyt hbl e64 hlen
            go_wp2
            go_ret
            refine ⟨A', c', ?_, Hbyt.out, Low2.out⟩
            show Ending.returned (Value.slice A' (32 + j) c') = _
            rw [E64.out]
set_option maxRecDepth 100000 in
set_option maxHeartbeats 1000000 in
theorem rchanged_any (L : List Int) (y : Int) (A : Option Addr) (c n : Nat) (w : World) (hn : L.length = n) (hB : Byt w A c L) (hx : n ≤ 90000) :
    Calls Tryd.prog 41 #[.slice A n c, .int .u8 y] w fun e w' => ∃ v, e = .returned v ∧ w'.ownsRow w.heap.size 5 1 v n (valsK .u8 (xorL y L)) ∧ Below w.heap.size w w' := by
  obtain ⟨i8, hi8, hz80, hz81, hz82⟩ := partsK info8k
  have gi := Lib.hid hi8
  have gz0 := Lib.hid hz80
  have gz1 := Lib.hid hz81
  have gz2 := Lib.hid hz82
  have Hn := Lib.hid hn
  have HB := Lib.hid hB
  clear hi8 hz80 hz81 hz82 hn hB
  go_enter Tryd.func41, Tryd.ntmps41
  go_wp2
  go_loopw [5, 6] (fun v i wr => ∃ j : Nat, j ≤ n ∧ i = .int .i64 j ∧ Hid (wr.ownsRow w.heap.size 5 1 v j (valsK .u8 ((xorL y L).take j)) ∧ Below w.heap.size w wr)) (fun _ i _ => n - (intOf i).toNat)
  case atStart => exact ⟨0, by omega, rfl, World.ownsRow_nil _ _ _ _, Below.refl _ _⟩
  case round =>
    obtain ⟨j, hj, rfl, hr⟩ := hrel
    by_cases hlt : j < n
    · have hltI : (j : Int) < n := by omega
      obtain ⟨g, off, hA, hg, hcell⟩ := HB.out.2.2 (by rw [Hn.out]; omega)
      obtain ⟨x, hx⟩ : ∃ x, x = L.getD j 0 := ⟨_, rfl⟩
      have cell : wr.cell? ⟨g, off + j, none⟩ = some (.int .u8 x) := by rw [hx]; exact (hr.out.2.cell (p := ⟨g, off + j, none⟩) hg).trans (hcell j (by rw [Hn.out]; exact hlt))
      have hmore : (xorL y L).take j ++ [bits .xor .u8 x y] = (xorL y L).take (j + 1) := by
        have e : bits .xor .u8 x y = (xorL y L).getD j 0 := by rw [hx]; simp [xorL, List.getD_eq_getElem?_getD, show j < L.length by rw [Hn.out]; exact hlt]
        rw [e]; exact take_getD (by rw [xorL_length, Hn.out]; exact hlt)
      have Hmore := Lib.hid hmore
      subst hA
      clear hx hmore hcell
      go_wp2_with (at_builtin; refine wpList_append_mine rfl (.tmp 13) (.tmp 20) 26 rfl w.heap.size 5 i8 (.int .u8 0) 1 Tryd.underlying26 gi.out gz0.out gz1.out gz2.out rfl (by decide) _ j ((xorL y L).take j) _ rfl hr.out.1 rfl (by omega) hr.out.2.size ?_; intro v' w' hgr; have Hgr := Lib.hid hgr; clear hgr)
      go_roundw
      case rel => exact ⟨j + 1, by omega, by go_num, by rw [← Hmore.out]; exact ⟨Hgr.out.own, Hgr.out.low _ _ hr.out.2 (Nat.le_refl _)⟩⟩
      case measure => simp [intOf]; omega
    · have hge : ¬ (j : Int) < n := by omega
      have en : j = n := by omega
      have own := hr.out.1
      rw [en, List.take_of_length_le (Nat.le_of_eq (by rw [xorL_length, Hn.out]))] at own
      have Own := Lib.hid own
      have Low := Lib.hid hr.out.2
      clear own hr en hj hlt
      go_wp2
      go_ret
      exact ⟨_, rfl, Own.out, Low.out⟩
set_option maxRecDepth 100000 in
set_option maxHeartbeats 2000000 in
theorem rhmac_any (K T : List Int) (A A2 : Option Addr) (c n c2 m : Nat) (w : World) (hn : K.length = n) (hm : T.length = m) (hb : InB K) (hb2 : InB T) (hB : Byt w A c K) (hB2 : Byt w A2 c2 T) (hx : n ≤ 90000) (hx2 : m ≤ 40000) :
    Calls Tryd.prog 21 #[.slice A n c, .slice A2 m c2] w fun e w' => e = .returned (.agg (u8s (hmacL K T))) ∧ Below w.heap.size w w' := by
  obtain ⟨i8, hi8, hz80, hz81, hz82⟩ := partsK info8k
  have gi := Lib.hid hi8
  have gz0 := Lib.hid hz80
  have gz1 := Lib.hid hz81
  have gz2 := Lib.hid hz82
  have Hn := Lib.hid hn
  have Hm := Lib.hid hm
  have Hb := Lib.hid hb
  have Hb2 := Lib.hid hb2
  have HB := Lib.hid hB
  have HB2 := Lib.hid hB2
  obtain ⟨W1, hW1⟩ : ∃ W1, W1 = w.alloc (.cells zero32 35) := ⟨_, rfl⟩
  have low0 : Below w.heap.size w W1 := by rw [hW1]; exact (Below.refl _ _).alloc (Nat.le_refl _) _
  have new0 : W1.heap[w.heap.size]? = some (.cells zero32 35 (0, 0)) := by rw [hW1]; exact Go.heap_alloc_new w _
  have sz0 : W1.heap.size = w.heap.size + 1 := by rw [hW1, World.size_alloc]
  have HW1 : Hid (w.alloc (.cells #[.int .u8 0, .int .u8 0, .int .u8 0, .int .u8 0, .int .u8 0, .int .u8 0, .int .u8 0, .int .u8 0, .int .u8 0, .int .u8 0, .int .u8 0, .int .u8 0, .int .u8 0, .int .u8 0, .int .u8 0, .int .u8 0, .int .u8 0, .int .u8 0, .int .u8 0, .int .u8 0, .int .u8 0, .int .u8 0, .int .u8 0, .int .u8 0, .int .u8 0, .int .u8 0, .int .u8 0, .int .u8 0, .int .u8 0, .int .u8 0, .int .u8 0, .int .u8 0] 35) = W1) := hW1.symm
  obtain ⟨B, hBk⟩ : ∃ B, B = blockL K := ⟨_, rfl⟩
  have hB64 : B.length = 64 := by rw [hBk, blockL_length]
  have hBin : InB B := by rw [hBk]; exact hb.blockL
  obtain ⟨X, hX⟩ : ∃ X, X = sumL (xorL 54 B ++ T) := ⟨_, rfl⟩
  have hX32 : X.length = 32 := by rw [hX, sumL_length]
  have hXin : InB X := by rw [hX]; exact sumL_in _
  obtain ⟨Y, hY⟩ : ∃ Y, Y = sumL (xorL 92 B ++ X) := ⟨_, rfl⟩
  have hY32 : Y.length = 32 := by rw [hY, sumL_length]
  have hYe : hmacL K T = Y := by rw [hY, hX, hBk]; rfl
  rw [hYe]
  have hblk : ∀ W : World, Below w.heap.size w W → Calls Tryd.prog 42 #[.slice A n c] W fun e w' => ∃ A' c', e = .returned (.slice A' 64 c') ∧ Byt w' A' c' B ∧ Below W.heap.size W w' := fun W hbw => by
    rw [hBk]; exact rblock2_any K A c n W hn hb (hB.below hbw (Nat.le_refl _)) hx
  have hbyt2 : ∀ W : World, Below w.heap.size w W → Byt W A2 c2 T := fun W hbw => hB2.below hbw (Nat.le_refl _)
  have HB64 := Lib.hid hB64
  have HBin := Lib.hid hBin
  have HX := Lib.hid hX
  have HX32 := Lib.hid hX32
  have HXin := Lib.hid hXin
  have HY := Lib.hid hY
  have HY32 := Lib.hid hY32
  have Hblk := Lib.hid hblk
  have Hbyt2 := Lib.hid hbyt2
  have Low0 := Lib.hid low0
  have New0 := Lib.hid new0
  have Sz0 := Lib.hid sz0
  have HXi : Hid ((Tryd.prog.info? 35).map (·.size) = some (u8s X).size) := by show _ = _; rw [u8s_size, hX32]; exact info35
  have HYi : Hid ((Tryd.prog.info? 35).map (·.size) = some (u8s Y).size) := by show _ = _; rw [u8s_size, hY32]; exact info35
  have Hx54 : Hid ((xorL 54 B).length = 64) := by show _ = _; rw [xorL_length, hB64]
  have Hx92 : Hid ((xorL 92 B).length = 64) := by show _ = _; rw [xorL_length, hB64]
  clear hi8 hz80 hz81 hz82 hn hm hb hb2 hB hB2 hW1 low0 new0 sz0 hBk hB64 hBin hX hX32 hXin hY hY32 hYe hblk hbyt2
  go_enter Tryd.func21, Tryd.ntmps21
  go_upto_region 1 with fail
  rw [HW1.out]
  go_wp2_with (first
    | (go_at_call 42; refine (Hblk.out _ Low0.out).mono ?_; rintro e w2 ⟨A3, c3, rfl, byt3, low3⟩; have Byt3 := Lib.hid byt3; have Low3 := Lib.hid low3; clear byt3 low3)
    | (go_at_call 41; refine (rchanged_any B 54 A3 c3 64 w2 HB64.out Byt3.out (by decide)).mono ?_; rintro e w3 ⟨v4, rfl, own4, low4⟩; have Own4 := Lib.hid own4; have Low4 := Lib.hid (Low3.out.trans (low4.mono Low3.out.size)); have Sz4 := Lib.hid low4.size; clear own4 low4)
    | (at_builtin; refine lawAnybody.wpList_append_byt rfl (.tmp 10) (.tmp 11) rfl w2.heap.size v4 64 (xorL 54 B) rfl Own4.out A2 m c2 T rfl Hm.out (Hbyt2.out _ (Low0.out.trans (Low4.out.mono Low0.out.size))) (by omega) Sz4.out ?_; intro v5 w5 hown5 hlow5 _; have Low5 := Lib.hid (hlow5 _ _ Low4.out Low3.out.size); obtain ⟨g5, c5, hv5, byt5, hlen5, _⟩ := own_form hown5 (by omega); subst hv5; have Byt5 := Lib.hid byt5; have Hlen5 := Lib.hid hlen5; clear hown5 hlow5 byt5 hlen5)
    | (go_at_call 16; refine (rsum_any (xorL 54 B ++ T) (some ⟨g5, 0, none⟩) c5 (64 + m) w5 Hlen5.out ((HBin.out.xorL 54 (by decide) (by decide)).append Hb2.out) Byt5.out (by omega)).mono ?_; rintro e w6 ⟨rfl, low6⟩; rw [← HX.out]; have Low6 := Lib.hid (Low5.out.trans (low6.mono Low5.out.size)); clear low6)
    | (refine wpList_store_row rfl 35 (.tmp 5) (.tmp 13) rfl w6.heap.size (u8s X) rfl rfl 35 _ (Go.heap_alloc_new _ _) HXi.out (by rw [u8s_size, HX32.out]; rfl) (u8s_one _) ?_; rw [World.setRow_alloc_new]; generalize hw7 : World.alloc w6 _ = w7; have Hw7 := Lib.hid hw7; clear hw7))
  have hrow7 : w7.heap[w6.heap.size]? = some (.cells (u8s X) 35 (0, 0)) := by rw [← Hw7.out]; exact Go.heap_alloc_new _ _
  have hs7 : w7.heap.size = w6.heap.size + 1 := by rw [← Hw7.out, World.size_alloc]
  have low7 : Below W1.heap.size W1 w7 := by rw [← Hw7.out]; exact Low6.out.alloc Low6.out.size _
  have Hrow7 := Lib.hid hrow7
  have Hs7 := Lib.hid hs7
  have Low7 := Lib.hid low7
  clear hrow7 hs7 low7 Hw7 Byt3 Low3 Own4 Low4 Sz4 Low5 Byt5 Hlen5 Low6
  go_wp2
  go_loopw [6, 7] (fun v i wr => ∃ j : Nat, j ≤ 32 ∧ i = .int .i64 j ∧ Hid (wr.ownsRow w7.heap.size 5 1 v j (valsK .u8 (X.take j)) ∧ Below w7.heap.size w7 wr)) (fun _ i _ => 32 - (intOf i).toNat)
  case atStart => exact ⟨0, by omega, rfl, World.ownsRow_nil _ _ _ _, Below.refl _ _⟩
  case round =>
    obtain ⟨j, hj, rfl, hr⟩ := hrel
    by_cases hlt : j < 32
    · have hltI : (j : Int) < 32 := by omega
      obtain ⟨x, hx⟩ : ∃ x, x = X.getD j 0 := ⟨_, rfl⟩
      have cell : wr.cell? ⟨w6.heap.size, j, none⟩ = some (.int .u8 x) := by rw [hx]; exact row8_cell ((hr.out.2.block _ (by rw [Hs7.out]; omega)).trans Hrow7.out) j (by rw [HX32.out]; exact hlt)
      have hmore : X.take j ++ [x] = X.take (j + 1) := by rw [hx]; exact take_getD (by rw [HX32.out]; exact hlt)
      have Hmore := Lib.hid hmore
      clear hx hmore
      go_wp2_with (at_builtin; refine wpList_append_mine rfl (.tmp 18) (.tmp 22) 26 rfl w7.heap.size 5 i8 (.int .u8 0) 1 Tryd.underlying26 gi.out gz0.out gz1.out gz2.out rfl (by decide) _ j (X.take j) x rfl hr.out.1 rfl (by omega) hr.out.2.size ?_; intro v' w' hgr; have Hgr := Lib.hid hgr; clear hgr)
      go_roundw
      case rel => exact ⟨j + 1, by omega, by go_num, by rw [← Hmore.out]; exact ⟨Hgr.out.own, Hgr.out.low _ _ hr.out.2 (Nat.le_refl _)⟩⟩
      case measure => simp [intOf]; omega
    · have hge : ¬ (j : Int) < 32 := by omega
      have e32 : j = 32 := by omega
      have own := hr.out.1
      rw [e32, List.take_of_length_le (Nat.le_of_eq HX32.out)] at own
      obtain ⟨gX, cX, rfl, hcX, _, hrowX⟩ := own_rowK own HX32.out (by decide)
      have BytX := Lib.hid (hrowX.byt (c := cX) (by rw [HX32.out]; exact hcX))
      have LowX := Lib.hid (Low7.out.trans (hr.out.2.mono Low7.out.size))
      obtain ⟨w8, hw8⟩ : ∃ w8, w8 = wr := ⟨_, rfl⟩
      subst hw8
      clear own hr e32 hj hlt hrowX
      go_wp2_with (first
        | (go_at_call 42; refine (Hblk.out _ (Low0.out.trans (LowX.out.mono Low0.out.size))).mono ?_; rintro e w2 ⟨A3, c3, rfl, byt3, low3⟩; have Byt3 := Lib.hid byt3; have BytX3 := Lib.hid (BytX.out.below low3 (Nat.le_refl _)); have Low3 := Lib.hid (LowX.out.trans (low3.mono LowX.out.size)); clear byt3 low3)
        | (go_at_call 41; refine (rchanged_any B 92 A3 c3 64 w2 HB64.out Byt3.out (by decide)).mono ?_; rintro e w3 ⟨v4, rfl, own4, low4⟩; have Own4 := Lib.hid own4; have BytX4 := Lib.hid (BytX3.out.below low4 (Nat.le_refl _)); have Low4 := Lib.hid (Low3.out.trans (low4.mono Low3.out.size)); have Sz4 := Lib.hid low4.size; clear own4 low4)
        | (at_builtin; refine lawAnybody.wpList_append_byt rfl (.tmp 26) (.tmp 27) rfl w2.heap.size v4 64 (xorL 92 B) rfl Own4.out (some ⟨gX, 0, none⟩) 32 cX X rfl HX32.out BytX4.out (by decide) Sz4.out ?_; intro v5 w5 hown5 hlow5 _; have Low5 := Lib.hid (hlow5 _ _ Low4.out Low3.out.size); obtain ⟨g5, c5, hv5, byt5, hlen5, _⟩ := own_form hown5 (by omega); subst hv5; have Byt5 := Lib.hid byt5; have Hlen5 := Lib.hid hlen5; clear hown5 hlow5 byt5 hlen5)
        | (go_at_call 16; refine (rsum_any (xorL 92 B ++ X) (some ⟨g5, 0, none⟩) c5 (64 + 32) w5 Hlen5.out ((HBin.out.xorL 92 (by decide) (by decide)).append HXin.out) Byt5.out (by decide)).mono ?_; rintro e w6 ⟨rfl, low6⟩; rw [← HY.out]; have Low6 := Lib.hid (Low5.out.trans (low6.mono Low5.out.size)); have Hz := Lib.hid ((Low6.out.block _ (by rw [Sz0.out]; omega)).trans New0.out); clear low6)
        | (refine wpList_store_row rfl 35 (.tmp 4) (.tmp 29) rfl w.heap.size (u8s Y) rfl rfl 35 _ Hz.out HYi.out (by rw [u8s_size, HY32.out]; rfl) (u8s_one _) ?_))
      exact bodyPost_ret (v := .agg (u8s Y)) (results_cell_row rfl _ _ w.heap.size 35 _ (0, 0) _ rfl (setRow_heap w6 _ _ _ _ _ Hz.out) Tryd.underlying35 rfl HYi.out) rfl ⟨rfl, below_setRow (Low0.out.trans (Low6.out.mono Low0.out.size)) (Nat.le_refl _) _⟩
end Go.Proofs.YtblgblhoolpmiaaDoor
