/- DERIVED. The contract of the reference's Num. Written by mkrdnum.py. -/
import Derived.Test.YtigfcmnknijobaaRefRd
import Derived.Test.YtigfcmnknijobaaRefRdMath
import Derived.Deep.CutBlock
import Derived.Deep.DeepCutAuto
namespace Go.Proofs.Ytigfcmnknijobaa.Cod
open Go.RowKit Str
theorem wrap64 (n : Int) : IntKind.u64.wrap n = n % 18446744073709551616 := by simp [IntKind.wrap, IntKind.bits, IntKind.signed]
theorem readN_off {L : List Int} {e : Int} {most : Nat} (he : e ≠ 0) : readN L e most = (0, L, e) := by unfold readN; rw [if_neg he]
theorem readN_on (L : List Int) (most : Nat) : readN L 0 most = ((cutL L most).1, (if (cutL L most).2.2 = 0 then (cutL L most).2.1 else L), (cutL L most).2.2) := by unfold readN; rw [if_pos rfl]
theorem rnum_off {B g : Nat} {L : List Int} {er : Int} {w : World} (h : QR B g L er w) (he : er ≠ 0) (most : Nat) :
    Calls Try.prog 16 #[.pointer (some ⟨g, 0, none⟩), .int .u64 (most : Nat)] w fun e w' => e = .returned (.int .u64 0) ∧ w = w' := by
  obtain ⟨v, h1, h2, _⟩ := h
  have c1 : w.cell? ⟨g, 1, none⟩ = some (.int .i64 er) := cell_row h1 1
  clear h1 h2
  go_enter Try.func16, Try.ntmps16
  go_wp2
  go_ret
  exact ⟨rfl, rfl⟩
theorem readN_form {L : List Int} {most : Nat} (h : (numAt L).2 = 0) : readN L 0 most = (0, L, 4) := by
  rw [readN_on]
  unfold cutL
  rw [if_pos h]
  rfl
theorem readN_long {L : List Int} {most x S : Nat} (h : numAt L = (x, S)) (hS : S ≠ 0) (hm : most < x) : readN L 0 most = (0, L, 3) := by
  rw [readN_on]
  unfold cutL
  rw [h, if_neg hS, if_pos hm]
  rfl
theorem readN_ok {L : List Int} {most x S : Nat} (h : numAt L = (x, S)) (hS : S ≠ 0) (hm : ¬ most < x) : readN L 0 most = (x, L.drop S, 0) := by
  rw [readN_on]
  unfold cutL
  rw [h, if_neg hS, if_neg hm]
  rfl
set_option maxRecDepth 100000 in
set_option maxHeartbeats 4000000 in
theorem rnum_on {B g : Nat} {L : List Int} {w : World} (h : QR B g L 0 w) (hb : InB L) (hle : L.length ≤ 100000) (most : Nat) (hmo : most < 18446744073709551616) :
    Calls Try.prog 16 #[.pointer (some ⟨g, 0, none⟩), .int .u64 (most : Nat)] w fun e w' => e = .returned (.int .u64 ((readN L 0 most).1 : Nat)) ∧ QR B g (readN L 0 most).2.1 (readN L 0 most).2.2 w' ∧ Chg [g] w w' := by
  have HQ := Lib.hid h
  have Hb := Lib.hid hb
  obtain ⟨v, h1, ⟨A, cp, rfl, h2⟩, hlv⟩ := h
  have Hlv := Lib.hid hlv
  clear hlv
  have H2 := Lib.hid h2
  have hcap := h2.1
  obtain ⟨m, hm⟩ : ∃ m, m = L.length := ⟨_, rfl⟩
  have Hm := Lib.hid hm
  rw [← hm] at hcap hle
  have c0 : w.cell? ⟨g, 0, none⟩ = some (.slice A m cp) := by rw [hm]; exact cell_row h1 0
  have c1 : w.cell? ⟨g, 1, none⟩ = some (.int .i64 0) := cell_row h1 1
  have f0 := free_row h1 0
  have Hmo := Lib.hid hmo
  clear h1 h2 hm hb hmo
  go_enter Try.func16, Try.ntmps16
  go_upto_block 0 with (fail)
  have HS0 : Hid (∀ j, j < 0 → 128 ≤ L.getD j 0) := fun j hj => absurd hj (Nat.not_lt_zero _)
  go_cut [6] (fun s6 wx => s6 = .int .i64 ((sizeF 10 L : Nat) : Int) ∧ wx = w)
  case first =>
    go_wp2
    go_loopw [6, 7] (fun s6 i wr => ∃ k : Nat, k ≤ 10 ∧ k ≤ m ∧ s6 = .int .i64 0 ∧ i = .int .i64 (k : Nat) ∧ Hid (∀ j, j < k → 128 ≤ L.getD j 0) ∧ wr = w) (fun _ i _ => 10 - (intOf i).toNat)
    case atStart => exact ⟨0, by omega, by omega, rfl, rfl, HS0, rfl⟩
    case round =>
      obtain ⟨k, hk, hkm, rfl, rfl, hS, hww⟩ := hrel
      subst hww
      clear HS0
      by_cases hlm : k < m
      · have hlm' : (k : Int) < m := by omega
        by_cases hlt : k < 10
        · have hlt' : (k : Int) < 10 := by omega
          obtain ⟨b0, off, rfl, hbb, hc⟩ := H2.out.2.2 (by have := Hm.out; omega)
          have hck := hc k (by have := Hm.out; omega)
          obtain ⟨y, hy⟩ : ∃ y, y = L.getD k 0 := ⟨_, rfl⟩
          have hyb := Hb.out k
          rw [← hy] at hck hyb
          have Hy := Lib.hid hy
          clear hc hy hbb
          by_cases hy8 : y < 128
          · have Hsz : Hid (sizeF 10 L = k + 1) := size_found 10 k L hlt (by have := Hm.out; omega) hS.out (by rw [← Hy.out]; exact hy8)
            go_wp2
            go_meet
            exact ⟨by rw [Hsz.out]; go_num, rfl⟩
          · have hy8' : ¬ y < 128 := by omega
            go_wp2
            go_roundw
            case rel => exact ⟨k + 1, by omega, by omega, by trivial, by go_num, fun j hj => by
              by_cases e : j = k
              · subst e; rw [← Hy.out]; omega
              · exact hS.out j (by omega), by trivial⟩
            case measure => simp [intOf]; omega
        · have hlt' : ¬ (k : Int) < 10 := by omega
          have Hsz : Hid (sizeF 10 L = 0) := size_none 10 L (fun j hj _ => hS.out j (by omega))
          go_wp2
          go_meet
          exact ⟨by rw [Hsz.out]; rfl, rfl⟩
      · have hlm' : ¬ (k : Int) < m := by omega
        have Hsz : Hid (sizeF 10 L = 0) := size_none 10 L (fun j _ hl => hS.out j (by have := Hm.out; omega))
        go_wp2
        go_meet
        exact ⟨by rw [Hsz.out]; rfl, rfl⟩
  case rest =>
    obtain ⟨rfl, hww⟩ := hcut
    subst hww
    rename World => w
    obtain ⟨S, hS⟩ : ∃ S, S = sizeF 10 L := ⟨_, rfl⟩
    have hSl := sizeF_le 10 L
    rw [← hS] at hSl ⊢
    have hSm : S ≤ m := by have := Hm.out; omega
    have hS10 : S ≤ 10 := hSl.2
    have HSz := Lib.hid hS
    obtain ⟨M, hM⟩ : ∃ M, M = L.take S := ⟨_, rfl⟩
    have hMl : M.length = S := by rw [hM, List.length_take]; have := Hm.out; omega
    have HM := Lib.hid hM
    have HMl := Lib.hid hMl
    have HV0 : Hid (valL (M.drop S) % 18446744073709551616 = 0) := by show _ = _; rw [← hMl]; exact val_end M
    clear hS hSl hM hMl HS0
    go_wp2
    go_loopw [5, 8] (fun s5 i wr => ∃ j : Nat, j ≤ S ∧ i = .int .i64 ((j : Int) - 1) ∧ s5 = .int .u64 ((valL (M.drop j) % 18446744073709551616 : Nat) : Int) ∧ wr = w) (fun _ i _ => (intOf i + 1).toNat)
    case atStart => exact ⟨S, by omega, rfl, by rw [HV0.out]; rfl, rfl⟩
    case round =>
      obtain ⟨j, hj, rfl, rfl, hww⟩ := hrel
      subst hww
      cases j with
      | succ q =>
        rw [show ((q + 1 : Nat) : Int) - 1 = (q : Int) by omega]
        obtain ⟨x, hx⟩ : ∃ x, x = valL (M.drop (q + 1)) % 18446744073709551616 := ⟨_, rfl⟩
        rw [← hx]
        obtain ⟨b0, off, rfl, hbb, hc⟩ := H2.out.2.2 (by have := Hm.out; omega)
        have hck := hc q (by have := Hm.out; omega)
        obtain ⟨y, hy⟩ : ∃ y, y = L.getD q 0 := ⟨_, rfl⟩
        have hyb := Hb.out q
        rw [← hy] at hck hyb
        have hqm : (q : Int) < m := by omega
        have hMq : M.getD q 0 = y := by
          rw [HM.out, hy, List.getD_eq_getElem?_getD, List.getD_eq_getElem?_getD, List.getElem?_take, if_pos (by omega)]
        have hst := val_step (M := M) (i := q) (by have := HMl.out; omega) (by rw [hMq]; exact hyb.1)
        rw [hMq, ← hx] at hst
        have Hst := Lib.hid hst
        clear hc hy hbb hx hMq hst
        go_wp2
        refine ⟨⟨q, by omega, rfl, congrArg (Value.int IntKind.u64) ?_, trivial⟩, by simp [intOf]⟩
        rw [Hst.out, wrap64, wrap64]
        omega
      | zero =>
        rw [show ((0 : Nat) : Int) - 1 = -1 by rfl]
        obtain ⟨x, hx⟩ : ∃ x, x = valL (M.drop 0) % 18446744073709551616 := ⟨_, rfl⟩
        rw [← hx]
        rw [List.drop_zero, HM.out] at hx
        have hx64 : x < 18446744073709551616 := by rw [hx]; exact Nat.mod_lt _ (by decide)
        have HX := Lib.hid hx
        clear hx
        go_upto_region 14 with (fail)
        have C0 := Lib.hid c0
        have HT := Lib.hid (byt_take H2.out S)
        rw [← HM.out] at HT
        have Hx64 := Lib.hid hx64
        have hSc0 : S ≤ cp := by omega
        clear c0 c1 f0 hx64 hle
        by_cases hS0 : S = 0
        · have Hrd : Hid (readN L 0 most = (0, L, 4)) := readN_form (by unfold numAt; rw [if_pos (by rw [← HSz.out]; exact hS0)])
          have hSb : ((S : Int) == 0) = true := by rw [hS0]; rfl
          clear hS0
          have apx : apartB [55, 56, 57, 58, 59, 60, 61, 62, 63, 64, 65, 66, 67, 68, 69] = true := by decide
          refine wp_region_any (by kernel_rfl) ?_
          change wpAny _ _ _ _ _ _ _ (World.drew _)
          refine wpAny_inv (fun ll aa wx => Hid (ll.size = 15 ∧ Below wr.heap.size wr wx) ∧ ∃ (z : Nat → Value), Hid (aa = ⟨#[.pointer (some ⟨g, 0, none⟩), .int .u64 (most : Nat), undef, undef, .int .u64 0, .int .u64 (x : Nat), .int .i64 (S : Nat), u7, .int .i64 (-1), .pointer (some ⟨g, 0, none⟩), .pointer (some ⟨g, 0, none⟩), .pointer (some ⟨g, 1, none⟩), .int .i64 0, .bool false, u14, u15, u16, u17, u18, u19, u20, u21, u22, u23, u24, u25, u26, u27, u28, u29, u30, u31, u32, u33, u34, u35, u36, .int .i64 (S : Nat), .int .i64 ((S : Int) - 1), .int .i64 (-1), .bool false, u41, u42, u43, u44, u45, u46, u47, u48, u49, u50, u51, u52, u53, u54, z 55, z 56, z 57, z 58, z 59, z 60, z 61, z 62, z 63, z 64, z 65, z 66, z 67, z 68, z 69, undef, undef, undef, undef, undef, undef, undef, undef, undef, undef, undef, undef, undef, undef, undef, undef, undef], []⟩) ∧ Holding [55, 56, 57, 58, 59, 60, 61, 62, 63, 64, 65, 66, 67, 68, 69] [some (.int .i64 (S : Nat)), some (.bool true), some (.bool true), none, none, none, none, none, none, none, none, none, none, none, some (.bool true)] ll z) ?_ (by kernel_rfl) ?_ ?_ _ _ _ _ (unlisted_none _) ?_
          · rintro ll aa wx ⟨hI, _⟩
            exact hI.out.1
          · rintro ll aa wx ⟨hI, z, ha, hz⟩ hall
            have hx := Lib.hid hI.out.2
            have e0 : z 55 = .int .i64 (S : Nat) := hz 0 _ (hall 0 (by decide)) rfl
            have e1 : z 56 = .bool true := hz 1 _ (hall 1 (by decide)) rfl
            have e2 : z 57 = .bool true := hz 2 _ (hall 2 (by decide)) rfl
            have e14 : z 69 = .bool true := hz 14 _ (hall 14 (by decide)) rfl
            clear hall hz hI 
            obtain rfl := ha.out
            clear ha
            clear apx
            have E := Lib.hid e14
            have HQx := Lib.hid (HQ.out.later hx.out)
            clear e0 e1 e2 e14
            dsimp only
            rw [E.out]
            go_wp2_with (go_at_call 38; refine (fell_any HQx.out _).mono ?_; rintro e w2 ⟨rfl, hq, hc⟩; have HQ2 := Lib.hid hq; have HC2 := Lib.hid hc; clear hq hc)
            go_ret
            rw [Hrd.out]
            exact ⟨rfl, HQ2.out, (Chg.of_below hx.out).trans HC2.out⟩
          · rintro ll aa wx i ⟨hI, z, ha, hz⟩ hi hu hw
            obtain rfl := ha.out
            have hsz := Lib.hid hI.out.1
            have hx := Lib.hid hI.out.2
            clear ha hI
            have hin : i < 15 := hi
            obtain rfl | rfl | rfl | rfl | rfl | rfl | rfl | rfl | rfl | rfl | rfl | rfl | rfl | rfl | rfl : i = 0 ∨ i = 1 ∨ i = 2 ∨ i = 3 ∨ i = 4 ∨ i = 5 ∨ i = 6 ∨ i = 7 ∨ i = 8 ∨ i = 9 ∨ i = 10 ∨ i = 11 ∨ i = 12 ∨ i = 13 ∨ i = 14 := by omega
            · refine wpOp_plain rfl rfl ?_
              go_simp
              exact ⟨⟨by simp [hsz.out], hx.out⟩, upd z 55 (.int .i64 (S : Nat)), (by unfold Hid; simp [upd]), hz.next apx hsz.out 0 (by decide) _ (fun _ h => Option.some.inj h)⟩
            · have e0 : z 55 = .int .i64 (S : Nat) := hz 0 _ (hw 0 (by kernel_rfl)) rfl
              refine wpOp_plain rfl rfl ?_
              go_simp
              exact ⟨⟨by simp [hsz.out], hx.out⟩, upd z 56 (.bool true), (by unfold Hid; simp [upd, e0]), hz.next apx hsz.out 1 (by decide) _ (fun _ h => Option.some.inj h)⟩
            · have e1 : z 56 = .bool true := hz 1 _ (hw 1 (by kernel_rfl)) rfl
              refine wpOp_plain rfl rfl ?_
              go_simp
              exact ⟨⟨by simp [hsz.out], hx.out⟩, upd z 57 (.bool true), (by unfold Hid; simp [upd, e1]), hz.next apx hsz.out 2 (by decide) _ (fun _ h => Option.some.inj h)⟩
            · have e2 : z 57 = .bool true := hz 2 _ (hw 2 (by kernel_rfl)) rfl
              refine wpOp_skip rfl (by simp [Region.wanted, yielded, e2]) ?_
              go_simp
              exact ⟨⟨by simp [hsz.out], hx.out⟩, upd z 58 (undef), (by unfold Hid; simp [upd, e2]), hz.next apx hsz.out 3 (by decide) _ (fun _ h => by cases h)⟩
            · have e2 : z 57 = .bool true := hz 2 _ (hw 2 (by kernel_rfl)) rfl
              refine wpOp_skip rfl (by simp [Region.wanted, yielded, e2]) ?_
              go_simp
              exact ⟨⟨by simp [hsz.out], hx.out⟩, upd z 59 (undef), (by unfold Hid; simp [upd, e2]), hz.next apx hsz.out 4 (by decide) _ (fun _ h => by cases h)⟩
            · have e2 : z 57 = .bool true := hz 2 _ (hw 2 (by kernel_rfl)) rfl
              refine wpOp_skip rfl (by simp [Region.wanted, yielded, e2]) ?_
              go_simp
              exact ⟨⟨by simp [hsz.out], hx.out⟩, upd z 60 (undef), (by unfold Hid; simp [upd, e2]), hz.next apx hsz.out 5 (by decide) _ (fun _ h => by cases h)⟩
            · have e2 : z 57 = .bool true := hz 2 _ (hw 2 (by kernel_rfl)) rfl
              refine wpOp_skip rfl (by simp [Region.wanted, yielded, e2]) ?_
              go_simp
              exact ⟨⟨by simp [hsz.out], hx.out⟩, upd z 61 (undef), (by unfold Hid; simp [upd, e2]), hz.next apx hsz.out 6 (by decide) _ (fun _ h => by cases h)⟩
            · have e2 : z 57 = .bool true := hz 2 _ (hw 2 (by kernel_rfl)) rfl
              refine wpOp_skip rfl (by simp [Region.wanted, yielded, e2]) ?_
              go_simp
              exact ⟨⟨by simp [hsz.out], hx.out⟩, upd z 62 (undef), (by unfold Hid; simp [upd, e2]), hz.next apx hsz.out 7 (by decide) _ (fun _ h => by cases h)⟩
            · have e2 : z 57 = .bool true := hz 2 _ (hw 2 (by kernel_rfl)) rfl
              refine wpOp_skip rfl (by simp [Region.wanted, yielded, e2]) ?_
              go_simp
              exact ⟨⟨by simp [hsz.out], hx.out⟩, upd z 63 (undef), (by unfold Hid; simp [upd, e2]), hz.next apx hsz.out 8 (by decide) _ (fun _ h => by cases h)⟩
            · have e2 : z 57 = .bool true := hz 2 _ (hw 2 (by kernel_rfl)) rfl
              refine wpOp_skip rfl (by simp [Region.wanted, yielded, e2]) ?_
              go_simp
              exact ⟨⟨by simp [hsz.out], hx.out⟩, upd z 64 (undef), (by unfold Hid; simp [upd, e2]), hz.next apx hsz.out 9 (by decide) _ (fun _ h => by cases h)⟩
            · have e2 : z 57 = .bool true := hz 2 _ (hw 2 (by kernel_rfl)) rfl
              refine wpOp_skip rfl (by simp [Region.wanted, yielded, e2]) ?_
              go_simp
              exact ⟨⟨by simp [hsz.out], hx.out⟩, upd z 65 (undef), (by unfold Hid; simp [upd, e2]), hz.next apx hsz.out 10 (by decide) _ (fun _ h => by cases h)⟩
            · have e2 : z 57 = .bool true := hz 2 _ (hw 2 (by kernel_rfl)) rfl
              refine wpOp_skip rfl (by simp [Region.wanted, yielded, e2]) ?_
              go_simp
              exact ⟨⟨by simp [hsz.out], hx.out⟩, upd z 66 (undef), (by unfold Hid; simp [upd, e2]), hz.next apx hsz.out 11 (by decide) _ (fun _ h => by cases h)⟩
            · have e2 : z 57 = .bool true := hz 2 _ (hw 2 (by kernel_rfl)) rfl
              refine wpOp_skip rfl (by simp [Region.wanted, yielded, e2]) ?_
              go_simp
              exact ⟨⟨by simp [hsz.out], hx.out⟩, upd z 67 (undef), (by unfold Hid; simp [upd, e2]), hz.next apx hsz.out 12 (by decide) _ (fun _ h => by cases h)⟩
            · have e2 : z 57 = .bool true := hz 2 _ (hw 2 (by kernel_rfl)) rfl
              refine wpOp_skip rfl (by simp [Region.wanted, yielded, e2]) ?_
              go_simp
              exact ⟨⟨by simp [hsz.out], hx.out⟩, upd z 68 (undef), (by unfold Hid; simp [upd, e2]), hz.next apx hsz.out 13 (by decide) _ (fun _ h => by cases h)⟩
            · have e2 : z 57 = .bool true := hz 2 _ (hw 2 (by kernel_rfl)) rfl
              refine wpOp_plain rfl rfl ?_
              go_simp
              exact ⟨⟨by simp [hsz.out], hx.out⟩, upd z 69 (.bool true), (by unfold Hid; simp [upd, e2]), hz.next apx hsz.out 14 (by decide) _ (fun _ h => Option.some.inj h)⟩
          · exact ⟨⟨rfl, (Below.refl _ _).drew⟩, fun xx => (#[.pointer (some ⟨g, 0, none⟩), .int .u64 (most : Nat), undef, undef, .int .u64 0, .int .u64 (x : Nat), .int .i64 (S : Nat), u7, .int .i64 (-1), .pointer (some ⟨g, 0, none⟩), .pointer (some ⟨g, 0, none⟩), .pointer (some ⟨g, 1, none⟩), .int .i64 0, .bool false, u14, u15, u16, u17, u18, u19, u20, u21, u22, u23, u24, u25, u26, u27, u28, u29, u30, u31, u32, u33, u34, u35, u36, .int .i64 (S : Nat), .int .i64 ((S : Int) - 1), .int .i64 (-1), .bool false, u41, u42, u43, u44, u45, u46, u47, u48, u49, u50, u51, u52, u53, u54, undef, undef, undef, undef, undef, undef, undef, undef, undef, undef, undef, undef, undef, undef, undef, undef, undef, undef, undef, undef, undef, undef, undef, undef, undef, undef, undef, undef, undef, undef, undef, undef] : Array Value).getD xx undef, (by rfl), Holding.start⟩
        · have hSb : ((S : Int) == 0) = false := beq_false_of_ne (by omega)
          have HS0 := Lib.hid hS0
          clear hS0
          by_cases hsame : encN x = M
          · have Hsame := Lib.hid hsame
            have HN : Hid (numAt L = (x, S)) := by
              show _ = _
              unfold numAt
              rw [← HSz.out, if_neg HS0.out, ← HX.out, if_pos (by rw [hsame]; exact HM.out)]
            clear hsame
            have apx : apartB [55, 56, 57, 58, 59, 60, 61, 62, 63, 64, 65, 66, 67, 68, 69] = true := by decide
            refine wp_region_any (by kernel_rfl) ?_
            change wpAny _ _ _ _ _ _ _ (World.drew _)
            refine wpAny_inv (fun ll aa wx => Hid (ll.size = 15 ∧ Below wr.heap.size wr wx) ∧ ∃ (z : Nat → Value), Hid (aa = ⟨#[.pointer (some ⟨g, 0, none⟩), .int .u64 (most : Nat), undef, undef, .int .u64 0, .int .u64 (x : Nat), .int .i64 (S : Nat), u7, .int .i64 (-1), .pointer (some ⟨g, 0, none⟩), .pointer (some ⟨g, 0, none⟩), .pointer (some ⟨g, 1, none⟩), .int .i64 0, .bool false, u14, u15, u16, u17, u18, u19, u20, u21, u22, u23, u24, u25, u26, u27, u28, u29, u30, u31, u32, u33, u34, u35, u36, .int .i64 (S : Nat), .int .i64 ((S : Int) - 1), .int .i64 (-1), .bool false, u41, u42, u43, u44, u45, u46, u47, u48, u49, u50, u51, u52, u53, u54, z 55, z 56, z 57, z 58, z 59, z 60, z 61, z 62, z 63, z 64, z 65, z 66, z 67, z 68, z 69, undef, undef, undef, undef, undef, undef, undef, undef, undef, undef, undef, undef, undef, undef, undef, undef, undef], []⟩) ∧ Holding [55, 56, 57, 58, 59, 60, 61, 62, 63, 64, 65, 66, 67, 68, 69] [some (.int .i64 (S : Nat)), some (.bool false), some (.bool false), some (.int .u64 (x : Nat)), none, some (.string (strOfNums M)), some (.pointer (some ⟨g, 0, none⟩)), some (.pointer (some ⟨g, 0, none⟩)), some (.pointer (some ⟨g, 0, none⟩)), some (.slice A m cp), some (.int .i64 (S : Nat)), some (.slice A S cp), some (.string (strOfNums M)), some (.bool false), some (.bool false)] ll z ∧ Whn ll 4 (SlB M) (z 59) wx) ?_ (by kernel_rfl) ?_ ?_ _ _ _ _ (unlisted_none _) ?_
            · rintro ll aa wx ⟨hI, _⟩
              exact hI.out.1
            · rintro ll aa wx ⟨hI, z, ha, hz, hp4⟩ hall
              have hx := Lib.hid hI.out.2
              have e0 : z 55 = .int .i64 (S : Nat) := hz 0 _ (hall 0 (by decide)) rfl
              have e1 : z 56 = .bool false := hz 1 _ (hall 1 (by decide)) rfl
              have e2 : z 57 = .bool false := hz 2 _ (hall 2 (by decide)) rfl
              have e3 : z 58 = .int .u64 (x : Nat) := hz 3 _ (hall 3 (by decide)) rfl
              have e5 : z 60 = .string (strOfNums M) := hz 5 _ (hall 5 (by decide)) rfl
              have e6 : z 61 = .pointer (some ⟨g, 0, none⟩) := hz 6 _ (hall 6 (by decide)) rfl
              have e7 : z 62 = .pointer (some ⟨g, 0, none⟩) := hz 7 _ (hall 7 (by decide)) rfl
              have e8 : z 63 = .pointer (some ⟨g, 0, none⟩) := hz 8 _ (hall 8 (by decide)) rfl
              have e9 : z 64 = .slice A m cp := hz 9 _ (hall 9 (by decide)) rfl
              have e10 : z 65 = .int .i64 (S : Nat) := hz 10 _ (hall 10 (by decide)) rfl
              have e11 : z 66 = .slice A S cp := hz 11 _ (hall 11 (by decide)) rfl
              have e12 : z 67 = .string (strOfNums M) := hz 12 _ (hall 12 (by decide)) rfl
              have e13 : z 68 = .bool false := hz 13 _ (hall 13 (by decide)) rfl
              have e14 : z 69 = .bool false := hz 14 _ (hall 14 (by decide)) rfl
              have p4 := hp4.get (hall 4 (by decide))
              clear hall hz hI hp4
              obtain rfl := ha.out
              clear ha
              clear apx
              have E := Lib.hid e14
              clear e0 e1 e2 e3 e5 e6 e7 e8 e9 e10 e11 e12 e13 e14 p4
              have C0x : World.cell? wx ⟨g, 0, none⟩ = some (.slice A m cp) := (hx.out.cell (p := ⟨g, 0, none⟩) (World.block_lt_of_cell? _ _ C0.out)).trans C0.out
              have hqx := HQ.out.later hx.out
              have HQx := Lib.hid hqx
              have F0x : World.frozen? wx ⟨g, 0, none⟩ = false := by obtain ⟨v, h1, _, _⟩ := hqx; exact free_row h1 0
              clear hqx
              dsimp only
              rw [E.out]
              by_cases hlong : most < x
              · have hlong' : (most : Int) < x := by omega
                have Hrd := Lib.hid (readN_long HN.out HS0.out hlong)
                go_wp2_with (go_at_call 38; refine (fell_any HQx.out _).mono ?_; rintro e w2 ⟨rfl, hq, hc⟩; have HQ2 := Lib.hid hq; have HC2 := Lib.hid hc; clear hq hc)
                go_ret
                rw [Hrd.out]
                exact ⟨rfl, HQ2.out, (Chg.of_below hx.out).trans HC2.out⟩
              · have hlong' : ¬ (most : Int) < x := by omega
                have Hrd := Lib.hid (readN_ok HN.out HS0.out hlong)
                have hSc : (S : Int) ≤ cp := by omega
                have hSm' : (S : Int) ≤ m := by omega
                have hd : SlB (L.drop S) (.slice (if cp = S then A else A.map (·.add S)) (m - S) (cp - S)) wx := slb_cut (H2.out.below hx.out (Nat.le_refl _)) Hm.out.symm hSm
                by_cases hcn : cp = S
                · rw [if_pos hcn, show m - S = 0 by omega, show cp - S = 0 by omega] at hd
                  have Hd := Lib.hid hd
                  clear hd
                  subst hcn
                  go_wp2
                  go_ret
                  rw [Hrd.out]
                  exact ⟨rfl, HQx.out.setL Hd.out Hlv.out.of, (Chg.of_below hx.out).trans (chg_one _ _ _ _)⟩
                · have hcn' : ¬ (cp : Int) = (S : Int) := by omega
                  rw [if_neg hcn] at hd
                  have Hd := Lib.hid hd
                  clear hd
                  go_wp2
                  go_ret
                  rw [Hrd.out]
                  exact ⟨rfl, HQx.out.setL Hd.out Hlv.out.cut, (Chg.of_below hx.out).trans (chg_one _ _ _ _)⟩
            · rintro ll aa wx i ⟨hI, z, ha, hz, hp4⟩ hi hu hw
              obtain rfl := ha.out
              have hsz := Lib.hid hI.out.1
              have hx := Lib.hid hI.out.2
              clear ha hI
              have hin : i < 15 := hi
              obtain rfl | rfl | rfl | rfl | rfl | rfl | rfl | rfl | rfl | rfl | rfl | rfl | rfl | rfl | rfl : i = 0 ∨ i = 1 ∨ i = 2 ∨ i = 3 ∨ i = 4 ∨ i = 5 ∨ i = 6 ∨ i = 7 ∨ i = 8 ∨ i = 9 ∨ i = 10 ∨ i = 11 ∨ i = 12 ∨ i = 13 ∨ i = 14 := by omega
              · refine wpOp_plain rfl rfl ?_
                go_simp
                exact ⟨⟨by simp [hsz.out], hx.out⟩, upd z 55 (.int .i64 (S : Nat)), (by unfold Hid; simp [upd]), hz.next apx hsz.out 0 (by decide) _ (fun _ h => Option.some.inj h), hp4.keep (by decide)⟩
              · have e0 : z 55 = .int .i64 (S : Nat) := hz 0 _ (hw 0 (by kernel_rfl)) rfl
                refine wpOp_plain rfl rfl ?_
                go_simp
                exact ⟨⟨by simp [hsz.out], hx.out⟩, upd z 56 (.bool false), (by unfold Hid; simp [upd, e0]), hz.next apx hsz.out 1 (by decide) _ (fun _ h => Option.some.inj h), hp4.keep (by decide)⟩
              · have e1 : z 56 = .bool false := hz 1 _ (hw 1 (by kernel_rfl)) rfl
                refine wpOp_plain rfl rfl ?_
                go_simp
                exact ⟨⟨by simp [hsz.out], hx.out⟩, upd z 57 (.bool false), (by unfold Hid; simp [upd, e1]), hz.next apx hsz.out 2 (by decide) _ (fun _ h => Option.some.inj h), hp4.keep (by decide)⟩
              · have e2 : z 57 = .bool false := hz 2 _ (hw 2 (by kernel_rfl)) rfl
                refine wpOp_want rfl (by simp [Region.wanted, yielded, e2]) ?_
                go_simp
                exact ⟨⟨by simp [hsz.out], hx.out⟩, upd z 58 (.int .u64 (x : Nat)), (by unfold Hid; simp [upd, e2]), hz.next apx hsz.out 3 (by decide) _ (fun _ h => Option.some.inj h), hp4.keep (by decide)⟩
              · have e2 : z 57 = .bool false := hz 2 _ (hw 2 (by kernel_rfl)) rfl
                have e3 : z 58 = .int .u64 (x : Nat) := hz 3 _ (hw 3 (by kernel_rfl)) rfl
                refine wpOp_want rfl (by simp [Region.wanted, yielded, e2]) ?_
                go_simp
                go_at_call 26
                refine (rnum x Hx64.out wx).mono ?_
                rintro e w' ⟨vr, rfl, own, low⟩
                exact ⟨⟨by simp [hsz.out], hx.out.trans (low.mono hx.out.size)⟩, upd z 59 (vr), (by unfold Hid; simp [upd, e2, e3]), hz.next apx hsz.out 4 (by decide) _ (fun _ h => by cases h), Whn.done ((by have h := own.sl; rwa [Hsame.out] at h))⟩
              · have e2 : z 57 = .bool false := hz 2 _ (hw 2 (by kernel_rfl)) rfl
                have p4 := hp4.get (hw 4 (by kernel_rfl))
                obtain ⟨A3, c3, e13, b3⟩ := p4
                refine wpOp_want rfl (by simp [Region.wanted, yielded, e2]) ?_
                have cv := conv_any b3 rfl
                go_simp
                exact ⟨⟨by simp [hsz.out], hx.out⟩, upd z 60 (.string (strOfNums M)), (by unfold Hid; simp [upd, e2, e13]), hz.next apx hsz.out 5 (by decide) _ (fun _ h => Option.some.inj h), hp4.keep (by decide)⟩
              · have e2 : z 57 = .bool false := hz 2 _ (hw 2 (by kernel_rfl)) rfl
                refine wpOp_want rfl (by simp [Region.wanted, yielded, e2]) ?_
                go_simp
                exact ⟨⟨by simp [hsz.out], hx.out⟩, upd z 61 (.pointer (some ⟨g, 0, none⟩)), (by unfold Hid; simp [upd, e2]), hz.next apx hsz.out 6 (by decide) _ (fun _ h => Option.some.inj h), hp4.keep (by decide)⟩
              · have e2 : z 57 = .bool false := hz 2 _ (hw 2 (by kernel_rfl)) rfl
                have e6 : z 61 = .pointer (some ⟨g, 0, none⟩) := hz 6 _ (hw 6 (by kernel_rfl)) rfl
                refine wpOp_want rfl (by simp [Region.wanted, yielded, e2]) ?_
                go_simp
                exact ⟨⟨by simp [hsz.out], hx.out⟩, upd z 62 (.pointer (some ⟨g, 0, none⟩)), (by unfold Hid; simp [upd, e2, e6]), hz.next apx hsz.out 7 (by decide) _ (fun _ h => Option.some.inj h), hp4.keep (by decide)⟩
              · have e2 : z 57 = .bool false := hz 2 _ (hw 2 (by kernel_rfl)) rfl
                have e7 : z 62 = .pointer (some ⟨g, 0, none⟩) := hz 7 _ (hw 7 (by kernel_rfl)) rfl
                refine wpOp_want rfl (by simp [Region.wanted, yielded, e2]) ?_
                go_simp
                exact ⟨⟨by simp [hsz.out], hx.out⟩, upd z 63 (.pointer (some ⟨g, 0, none⟩)), (by unfold Hid; simp [upd, e2, e7]), hz.next apx hsz.out 8 (by decide) _ (fun _ h => Option.some.inj h), hp4.keep (by decide)⟩
              · have e2 : z 57 = .bool false := hz 2 _ (hw 2 (by kernel_rfl)) rfl
                have e8 : z 63 = .pointer (some ⟨g, 0, none⟩) := hz 8 _ (hw 8 (by kernel_rfl)) rfl
                have cl : wx.cell? ⟨g, 0, none⟩ = some (.slice A m cp) := (hx.out.cell (p := ⟨g, 0, none⟩) (World.block_lt_of_cell? _ _ C0.out)).trans C0.out
                refine wpOp_want rfl (by simp [Region.wanted, yielded, e2]) ?_
                go_simp
                exact ⟨⟨by simp [hsz.out], hx.out⟩, upd z 64 (.slice A m cp), (by unfold Hid; simp [upd, e2, e8]), hz.next apx hsz.out 9 (by decide) _ (fun _ h => Option.some.inj h), hp4.keep (by decide)⟩
              · have e2 : z 57 = .bool false := hz 2 _ (hw 2 (by kernel_rfl)) rfl
                refine wpOp_want rfl (by simp [Region.wanted, yielded, e2]) ?_
                go_simp
                exact ⟨⟨by simp [hsz.out], hx.out⟩, upd z 65 (.int .i64 (S : Nat)), (by unfold Hid; simp [upd, e2]), hz.next apx hsz.out 10 (by decide) _ (fun _ h => Option.some.inj h), hp4.keep (by decide)⟩
              · have e2 : z 57 = .bool false := hz 2 _ (hw 2 (by kernel_rfl)) rfl
                have e9 : z 64 = .slice A m cp := hz 9 _ (hw 9 (by kernel_rfl)) rfl
                have e10 : z 65 = .int .i64 (S : Nat) := hz 10 _ (hw 10 (by kernel_rfl)) rfl
                refine wpOp_want rfl (by simp [Region.wanted, yielded, e2]) ?_
                go_simp
                exact ⟨⟨by simp [hsz.out], hx.out⟩, upd z 66 (.slice A S cp), (by unfold Hid; simp [upd, e2, e9, e10]), hz.next apx hsz.out 11 (by decide) _ (fun _ h => Option.some.inj h), hp4.keep (by decide)⟩
              · have e2 : z 57 = .bool false := hz 2 _ (hw 2 (by kernel_rfl)) rfl
                have e11 : z 66 = .slice A S cp := hz 11 _ (hw 11 (by kernel_rfl)) rfl
                have cv := conv_any (HT.out.below hx.out (Nat.le_refl _)) HMl.out
                refine wpOp_want rfl (by simp [Region.wanted, yielded, e2]) ?_
                go_simp
                exact ⟨⟨by simp [hsz.out], hx.out⟩, upd z 67 (.string (strOfNums M)), (by unfold Hid; simp [upd, e2, e11]), hz.next apx hsz.out 12 (by decide) _ (fun _ h => Option.some.inj h), hp4.keep (by decide)⟩
              · have e2 : z 57 = .bool false := hz 2 _ (hw 2 (by kernel_rfl)) rfl
                have e5 : z 60 = .string (strOfNums M) := hz 5 _ (hw 5 (by kernel_rfl)) rfl
                have e12 : z 67 = .string (strOfNums M) := hz 12 _ (hw 12 (by kernel_rfl)) rfl
                refine wpOp_want rfl (by simp [Region.wanted, yielded, e2]) ?_
                go_simp
                exact ⟨⟨by simp [hsz.out], hx.out⟩, upd z 68 (.bool false), (by unfold Hid; simp [upd, e2, e5, e12]), hz.next apx hsz.out 13 (by decide) _ (fun _ h => Option.some.inj h), hp4.keep (by decide)⟩
              · have e2 : z 57 = .bool false := hz 2 _ (hw 2 (by kernel_rfl)) rfl
                have e13 : z 68 = .bool false := hz 13 _ (hw 13 (by kernel_rfl)) rfl
                refine wpOp_plain rfl rfl ?_
                go_simp
                exact ⟨⟨by simp [hsz.out], hx.out⟩, upd z 69 (.bool false), (by unfold Hid; simp [upd, e2, e13]), hz.next apx hsz.out 14 (by decide) _ (fun _ h => Option.some.inj h), hp4.keep (by decide)⟩
            · exact ⟨⟨rfl, (Below.refl _ _).drew⟩, fun xx => (#[.pointer (some ⟨g, 0, none⟩), .int .u64 (most : Nat), undef, undef, .int .u64 0, .int .u64 (x : Nat), .int .i64 (S : Nat), u7, .int .i64 (-1), .pointer (some ⟨g, 0, none⟩), .pointer (some ⟨g, 0, none⟩), .pointer (some ⟨g, 1, none⟩), .int .i64 0, .bool false, u14, u15, u16, u17, u18, u19, u20, u21, u22, u23, u24, u25, u26, u27, u28, u29, u30, u31, u32, u33, u34, u35, u36, .int .i64 (S : Nat), .int .i64 ((S : Int) - 1), .int .i64 (-1), .bool false, u41, u42, u43, u44, u45, u46, u47, u48, u49, u50, u51, u52, u53, u54, undef, undef, undef, undef, undef, undef, undef, undef, undef, undef, undef, undef, undef, undef, undef, undef, undef, undef, undef, undef, undef, undef, undef, undef, undef, undef, undef, undef, undef, undef, undef, undef] : Array Value).getD xx undef, (by rfl), Holding.start, Whn.none (by decide)⟩
          · have Hrd : Hid (readN L 0 most = (0, L, 4)) := readN_form (by
              unfold numAt
              rw [← HSz.out, if_neg HS0.out, ← HX.out, if_neg (by rw [← HM.out]; exact hsame)])
            have hne : ¬ (strOfNums (encN x)).toList = (strOfNums M).toList := str_ne (encN_in Hx64.out) (by rw [HM.out]; exact Hb.out.take S) hsame
            clear hsame
            have apx : apartB [55, 56, 57, 58, 59, 60, 61, 62, 63, 64, 65, 66, 67, 68, 69] = true := by decide
            refine wp_region_any (by kernel_rfl) ?_
            change wpAny _ _ _ _ _ _ _ (World.drew _)
            refine wpAny_inv (fun ll aa wx => Hid (ll.size = 15 ∧ Below wr.heap.size wr wx) ∧ ∃ (z : Nat → Value), Hid (aa = ⟨#[.pointer (some ⟨g, 0, none⟩), .int .u64 (most : Nat), undef, undef, .int .u64 0, .int .u64 (x : Nat), .int .i64 (S : Nat), u7, .int .i64 (-1), .pointer (some ⟨g, 0, none⟩), .pointer (some ⟨g, 0, none⟩), .pointer (some ⟨g, 1, none⟩), .int .i64 0, .bool false, u14, u15, u16, u17, u18, u19, u20, u21, u22, u23, u24, u25, u26, u27, u28, u29, u30, u31, u32, u33, u34, u35, u36, .int .i64 (S : Nat), .int .i64 ((S : Int) - 1), .int .i64 (-1), .bool false, u41, u42, u43, u44, u45, u46, u47, u48, u49, u50, u51, u52, u53, u54, z 55, z 56, z 57, z 58, z 59, z 60, z 61, z 62, z 63, z 64, z 65, z 66, z 67, z 68, z 69, undef, undef, undef, undef, undef, undef, undef, undef, undef, undef, undef, undef, undef, undef, undef, undef, undef], []⟩) ∧ Holding [55, 56, 57, 58, 59, 60, 61, 62, 63, 64, 65, 66, 67, 68, 69] [some (.int .i64 (S : Nat)), some (.bool false), some (.bool false), some (.int .u64 (x : Nat)), none, some (.string (strOfNums (encN x))), some (.pointer (some ⟨g, 0, none⟩)), some (.pointer (some ⟨g, 0, none⟩)), some (.pointer (some ⟨g, 0, none⟩)), some (.slice A m cp), some (.int .i64 (S : Nat)), some (.slice A S cp), some (.string (strOfNums M)), some (.bool true), some (.bool true)] ll z ∧ Whn ll 4 (SlB (encN x)) (z 59) wx) ?_ (by kernel_rfl) ?_ ?_ _ _ _ _ (unlisted_none _) ?_
            · rintro ll aa wx ⟨hI, _⟩
              exact hI.out.1
            · rintro ll aa wx ⟨hI, z, ha, hz, hp4⟩ hall
              have hx := Lib.hid hI.out.2
              have e0 : z 55 = .int .i64 (S : Nat) := hz 0 _ (hall 0 (by decide)) rfl
              have e1 : z 56 = .bool false := hz 1 _ (hall 1 (by decide)) rfl
              have e2 : z 57 = .bool false := hz 2 _ (hall 2 (by decide)) rfl
              have e3 : z 58 = .int .u64 (x : Nat) := hz 3 _ (hall 3 (by decide)) rfl
              have e5 : z 60 = .string (strOfNums (encN x)) := hz 5 _ (hall 5 (by decide)) rfl
              have e6 : z 61 = .pointer (some ⟨g, 0, none⟩) := hz 6 _ (hall 6 (by decide)) rfl
              have e7 : z 62 = .pointer (some ⟨g, 0, none⟩) := hz 7 _ (hall 7 (by decide)) rfl
              have e8 : z 63 = .pointer (some ⟨g, 0, none⟩) := hz 8 _ (hall 8 (by decide)) rfl
              have e9 : z 64 = .slice A m cp := hz 9 _ (hall 9 (by decide)) rfl
              have e10 : z 65 = .int .i64 (S : Nat) := hz 10 _ (hall 10 (by decide)) rfl
              have e11 : z 66 = .slice A S cp := hz 11 _ (hall 11 (by decide)) rfl
              have e12 : z 67 = .string (strOfNums M) := hz 12 _ (hall 12 (by decide)) rfl
              have e13 : z 68 = .bool true := hz 13 _ (hall 13 (by decide)) rfl
              have e14 : z 69 = .bool true := hz 14 _ (hall 14 (by decide)) rfl
              have p4 := hp4.get (hall 4 (by decide))
              clear hall hz hI hp4
              obtain rfl := ha.out
              clear ha
              clear apx
              have E := Lib.hid e14
              have HQx := Lib.hid (HQ.out.later hx.out)
              clear e0 e1 e2 e3 e5 e6 e7 e8 e9 e10 e11 e12 e13 e14 p4
              dsimp only
              rw [E.out]
              go_wp2_with (go_at_call 38; refine (fell_any HQx.out _).mono ?_; rintro e w2 ⟨rfl, hq, hc⟩; have HQ2 := Lib.hid hq; have HC2 := Lib.hid hc; clear hq hc)
              go_ret
              rw [Hrd.out]
              exact ⟨rfl, HQ2.out, (Chg.of_below hx.out).trans HC2.out⟩
            · rintro ll aa wx i ⟨hI, z, ha, hz, hp4⟩ hi hu hw
              obtain rfl := ha.out
              have hsz := Lib.hid hI.out.1
              have hx := Lib.hid hI.out.2
              clear ha hI
              have hin : i < 15 := hi
              obtain rfl | rfl | rfl | rfl | rfl | rfl | rfl | rfl | rfl | rfl | rfl | rfl | rfl | rfl | rfl : i = 0 ∨ i = 1 ∨ i = 2 ∨ i = 3 ∨ i = 4 ∨ i = 5 ∨ i = 6 ∨ i = 7 ∨ i = 8 ∨ i = 9 ∨ i = 10 ∨ i = 11 ∨ i = 12 ∨ i = 13 ∨ i = 14 := by omega
              · refine wpOp_plain rfl rfl ?_
                go_simp
                exact ⟨⟨by simp [hsz.out], hx.out⟩, upd z 55 (.int .i64 (S : Nat)), (by unfold Hid; simp [upd]), hz.next apx hsz.out 0 (by decide) _ (fun _ h => Option.some.inj h), hp4.keep (by decide)⟩
              · have e0 : z 55 = .int .i64 (S : Nat) := hz 0 _ (hw 0 (by kernel_rfl)) rfl
                refine wpOp_plain rfl rfl ?_
                go_simp
                exact ⟨⟨by simp [hsz.out], hx.out⟩, upd z 56 (.bool false), (by unfold Hid; simp [upd, e0]), hz.next apx hsz.out 1 (by decide) _ (fun _ h => Option.some.inj h), hp4.keep (by decide)⟩
              · have e1 : z 56 = .bool false := hz 1 _ (hw 1 (by kernel_rfl)) rfl
                refine wpOp_plain rfl rfl ?_
                go_simp
                exact ⟨⟨by simp [hsz.out], hx.out⟩, upd z 57 (.bool false), (by unfold Hid; simp [upd, e1]), hz.next apx hsz.out 2 (by decide) _ (fun _ h => Option.some.inj h), hp4.keep (by decide)⟩
              · have e2 : z 57 = .bool false := hz 2 _ (hw 2 (by kernel_rfl)) rfl
                refine wpOp_want rfl (by simp [Region.wanted, yielded, e2]) ?_
                go_simp
                exact ⟨⟨by simp [hsz.out], hx.out⟩, upd z 58 (.int .u64 (x : Nat)), (by unfold Hid; simp [upd, e2]), hz.next apx hsz.out 3 (by decide) _ (fun _ h => Option.some.inj h), hp4.keep (by decide)⟩
              · have e2 : z 57 = .bool false := hz 2 _ (hw 2 (by kernel_rfl)) rfl
                have e3 : z 58 = .int .u64 (x : Nat) := hz 3 _ (hw 3 (by kernel_rfl)) rfl
                refine wpOp_want rfl (by simp [Region.wanted, yielded, e2]) ?_
                go_simp
                go_at_call 26
                refine (rnum x Hx64.out wx).mono ?_
                rintro e w' ⟨vr, rfl, own, low⟩
                exact ⟨⟨by simp [hsz.out], hx.out.trans (low.mono hx.out.size)⟩, upd z 59 (vr), (by unfold Hid; simp [upd, e2, e3]), hz.next apx hsz.out 4 (by decide) _ (fun _ h => by cases h), Whn.done (own.sl)⟩
              · have e2 : z 57 = .bool false := hz 2 _ (hw 2 (by kernel_rfl)) rfl
                have p4 := hp4.get (hw 4 (by kernel_rfl))
                obtain ⟨A3, c3, e13, b3⟩ := p4
                refine wpOp_want rfl (by simp [Region.wanted, yielded, e2]) ?_
                have cv := conv_any b3 rfl
                go_simp
                exact ⟨⟨by simp [hsz.out], hx.out⟩, upd z 60 (.string (strOfNums (encN x))), (by unfold Hid; simp [upd, e2, e13]), hz.next apx hsz.out 5 (by decide) _ (fun _ h => Option.some.inj h), hp4.keep (by decide)⟩
              · have e2 : z 57 = .bool false := hz 2 _ (hw 2 (by kernel_rfl)) rfl
                refine wpOp_want rfl (by simp [Region.wanted, yielded, e2]) ?_
                go_simp
                exact ⟨⟨by simp [hsz.out], hx.out⟩, upd z 61 (.pointer (some ⟨g, 0, none⟩)), (by unfold Hid; simp [upd, e2]), hz.next apx hsz.out 6 (by decide) _ (fun _ h => Option.some.inj h), hp4.keep (by decide)⟩
              · have e2 : z 57 = .bool false := hz 2 _ (hw 2 (by kernel_rfl)) rfl
                have e6 : z 61 = .pointer (some ⟨g, 0, none⟩) := hz 6 _ (hw 6 (by kernel_rfl)) rfl
                refine wpOp_want rfl (by simp [Region.wanted, yielded, e2]) ?_
                go_simp
                exact ⟨⟨by simp [hsz.out], hx.out⟩, upd z 62 (.pointer (some ⟨g, 0, none⟩)), (by unfold Hid; simp [upd, e2, e6]), hz.next apx hsz.out 7 (by decide) _ (fun _ h => Option.some.inj h), hp4.keep (by decide)⟩
              · have e2 : z 57 = .bool false := hz 2 _ (hw 2 (by kernel_rfl)) rfl
                have e7 : z 62 = .pointer (some ⟨g, 0, none⟩) := hz 7 _ (hw 7 (by kernel_rfl)) rfl
                refine wpOp_want rfl (by simp [Region.wanted, yielded, e2]) ?_
                go_simp
                exact ⟨⟨by simp [hsz.out], hx.out⟩, upd z 63 (.pointer (some ⟨g, 0, none⟩)), (by unfold Hid; simp [upd, e2, e7]), hz.next apx hsz.out 8 (by decide) _ (fun _ h => Option.some.inj h), hp4.keep (by decide)⟩
              · have e2 : z 57 = .bool false := hz 2 _ (hw 2 (by kernel_rfl)) rfl
                have e8 : z 63 = .pointer (some ⟨g, 0, none⟩) := hz 8 _ (hw 8 (by kernel_rfl)) rfl
                have cl : wx.cell? ⟨g, 0, none⟩ = some (.slice A m cp) := (hx.out.cell (p := ⟨g, 0, none⟩) (World.block_lt_of_cell? _ _ C0.out)).trans C0.out
                refine wpOp_want rfl (by simp [Region.wanted, yielded, e2]) ?_
                go_simp
                exact ⟨⟨by simp [hsz.out], hx.out⟩, upd z 64 (.slice A m cp), (by unfold Hid; simp [upd, e2, e8]), hz.next apx hsz.out 9 (by decide) _ (fun _ h => Option.some.inj h), hp4.keep (by decide)⟩
              · have e2 : z 57 = .bool false := hz 2 _ (hw 2 (by kernel_rfl)) rfl
                refine wpOp_want rfl (by simp [Region.wanted, yielded, e2]) ?_
                go_simp
                exact ⟨⟨by simp [hsz.out], hx.out⟩, upd z 65 (.int .i64 (S : Nat)), (by unfold Hid; simp [upd, e2]), hz.next apx hsz.out 10 (by decide) _ (fun _ h => Option.some.inj h), hp4.keep (by decide)⟩
              · have e2 : z 57 = .bool false := hz 2 _ (hw 2 (by kernel_rfl)) rfl
                have e9 : z 64 = .slice A m cp := hz 9 _ (hw 9 (by kernel_rfl)) rfl
                have e10 : z 65 = .int .i64 (S : Nat) := hz 10 _ (hw 10 (by kernel_rfl)) rfl
                refine wpOp_want rfl (by simp [Region.wanted, yielded, e2]) ?_
                go_simp
                exact ⟨⟨by simp [hsz.out], hx.out⟩, upd z 66 (.slice A S cp), (by unfold Hid; simp [upd, e2, e9, e10]), hz.next apx hsz.out 11 (by decide) _ (fun _ h => Option.some.inj h), hp4.keep (by decide)⟩
              · have e2 : z 57 = .bool false := hz 2 _ (hw 2 (by kernel_rfl)) rfl
                have e11 : z 66 = .slice A S cp := hz 11 _ (hw 11 (by kernel_rfl)) rfl
                have cv := conv_any (HT.out.below hx.out (Nat.le_refl _)) HMl.out
                refine wpOp_want rfl (by simp [Region.wanted, yielded, e2]) ?_
                go_simp
                exact ⟨⟨by simp [hsz.out], hx.out⟩, upd z 67 (.string (strOfNums M)), (by unfold Hid; simp [upd, e2, e11]), hz.next apx hsz.out 12 (by decide) _ (fun _ h => Option.some.inj h), hp4.keep (by decide)⟩
              · have e2 : z 57 = .bool false := hz 2 _ (hw 2 (by kernel_rfl)) rfl
                have e5 : z 60 = .string (strOfNums (encN x)) := hz 5 _ (hw 5 (by kernel_rfl)) rfl
                have e12 : z 67 = .string (strOfNums M) := hz 12 _ (hw 12 (by kernel_rfl)) rfl
                refine wpOp_want rfl (by simp [Region.wanted, yielded, e2]) ?_
                go_simp
                exact ⟨⟨by simp [hsz.out], hx.out⟩, upd z 68 (.bool true), (by unfold Hid; simp [upd, e2, e5, e12, hne]), hz.next apx hsz.out 13 (by decide) _ (fun _ h => Option.some.inj h), hp4.keep (by decide)⟩
              · have e2 : z 57 = .bool false := hz 2 _ (hw 2 (by kernel_rfl)) rfl
                have e13 : z 68 = .bool true := hz 13 _ (hw 13 (by kernel_rfl)) rfl
                refine wpOp_plain rfl rfl ?_
                go_simp
                exact ⟨⟨by simp [hsz.out], hx.out⟩, upd z 69 (.bool true), (by unfold Hid; simp [upd, e2, e13]), hz.next apx hsz.out 14 (by decide) _ (fun _ h => Option.some.inj h), hp4.keep (by decide)⟩
            · exact ⟨⟨rfl, (Below.refl _ _).drew⟩, fun xx => (#[.pointer (some ⟨g, 0, none⟩), .int .u64 (most : Nat), undef, undef, .int .u64 0, .int .u64 (x : Nat), .int .i64 (S : Nat), u7, .int .i64 (-1), .pointer (some ⟨g, 0, none⟩), .pointer (some ⟨g, 0, none⟩), .pointer (some ⟨g, 1, none⟩), .int .i64 0, .bool false, u14, u15, u16, u17, u18, u19, u20, u21, u22, u23, u24, u25, u26, u27, u28, u29, u30, u31, u32, u33, u34, u35, u36, .int .i64 (S : Nat), .int .i64 ((S : Int) - 1), .int .i64 (-1), .bool false, u41, u42, u43, u44, u45, u46, u47, u48, u49, u50, u51, u52, u53, u54, undef, undef, undef, undef, undef, undef, undef, undef, undef, undef, undef, undef, undef, undef, undef, undef, undef, undef, undef, undef, undef, undef, undef, undef, undef, undef, undef, undef, undef, undef, undef, undef] : Array Value).getD xx undef, (by rfl), Holding.start, Whn.none (by decide)⟩
end Go.Proofs.Ytigfcmnknijobaa.Cod
