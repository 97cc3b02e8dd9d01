/- DERIVED. label.Text of a valid label; the laws' awake. Written by mktext.py. -/
import Derived.Test.YtmbcojpdigoojaaGreatDoorLabFormat
import Derived.Test.YtmbcojpdigoojaaGreatDoorLabBoth
import Derived.Test.YtmbcojpdigoojaaGreatDoorRegionCall
import Derived.Test.YtmbcojpdigoojaaGreatDoorRegionFix
import Derived.Test.YtmbcojpdigoojaaGreatDoorSlUntil
namespace Go.Proofs.YtmbcojpdigoojaaGreatDoor.Lab
open Go.RowKit Str
/-- a level's digits. -/
def decL (i : Nat) : List Int := if i < 10 then [((48 + i : Nat) : Int)] else [49, ((38 + i : Nat) : Int)]
set_option maxRecDepth 100000 in
theorem itoa_0 (w : World) : Calls Tryz.prog 30 #[.int .i64 0] w fun e w' => e = .returned (.string ⟨#[48]⟩) ∧ w = w' := by
  go_enter Tryz.func30, Tryz.ntmps30
  go_wp2
  go_ret
  exact ⟨rfl, rfl⟩
set_option maxRecDepth 100000 in
theorem itoa_1 (w : World) : Calls Tryz.prog 30 #[.int .i64 1] w fun e w' => e = .returned (.string ⟨#[49]⟩) ∧ w = w' := by
  go_enter Tryz.func30, Tryz.ntmps30
  go_wp2
  go_ret
  exact ⟨rfl, rfl⟩
set_option maxRecDepth 100000 in
theorem itoa_2 (w : World) : Calls Tryz.prog 30 #[.int .i64 2] w fun e w' => e = .returned (.string ⟨#[50]⟩) ∧ w = w' := by
  go_enter Tryz.func30, Tryz.ntmps30
  go_wp2
  go_ret
  exact ⟨rfl, rfl⟩
set_option maxRecDepth 100000 in
theorem itoa_3 (w : World) : Calls Tryz.prog 30 #[.int .i64 3] w fun e w' => e = .returned (.string ⟨#[51]⟩) ∧ w = w' := by
  go_enter Tryz.func30, Tryz.ntmps30
  go_wp2
  go_ret
  exact ⟨rfl, rfl⟩
set_option maxRecDepth 100000 in
theorem itoa_4 (w : World) : Calls Tryz.prog 30 #[.int .i64 4] w fun e w' => e = .returned (.string ⟨#[52]⟩) ∧ w = w' := by
  go_enter Tryz.func30, Tryz.ntmps30
  go_wp2
  go_ret
  exact ⟨rfl, rfl⟩
set_option maxRecDepth 100000 in
theorem itoa_5 (w : World) : Calls Tryz.prog 30 #[.int .i64 5] w fun e w' => e = .returned (.string ⟨#[53]⟩) ∧ w = w' := by
  go_enter Tryz.func30, Tryz.ntmps30
  go_wp2
  go_ret
  exact ⟨rfl, rfl⟩
set_option maxRecDepth 100000 in
theorem itoa_6 (w : World) : Calls Tryz.prog 30 #[.int .i64 6] w fun e w' => e = .returned (.string ⟨#[54]⟩) ∧ w = w' := by
  go_enter Tryz.func30, Tryz.ntmps30
  go_wp2
  go_ret
  exact ⟨rfl, rfl⟩
set_option maxRecDepth 100000 in
theorem itoa_7 (w : World) : Calls Tryz.prog 30 #[.int .i64 7] w fun e w' => e = .returned (.string ⟨#[55]⟩) ∧ w = w' := by
  go_enter Tryz.func30, Tryz.ntmps30
  go_wp2
  go_ret
  exact ⟨rfl, rfl⟩
set_option maxRecDepth 100000 in
theorem itoa_8 (w : World) : Calls Tryz.prog 30 #[.int .i64 8] w fun e w' => e = .returned (.string ⟨#[56]⟩) ∧ w = w' := by
  go_enter Tryz.func30, Tryz.ntmps30
  go_wp2
  go_ret
  exact ⟨rfl, rfl⟩
set_option maxRecDepth 100000 in
theorem itoa_9 (w : World) : Calls Tryz.prog 30 #[.int .i64 9] w fun e w' => e = .returned (.string ⟨#[57]⟩) ∧ w = w' := by
  go_enter Tryz.func30, Tryz.ntmps30
  go_wp2
  go_ret
  exact ⟨rfl, rfl⟩
set_option maxRecDepth 100000 in
theorem itoa_10 (w : World) : Calls Tryz.prog 30 #[.int .i64 10] w fun e w' => e = .returned (.string ⟨#[49, 48]⟩) ∧ w = w' := by
  go_enter Tryz.func30, Tryz.ntmps30
  go_wp2
  go_ret
  exact ⟨rfl, rfl⟩
set_option maxRecDepth 100000 in
theorem itoa_11 (w : World) : Calls Tryz.prog 30 #[.int .i64 11] w fun e w' => e = .returned (.string ⟨#[49, 49]⟩) ∧ w = w' := by
  go_enter Tryz.func30, Tryz.ntmps30
  go_wp2
  go_ret
  exact ⟨rfl, rfl⟩
set_option maxRecDepth 100000 in
theorem itoa_12 (w : World) : Calls Tryz.prog 30 #[.int .i64 12] w fun e w' => e = .returned (.string ⟨#[49, 50]⟩) ∧ w = w' := by
  go_enter Tryz.func30, Tryz.ntmps30
  go_wp2
  go_ret
  exact ⟨rfl, rfl⟩
set_option maxRecDepth 100000 in
theorem itoa_13 (w : World) : Calls Tryz.prog 30 #[.int .i64 13] w fun e w' => e = .returned (.string ⟨#[49, 51]⟩) ∧ w = w' := by
  go_enter Tryz.func30, Tryz.ntmps30
  go_wp2
  go_ret
  exact ⟨rfl, rfl⟩
set_option maxRecDepth 100000 in
theorem itoa_14 (w : World) : Calls Tryz.prog 30 #[.int .i64 14] w fun e w' => e = .returned (.string ⟨#[49, 52]⟩) ∧ w = w' := by
  go_enter Tryz.func30, Tryz.ntmps30
  go_wp2
  go_ret
  exact ⟨rfl, rfl⟩
set_option maxRecDepth 100000 in
theorem itoa_15 (w : World) : Calls Tryz.prog 30 #[.int .i64 15] w fun e w' => e = .returned (.string ⟨#[49, 53]⟩) ∧ w = w' := by
  go_enter Tryz.func30, Tryz.ntmps30
  go_wp2
  go_ret
  exact ⟨rfl, rfl⟩
theorem itoa_any : ∀ (i : Nat) (_ : i < 16) (w : World), Calls Tryz.prog 30 #[.int .i64 (i : Nat)] w fun e w' => e = .returned (.string (strOfNums (decL i))) ∧ w = w'
  | 0, _, w => itoa_0 w
  | 1, _, w => itoa_1 w
  | 2, _, w => itoa_2 w
  | 3, _, w => itoa_3 w
  | 4, _, w => itoa_4 w
  | 5, _, w => itoa_5 w
  | 6, _, w => itoa_6 w
  | 7, _, w => itoa_7 w
  | 8, _, w => itoa_8 w
  | 9, _, w => itoa_9 w
  | 10, _, w => itoa_10 w
  | 11, _, w => itoa_11 w
  | 12, _, w => itoa_12 w
  | 13, _, w => itoa_13 w
  | 14, _, w => itoa_14 w
  | 15, _, w => itoa_15 w
  | n + 16, h, _ => absurd h (by omega)
theorem str_size (l : List Int) : (strOfNums l).size = l.length := by
  show (strOfNums l).data.size = _
  simp [strOfNums]
theorem text_small (lv cp : Nat) : (strOfNums (decL lv)).size ≤ 2 ∧ (strOfNums (hexL cp)).size ≤ 16 := by
  rw [str_size, str_size]
  refine ⟨?_, hexF_le 15 cp⟩
  unfold decL
  split <;> simp
/-- a valid label's text. -/
def textB (lv cp : Nat) : ByteArray := strOfNums (decL lv) ++ (⟨#[58]⟩ : ByteArray) ++ strOfNums (hexL cp)
set_option maxHeartbeats 1000000 in
theorem text_any (lv cp : Nat) (hlv : lv < 16) (hcp : cp < 18446744073709551616) (w : World) (hL : Laid w) :
    Calls Tryz.prog 31 #[.agg #[.int .i64 (lv : Nat), .int .u64 (cp : Nat)]] w fun e w' => e = .returned (.string (textB lv cp)) ∧ Below w.heap.size w w' := by
  obtain ⟨w1, hw1⟩ : ∃ w1, w1 = w.alloc (.cells #[.int .i64 (lv : Nat), .int .u64 (cp : Nat)] 34) := ⟨_, rfl⟩
  have h1 : w1.heap[w.heap.size]? = some (.cells #[.int .i64 (lv : Nat), .int .u64 (cp : Nat)] 34 (0, 0)) := by rw [hw1]; exact Go.heap_alloc_new w _
  have low1 : Below w.heap.size w w1 := by rw [hw1]; exact (Below.refl _ _).alloc (Nat.le_refl _) _
  have Hw1 := Lib.hid hw1
  have H1 := Lib.hid h1
  have Hlow1 := Lib.hid low1
  have HLd1 : Hid (Laid w1) := hL.below low1
  have Hc : Hid (chk (lv : Nat) = 0) := by show _ = _; unfold chk; rw [if_pos (by omega)]
  have ss := text_small lv cp
  have hs1 : ¬ 9223372036854775807 < (strOfNums (decL lv)).size + 1 := by omega
  have hs2 : ¬ 9223372036854775807 < (strOfNums (decL lv)).size + 1 + (strOfNums (hexL cp)).size := by omega
  clear hw1 h1 low1 hL ss
  go_enter Tryz.func31, Tryz.ntmps31
  go_upto_region 1 with (fail)
  rw [← Hw1.out]
  clear Hw1
  have c0 : w1.cell? ⟨w.heap.size, 0, none⟩ = some (.int .i64 (lv : Nat)) := cell_row H1.out 0
  have c1 : w1.cell? ⟨w.heap.size, 1, none⟩ = some (.int .u64 (cp : Nat)) := cell_row H1.out 1
  go_upto_region 3 with (go_at_call 21; refine (check_any _ _ _).mono ?_; rintro e w2 ⟨rfl, low2⟩; have Low2 := Lib.hid low2; clear low2; rw [Hc.out])
  have C0 : Hid (World.cell? _ ⟨w.heap.size, 0, none⟩ = some (.int .i64 (lv : Nat))) := (Low2.out.cell (p := ⟨w.heap.size, 0, none⟩) (Array.getElem?_eq_some_iff.1 H1.out).1).trans c0
  have C1 : Hid (World.cell? _ ⟨w.heap.size, 1, none⟩ = some (.int .u64 (cp : Nat))) := (Low2.out.cell (p := ⟨w.heap.size, 1, none⟩) (Array.getElem?_eq_some_iff.1 H1.out).1).trans c1
  have HLd := Lib.hid (HLd1.out.below Low2.out)
  have Hlow := Lib.hid (Hlow1.out.trans (Low2.out.mono Hlow1.out.size))
  clear c0 c1 H1 HLd1 Hlow1 Low2 Hc
  obtain ⟨g, hg⟩ : ∃ g, g = w.heap.size := ⟨_, rfl⟩
  rw [← hg] at C0 C1 ⊢
  have Hg := Lib.hid hg
  clear hg
  have apx : apartB [6, 7, 8, 9, 10, 11, 12, 13, 2] = true := by decide
  refine wp_region_any (by kernel_rfl) ?_
  change wpAny _ _ _ _ _ _ _ (World.drew _)
  refine wpAny_inv (fun ll aa wx => Hid (ll.size = 9 ∧ Below w2.heap.size w2 wx) ∧ ∃ (z : Nat → Value), Hid (aa = ⟨#[.agg #[.int .i64 (lv : Nat), .int .u64 (cp : Nat)], .pointer (some ⟨g, 0, none⟩), z 2, .agg #[.int .i64 (lv : Nat), .int .u64 (cp : Nat)], .int .i64 0, .bool false, z 6, z 7, z 8, z 9, z 10, z 11, z 12, z 13], []⟩) ∧ Holding [6, 7, 8, 9, 10, 11, 12, 13, 2] [some (.pointer (some ⟨g, 0, none⟩)), some (.int .i64 (lv : Nat)), some (.string (strOfNums (decL lv))), some (.string (strOfNums (decL lv) ++ (⟨#[58]⟩ : ByteArray))), some (.pointer (some ⟨g, 1, none⟩)), some (.int .u64 (cp : Nat)), some (.string (strOfNums (hexL cp))), some (.string (strOfNums (decL lv) ++ (⟨#[58]⟩ : ByteArray) ++ strOfNums (hexL cp))), some (.string (textB lv cp))] ll z) ?_ (by kernel_rfl) ?_ ?_ _ _ _ _ (unlisted_none _) ?_
  · rintro ll aa wx ⟨hI, _⟩
    exact hI.out.1
  · rintro ll aa wx ⟨hI, z, ha, hz⟩ hall
    have hx := Lib.hid hI.out.2
    have e0 : z 6 = .pointer (some ⟨g, 0, none⟩) := hz 0 _ (hall 0 (by decide)) rfl
    have e1 : z 7 = .int .i64 (lv : Nat) := hz 1 _ (hall 1 (by decide)) rfl
    have e2 : z 8 = .string (strOfNums (decL lv)) := hz 2 _ (hall 2 (by decide)) rfl
    have e3 : z 9 = .string (strOfNums (decL lv) ++ (⟨#[58]⟩ : ByteArray)) := hz 3 _ (hall 3 (by decide)) rfl
    have e4 : z 10 = .pointer (some ⟨g, 1, none⟩) := hz 4 _ (hall 4 (by decide)) rfl
    have e5 : z 11 = .int .u64 (cp : Nat) := hz 5 _ (hall 5 (by decide)) rfl
    have e6 : z 12 = .string (strOfNums (hexL cp)) := hz 6 _ (hall 6 (by decide)) rfl
    have e7 : z 13 = .string (strOfNums (decL lv) ++ (⟨#[58]⟩ : ByteArray) ++ strOfNums (hexL cp)) := hz 7 _ (hall 7 (by decide)) rfl
    have e8 : z 2 = .string (textB lv cp) := hz 8 _ (hall 8 (by decide)) rfl
    clear hall hz hI 
    obtain rfl := ha.out
    clear ha
    clear apx
    have E := Lib.hid e8
    clear e0 e1 e2 e3 e4 e5 e6 e7 e8
    go_wp2
    go_ret
    exact ⟨by rw [E.out]; rfl, Hlow.out.trans (hx.out.mono Hlow.out.size)⟩
  · rintro ll aa wx i ⟨hI, z, ha, hz⟩ hi hu hw
    obtain rfl := ha.out
    have hsz := Lib.hid hI.out.1
    have hx := Lib.hid hI.out.2
    clear ha hI
    have hin : i < 9 := hi
    obtain rfl | rfl | rfl | rfl | rfl | rfl | rfl | rfl | rfl : i = 0 ∨ i = 1 ∨ i = 2 ∨ i = 3 ∨ i = 4 ∨ i = 5 ∨ i = 6 ∨ i = 7 ∨ i = 8 := by omega
    · refine wpOp_plain rfl rfl ?_
      go_simp
      exact ⟨⟨by simp [hsz.out], hx.out⟩, upd z 6 (.pointer (some ⟨g, 0, none⟩)), (by unfold Hid; simp [upd]), hz.next apx hsz.out 0 (by decide) _ (fun _ h => Option.some.inj h)⟩
    · have e0 : z 6 = .pointer (some ⟨g, 0, none⟩) := hz 0 _ (hw 0 (by kernel_rfl)) rfl
      have cl : wx.cell? ⟨g, 0, none⟩ = some (.int .i64 (lv : Nat)) := (hx.out.cell (p := ⟨g, 0, none⟩) (World.block_lt_of_cell? _ _ C0.out)).trans C0.out
      refine wpOp_plain rfl rfl ?_
      go_simp
      exact ⟨⟨by simp [hsz.out], hx.out⟩, upd z 7 (.int .i64 (lv : Nat)), (by unfold Hid; simp [upd, e0]), hz.next apx hsz.out 1 (by decide) _ (fun _ h => Option.some.inj h)⟩
    · have e1 : z 7 = .int .i64 (lv : Nat) := hz 1 _ (hw 1 (by kernel_rfl)) rfl
      refine wpOp_plain rfl rfl ?_
      go_simp
      go_at_call 30
      refine (itoa_any lv hlv _).mono ?_
      rintro e w' ⟨rfl, rfl⟩
      exact ⟨⟨by simp [hsz.out], hx.out⟩, upd z 8 (.string (strOfNums (decL lv))), (by unfold Hid; simp [upd, e1]), hz.next apx hsz.out 2 (by decide) _ (fun _ h => Option.some.inj h)⟩
    · have e2 : z 8 = .string (strOfNums (decL lv)) := hz 2 _ (hw 2 (by kernel_rfl)) rfl
      refine wpOp_plain rfl rfl ?_
      go_simp
      exact ⟨⟨by simp [hsz.out], hx.out⟩, upd z 9 (.string (strOfNums (decL lv) ++ (⟨#[58]⟩ : ByteArray))), (by unfold Hid; simp [upd, e2]), hz.next apx hsz.out 3 (by decide) _ (fun _ h => Option.some.inj h)⟩
    · refine wpOp_plain rfl rfl ?_
      go_simp
      exact ⟨⟨by simp [hsz.out], hx.out⟩, upd z 10 (.pointer (some ⟨g, 1, none⟩)), (by unfold Hid; simp [upd]), hz.next apx hsz.out 4 (by decide) _ (fun _ h => Option.some.inj h)⟩
    · have e4 : z 10 = .pointer (some ⟨g, 1, none⟩) := hz 4 _ (hw 4 (by kernel_rfl)) rfl
      have cl : wx.cell? ⟨g, 1, none⟩ = some (.int .u64 (cp : Nat)) := (hx.out.cell (p := ⟨g, 1, none⟩) (World.block_lt_of_cell? _ _ C1.out)).trans C1.out
      refine wpOp_plain rfl rfl ?_
      go_simp
      exact ⟨⟨by simp [hsz.out], hx.out⟩, upd z 11 (.int .u64 (cp : Nat)), (by unfold Hid; simp [upd, e4]), hz.next apx hsz.out 5 (by decide) _ (fun _ h => Option.some.inj h)⟩
    · have e5 : z 11 = .int .u64 (cp : Nat) := hz 5 _ (hw 5 (by kernel_rfl)) rfl
      refine wpOp_plain rfl rfl ?_
      go_simp
      go_at_call 51
      refine (formatU_any cp hcp wx (HLd.out.below hx.out)).mono ?_
      rintro e w' ⟨rfl, low⟩
      exact ⟨⟨by simp [hsz.out], hx.out.trans (low.mono hx.out.size)⟩, upd z 12 (.string (strOfNums (hexL cp))), (by unfold Hid; simp [upd, e5]), hz.next apx hsz.out 6 (by decide) _ (fun _ h => Option.some.inj h)⟩
    · have e3 : z 9 = .string (strOfNums (decL lv) ++ (⟨#[58]⟩ : ByteArray)) := hz 3 _ (hw 3 (by kernel_rfl)) rfl
      have e6 : z 12 = .string (strOfNums (hexL cp)) := hz 6 _ (hw 6 (by kernel_rfl)) rfl
      refine wpOp_plain rfl rfl ?_
      go_simp
      exact ⟨⟨by simp [hsz.out], hx.out⟩, upd z 13 (.string (strOfNums (decL lv) ++ (⟨#[58]⟩ : ByteArray) ++ strOfNums (hexL cp))), (by unfold Hid; simp [upd, e3, e6]), hz.next apx hsz.out 7 (by decide) _ (fun _ h => Option.some.inj h)⟩
    · have e7 : z 13 = .string (strOfNums (decL lv) ++ (⟨#[58]⟩ : ByteArray) ++ strOfNums (hexL cp)) := hz 7 _ (hw 7 (by kernel_rfl)) rfl
      refine wpOp_plain rfl rfl ?_
      go_simp
      exact ⟨⟨by simp [hsz.out], hx.out⟩, upd z 2 (.string (textB lv cp)), (by unfold Hid; simp [upd, e7, textB]), hz.next apx hsz.out 8 (by decide) _ (fun _ h => Option.some.inj h)⟩
  · exact ⟨⟨rfl, (Below.refl _ _).drew⟩, fun xx => (#[.agg #[.int .i64 (lv : Nat), .int .u64 (cp : Nat)], .pointer (some ⟨g, 0, none⟩), .string ⟨#[]⟩, .agg #[.int .i64 (lv : Nat), .int .u64 (cp : Nat)], .int .i64 0, .bool false, undef, undef, undef, undef, undef, undef, undef, undef] : Array Value).getD xx undef, rfl, Holding.start⟩
end Go.Proofs.YtmbcojpdigoojaaGreatDoor.Lab
