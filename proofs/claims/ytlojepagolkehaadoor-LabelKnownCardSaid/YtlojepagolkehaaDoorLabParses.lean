/- DERIVED. label.Parse at the texts of LabelKnown; the statement's no. -/
import Derived.Test.YtlojepagolkehaaDoorLabParseAny
namespace Go.Proofs.YtlojepagolkehaaDoor.Lab
open Go.RowKit Str
set_option maxHeartbeats 1000000 in
theorem text_bad (lv : Int) (hlv : ¬ (0 ≤ lv ∧ lv ≤ 15)) (c : Nat) (w : World) : Calls Tryd.prog 10 #[.agg #[.int .i64 lv, .int .u64 (c : Nat)]] w fun e w' => e = .returned (.string ⟨#[63]⟩) ∧ Below w.heap.size w w' := by
  have hb : Below w.heap.size w (w.alloc (.cells #[.int .i64 lv, .int .u64 (c : Nat)] 24)) := (Below.refl _ _).alloc (Nat.le_refl _) _
  have hc : chk lv = 2 := if_neg hlv
  have Hb := Lib.hid hb
  have Hc := Lib.hid hc
  clear hb hc hlv
  go_enter Tryd.func10, Tryd.ntmps10
  go_wp2_with (go_at_call 13; refine (check_any _ _ _).mono ?_; rintro e w2 ⟨rfl, low2⟩; have Low2 := Lib.hid (Hb.out.trans (low2.mono Hb.out.size)); clear low2; rw [Hc.out])
  go_ret
  exact ⟨rfl, Low2.out⟩
theorem text_is (lv cp : Nat) (T : ByteArray) (hT : textB lv cp = T) (hlv : lv < 16) (hcp : cp < 18446744073709551616) (w : World) (hL : LK w) : Calls Tryd.prog 10 #[.agg #[.int .i64 (lv : Nat), .int .u64 (cp : Nat)]] w fun e w' => e = .returned (.string T) ∧ Below w.heap.size w w' := by
  have h := text_any lv cp hlv hcp w hL.1
  rw [hT] at h
  exact h
/-- what Parse answers to what is no label's text. -/
def NoQ (w : World) (e : Ending) (w' : World) : Prop := e = .returned (.tuple #[.agg #[.int .i64 0, .int .u64 0], .int .i64 4]) ∧ Below w.heap.size w w'
theorem cut_to (s a b : ByteArray) (ok : Bool) (h : Lib.cut s.data.toList [58] = (a.data.toList, b.data.toList, ok)) (hs : s.size < 4294967281) : ∀ w, LS w → Calls Tryd.prog 14 #[.string s, .string ⟨#[58]⟩] w fun e w' => (∃ ok, e = .returned (.tuple #[.string a, .string b, .bool ok])) ∧ Below w.heap.size w w' := fun w hL => by
  refine (cut_is s a b ok h hs w hL).mono ?_
  rintro e w' ⟨rfl, hb⟩
  exact ⟨⟨_, rfl⟩, hb⟩
theorem p_top (w : World) (hL : LK w) : Calls Tryd.prog 4 #[.string ⟨#[49, 53, 58, 102, 102, 102, 102, 102, 102, 102, 102, 102, 102, 102, 102, 102, 102, 102, 102]⟩] w fun e w' => e = .returned (.tuple #[.agg #[.int .i64 15, .int .u64 18446744073709551615], .int .i64 0]) ∧ Below w.heap.size w w' :=
  parse_ok ⟨#[49, 53, 58, 102, 102, 102, 102, 102, 102, 102, 102, 102, 102, 102, 102, 102, 102, 102, 102]⟩ ⟨#[49, 53]⟩ ⟨#[102, 102, 102, 102, 102, 102, 102, 102, 102, 102, 102, 102, 102, 102, 102, 102]⟩ 15 18446744073709551615 w hL (cut_to ⟨#[49, 53, 58, 102, 102, 102, 102, 102, 102, 102, 102, 102, 102, 102, 102, 102, 102, 102, 102]⟩ ⟨#[49, 53]⟩ ⟨#[102, 102, 102, 102, 102, 102, 102, 102, 102, 102, 102, 102, 102, 102, 102, 102]⟩ true (by decide) (by decide)) (fun w hL => lof_ok ⟨#[49, 53]⟩ ⟨#[102, 102, 102, 102, 102, 102, 102, 102, 102, 102, 102, 102, 102, 102, 102, 102]⟩ 15 18446744073709551615 w (atoi_yes ⟨#[49, 53]⟩ 15 (by decide) (by decide) _) (puP_of ⟨#[102, 102, 102, 102, 102, 102, 102, 102, 102, 102, 102, 102, 102, 102, 102, 102]⟩ 18446744073709551615 pu_fs)) (fun w hL => text_is 15 18446744073709551615 ⟨#[49, 53, 58, 102, 102, 102, 102, 102, 102, 102, 102, 102, 102, 102, 102, 102, 102, 102, 102]⟩ (by kernel_rfl) (by decide) (by decide) w hL)
theorem p_301 (w : World) (hL : LK w) : Calls Tryd.prog 4 #[.string ⟨#[51, 58, 48, 49]⟩] w (NoQ w) :=
  parse_no2 ⟨#[51, 58, 48, 49]⟩ ⟨#[51]⟩ ⟨#[48, 49]⟩ 3 1 ⟨#[51, 58, 49]⟩ (by rw [ByteArray.toList_eq, ByteArray.toList_eq]; decide) w hL (cut_to ⟨#[51, 58, 48, 49]⟩ ⟨#[51]⟩ ⟨#[48, 49]⟩ true (by decide) (by decide)) (fun w hL => lof_ok ⟨#[51]⟩ ⟨#[48, 49]⟩ 3 1 w (atoi_yes ⟨#[51]⟩ 3 (by decide) (by decide) _) (puP_of ⟨#[48, 49]⟩ 1 pu_s01)) (fun w hL => text_is 3 1 ⟨#[51, 58, 49]⟩ (by kernel_rfl) (by decide) (by decide) w hL)
theorem p_160 (w : World) (hL : LK w) : Calls Tryd.prog 4 #[.string ⟨#[49, 54, 58, 48]⟩] w (NoQ w) :=
  parse_no2 ⟨#[49, 54, 58, 48]⟩ ⟨#[49, 54]⟩ ⟨#[48]⟩ 16 0 ⟨#[63]⟩ (by rw [ByteArray.toList_eq, ByteArray.toList_eq]; decide) w hL (cut_to ⟨#[49, 54, 58, 48]⟩ ⟨#[49, 54]⟩ ⟨#[48]⟩ true (by decide) (by decide)) (fun w hL => lof_ok ⟨#[49, 54]⟩ ⟨#[48]⟩ 16 0 w (atoi_yes ⟨#[49, 54]⟩ 16 (by decide) (by decide) _) (puP_of ⟨#[48]⟩ 0 pu_s0)) (fun w _ => text_bad 16 (by decide) 0 w)
theorem p_p10 (w : World) (hL : LK w) : Calls Tryd.prog 4 #[.string ⟨#[43, 49, 58, 48]⟩] w (NoQ w) :=
  parse_no2 ⟨#[43, 49, 58, 48]⟩ ⟨#[43, 49]⟩ ⟨#[48]⟩ 1 0 ⟨#[49, 58, 48]⟩ (by rw [ByteArray.toList_eq, ByteArray.toList_eq]; decide) w hL (cut_to ⟨#[43, 49, 58, 48]⟩ ⟨#[43, 49]⟩ ⟨#[48]⟩ true (by decide) (by decide)) (fun w hL => lof_ok ⟨#[43, 49]⟩ ⟨#[48]⟩ 1 0 w (atoi_yes ⟨#[43, 49]⟩ 1 (by decide) (by decide) _) (puP_of ⟨#[48]⟩ 0 pu_s0)) (fun w hL => text_is 1 0 ⟨#[49, 58, 48]⟩ (by kernel_rfl) (by decide) (by decide) w hL)
theorem p_c0 (w : World) (hL : LK w) : Calls Tryd.prog 4 #[.string ⟨#[58, 48]⟩] w (NoQ w) :=
  parse_no1 ⟨#[58, 48]⟩ ⟨#[]⟩ ⟨#[48]⟩ w hL (cut_to ⟨#[58, 48]⟩ ⟨#[]⟩ ⟨#[48]⟩ true (by decide) (by decide)) (fun w hL => lof_no1 ⟨#[]⟩ ⟨#[48]⟩ w (atoi_no ⟨#[]⟩ (by decide) (by decide) _ (hL.later ((Below.refl _ _).alloc (Nat.le_refl _) _)).2))
theorem p_e (w : World) (hL : LK w) : Calls Tryd.prog 4 #[.string ⟨#[]⟩] w (NoQ w) :=
  parse_no1 ⟨#[]⟩ ⟨#[]⟩ ⟨#[]⟩ w hL (cut_to ⟨#[]⟩ ⟨#[]⟩ ⟨#[]⟩ false (by decide) (by decide)) (fun w hL => lof_no1 ⟨#[]⟩ ⟨#[]⟩ w (atoi_no ⟨#[]⟩ (by decide) (by decide) _ (hL.later ((Below.refl _ _).alloc (Nat.le_refl _) _)).2))
theorem p_1 (w : World) (hL : LK w) : Calls Tryd.prog 4 #[.string ⟨#[49]⟩] w (NoQ w) :=
  parse_no1 ⟨#[49]⟩ ⟨#[49]⟩ ⟨#[]⟩ w hL (cut_to ⟨#[49]⟩ ⟨#[49]⟩ ⟨#[]⟩ false (by decide) (by decide)) (fun w hL => lof_no2 ⟨#[49]⟩ ⟨#[]⟩ 1 w hL.2 (atoi_yes ⟨#[49]⟩ 1 (by decide) (by decide) _) puP_empty)
theorem p_1c (w : World) (hL : LK w) : Calls Tryd.prog 4 #[.string ⟨#[49, 58]⟩] w (NoQ w) :=
  parse_no1 ⟨#[49, 58]⟩ ⟨#[49]⟩ ⟨#[]⟩ w hL (cut_to ⟨#[49, 58]⟩ ⟨#[49]⟩ ⟨#[]⟩ true (by decide) (by decide)) (fun w hL => lof_no2 ⟨#[49]⟩ ⟨#[]⟩ 1 w hL.2 (atoi_yes ⟨#[49]⟩ 1 (by decide) (by decide) _) puP_empty)
set_option maxHeartbeats 1000000 in
theorem no_any (s : ByteArray) (w : World) (hp : Calls Tryd.prog 4 #[.string s] w (NoQ w)) : Calls Tryd.prog 12 #[.string s] w fun e w' => e = .returned (.bool true) ∧ Below w.heap.size w w' := by
  unfold NoQ at hp
  have HP := Lib.hid hp
  clear hp
  go_enter Tryd.func12, Tryd.ntmps12
  go_wp2_with (go_at_call 4; refine HP.out.mono ?_; rintro e w1 ⟨rfl, hb⟩; have Hb := Lib.hid hb; clear hb)
  go_ret
  exact ⟨rfl, Hb.out.alloc Hb.out.size _⟩
end Go.Proofs.YtlojepagolkehaaDoor.Lab
