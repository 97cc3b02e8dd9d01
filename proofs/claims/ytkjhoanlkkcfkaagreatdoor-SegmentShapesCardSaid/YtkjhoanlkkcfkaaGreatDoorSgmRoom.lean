/- DERIVED. The contracts of segment.longest, Room, refuses. -/
import Derived.Test.YtkjhoanlkkcfkaaGreatDoorMsgt1
import Derived.Test.YtkjhoanlkkcfkaaGreatDoorMseg9
import Derived.Test.YtkjhoanlkkcfkaaGreatDoorMseg15
namespace Go.Proofs.YtkjhoanlkkcfkaaGreatDoor.Sgm
open Go.RowKit Dsk Slt
theorem roomA_ge (r : Int) : ∀ (f b : Nat) (n : Int), n + 4 ≤ b → n ≤ roomA r f b n := by
  intro f
  induction f with
  | zero => intro b n _; exact Int.le_refl _
  | succ f ih =>
    intro b n h
    show n ≤ (if 36 + (b : Int) ≤ r then roomA r f (2 * b) ((b : Int) - 4) else n)
    split
    · have := ih (2 * b) ((b : Int) - 4) (by omega)
      omega
    · exact Int.le_refl _
theorem bka_ge (m : Nat) : ∀ (f b : Nat), b ≤ Seal.bkA m f b := by
  intro f
  induction f with
  | zero => intro b; exact Nat.le_refl _
  | succ f ih =>
    intro b
    show b ≤ (if b < m + 4 then Seal.bkA m f (2 * b) else b)
    split
    · have := ih (2 * b); omega
    · exact Nat.le_refl _
theorem roomA_iff (r : Int) (m : Nat) : ∀ (f b : Nat) (n : Int), n < m → 0 < b → n + 4 ≤ b → m + 4 ≤ b * 2 ^ f → ((m : Int) ≤ roomA r (f + 1) b n ↔ 36 + (Seal.bkA m f b : Int) ≤ r) := by
  intro f
  induction f with
  | zero =>
    intro b n hn hb hnb hm
    rw [Nat.pow_zero, Nat.mul_one] at hm
    show (m : Int) ≤ (if 36 + (b : Int) ≤ r then (b : Int) - 4 else n) ↔ 36 + (b : Int) ≤ r
    split
    · exact ⟨fun _ => by assumption, fun _ => by omega⟩
    · constructor
      · intro h; omega
      · intro h; omega
  | succ f ih =>
    intro b n hn hb hnb hm
    show (m : Int) ≤ (if 36 + (b : Int) ≤ r then roomA r (f + 1) (2 * b) ((b : Int) - 4) else n) ↔ 36 + (((if b < m + 4 then Seal.bkA m f (2 * b) else b : Nat)) : Int) ≤ r
    by_cases h1 : b < m + 4
    · rw [if_pos h1]
      by_cases h2 : 36 + (b : Int) ≤ r
      · rw [if_pos h2]
        exact ih (2 * b) ((b : Int) - 4) (by omega) (by omega) (by omega) (by rw [Nat.pow_succ] at hm; rw [Nat.mul_comm 2 b, Nat.mul_assoc, Nat.mul_comm 2]; exact hm)
      · rw [if_neg h2]
        have := bka_ge m f (2 * b)
        constructor
        · intro h; omega
        · intro h; omega
    · rw [if_neg h1]
      by_cases h2 : 36 + (b : Int) ≤ r
      · rw [if_pos h2]
        have := roomA_ge r (f + 1) (2 * b) ((b : Int) - 4) (by omega)
        exact ⟨fun _ => h2, fun _ => by omega⟩
      · rw [if_neg h2]
        constructor
        · intro h; omega
        · intro h; exact absurd h h2
/-- a text fits where its bucket does. -/
theorem roomL_iff (r : Int) (m : Nat) (hm : m ≤ 131068) : (m : Int) ≤ roomL r ↔ 36 + (Seal.bkt m : Int) ≤ r :=
  roomA_iff r m 11 64 (-1) (by omega) (by decide) (by decide) (by omega)
/-- the next bucket. -/
def nxb (j : Nat) : Nat := if 12 ≤ j then 0 else 64 * 2 ^ j
theorem nxb_next (j : Nat) (hj : j < 12) : Seal.bktI (((nxb j : Nat) : Int) - 4 + 1) = ((nxb (j + 1) : Nat) : Int) := by
  obtain rfl | rfl | rfl | rfl | rfl | rfl | rfl | rfl | rfl | rfl | rfl | rfl : j = 0 ∨ j = 1 ∨ j = 2 ∨ j = 3 ∨ j = 4 ∨ j = 5 ∨ j = 6 ∨ j = 7 ∨ j = 8 ∨ j = 9 ∨ j = 10 ∨ j = 11 := by omega
  all_goals decide
theorem nxb_le (j : Nat) : nxb j ≤ 131072 ∧ (j < 12 → 64 ≤ nxb j ∧ nxb j = 64 * 2 ^ j) ∧ (12 ≤ j → nxb j = 0) := by
  unfold nxb
  refine ⟨?_, fun h => ?_, fun h => by rw [if_pos h]⟩
  · split
    · decide
    · have : 2 ^ j ≤ 2 ^ 11 := Nat.pow_le_pow_right (by decide) (by omega)
      omega
  · rw [if_neg (by omega)]
    have : 0 < 2 ^ j := Nat.two_pow_pos j
    omega
theorem roomA_yes {r : Int} {f b : Nat} {n : Int} (h : 36 + (b : Int) ≤ r) : roomA r (f + 1) b n = roomA r f (2 * b) ((b : Int) - 4) := if_pos h
theorem roomA_no {r : Int} {f b : Nat} {n : Int} (h : ¬ 36 + (b : Int) ≤ r) : roomA r (f + 1) b n = n := if_neg h
theorem ret_i64 {a b : Int} (h : a = b) : Ending.returned (.int .i64 a) = .returned (.int .i64 b) := by rw [h]
set_option maxRecDepth 100000 in
set_option maxHeartbeats 1000000 in
theorem longest_any (r : Int) (_h1 : -1 ≤ r) (_h2 : r ≤ 262144) (w : World) : Calls Tryz.prog 67 #[.int .i64 r] w fun e w' => e = .returned (.int .i64 (roomL r)) ∧ w = w' := by
  have HB : Hid (∀ n W, Calls Tryz.prog 88 #[.int .i64 n] W fun e w' => e = .returned (.int .i64 (Seal.bktI n)) ∧ W = w') := fun n W => Seal.bucket_any n W
  have h0 : Hid (Calls Tryz.prog 88 #[.int .i64 0] w fun e w' => e = .returned (.int .i64 64) ∧ w = w') := Seal.bucket_any 0 w
  go_enter Tryz.func67, Tryz.ntmps67
  go_upto_region 3 with (go_at_call 88; refine h0.out.mono ?_; rintro e w2 ⟨rfl, rfl⟩)
  go_loopw [3, 4] (fun nv bv wr => ∃ (j : Nat) (n : Int), j ≤ 12 ∧ nv = .int .i64 n ∧ bv = .int .i64 (nxb j : Nat) ∧ Hid (roomL r = roomA r (12 - j) (64 * 2 ^ j) n ∧ (j < 12 → n + 4 < nxb j)) ∧ wr = w) (fun nv _ _ => (200000 - intOf nv).toNat)
  case atStart => exact ⟨0, -1, Nat.zero_le _, rfl, rfl, ⟨rfl, fun _ => by decide⟩, rfl⟩
  case round =>
    obtain ⟨j, n, hj, rfl, rfl, hr, rfl⟩ := hrel
    clear h0
    obtain ⟨hr1, hr2⟩ := hr.out
    have hle := nxb_le j
    obtain ⟨b, hb⟩ : ∃ b, b = nxb j := ⟨_, rfl⟩
    rw [← hb] at hle hr2 ⊢
    by_cases hj12 : j < 12
    · obtain ⟨hb64, hbe⟩ := hle.2.1 hj12
      have hn4 := hr2 hj12
      have hbI : 0 < (b : Int) := by omega
      have hbI2 : (b : Int) ≤ 131072 := by omega
      obtain ⟨f, hf⟩ : ∃ f, 12 - j = f + 1 := ⟨12 - j - 1, by omega⟩
      rw [hf, ← hbe] at hr1
      by_cases hfit : 36 + (b : Int) ≤ r
      · have hnx : ∀ x, x = (b : Int) - 3 → Seal.bktI x = ((nxb (j + 1) : Nat) : Int) := fun x hx => by
          rw [← nxb_next j hj12, ← hb]; congr 1; omega
        have Hnx := Lib.hid hnx
        have HR : Hid (roomL r = roomA r (12 - (j + 1)) (64 * 2 ^ (j + 1)) ((b : Int) - 4)) := by
          show _ = _
          rw [hr1, roomA_yes hfit, show 12 - (j + 1) = f by omega, hbe, Nat.pow_succ]
          congr 1
          omega
        have HN : Hid (j + 1 < 12 → ((b : Int) - 4) + 4 < nxb (j + 1)) := fun h => by
          have h2 := ((nxb_le (j + 1)).2.1 h).2
          rw [Nat.pow_succ] at h2
          omega
        have Hm : Hid (n < (b : Int) - 4) := by show _ < _; omega
        clear hr hr1 hr2 hle hb hbe hnx hn4 hf
        go_wp2_with (go_at_call 88; refine (HB.out _ _).mono ?_; rintro e w2 ⟨rfl, rfl⟩; rw [Hnx.out _ (by omega)])
        exact ⟨⟨j + 1, (b : Int) - 4, by omega, rfl, rfl, ⟨HR.out, HN.out⟩, trivial⟩, by have := Hm.out; simp [intOf]; omega⟩
      · have HR : Hid (n = roomL r) := by show _ = _; rw [hr1, roomA_no hfit]
        clear hr hr1 hr2 hle hb hbe hn4 hf
        go_wp2
        go_ret
        exact ⟨ret_i64 HR.out, rfl⟩
    · obtain rfl : j = 12 := by omega
      have hb0 := hle.2.2 (Nat.le_refl _)
      have HR : Hid (n = roomL r) := hr1.symm
      clear hr hr1 hr2 hle hj12 hb
      subst hb0
      go_wp2
      go_ret
      exact ⟨ret_i64 HR.out, rfl⟩
section
variable {w : World} {K : DK} {J : LK} {G : GK} {S : LS} {V : GV} {D : DS}
theorem roomI_bd (F : Nat) : -1 ≤ roomI F ∧ roomI F ≤ 262144 := by
  unfold roomI
  split
  · decide
  · split <;> omega
def roomG (S : LS) : Int := roomL (roomI (S.secs - S.used))
set_option maxHeartbeats 1000000 in
theorem groom_any (h : Sg w K J G S V) : Calls Tryz.prog 30 #[G.ptr] w fun e w' => e = .returned (.int .i64 (roomG S)) ∧ Below w.heap.size w w' := by
  have Hm := Lib.hid (smade_any h)
  obtain ⟨_, _, c2, _⟩ := h.cells
  have Hr := Lib.hid (room_any h.lg)
  unfold roomG
  obtain ⟨r, hr⟩ : ∃ r, r = roomI (S.secs - S.used) := ⟨_, rfl⟩
  have hb := roomI_bd (S.secs - S.used)
  rw [← hr] at Hr hb ⊢
  have Hl := Lib.hid (fun W => longest_any r hb.1 hb.2 W)
  unfold GK.ptr LK.ptr at *
  clear h hr hb
  go_enter Tryz.func30, Tryz.ntmps30
  go_wp2_with (first
    | (go_at_call 51; refine Hm.out.mono ?_; rintro e w' ⟨rfl, rfl⟩)
    | (go_at_call 68; refine Hr.out.mono ?_; rintro e w2 ⟨rfl, hb2⟩; have Hb2 := Lib.hid hb2; clear hb2)
    | (go_at_call 67; refine (Hl.out _).mono ?_; rintro e w' ⟨rfl, rfl⟩))
  go_ret
  exact ⟨rfl, Hb2.out⟩
/-- why an append is refused. -/
def refX (D : DS) (S : LS) (V : GV) (m : Nat) : Int := if V.ep = 0 then 13 else if 131068 < m then 3 else if V.lost = true ∨ D.off = true then 12 else if roomG S < m then 7 else 0
set_option maxRecDepth 100000 in
set_option maxHeartbeats 2000000 in
theorem refuses_any (h : Sg w K J G S V) (hd : Dsk w K D) (A : Option Addr) (m c : Nat) (hm : m ≤ 9223372036854775807) : Calls Tryz.prog 57 #[G.ptr, .slice A m c] w fun e w' => e = .returned (.int .i64 (refX D S V m)) ∧ Below w.heap.size w w' := by
  have Hm := Lib.hid (smade_any h)
  obtain ⟨_, c1, _, _, c4, _, c6⟩ := h.cells
  have Hr := Lib.hid (groom_any h)
  have Ho := Lib.hid (off_any hd)
  have HM := Lib.hid (fun W => Seal.most_any W)
  have hep := h.ep32
  unfold refX
  obtain ⟨r, hr⟩ : ∃ r, r = roomG S := ⟨_, rfl⟩
  obtain ⟨ep, he⟩ : ∃ ep, ep = V.ep := ⟨_, rfl⟩
  obtain ⟨lo, hlo⟩ : ∃ lo, lo = V.lost := ⟨_, rfl⟩
  obtain ⟨of, hof⟩ : ∃ of, of = D.off := ⟨_, rfl⟩
  rw [← hr] at Hr ⊢
  rw [← he] at c4 ⊢
  rw [← hlo] at c6 ⊢
  rw [← hof] at Ho ⊢
  unfold GK.ptr DK.ptr at *
  clear h hd hr he hlo hof hep
  by_cases h1 : ep = 0
  · rw [if_pos h1]
    subst h1
    go_enter Tryz.func57, Tryz.ntmps57
    go_wp2_with (go_at_call 51; refine Hm.out.mono ?_; rintro e w' ⟨rfl, rfl⟩)
    go_ret
    exact ⟨rfl, Below.refl _ _⟩
  have h1I : ((ep : Int) == 0) = false := by simp; omega
  rw [if_neg h1]
  clear h1
  by_cases h2 : 131068 < m
  · rw [if_pos h2]
    have h2I : (131068 : Int) < m := by omega
    clear h2
    go_enter Tryz.func57, Tryz.ntmps57
    go_wp2_with (first
      | (go_at_call 51; refine Hm.out.mono ?_; rintro e w' ⟨rfl, rfl⟩)
      | (go_at_call 87; refine (HM.out _).mono ?_; rintro e w' ⟨rfl, rfl⟩))
    go_ret
    exact ⟨rfl, Below.refl _ _⟩
  have h2I : ¬ (131068 : Int) < m := by omega
  rw [if_neg h2]
  clear h2
  by_cases h3 : lo = true ∨ of = true
  · rw [if_pos h3]
    cases lo with
    | true =>
      clear h3
      go_enter Tryz.func57, Tryz.ntmps57
      go_wp2_with (first
        | (go_at_call 51; refine Hm.out.mono ?_; rintro e w' ⟨rfl, rfl⟩)
        | (go_at_call 87; refine (HM.out _).mono ?_; rintro e w' ⟨rfl, rfl⟩))
      go_ret
      exact ⟨rfl, Below.refl _ _⟩
    | false =>
      obtain rfl : of = true := by simpa using h3
      clear h3
      go_enter Tryz.func57, Tryz.ntmps57
      go_wp2_with (first
        | (go_at_call 51; refine Hm.out.mono ?_; rintro e w' ⟨rfl, rfl⟩)
        | (go_at_call 87; refine (HM.out _).mono ?_; rintro e w' ⟨rfl, rfl⟩)
        | (go_at_call 29; refine Ho.out.mono ?_; rintro e w' ⟨rfl, rfl⟩))
      go_ret
      exact ⟨rfl, Below.refl _ _⟩
  rw [if_neg h3]
  obtain rfl : lo = false := by cases lo <;> simp_all
  obtain rfl : of = false := by cases of <;> simp_all
  clear h3
  by_cases h4 : r < (m : Int)
  · rw [if_pos h4]
    go_enter Tryz.func57, Tryz.ntmps57
    go_wp2_with (first
      | (go_at_call 51; refine Hm.out.mono ?_; rintro e w' ⟨rfl, rfl⟩)
      | (go_at_call 87; refine (HM.out _).mono ?_; rintro e w' ⟨rfl, rfl⟩)
      | (go_at_call 29; refine Ho.out.mono ?_; rintro e w' ⟨rfl, rfl⟩)
      | (go_at_call 30; refine Hr.out.mono ?_; rintro e w2 ⟨rfl, hb2⟩; have Hb2 := Lib.hid hb2; clear hb2))
    go_ret
    exact ⟨rfl, Hb2.out⟩
  · rw [if_neg h4]
    go_enter Tryz.func57, Tryz.ntmps57
    go_wp2_with (first
      | (go_at_call 51; refine Hm.out.mono ?_; rintro e w' ⟨rfl, rfl⟩)
      | (go_at_call 87; refine (HM.out _).mono ?_; rintro e w' ⟨rfl, rfl⟩)
      | (go_at_call 29; refine Ho.out.mono ?_; rintro e w' ⟨rfl, rfl⟩)
      | (go_at_call 30; refine Hr.out.mono ?_; rintro e w2 ⟨rfl, hb2⟩; have Hb2 := Lib.hid hb2; clear hb2))
    go_ret
    exact ⟨rfl, Hb2.out⟩
end
end Go.Proofs.YtkjhoanlkkcfkaaGreatDoor.Sgm
