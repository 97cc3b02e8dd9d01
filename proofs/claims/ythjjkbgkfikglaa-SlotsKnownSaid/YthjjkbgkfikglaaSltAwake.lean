/- DERIVED. The contract of layer 9's awake. -/
import Derived.Test.YthjjkbgkfikglaaSltGiven
import Derived.Test.YthjjkbgkfikglaaSltSame
import Derived.Lib.SlBytesConst
import Derived.Deep.CutRange
namespace Go.Proofs.Ythjjkbgkfikglaa.Slt
open Go.RowKit Dsk
def abL : List Int := [97, 98]
def D3a : DS := (appD (newD 3) (newS 3) abL).1
def S3a : LS := { newS 3 with used := 1, texts := [abL] }
theorem app3_s : (appD (newD 3) (newS 3) abL).2.1 = S3a := by kernel_rfl
theorem app3_e : (appD (newD 3) (newS 3) abL).2.2 = 0 := by kernel_rfl
theorem D3a_len : D3a.data.length = 384 := by kernel_rfl
theorem D3a_8 : D3a.data.take 8 = [1, 0, 0, 0, 2, 97, 98, 0] := by kernel_rfl
theorem room3 : roomI (S3a.secs - S3a.used) = 251 := by kernel_rfl
theorem ab_in : InB abL := inb_cons (by decide) (inb_cons (by decide) inb_nil)
theorem app_ab {w0 w : World} {K : DK} {J : LK} {c : Nat} {ad : Addr} (h : St w0 w K J (newD 3) (newS 3)) (hB : Byt w (some ad) c abL) (hk : ad.block ∉ K.bl) :
    Calls Try.prog 15 #[.pointer (some ⟨J.g, 0, none⟩), .slice (some ad) 2 c] w fun e w' => ∃ J', e = .returned (.int .i64 0) ∧ J'.g = J.g ∧ St w0 w' K J' D3a S3a := by
  refine (append_any h.dsk h.lg (some ad) 2 c abL rfl hB (fun _ a ha => by cases ha; exact hk) ab_in (by rw [newD_secs]; decide) (by decide)).mono ?_
  rintro e w' ⟨J', rfl, q⟩
  rw [app3_s] at q
  exact ⟨J', by rw [app3_e], q.g, h.app q⟩
theorem bytes_3a {w0 w : World} {K : DK} {J : LK} {S : LS} (h : St w0 w K J D3a S) : Calls Try.prog 11 #[.pointer (some ⟨K.g, 0, none⟩)] w fun e w' => ∃ g c, e = .returned (.slice (some ⟨g, 0, none⟩) 384 c) ∧ (Byt w' (some ⟨g, 0, none⟩) c D3a.data ∧ 384 ≤ c) ∧ St w0 w' K J D3a S := by
  refine (bytes_any h.dsk).mono ?_
  rintro e w' ⟨v, rfl, ho, hb⟩
  rw [D3a_len] at ho
  obtain ⟨g, sp, rfl, hg, hh⟩ := own_shape ho D3a_len (by decide)
  exact ⟨g, _, rfl, ⟨⟨by rw [D3a_len]; omega, (fun h => by cases h), fun _ => ⟨g, 0, rfl, (Array.getElem?_eq_some_iff.1 hh).1, fun j hj => by rw [Nat.zero_add]; exact body_cell (K := ⟨0, g, sp⟩) hh j hj⟩⟩, by omega⟩, h.later hb⟩
theorem room_3a {w0 w : World} {K : DK} {J : LK} {D : DS} {g : Nat} (h : St w0 w K J D S3a) (hg : J.g = g) : Calls Try.prog 16 #[.pointer (some ⟨g, 0, none⟩)] w fun e w' => e = .returned (.int .i64 251) ∧ St w0 w' K J D S3a := by
  subst hg
  refine (room_any h.lg).mono ?_
  rintro e w' ⟨rfl, hb⟩
  rw [room3]
  exact ⟨rfl, h.later hb⟩
theorem used_st {w0 w : World} {K : DK} {J : LK} {D : DS} {S : LS} {g : Nat} (h : St w0 w K J D S) (hg : J.g = g) : Calls Try.prog 22 #[.pointer (some ⟨g, 0, none⟩)] w fun e w' => e = .returned (.int .i64 S.used) ∧ w = w' := by
  subst hg
  exact used_any h.lg
theorem used_1 {w0 w : World} {K : DK} {J : LK} {D : DS} {g : Nat} (h : St w0 w K J D S3a) (hg : J.g = g) : Calls Try.prog 22 #[.pointer (some ⟨g, 0, none⟩)] w fun e w' => e = .returned (.int .i64 1) ∧ w = w' := used_st h hg
theorem str8 {w : World} {g c : Nat} (h : Byt w (some ⟨g, 0, none⟩) c D3a.data) : (convert 33 9 (.slice (some ⟨g, 0, none⟩) 8 c)).run Try.prog w = .ok (.string { data := #[1, 0, 0, 0, 2, 97, 98, 0] }) w := by
  have h1 := Str.conv_any (n := 8) (Str.byt_take h 8) (by rw [D3a_8]; rfl)
  rw [D3a_8] at h1
  exact h1
theorem given_3 (w : World) : Calls Try.prog 14 #[.int .i64 3] w fun e w' => ∃ K J, e = .returned (.tuple #[.pointer (some ⟨K.g, 0, none⟩), .pointer (some ⟨J.g, 0, none⟩)]) ∧ St w w' K J (newD 3) (newS 3) := given_any w 3 (by decide) (by decide)
theorem const_byt (w : World) (L : List Int) (n : Nat) (hn : L.length = n) (fr : Nat × Nat) : Byt (w.alloc (.cells (u8s L) 5 fr)) (some ⟨w.heap.size, 0, none⟩) n L :=
  Str.byt_rowT (Go.heap_alloc_new w _) hn
theorem st_new {w0 w : World} {K : DK} {J : LK} {D : DS} {S : LS} (h : St w0 w K J D S) : w.heap.size ∉ K.bl := fun hm => by
  simp [DK.bl] at hm
  have h1 := h.dsk.glt
  have h2 := h.dsk.hlt
  omega
set_option maxRecDepth 100000 in
set_option maxHeartbeats 1000000 in
theorem awake_any (w : World) : Calls Try.prog 7 #[] w fun e w' => e = .returned (.bool true) ∧ Below w.heap.size w w' := by
  have hp := pne
  have kconst := fun (w : World) (C : Array Value) (n c : Nat) => Lib.run_convert_bytes_const (P := Try.prog) w 33 5 C n c Try.underlying33 Try.underlying5
  go_enter Try.func7, Try.ntmps7
  go_upto_region 5 with (first
    | (go_at_call 14; refine (given_3 w).mono ?_; rintro e w1 ⟨K, J, rfl, hq1⟩; have Q1 := Lib.hid hq1; clear hq1)
    | (go_at_call 15; refine (app_ab (Q1.out.later ((Below.refl _ _).alloc (Nat.le_refl _) _)) (const_byt w1 abL 2 rfl _) (st_new Q1.out)).mono ?_; rintro e w2 ⟨J2, rfl, hg2, hq2⟩; have Q2 := Lib.hid hq2; have G2 := Lib.hid hg2; clear hq2 hg2)
    | (go_at_call 11; refine (bytes_3a Q2.out).mono ?_; rintro e w3 ⟨g3, c3, rfl, hb3, hq3⟩; have Q3 := Lib.hid hq3; have B3 := Lib.hid hb3; clear hq3 hb3))
  have k1 := str8 B3.out.1
  have h8 : 8 ≤ c3 := by have := B3.out.2; omega
  have h8I : (8 : Int) ≤ (c3 : Int) := by omega
  go_wp2_with (first
    | (go_at_call 16; refine (room_3a Q3.out G2.out).mono ?_; rintro e w4 ⟨rfl, hq4⟩; have Q4 := Lib.hid hq4; clear hq4)
    | (go_at_call 22; refine (used_1 Q4.out G2.out).mono ?_; rintro e w5 ⟨rfl, rfl⟩))
  go_ret
  exact ⟨rfl, Q4.out.low⟩
end Go.Proofs.Ythjjkbgkfikglaa.Slt
