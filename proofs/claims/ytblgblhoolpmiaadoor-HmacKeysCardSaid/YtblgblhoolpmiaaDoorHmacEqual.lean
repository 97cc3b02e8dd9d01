/- DERIVED. The contract of hmac.Equal: whether two slices of bytes are the same. -/
import Derived.Test.YtblgblhoolpmiaaDoorShaBlocks
import Derived.Laws.BitsAllLaws
import Derived.BigQuiet
import Derived.Deep.QuietTactic
namespace Go.Proofs.YtblgblhoolpmiaaDoor
open Go.RowKit
theorem xor_zero (a b : Int) (h1 : 0 ≤ a) (h2 : a < 256) (h3 : 0 ≤ b) (h4 : b < 256) : bits .xor .u8 a b = 0 ↔ a = b := by
  rw [u8_xor a b h1 h2 h3 h4]
  constructor
  · intro h
    have h' : a.toNat ^^^ b.toNat = 0 := by omega
    have h2' := congrArg (a.toNat ^^^ ·) h'
    simp only [← Nat.xor_assoc, Nat.xor_self, Nat.zero_xor, Nat.xor_zero] at h2'
    omega
  · rintro rfl
    simp
theorem or_zero (a b : Int) (h1 : 0 ≤ a) (h2 : a < 256) (h3 : 0 ≤ b) (h4 : b < 256) : bits .or .u8 a b = 0 ↔ a = 0 ∧ b = 0 := by
  rw [u8_or a b h1 h2 h3 h4]
  constructor
  · intro h
    have h' : a.toNat ||| b.toNat = 0 := by omega
    have := Nat.or_eq_zero_iff.1 h'
    omega
  · rintro ⟨rfl, rfl⟩
    rfl
theorem or_in (a b : Int) (h1 : 0 ≤ a) (h2 : a < 256) (h3 : 0 ≤ b) (h4 : b < 256) : 0 ≤ bits .or .u8 a b ∧ bits .or .u8 a b < 256 := by
  rw [u8_or a b h1 h2 h3 h4]
  have : a.toNat ||| b.toNat < 2 ^ 8 := Nat.or_lt_two_pow (by omega) (by omega)
  omega
theorem xor_in (a b : Int) (h1 : 0 ≤ a) (h2 : a < 256) (h3 : 0 ≤ b) (h4 : b < 256) : 0 ≤ bits .xor .u8 a b ∧ bits .xor .u8 a b < 256 := by
  rw [u8_xor a b h1 h2 h3 h4]
  have : a.toNat ^^^ b.toNat < 2 ^ 8 := Nat.xor_lt_two_pow (by omega) (by omega)
  omega
/-- d tells whether the first k bytes are the same. -/
def Same (L M : List Int) (k : Nat) (d : Int) : Prop := 0 ≤ d ∧ d < 256 ∧ (d = 0 ↔ ∀ j, j < k → L.getD j 0 = M.getD j 0)
theorem Same.next {L M : List Int} {k : Nat} {d : Int} (h : Same L M k d) (hL : InB L) (hM : InB M) : Same L M (k + 1) (bits .or .u8 d (bits .xor .u8 (L.getD k 0) (M.getD k 0))) := by
  obtain ⟨h1, h2, h3⟩ := h
  have hl := hL k
  have hm := hM k
  have hx := xor_in _ _ hl.1 hl.2 hm.1 hm.2
  refine ⟨(or_in _ _ h1 h2 hx.1 hx.2).1, (or_in _ _ h1 h2 hx.1 hx.2).2, ?_⟩
  rw [or_zero _ _ h1 h2 hx.1 hx.2, xor_zero _ _ hl.1 hl.2 hm.1 hm.2, h3]
  constructor
  · rintro ⟨ha, hb⟩ j hj
    by_cases e : j = k
    · rw [e]; exact hb
    · exact ha j (by omega)
  · intro h
    exact ⟨fun j hj => h j (by omega), h k (by omega)⟩
theorem Same.eq {L M : List Int} {n : Nat} {d : Int} (h : Same L M n d) (hL : L.length = n) (hM : M.length = n) : d = 0 ↔ L = M := by
  rw [h.2.2]
  constructor
  · intro h
    apply List.ext_getElem (by omega)
    intro j h1 h2
    have := h j (by omega)
    simpa [List.getD_eq_getElem?_getD, h1, h2] using this
  · rintro rfl j _
    rfl
def EqPost (L M : List Int) (n : Nat) (w : World) (e : Ending) (w' : World) : Prop := ∃ d q, Same L M n d ∧ e = .returned (.bool (d == 0)) ∧ w' = w.drewN q
set_option maxRecDepth 100000 in
set_option maxHeartbeats 1000000 in
theorem equal_loop (L M : List Int) (A A2 : Option Addr) (c c2 n : Nat) (w : World) (hn : L.length = n) (hm : M.length = n) (hb : InB L) (hb2 : InB M) (hB : Byt w A c L) (hB2 : Byt w A2 c2 M) (hx : n ≤ 9223372036854775807) :
    Calls Tryd.prog 22 #[.slice A n c, .slice A2 n c2] w (EqPost L M n w) := by
  have Hn := Lib.hid hn
  have Hm := Lib.hid hm
  have Hb := Lib.hid hb
  have Hb2 := Lib.hid hb2
  have HB := Lib.hid hB
  have HB2 := Lib.hid hB2
  clear hn hm hb hb2 hB hB2
  go_enter Tryd.func22, Tryd.ntmps22
  go_wp2
  go_loopw [5, 14] (fun v i wr => ∃ (k q : Nat) (d : Int), k ≤ n ∧ v = .int .u8 d ∧ i = .int .i64 k ∧ Hid (Same L M k d) ∧ Hid (wr = w.drewN q)) (fun _ i _ => n - (intOf i).toNat)
  case atStart => exact ⟨0, 0, 0, Nat.zero_le _, rfl, rfl, ⟨by omega, by omega, by simp⟩, rfl⟩
  case round =>
    obtain ⟨k, q, d, hk, rfl, rfl, hs, hwr⟩ := hrel
    by_cases hlt : k < n
    · obtain ⟨g, off, rfl, hg, hc⟩ := HB.out.2.2 (by rw [Hn.out]; omega)
      obtain ⟨g2, off2, rfl, hg2, hc2⟩ := HB2.out.2.2 (by rw [Hm.out]; omega)
      have c1 : wr.cell? ⟨g, off + k, none⟩ = some (.int .u8 (L.getD k 0)) := by rw [hwr.out]; exact hc k (by rw [Hn.out]; exact hlt)
      have c3 : wr.cell? ⟨g2, off2 + k, none⟩ = some (.int .u8 (M.getD k 0)) := by rw [hwr.out]; exact hc2 k (by rw [Hm.out]; exact hlt)
      obtain ⟨a, ha⟩ : ∃ a, a = L.getD k 0 := ⟨_, rfl⟩
      obtain ⟨b, hbb⟩ : ∃ b, b = M.getD k 0 := ⟨_, rfl⟩
      rw [← ha] at c1
      rw [← hbb] at c3
      have Ha := Lib.hid ha
      have Hbb := Lib.hid hbb
      have hlt' : (k : Int) < n := by omega
      clear hc hc2 ha hbb
      go_wp2
      go_quiet (fail)
      go_wp2
      go_roundw
      case rel =>
        refine ⟨k + 1, q + nq, _, by omega, rfl, by go_num, ?_, ?_⟩
        · show Same _ _ _ _
          rw [Ha.out, Hbb.out]; exact hs.out.next Hb.out Hb2.out
        · show wr.drewN nq = _
          rw [hwr.out, World.drewN_drewN]
      case measure => simp [intOf]; omega
    · have h64 : k = n := by omega
      rw [h64] at hs
      clear h64
      by_cases hd : d = 0
      · go_wp2
        go_ret
        exact ⟨d, q, hs.out, by rw [hd]; rfl, hwr.out⟩
      · go_wp2
        go_ret
        exact ⟨d, q, hs.out, by simp, hwr.out⟩
theorem equal_yes (L : List Int) (A A2 : Option Addr) (c c2 n : Nat) (w : World) (hn : L.length = n) (hb : InB L) (hB : Byt w A c L) (hB2 : Byt w A2 c2 L) (hx : n ≤ 9223372036854775807) :
    Calls Tryd.prog 22 #[.slice A n c, .slice A2 n c2] w fun e w' => e = .returned (.bool true) ∧ ∃ q, w' = w.drewN q := by
  refine (equal_loop L L A A2 c c2 n w hn hn hb hb hB hB2 hx).mono ?_
  rintro e w' ⟨d, q, hs, rfl, rfl⟩
  have := (hs.eq hn hn).2 rfl
  exact ⟨by rw [this]; rfl, q, rfl⟩
theorem equal_no (L M : List Int) (A A2 : Option Addr) (c c2 n m : Nat) (w : World) (hn : L.length = n) (hm : M.length = m) (hb : InB L) (hb2 : InB M) (hB : Byt w A c L) (hB2 : Byt w A2 c2 M) (hx : n ≤ 9223372036854775807) (hne : L ≠ M) :
    Calls Tryd.prog 22 #[.slice A n c, .slice A2 m c2] w fun e w' => e = .returned (.bool false) ∧ ∃ q, w' = w.drewN q := by
  by_cases e : n = m
  · subst e
    refine (equal_loop L M A A2 c c2 n w hn hm hb hb2 hB hB2 hx).mono ?_
    rintro e w' ⟨d, q, hs, rfl, rfl⟩
    have : d ≠ 0 := fun h => hne ((hs.eq hn hm).1 h)
    exact ⟨by simp [this], q, rfl⟩
  · have h1 : ¬ (n : Int) = m := by omega
    clear hB hB2 hn hm hb hb2
    go_enter Tryd.func22, Tryd.ntmps22
    go_wp2
    go_ret
    exact ⟨rfl, 0, rfl⟩
end Go.Proofs.YtblgblhoolpmiaaDoor
