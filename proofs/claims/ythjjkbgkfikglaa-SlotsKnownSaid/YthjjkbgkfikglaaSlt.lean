/- DERIVED. The contracts of the slots' small functions: sectorsOf, headOf, length. -/
import Derived.Test.YthjjkbgkfikglaaSltSpec
import Derived.Test.YthjjkbgkfikglaaDskNew
namespace Go.Proofs.Ythjjkbgkfikglaa.Slt
open Go.RowKit Dsk
theorem ret_i64 {a b : Int} (h : a = b) : Ending.returned (.int .i64 a) = .returned (.int .i64 b) := by rw [h]
theorem sectorsOf_any (n : Nat) (h : n ≤ 4294967296) (w : World) : Calls Try.prog 31 #[.int .i64 n] w fun e w' => e = .returned (.int .i64 (tk n : Nat)) ∧ w = w' := by
  have h' : (n : Int) ≤ 4294967296 := by omega
  have hn : Hid ((5 + (n : Int) + 128 - 1) / 128 = ((tk n : Nat) : Int)) := by show _ = _; unfold tk; omega
  clear h
  go_enter Try.func31, Try.ntmps31
  go_wp2
  go_ret
  exact ⟨ret_i64 hn.out, rfl⟩
theorem info_head : (Try.prog.info? 90).map (·.size) = some 5 := by kernel_rfl
theorem headOf_any (n : Nat) (h : n ≤ 262144) (w : World) : Calls Try.prog 48 #[.int .i64 n] w fun e w' => e = .returned (.agg (u8s (0 :: be4 n))) ∧ Below w.heap.size w w' := by
  have h' : (n : Int) ≤ 262144 := by omega
  have hn : Hid ((u8s (0 :: be4 n)) = #[Value.int .u8 0, Value.int .u8 ((n : Int) / 16777216), Value.int .u8 ((n : Int) / 65536), Value.int .u8 ((n : Int) / 256 % 256), Value.int .u8 ((n : Int) % 256)]) := by
    show _ = _
    simp only [u8s, be4, List.map_cons, List.map_nil]
    rw [show ((n / 16777216 % 256 : Nat) : Int) = (n : Int) / 16777216 by omega, show ((n / 65536 % 256 : Nat) : Int) = (n : Int) / 65536 by omega, show ((n / 256 % 256 : Nat) : Int) = (n : Int) / 256 % 256 by omega, show ((n % 256 : Nat) : Int) = (n : Int) % 256 by omega]
  clear h
  go_enter Try.func48, Try.ntmps48
  go_wp2
  refine bodyPost_ret (results_cell_row rfl _ _ w.heap.size 90 _ _ _ rfl (Go.heap_alloc_new w _) Try.underlying90 rfl info_head) rfl ?_
  exact ⟨by rw [hn.out], (Below.refl _ _).alloc (Nat.le_refl _) _⟩
theorem or_u32 (a b : Nat) (ha : a < 4294967296) (hb : b < 4294967296) : bits .or .u32 (a : Int) (b : Int) = ((a ||| b : Nat) : Int) := by
  have hx : a ||| b < 2 ^ 32 := Nat.or_lt_two_pow (by omega) (by omega)
  have h1 : (BitVec.ofInt 32 (a : Int)).toNat = a := by
    rw [BitVec.ofInt_natCast, BitVec.toNat_ofNat]; exact Nat.mod_eq_of_lt (by omega)
  have h2 : (BitVec.ofInt 32 (b : Int)).toNat = b := by
    rw [BitVec.ofInt_natCast, BitVec.toNat_ofNat]; exact Nat.mod_eq_of_lt (by omega)
  show IntKind.u32.wrap ((BitVec.ofInt 32 (a : Int) ||| BitVec.ofInt 32 (b : Int)).toNat : Int) = _
  rw [BitVec.toNat_or, h1, h2, IntKind.wrap_u32']
  omega
theorem or_join (q i x : Nat) (hx : x < 2 ^ i) : q * 2 ^ i ||| x = q * 2 ^ i + x := by
  rw [Nat.mul_comm]; exact (Nat.two_pow_add_eq_or_of_lt hx q).symm
set_option maxRecDepth 10000 in
theorem or4 (b c d e : Int) (hb : 0 ≤ b ∧ b < 256) (hc : 0 ≤ c ∧ c < 256) (hd : 0 ≤ d ∧ d < 256) (he : 0 ≤ e ∧ e < 256) :
    bits BinOp.or IntKind.u32 (bits BinOp.or IntKind.u32 (bits BinOp.or IntKind.u32 (b * 16777216) (c * 65536)) (d * 256)) e = ((b.toNat * 16777216 + c.toNat * 65536 + d.toNat * 256 + e.toNat : Nat) : Int) := by
  obtain ⟨b, rfl⟩ := Int.eq_ofNat_of_zero_le hb.1
  obtain ⟨c, rfl⟩ := Int.eq_ofNat_of_zero_le hc.1
  obtain ⟨d, rfl⟩ := Int.eq_ofNat_of_zero_le hd.1
  obtain ⟨e, rfl⟩ := Int.eq_ofNat_of_zero_le he.1
  rw [show (b : Int) * 16777216 = ((b * 16777216 : Nat) : Int) by omega, show (c : Int) * 65536 = ((c * 65536 : Nat) : Int) by omega, show (d : Int) * 256 = ((d * 256 : Nat) : Int) by omega]
  rw [or_u32 _ _ (by omega) (by omega), show b * 16777216 ||| c * 65536 = b * 16777216 + c * 65536 from or_join b 24 _ (by omega)]
  rw [or_u32 _ _ (by omega) (by omega), show b * 16777216 + c * 65536 = (b * 256 + c) * 65536 by omega, show (b * 256 + c) * 65536 ||| d * 256 = (b * 256 + c) * 65536 + d * 256 from or_join (b * 256 + c) 16 _ (by omega)]
  rw [or_u32 _ _ (by omega) (by omega), show (b * 256 + c) * 65536 + d * 256 = ((b * 256 + c) * 256 + d) * 256 by omega, show ((b * 256 + c) * 256 + d) * 256 ||| e = ((b * 256 + c) * 256 + d) * 256 + e from or_join ((b * 256 + c) * 256 + d) 8 _ (by omega)]
  simp only [Int.toNat_natCast]
  exact congrArg (Int.ofNat ·) (by omega)
theorem ret_u32 {a b : Int} (h : a = b) : Ending.returned (.int .u32 a) = .returned (.int .u32 b) := by rw [h]
theorem length_any (l : List Int) (hl : l.length = 5) (hi : InB l) (w : World) : Calls Try.prog 50 #[.agg (u8s l)] w fun e w' => e = .returned (.int .u32 (lenB l : Nat)) ∧ Below w.heap.size w w' := by
  match l, hl with
  | [a, b, c, d, e], _ =>
    have hb : 0 ≤ b ∧ b < 256 := hi 1
    have hc : 0 ≤ c ∧ c < 256 := hi 2
    have hd : 0 ≤ d ∧ d < 256 := hi 3
    have he : 0 ≤ e ∧ e < 256 := hi 4
    have ho := Lib.hid (or4 b c d e hb hc hd he)
    have hq : Hid (lenB [a, b, c, d, e] = b.toNat * 16777216 + c.toNat * 65536 + d.toNat * 256 + e.toNat) := rfl
    simp only [u8s, List.map_cons, List.map_nil]
    clear hi
    go_enter Try.func50, Try.ntmps50
    go_wp2
    go_ret
    exact ⟨ret_u32 (by rw [hq.out]; exact ho.out), (Below.refl _ _).alloc (Nat.le_refl _) _⟩
end Go.Proofs.Ythjjkbgkfikglaa.Slt
