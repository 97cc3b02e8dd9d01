/- DERIVED. The contract of codec.compsOf. -/
import Derived.Test.YtigfcmnknijobaaCodReadHash
namespace Go.Proofs.Ytigfcmnknijobaa.Cod
open Go.RowKit Str
theorem compOf_snoc (M : List Int) (x : Int) : compOf (M ++ [x]) = 256 * compOf M + x.toNat := by simp [compOf]
theorem fold_lt (M : List Int) (h : ∀ x ∈ M, 0 ≤ x ∧ x < 256) (a : Nat) : M.foldl (fun a x => 256 * a + x.toNat) a < (a + 1) * 256 ^ M.length := by
  induction M generalizing a with
  | nil => simp
  | cons x M ih =>
    have h1 := ih (fun y hy => h y (List.mem_cons_of_mem _ hy)) (256 * a + x.toNat)
    have h2 := h x (List.mem_cons_self ..)
    have h3 : (256 * a + x.toNat + 1) * 256 ^ M.length ≤ (a + 1) * 256 * 256 ^ M.length := Nat.mul_le_mul_right _ (by omega)
    rw [List.foldl_cons, List.length_cons, Nat.pow_succ, Nat.mul_comm (256 ^ M.length) 256, ← Nat.mul_assoc]
    omega
theorem compOf_pow (M : List Int) (h : ∀ x ∈ M, 0 ≤ x ∧ x < 256) : compOf M < 256 ^ M.length := by
  have := fold_lt M h 0
  simpa [compOf] using this
/-- one byte more. -/
theorem or8 (y : Nat) (x : Int) (hy : y < 72057594037927936) (x0 : 0 ≤ x) (x1 : x < 256) : bits .or .u64 (IntKind.u64.wrap ((y : Int) * 256)) x = ((256 * y + x.toNat : Nat) : Int) := by
  obtain ⟨a, rfl⟩ := Int.eq_ofNat_of_zero_le x0
  have hw : IntKind.u64.wrap ((y : Int) * 256) = ((y * 256 : Nat) : Int) := by
    rw [w64, Int.emod_eq_of_lt (by omega) (by omega)]
    simp
  rw [hw, u64_or_nat _ _ (by omega) (by omega)]
  congr 1
  rw [nat_join 8 (y * 256) a (by simp) (by omega)]
  simp [Nat.mul_comm]
set_option maxRecDepth 100000 in
set_option maxHeartbeats 1000000 in
theorem compsOf_any {M : List Int} {v : Value} {w : World} (hl : M.length = 8) (hb : InB M) (hv : SlB M v w) :
    Calls Try.prog 43 #[v] w fun e w' => e = .returned (.int .u64 (compOf M : Nat)) ∧ w = w' := by
  obtain ⟨A, c, rfl, hB⟩ := hv
  rw [hl]
  have Hl := Lib.hid hl
  have Hb := Lib.hid hb
  obtain ⟨g, off, rfl, hg, hc⟩ := hB.2.2 (by omega)
  have Hc := Lib.hid hc
  clear hl hb hB hc
  go_enter Try.func43, Try.ntmps43
  go_wp2
  go_loop [3, 8] (fun v i => ∃ k y : Nat, k ≤ 8 ∧ i = .int .i64 (k : Nat) ∧ v = .int .u64 (y : Nat) ∧ Hid (y = compOf (M.take k))) (fun _ i => 8 - (intOf i).toNat)
  case atStart => exact ⟨0, 0, Nat.zero_le _, rfl, rfl, rfl⟩
  case round =>
    obtain ⟨k, y, hk, rfl, rfl, hy⟩ := hrel
    by_cases hlt : k < 8
    · have cc := Hc.out k (by rw [Hl.out]; exact hlt)
      obtain ⟨x, hx⟩ : ∃ x, x = M.getD k 0 := ⟨_, rfl⟩
      have hx2 := Hb.out k
      have htk : M.take (k + 1) = M.take k ++ [M.getD k 0] := by
        rw [List.take_succ_eq_append_getElem (by rw [Hl.out]; exact hlt)]
        simp [List.getD_eq_getElem?_getD, Hl.out, hlt]
      rw [← hx] at cc hx2 htk
      obtain ⟨x0, x1⟩ := hx2
      have hyl : y < 72057594037927936 := by
        rw [hy.out]
        have h1 := compOf_pow (M.take k) (fun z hz => inB_get Hb.out z (List.mem_of_mem_take hz))
        have h2 : (M.take k).length ≤ 7 := by rw [List.length_take]; omega
        exact Nat.lt_of_lt_of_le h1 (Nat.pow_le_pow_right (by decide) h2)
      have hbit := or8 y x hyl x0 x1
      obtain ⟨y2, hy2⟩ : ∃ y2, y2 = 256 * y + x.toNat := ⟨_, rfl⟩
      rw [← hy2] at hbit
      have Hy2 : Hid (y2 = compOf (M.take (k + 1))) := by show _ = _; rw [hy2, htk, compOf_snoc, hy.out]
      have hlt' : (k : Int) < 8 := by omega
      clear hx htk hyl hy2
      go_wp2
      go_round
      case rel => exact ⟨k + 1, y2, by omega, by go_num, rfl, Hy2.out⟩
      case measure => simp [intOf]; omega
    · have hk8 : k = 8 := by omega
      have e : y = compOf M := by rw [hy.out, hk8, ← Hl.out, List.take_length]
      have He := Lib.hid e
      have hlt' : ¬ (k : Int) < 8 := by omega
      clear hk8 e hy
      go_wp2
      go_ret
      exact ⟨by rw [← He.out]; rfl, rfl⟩
/-- a label read: its Level and compartments. -/
def labelR (L : List Int) : (Nat × Nat) × List Int × Int :=
  if (cutL L 15).2.2 ≠ 0 then ((0, 0), [], 4) else if (cutL L 15).2.1.length < 8 then ((0, 0), [], 4)
  else (((cutL L 15).1, compOf ((cutL L 15).2.1.take 8)), (cutL L 15).2.1.drop 8, 0)
def labC (p : Nat × Nat) : Array Value := #[.int .i64 (p.1 : Nat), .int .u64 (p.2 : Nat)]
end Go.Proofs.Ytigfcmnknijobaa.Cod
