/- DERIVED. The reference of layer 10: Front. -/
import Derived.Test.YtlofnpebknfmkaaEpoMath
import Derived.Test.YtlofnpebknfmkaaAppend
import Derived.Test.YtlofnpebknfmkaaOwn
import Derived.Test.YtlofnpebknfmkaaStr
import Derived.Test.YtlofnpebknfmkaaDskClone
namespace Go.Proofs.Ytlofnpebknfmkaa.Epo
open Go.RowKit Dsk
/-- so many ones at the front of k bytes. -/
def frontP (p k : Nat) : List Int := (List.range k).map fun i => if i < p then 1 else 0
theorem frontP_len (p k : Nat) : (frontP p k).length = k := by simp [frontP]
theorem frontP_yes {p k : Nat} (h : k < p) : frontP p (k + 1) = frontP p k ++ [1] := by
  simp [frontP, List.range_succ, h]
theorem frontP_no {p k : Nat} (h : ¬ k < p) : frontP p (k + 1) = frontP p k ++ [0] := by
  simp [frontP, List.range_succ, h]
theorem frontP_get {p k j : Nat} (h : j < k) : (frontP p k).getD j 0 = if j < p then 1 else 0 := by
  simp [frontP, List.getD_eq_getElem?_getD, h]
theorem frontP_in (p k : Nat) : InB (frontP p k) := fun j => by
  by_cases h : j < k
  · rw [frontP_get h]; split <;> decide
  · rw [List.getD_eq_getElem?_getD, List.getElem?_eq_none (by rw [frontP_len]; omega)]; decide
def lenV : Value → Nat
  | .slice _ n _ => n
  | _ => 0
set_option maxRecDepth 100000 in
set_option maxHeartbeats 2000000 in
theorem front_own (p : Nat) (w : World) :
    Calls Try.prog 15 #[.int .i64 p, .int .i64 384] w fun e w' => ∃ v, e = .returned v ∧ w'.ownsRow w.heap.size 5 1 v 384 (vals (frontP p 384)) ∧ Below w.heap.size w w' := by
  go_enter Try.func15, Try.ntmps15
  go_upto_region 3 with (fail)
  go_loopw [5, 6] (fun v5 v6 wr => ∃ (k : Nat) (A : Option Addr) (c : Nat), k ≤ 384 ∧ v6 = .int .i64 k ∧ v5 = .slice A k c ∧ Hid (wr.ownsRow w.heap.size 5 1 (.slice A k c) k (vals (frontP p k))) ∧ Hid (Below w.heap.size w wr)) (fun _ v _ => 384 - (intOf v).toNat)
  case atStart => exact ⟨0, none, 0, Nat.zero_le _, rfl, rfl, World.ownsRow_nil _ _ _ _, Below.refl _ _⟩
  case round =>
    obtain ⟨k, A, c, hk, rfl, rfl, hown, hlow⟩ := hrel
    by_cases hlt : k < 384
    · have hltI : (k : Int) < 384 := by omega
      by_cases hkp : k < p
      · have hkpI : (k : Int) < (p : Int) := by omega
        have hby := Str.byt_rowT (l := [1]) (n := 1) (Go.heap_alloc_new wr (.cells #[.int .u8 1] 5)) rfl
        have Hby := Lib.hid hby
        have Hown := Lib.hid (own_stays hown.out ((Below.refl wr.heap.size wr).alloc (Nat.le_refl _) (.cells #[.int .u8 1] 5)))
        clear hby hown
        go_wp2_with (at_builtin; refine wpList_append_any rfl (.tmp 15) (.tmp 16) rfl w.heap.size _ k _ rfl Hown.out (some ⟨_, 0, none⟩) 1 1 [1] rfl rfl Hby.out (by omega) (Nat.le_trans hlow.out.size (by rw [World.size_alloc]; omega)) ?_; intro v3 w3 hown3 hlow3; obtain ⟨A3, c3, hv3⟩ := own_nilK hown3; subst hv3; have Own3 := Lib.hid hown3; have Low3 := Lib.hid (hlow3 _ _ (hlow.out.alloc hlow.out.size _) (Nat.le_refl _)); clear hown3 hlow3)
        refine ⟨⟨k + 1, A3, c3, hlt, by go_num, rfl, by rw [frontP_yes hkp]; exact Own3.out, Low3.out⟩, by simp [intOf] <;> omega⟩
      · have hkpI : ¬ (k : Int) < (p : Int) := by omega
        have hby := Str.byt_rowT (l := [0]) (n := 1) (Go.heap_alloc_new wr (.cells #[.int .u8 0] 5)) rfl
        have Hby := Lib.hid hby
        have Hown := Lib.hid (own_stays hown.out ((Below.refl wr.heap.size wr).alloc (Nat.le_refl _) (.cells #[.int .u8 0] 5)))
        clear hby hown
        go_wp2_with (at_builtin; refine wpList_append_any rfl (.tmp 18) (.tmp 19) rfl w.heap.size _ k _ rfl Hown.out (some ⟨_, 0, none⟩) 1 1 [0] rfl rfl Hby.out (by omega) (Nat.le_trans hlow.out.size (by rw [World.size_alloc]; omega)) ?_; intro v3 w3 hown3 hlow3; obtain ⟨A3, c3, hv3⟩ := own_nilK hown3; subst hv3; have Own3 := Lib.hid hown3; have Low3 := Lib.hid (hlow3 _ _ (hlow.out.alloc hlow.out.size _) (Nat.le_refl _)); clear hown3 hlow3)
        refine ⟨⟨k + 1, A3, c3, hlt, by go_num, rfl, by rw [frontP_no hkp]; exact Own3.out, Low3.out⟩, by simp [intOf] <;> omega⟩
    · have hltI : ¬ (k : Int) < 384 := by omega
      obtain rfl : k = 384 := by omega
      go_wp2
      go_ret
      exact ⟨_, rfl, hown.out, hlow.out⟩
theorem front_any (p : Nat) (w : World) : Calls Try.prog 15 #[.int .i64 p, .int .i64 384] w fun e w' => ∃ v, e = .returned v ∧ SlB (frontP p 384) v w' ∧ Below w.heap.size w w' :=
  (front_own p w).mono fun _ _ ⟨v, e, hown, hb⟩ => ⟨v, e, own_sl hown (frontP_len _ _), hb⟩
end Go.Proofs.Ytlofnpebknfmkaa.Epo
