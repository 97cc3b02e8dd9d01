/- DERIVED. The contracts of bytes.Clone, codec.Open. -/
import Derived.Test.YtigfcmnknijobaaCodReadNum
import Derived.Test.YtigfcmnknijobaaAppend
import Derived.WalkSpells
namespace Go.Proofs.Ytigfcmnknijobaa.Cod
open Go.RowKit Str
set_option maxHeartbeats 1000000 in
theorem clone_any {L : List Int} {v : Value} {w : World} (hv : SlB L v w) (hle : L.length ≤ 50000) :
    Calls Try.prog 14 #[v] w fun e w' => ∃ v', e = .returned v' ∧ SlB L v' w' ∧ Below w.heap.size w w' := by
  obtain ⟨A, c, rfl, hB⟩ := hv
  cases A with
  | none =>
    have hc := hB.2.1 rfl
    have h0 : L.length = 0 := by have := hB.1; omega
    obtain rfl : L = [] := List.eq_nil_of_length_eq_zero h0
    subst hc
    have hne := fun (w : World) => Lib.run_eql_slice_nil w 22 5 none 0 0 0 0 Try.underlying22
    clear hB h0
    go_enter Try.func14, Try.ntmps14
    go_wp2
    go_ret
    exact ⟨_, rfl, slb_nil _, Below.refl _ _⟩
  | some ad =>
    obtain ⟨n, hn⟩ : ∃ n, n = L.length := ⟨_, rfl⟩
    rw [← hn] at hle ⊢
    have HB := Lib.hid hB
    have Hn := Lib.hid hn
    have hmade := World.ownsRow_made w (base := w.heap.size) (e := 5) (size := 1) #[] 0 (Nat.le_refl _) (Nat.zero_le _) rfl
    have Hmade := Lib.hid hmade
    have hne := fun (w : World) => Lib.run_eql_slice_nil w 22 5 (some ad) n c 0 0 Try.underlying22
    clear hB hn hmade
    go_enter Try.func14, Try.ntmps14
    go_wp2_with (at_builtin; refine wpList_append_any rfl (.tmp 5) (.tmp 6) rfl w.heap.size _ 0 [] rfl Hmade.out (some ad) n c L rfl Hn.out.symm (HB.out.alloc _) (by omega) (by rw [World.size_alloc]; omega) ?_; intro v1 w1 hown1 hlow1; have Hown1 := Lib.hid hown1; have Hlow1 := Lib.hid hlow1; clear hown1 hlow1)
    go_ret
    obtain ⟨A1, c1, hv, hl, hb⟩ := own_byt Hown1.out
    refine ⟨_, rfl, ⟨A1, c1, by rw [List.nil_append] at hl; rw [hl]; exact hv, hb⟩, Hlow1.out _ _ ((Below.refl _ _).alloc (Nat.le_refl _) _) (Nat.le_refl _)⟩
set_option maxHeartbeats 1000000 in
theorem open_any {L : List Int} {v : Value} {w : World} (hv : SlB L v w) (hle : L.length ≤ 50000) :
    Calls Try.prog 5 #[v] w fun e w' => ∃ rb, e = .returned (.pointer (some ⟨rb, 0, none⟩)) ∧ w.heap.size ≤ rb ∧ Rdr rb L 0 w' ∧ Below w.heap.size w w' := by
  have Hc := Lib.hid (clone_any hv hle)
  clear hv
  go_enter Try.func5, Try.ntmps5
  go_wp2_with (go_at_call 14; refine Hc.out.mono ?_; rintro e w1 ⟨v1, rfl, hs1, low1⟩; obtain ⟨A1, c1, rfl, hb1⟩ := hs1; have Hb1 := Lib.hid hb1; have Low1 := Lib.hid low1; clear hb1 low1)
  go_ret
  have hsz := Low1.out.size
  exact ⟨w1.heap.size, rfl, hsz, ⟨_, Go.heap_alloc_new w1 _, A1, c1, rfl, Hb1.out.alloc _⟩, Low1.out.alloc hsz _⟩
end Go.Proofs.Ytigfcmnknijobaa.Cod
