/- DERIVED. A slice of slices of bytes, as one word; Concat over it. -/
import Derived.Test.YtigfcmnknijobaaCodComps
import Derived.Test.YtigfcmnknijobaaSl
import Derived.Deep.RegionWith
import Derived.Deep.WholeRow
namespace Go.Proofs.Ytigfcmnknijobaa.Cod
open Go.RowKit Str
/-- new bytes of the call's own. -/
def NewB (B : Nat) (M : List Int) (v : Value) (w : World) : Prop := w.ownsRow B 5 1 v M.length (vals M)
theorem own_keep {w w' : World} {base n : Nat} {e : TypeId} {v : Value} {xs : List Value} (h : w.ownsRow base e 1 v n xs) (hb : Below w.heap.size w w') : w'.ownsRow base e 1 v n xs := by
  refine ⟨h.1, ?_⟩
  rcases h.2 with h | ⟨g, cap, cur, hv, h1, h2, h3⟩
  · exact .inl h
  · exact .inr ⟨g, cap, cur, hv, h1, (hb.block g (Array.getElem?_eq_some_iff.1 h2).1).trans h2, h3⟩
theorem NewB.later {B : Nat} {M : List Int} {v : Value} {w w' : World} (h : NewB B M v w) (hb : Below w.heap.size w w') : NewB B M v w' := own_keep h hb
theorem NewB.base {B B' : Nat} {M : List Int} {v : Value} {w : World} (h : NewB B M v w) (hb : B' ≤ B) : NewB B' M v w := own_base h hb
theorem NewB.sl {B : Nat} {M : List Int} {v : Value} {w : World} (h : NewB B M v w) : SlB M v w := by
  obtain ⟨A, c, e, _, b⟩ := own_byt h
  exact ⟨A, c, e, b⟩
/-- a slice of slices that read so. -/
def RowsM (Ms : List (List Int)) (v : Value) (w : World) : Prop := ∃ (g : Nat) (ps : List Part), v = .slice (some ⟨g, 0, none⟩) Ms.length Ms.length ∧ ps.map (·.M) = Ms ∧ w.heap[g]? = some (.cells (ps.map Part.val).toArray 22 (0, 0)) ∧ ∀ p ∈ ps, Byt w p.A p.c p.M
theorem RowsM.later {Ms : List (List Int)} {v : Value} {w w' : World} (h : RowsM Ms v w) (hb : Below w.heap.size w w') : RowsM Ms v w' := by
  obtain ⟨g, ps, e, hm, hr, hp⟩ := h
  exact ⟨g, ps, e, hm, (hb.block g (Array.getElem?_eq_some_iff.1 hr).1).trans hr, fun p h => (hp p h).below hb (Nat.le_refl _)⟩
theorem RowsM.two {a b : List Int} {va vb : Value} {w : World} (ha : SlB a va w) (hb : SlB b vb w) : RowsM [a, b] (.slice (some ⟨w.heap.size, 0, none⟩) 2 2) (w.alloc (.cells #[va, vb] 22)) := by
  obtain ⟨A1, c1, rfl, b1⟩ := ha
  obtain ⟨A2, c2, rfl, b2⟩ := hb
  refine ⟨_, [⟨A1, c1, a⟩, ⟨A2, c2, b⟩], rfl, rfl, Go.heap_alloc_new w _, fun p hp => ?_⟩
  rcases List.mem_cons.1 hp with rfl | hp
  · exact b1.alloc _
  rcases List.mem_cons.1 hp with rfl | hp
  · exact b2.alloc _
  cases hp
theorem RowsM.three {a b c : List Int} {va vb vc : Value} {w : World} (ha : SlB a va w) (hb : SlB b vb w) (hc : SlB c vc w) : RowsM [a, b, c] (.slice (some ⟨w.heap.size, 0, none⟩) 3 3) (w.alloc (.cells #[va, vb, vc] 22)) := by
  obtain ⟨A1, c1, rfl, b1⟩ := ha
  obtain ⟨A2, c2, rfl, b2⟩ := hb
  obtain ⟨A3, c3, rfl, b3⟩ := hc
  refine ⟨_, [⟨A1, c1, a⟩, ⟨A2, c2, b⟩, ⟨A3, c3, c⟩], rfl, rfl, Go.heap_alloc_new w _, fun p hp => ?_⟩
  rcases List.mem_cons.1 hp with rfl | hp
  · exact b1.alloc _
  rcases List.mem_cons.1 hp with rfl | hp
  · exact b2.alloc _
  rcases List.mem_cons.1 hp with rfl | hp
  · exact b3.alloc _
  cases hp
theorem concat_rows (Ms : List (List Int)) (v : Value) (w : World) (h : RowsM Ms v w) (hm5 : Ms.length ≤ 1000) (hp : 0 < Ms.flatten.length) (hle : Ms.flatten.length ≤ 50000) :
    Calls Try.prog 46 #[v] w fun e' w' => ∃ v', e' = .returned v' ∧ NewB w.heap.size Ms.flatten v' w' ∧ Below w.heap.size w w' := by
  obtain ⟨g, ps, rfl, hm, hr, hb⟩ := h
  have hc : catP ps = Ms.flatten := by rw [← hm]; simp [catP, List.flatMap_def]
  have hl : ps.length = Ms.length := by rw [← hm, List.length_map]
  rw [← hc] at hp hle ⊢
  refine (concat_any ps g Ms.length w hl hm5 hp hle (fun j h => ?_) (fun j h => hb _ (List.getElem_mem h))).mono ?_
  · rw [cell_row hr]
    simp [h]
  · rintro e' w' ⟨c, rfl, own, low⟩
    exact ⟨_, rfl, own, low⟩
theorem digits_new (n : Nat) (hn : n < 18446744073709551616) (w : World) :
    Calls Try.prog 47 #[.int .u64 (n : Nat)] w fun e w' => ∃ v, e = .returned v ∧ NewB w.heap.size (encN n) v w' ∧ Below w.heap.size w w' := digits_any n hn w
/-- a number modulo 2^64. -/
def uN (n : Int) : Nat := (n % 18446744073709551616).toNat
theorem uN_lt (n : Int) : uN n < 18446744073709551616 := by
  unfold uN; have := Int.emod_nonneg n (show (18446744073709551616 : Int) ≠ 0 by decide); have := Int.emod_lt_of_pos n (show (0 : Int) < 18446744073709551616 by decide); omega
theorem uN_cast (n : Int) : ((uN n : Nat) : Int) = n % 18446744073709551616 := by
  unfold uN; have := Int.emod_nonneg n (show (18446744073709551616 : Int) ≠ 0 by decide); omega
theorem uN_nat (n : Nat) (h : n < 18446744073709551616) : uN (n : Int) = n := by
  have := uN_cast n
  rw [Int.emod_eq_of_lt (by omega) (by omega)] at this
  omega
theorem w64 (n : Int) : IntKind.u64.wrap n = n % 18446744073709551616 := by
  simp [IntKind.wrap, IntKind.bits, IntKind.signed]
theorem wrap_uN (n : Int) : IntKind.u64.wrap n = (uN n : Nat) := by rw [uN_cast, w64]
theorem wrap_add2 (n : Int) : IntKind.u64.wrap (IntKind.u64.wrap n + 2) = (uN (n + 2) : Nat) := by
  rw [uN_cast, w64, w64]; omega
end Go.Proofs.Ytigfcmnknijobaa.Cod
