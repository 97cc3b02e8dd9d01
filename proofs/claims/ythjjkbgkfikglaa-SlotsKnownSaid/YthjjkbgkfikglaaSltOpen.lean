/- DERIVED. The contract of slots.Open where it refuses. -/
import Derived.Test.YthjjkbgkfikglaaSltIter
import Derived.Test.YthjjkbgkfikglaaDskBad
namespace Go.Proofs.Ythjjkbgkfikglaa.Slt
open Go.RowKit Dsk
/-- what Open returns lies in two cells. -/
theorem open_results {fn : Func} (h : fn.results = #[.cell 6 37, .cell 7 28]) {tmps : Array Value} {w : World} {a b : Nat} {x : Option Addr} {y : Int} (ha : tmps.getD 6 undef = .pointer (some ⟨a, 0, none⟩)) (hb : tmps.getD 7 undef = .pointer (some ⟨b, 0, none⟩)) (hx : w.cell? ⟨a, 0, none⟩ = some (.pointer x)) (hy : w.cell? ⟨b, 0, none⟩ = some (.int .i64 y)) :
    (results fn tmps).run Try.prog w = .ok (.tuple #[.pointer x, .int .i64 y]) w := by
  have ha' : tmps[6]?.getD undef = .pointer (some ⟨a, 0, none⟩) := by simpa using ha
  have hb' : tmps[7]?.getD undef = .pointer (some ⟨b, 0, none⟩) := by simpa using hb
  simp [results, h, ha', hb', go_sem, hx, hy]
theorem two_boxes (w : World) (x : Option Addr) (y : Int) : ((w.alloc (.cells #[.pointer x] 37)).alloc (.cells #[.int .i64 y] 28)).cell? ⟨w.heap.size, 0, none⟩ = some (.pointer x) ∧ ((w.alloc (.cells #[.pointer x] 37)).alloc (.cells #[.int .i64 y] 28)).cell? ⟨w.heap.size + 1, 0, none⟩ = some (.int .i64 y) ∧ Below w.heap.size w ((w.alloc (.cells #[.pointer x] 37)).alloc (.cells #[.int .i64 y] 28)) := by
  have h := two_new w (.cells #[.pointer x] 37) (.cells #[.int .i64 y] 28)
  exact ⟨cell_row h.1 0, cell_row h.2 0, ((Below.refl w.heap.size w).alloc (Nat.le_refl _) _).alloc (by rw [World.size_alloc]; omega) _⟩
theorem open_nil {v : Value} {w : World} (h : BadD v w) (a b : Int) : Calls Try.prog 18 #[v, .int .i64 a, .int .i64 b] w fun e w' => e = .returned (.tuple #[.pointer none, .int .i64 1]) ∧ Below w.heap.size w w' := by
  have hs := fun (w' : World) (hb : Below w.heap.size w w') => bad_sectors (h.later hb)
  have Hs := Lib.hid hs
  clear h hs
  go_enter Try.func18, Try.ntmps18
  go_wp2_with (go_at_call 36; refine (Hs.out _ (((Below.refl w.heap.size w).alloc (Nat.le_refl _) _).alloc (by rw [World.size_alloc]; omega) _)).mono ?_; rintro e w' ⟨rfl, rfl⟩)
  obtain ⟨h1, h2, h3⟩ := two_boxes w none 1
  refine bodyPost_ret (open_results rfl rfl rfl h1 h2) rfl ?_
  exact ⟨rfl, h3⟩
theorem open_few {w : World} {K : DK} {D : DS} (h : Dsk w K D) (a b : Int) (hb : b < 1) : Calls Try.prog 18 #[K.ptr, .int .i64 a, .int .i64 b] w fun e w' => e = .returned (.tuple #[.pointer none, .int .i64 2]) ∧ Below w.heap.size w w' := by
  have hs := fun (w' : World) (hb : Below w.heap.size w w') => sectors_count (h.later hb)
  have h1 : 0 < D.secs := h.ok.one
  obtain ⟨s, hs'⟩ : ∃ s, s = D.secs := ⟨_, rfl⟩
  rw [← hs'] at hs h1
  have Hs := Lib.hid hs
  have hsI : ¬ (s : Int) = 0 := by omega
  clear h hs hs'
  unfold DK.ptr at *
  go_enter Try.func18, Try.ntmps18
  go_wp2_with (go_at_call 36; refine (Hs.out _ (((Below.refl w.heap.size w).alloc (Nat.le_refl _) _).alloc (by rw [World.size_alloc]; omega) _)).mono ?_; rintro e w' ⟨rfl, rfl⟩)
  obtain ⟨h1, h2, h3⟩ := two_boxes w none 2
  refine bodyPost_ret (open_results rfl rfl rfl h1 h2) rfl ?_
  exact ⟨rfl, h3⟩
theorem open_no {w : World} {K : DK} {D : DS} (h : Dsk w K D) (a b : Int) (hb : 1 ≤ b) (ha : a ≤ 9223372036854775807) (e0 : refE D (withinI a b D.secs) ≠ 0) : Calls Try.prog 18 #[K.ptr, .int .i64 a, .int .i64 b] w fun e w' => e = .returned (.tuple #[.pointer none, .int .i64 (refE D (withinI a b D.secs))]) ∧ Below w.heap.size w w' := by
  have hs := fun (w' : World) (hb : Below w.heap.size w w') => sectors_count (h.later hb)
  have hr := fun (w' : World) (hb : Below w.heap.size w w') => read_no (h.later hb) a b ha e0
  have h1 : 0 < D.secs := h.ok.one
  obtain ⟨s, hs'⟩ : ∃ s, s = D.secs := ⟨_, rfl⟩
  rw [← hs'] at hs h1 hr e0 ⊢
  obtain ⟨E, hE⟩ : ∃ E, E = refE D (withinI a b s) := ⟨_, rfl⟩
  rw [← hE] at hr e0 ⊢
  have Hs := Lib.hid hs
  have Hr := Lib.hid hr
  have hsI : ¬ (s : Int) = 0 := by omega
  have hEn : ¬ E = 0 := e0
  clear h hs hs' hr hE e0
  unfold DK.ptr at *
  go_enter Try.func18, Try.ntmps18
  go_wp2_with (first
    | (go_at_call 36; refine (Hs.out _ (((Below.refl w.heap.size w).alloc (Nat.le_refl _) _).alloc (by rw [World.size_alloc]; omega) _)).mono ?_; rintro e w' ⟨rfl, rfl⟩)
    | (go_at_call 37; refine (Hr.out _ (((Below.refl w.heap.size w).alloc (Nat.le_refl _) _).alloc (by rw [World.size_alloc]; omega) _)).mono ?_; rintro e w' ⟨rfl, rfl⟩))
  obtain ⟨h1, h2, h3⟩ := two_boxes w none E
  refine bodyPost_ret (open_results rfl rfl rfl h1 h2) rfl ?_
  exact ⟨rfl, h3⟩
end Go.Proofs.Ythjjkbgkfikglaa.Slt
