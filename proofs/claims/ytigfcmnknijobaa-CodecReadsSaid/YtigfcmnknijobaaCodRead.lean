/- DERIVED. The reader: its words; the contracts of Err, Done, read. -/
import Derived.Test.YtigfcmnknijobaaCodCut
import Derived.OneCell
import Derived.Lib.Builder
namespace Go.Proofs.Ytigfcmnknijobaa.Cod
open Go.RowKit Str
/-- blocks that were there are as they were, but for those of S. -/
structure Chg (S : List Nat) (w w' : World) : Prop where
  os : w'.os = w.os
  tape : w'.tape = w.tape
  output : w'.output = w.output
  size : w.heap.size ≤ w'.heap.size
  block : ∀ k, k < w.heap.size → k ∉ S → w'.heap[k]? = w.heap[k]?
theorem Chg.refl (S : List Nat) (w : World) : Chg S w w := ⟨rfl, rfl, rfl, Nat.le_refl _, fun _ _ _ => rfl⟩
theorem Chg.trans {S : List Nat} {a b c : World} (h : Chg S a b) (k : Chg S b c) : Chg S a c :=
  ⟨k.os.trans h.os, k.tape.trans h.tape, k.output.trans h.output, Nat.le_trans h.size k.size, fun i hi hS => (k.block i (Nat.lt_of_lt_of_le hi h.size) hS).trans (h.block i hi hS)⟩
theorem Chg.mono {S T : List Nat} {a b : World} (h : Chg S a b) (hs : ∀ k ∈ S, k ∈ T ∨ a.heap.size ≤ k) : Chg T a b :=
  ⟨h.os, h.tape, h.output, h.size, fun i hi hS => h.block i hi (fun hm => by rcases hs i hm with h | h; exact hS h; omega)⟩
theorem Chg.of_below {S : List Nat} {a b : World} (h : Below a.heap.size a b) : Chg S a b := ⟨h.os, h.tape, h.output, h.size, fun k hk _ => h.block k hk⟩
theorem Chg.below {S : List Nat} {B : Nat} {u a b : World} (h : Chg S a b) (hb : Below B u a) (hB : B ≤ a.heap.size) (hS : ∀ k ∈ S, B ≤ k) : Below B u b :=
  hb.trans ⟨h.os, h.tape, h.output, h.size, fun k hk => h.block k (by omega) (fun hm => by have := hS k hm; omega)⟩
theorem Chg.setCell {S : List Nat} {a b : World} (h : Chg S a b) {p : Addr} (hp : p.block ∈ S) (u : Value) : Chg S a (b.setCell p u) :=
  h.trans ⟨rfl, rfl, rfl, by simp [World.setCell], fun k _ hS => Below.heap_setCell _ _ _ _ (fun e => hS (by rw [e]; exact hp))⟩
theorem Chg.alloc {S : List Nat} {a b : World} (h : Chg S a b) (o : Obj) : Chg S a (b.alloc o) := h.trans (Chg.of_below ((Below.refl _ _).alloc (Nat.le_refl _) _))
theorem Chg.at {S : List Nat} {a b : World} (h : Chg S a b) {g : Nat} {o : Obj} (hg : a.heap[g]? = some o) (hS : g ∉ S) : b.heap[g]? = some o :=
  (h.block g (Array.getElem?_eq_some_iff.1 hg).1 hS).trans hg
/-- bytes stay, but for blocks that hold no bytes. -/
theorem slb_chg {S : List Nat} {L : List Int} {v : Value} {w w' : World} (h : SlB L v w) (hc : Chg S w w') (hS : ∀ k ∈ S, ∀ o x, w.cell? ⟨k, o, none⟩ ≠ some (.int .u8 x)) : SlB L v w' := by
  obtain ⟨A, c, e, h1, h2, h3⟩ := h
  refine ⟨A, c, e, h1, h2, fun hl => ?_⟩
  obtain ⟨g, off, hA, hg, hb⟩ := h3 hl
  have hn : g ∉ S := fun hm => hS g hm _ _ (hb 0 hl)
  exact ⟨g, off, hA, Nat.lt_of_lt_of_le hg hc.size, fun j hj => (World.cell?_of_block (hc.block g hg hn)).trans (hb j hj)⟩
theorem chg_one (w : World) (g off : Nat) (u : Value) : Chg [g] w (w.setCell ⟨g, off, none⟩ u) := (Chg.refl [g] w).setCell (p := ⟨g, off, none⟩) (List.mem_singleton.2 rfl) u
/-- a reader: what is left, and its error. -/
def Rdr (rb : Nat) (L : List Int) (e : Int) (w : World) : Prop := ∃ v, w.heap[rb]? = some (.cells #[.pointer (some ⟨rb, 0, none⟩), v, .int .i64 e] 49 (0, 0)) ∧ SlB L v w
theorem rdr_no8 {rb : Nat} {v : Value} {e : Int} {w : World} {L : List Int} (h : w.heap[rb]? = some (.cells #[.pointer (some ⟨rb, 0, none⟩), v, .int .i64 e] 49 (0, 0))) (hv : SlB L v w) : ∀ o x, w.cell? ⟨rb, o, none⟩ ≠ some (.int .u8 x) := by
  obtain ⟨A, c, rfl, _⟩ := hv
  intro o x
  rw [cell_row h]
  match o with
  | 0 => simp
  | 1 => simp
  | 2 => simp
  | o + 3 => simp
theorem Rdr.later {rb : Nat} {L : List Int} {e : Int} {w w' : World} (h : Rdr rb L e w) (hb : Below w.heap.size w w') : Rdr rb L e w' := by
  obtain ⟨v, h1, h2⟩ := h
  exact ⟨v, (hb.block _ (Array.getElem?_eq_some_iff.1 h1).1).trans h1, h2.later hb⟩
theorem Rdr.lt {rb : Nat} {L : List Int} {e : Int} {w : World} (h : Rdr rb L e w) : rb < w.heap.size := by
  obtain ⟨v, h1, _⟩ := h
  exact (Array.getElem?_eq_some_iff.1 h1).1
theorem run_neq_self (a : Addr) (w : World) : (binOp .neq 24 (.pointer (some a)) (.pointer (some a))).run Try.prog w = .ok (.bool false) w := by
  obtain ⟨j, hj⟩ : ∃ j, Try.prog.info? 49 = some j := Option.isSome_iff_exists.1 (by kernel_rfl)
  exact Lib.run_neq_ptr_same w a (te := 49) Try.underlying24 hj
theorem err_any {rb : Nat} {L : List Int} {er : Int} {w : World} (h : Rdr rb L er w) :
    Calls Try.prog 13 #[.pointer (some ⟨rb, 0, none⟩)] w fun e w' => e = .returned (.int .i64 er) ∧ w = w' := by
  obtain ⟨v, hr, _⟩ := h
  have c0 := cell_row hr 0
  have c2 := cell_row hr 2
  simp only [List.getElem?_toArray, List.getElem?_cons_zero, List.getElem?_cons_succ] at c0 c2
  have hne := run_neq_self ⟨rb, 0, none⟩
  clear hr
  go_enter Try.func13, Try.ntmps13
  go_wp2
  go_ret
  exact ⟨rfl, rfl⟩
def doneE (L : List Int) (e : Int) : Int := if e = 0 then (if L.length = 0 then 0 else 4) else e
theorem done_any {rb : Nat} {L : List Int} {er : Int} {w : World} (h : Rdr rb L er w) :
    Calls Try.prog 7 #[.pointer (some ⟨rb, 0, none⟩)] w fun e w' => e = .returned (.int .i64 (doneE L er)) ∧ w = w' := by
  have Herr := Lib.hid (err_any h)
  obtain ⟨v, hr, A, c, rfl, _⟩ := h
  have c1 := cell_row hr 1
  simp only [List.getElem?_toArray, List.getElem?_cons_zero, List.getElem?_cons_succ] at c1
  unfold doneE
  obtain ⟨n, hn⟩ : ∃ n, n = L.length := ⟨_, rfl⟩
  rw [← hn] at c1 ⊢
  clear hr hn
  by_cases he : er = 0
  · subst he
    rw [if_pos rfl]
    by_cases h0 : n = 0
    · subst h0
      rw [if_pos rfl]
      go_enter Try.func7, Try.ntmps7
      go_wp2_with (go_at_call 13; refine Herr.out.mono ?_; rintro e w' ⟨rfl, rfl⟩)
      go_ret
      exact ⟨rfl, rfl⟩
    · rw [if_neg h0]
      have h0' : (0 : Int) < (n : Int) := by omega
      go_enter Try.func7, Try.ntmps7
      go_wp2_with (go_at_call 13; refine Herr.out.mono ?_; rintro e w' ⟨rfl, rfl⟩)
      go_ret
      exact ⟨rfl, rfl⟩
  · rw [if_neg he]
    go_enter Try.func7, Try.ntmps7
    go_wp2_with (go_at_call 13; refine Herr.out.mono ?_; rintro e w' ⟨rfl, rfl⟩)
    go_ret
    exact ⟨rfl, rfl⟩
theorem read_off {rb : Nat} {L : List Int} {er : Int} {w : World} (h : Rdr rb L er w) (he : er ≠ 0) (F : Value) :
    Calls Try.prog 35 #[.pointer (some ⟨rb, 0, none⟩), F] w fun e w' => e = .returned (.tuple #[]) ∧ w = w' := by
  have Herr := Lib.hid (err_any h)
  clear h
  go_enter Try.func35, Try.ntmps35
  go_wp2_with (go_at_call 13; refine Herr.out.mono ?_; rintro e w' ⟨rfl, rfl⟩)
  exact bodyPost_ret (results_none rfl _ _ _) rfl ⟨rfl, rfl⟩
set_option maxHeartbeats 1000000 in
theorem read_two {rb : Nat} {L : List Int} {w : World} (K : Nat) (hK : ∀ x w, (callFunc K x).run Try.prog w = .ok (.enter K x) w) (p q : Value) (Q : Value → Int → World → Prop) (h : Rdr rb L 0 w)
    (hl : ∀ v, SlB L v w → Calls Try.prog K #[v, p, q] w fun e w' => ∃ v' e1, e = .returned (.tuple #[v', .int .i64 e1]) ∧ Q v' e1 w')
    (hQ : ∀ v' e1 w', Q v' e1 w' → w'.heap[rb]? = w.heap[rb]?) (hQs : ∀ v' e1 w', Q v' e1 w' → ∃ A n c, v' = .slice A n c) :
    Calls Try.prog 35 #[.pointer (some ⟨rb, 0, none⟩), .func (.func K) #[] #[p, q]] w fun e w' => e = .returned (.tuple #[]) ∧
      ∃ v' e1 w1, Q v' e1 w1 ∧ ((e1 = 0 ∧ w' = w1.setCell ⟨rb, 1, none⟩ v') ∨ (e1 ≠ 0 ∧ w' = w1.setCell ⟨rb, 2, none⟩ (.int .i64 e1))) := by
  have Herr := Lib.hid (err_any h)
  obtain ⟨v, hr, hv⟩ := h
  have Hl := Lib.hid (hl v hv)
  have HQ := Lib.hid hQ
  have HQs := Lib.hid hQs
  have Hr := Lib.hid hr
  have c1 := cell_row hr 1
  simp only [List.getElem?_toArray, List.getElem?_cons_zero, List.getElem?_cons_succ] at c1
  clear hl hQ hv hr hQs
  go_enter Try.func35, Try.ntmps35
  go_wp2_with (first
    | (go_at_call 13; refine Herr.out.mono ?_; rintro e w' ⟨rfl, rfl⟩)
    | (refine Hl.out.mono ?_; rintro e w1 ⟨v1, e1, rfl, hq⟩; obtain ⟨A1, n1, q1, rfl⟩ := HQs.out _ _ _ hq; have hr1 := (HQ.out _ _ _ hq).trans Hr.out; have d1 := cell_row hr1 1; have d2 := cell_row hr1 2; simp only [List.getElem?_toArray, List.getElem?_cons_zero, List.getElem?_cons_succ] at d1 d2; have f1 := free_row hr1 1; have f2 := free_row hr1 2; have HQ1 := Lib.hid hq; clear hq hr1))
  · have he0 : (e1 != 0) = true := by assumption
    have he : e1 ≠ 0 := by simpa using he0
    exact bodyPost_ret (results_none rfl _ _ _) rfl ⟨rfl, _, _, _, HQ1.out, .inr ⟨he, rfl⟩⟩
  · have he0 : (e1 != 0) = false := by assumption
    have he : e1 = 0 := by simpa using he0
    go_end0
    exact ⟨rfl, _, _, _, HQ1.out, .inl ⟨he, rfl⟩⟩
end Go.Proofs.Ytigfcmnknijobaa.Cod
