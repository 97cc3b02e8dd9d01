/- DERIVED. Texts of ours, merged: XBase XLaw XLawBytes XBase2 XChg XDskSpec XDskTornMath. -/
import Derived.Laws.BitsAllLaws
import Derived.WalkKit
import Derived.KernelRfl
import Derived.Below
import Derived.Lib.Hide
import Derived.IntWalk
import Derived.Laws.ResultCell
import Derived.Laws.Rows
import Derived.Deep.MidRow
import Derived.Test.YtpeioogkbcejmaaProg
import Derived.Test.YtpeioogkbcejmaaChecked
import Derived.Test.YtpeioogkbcejmaaRows
import Derived.ProofKit
import Derived.OpenShut
import Derived.Deep.DeepHandedRow
import Derived.Lib.LaidTab
import Derived.ChangeMaps5
import Derived.WideKeyArr2
import Derived.Deep.Draws
import Derived.Laws.CopyOwn
import Derived.Laws.IdiomCopy
/- DERIVED. Words on rows of numbers in memory that every layer uses; no program, no number of a type. -/
namespace Go.Proofs.Ytpeioogkbcejmaa
open Go.RowKit
def u32s (l : List Int) : Array Value := (l.map (Value.int .u32)).toArray
def u8s (l : List Int) : Array Value := (l.map (Value.int .u8)).toArray
theorem u32s_size (l : List Int) : (u32s l).size = l.length := by simp [u32s]
theorem u8s_size (l : List Int) : (u8s l).size = l.length := by simp [u8s]
theorem u32s_get (l : List Int) (j : Nat) (h : j < l.length) : (u32s l)[j]? = some (.int .u32 (l.getD j 0)) := by simp [u32s, h]
theorem u8s_get (l : List Int) (j : Nat) (h : j < l.length) : (u8s l)[j]? = some (.int .u8 (l.getD j 0)) := by simp [u8s, h]
/-- the first k cells of S hold the words f 0 .. f (k-1). -/
def Holds (S : Array Value) (n k : Nat) (f : Nat → Int) : Prop := S.size = n ∧ ∀ j, j < k → S[j]? = some (.int .u32 (f j))
theorem Holds.nil (S : Array Value) (n : Nat) (f : Nat → Int) (h : S.size = n) : Holds S n 0 f := ⟨h, fun _ h => absurd h (Nat.not_lt_zero _)⟩
theorem Holds.set {S : Array Value} {n k : Nat} {f : Nat → Int} (h : Holds S n k f) (hk : k < n) (v : Int) (hv : v = f k) : Holds (S.setIfInBounds k (.int .u32 v)) n (k + 1) f := by
  refine ⟨by simp [h.1], fun j hj => ?_⟩
  rw [Array.getElem?_setIfInBounds]
  by_cases e : k = j
  · subst e; rw [if_pos rfl, if_pos (by rw [h.1]; exact hk), hv]
  · rw [if_neg e]; exact h.2 j (by omega)
theorem Holds.whole {S : Array Value} {n : Nat} {f : Nat → Int} {l : List Int} (h : Holds S n n f) (hl : l.length = n) (hf : ∀ j, j < n → f j = l.getD j 0) : S = u32s l := by
  apply Array.ext_getElem?
  intro j
  by_cases hj : j < n
  · rw [h.2 j hj, u32s_get l j (by omega), hf j hj]
  · rw [Array.getElem?_eq_none (by rw [h.1]; omega), Array.getElem?_eq_none (by rw [u32s_size]; omega)]

def InB (l : List Int) : Prop := ∀ j, 0 ≤ l.getD j 0 ∧ l.getD j 0 < 256
theorem u32s_one (l : List Int) : (u32s l).all (·.oneCell') = true := by
  rw [Array.all_eq_true_iff_forall_mem]
  intro v hv
  simp only [u32s, List.mem_toArray, List.mem_map] at hv
  obtain ⟨x, _, rfl⟩ := hv
  rfl
theorem cell_row {w : World} {g : Nat} {C : Array Value} {t : TypeId} {fr : Nat × Nat} (h : w.heap[g]? = some (.cells C t fr)) (j : Nat) : w.cell? ⟨g, j, none⟩ = C[j]? := by
  simp [World.cell?, h]
theorem free_row {w : World} {g : Nat} {C : Array Value} {t : TypeId} (h : w.heap[g]? = some (.cells C t (0, 0))) (j : Nat) : w.frozen? ⟨g, j, none⟩ = false := by
  simp [World.frozen?, h]
theorem three_new (w : World) (A B C : Obj) : (((w.alloc A).alloc B).alloc C).heap[w.heap.size]? = some A ∧ (((w.alloc A).alloc B).alloc C).heap[w.heap.size + 1]? = some B ∧ (((w.alloc A).alloc B).alloc C).heap[w.heap.size + 1 + 1]? = some C := by
  refine ⟨?_, ?_, ?_⟩
  · exact (Go.heap_alloc_old ((w.alloc A).alloc B) C (by simp; omega)).trans (heap_alloc2_old w A B)
  · exact (Go.heap_alloc_old ((w.alloc A).alloc B) C (by simp)).trans (heap_alloc2_new w A B)
  · have := heap_alloc_new ((w.alloc A).alloc B) C
    simpa using this
theorem below3 (w : World) (A B C : Obj) : Below w.heap.size w (((w.alloc A).alloc B).alloc C) :=
  (((Below.refl _ _).alloc (Nat.le_refl _) _).alloc (by simp) _).alloc (by simp; omega) _
/-- the first k cells of S hold the bytes f 0 .. f (k-1). -/
def HoldsB (S : Array Value) (n k : Nat) (f : Nat → Int) : Prop := S.size = n ∧ ∀ j, j < k → S[j]? = some (.int .u8 (f j))
theorem HoldsB.nil (S : Array Value) (n : Nat) (f : Nat → Int) (h : S.size = n) : HoldsB S n 0 f := ⟨h, fun _ h => absurd h (Nat.not_lt_zero _)⟩
theorem HoldsB.set {S : Array Value} {n k : Nat} {f : Nat → Int} (h : HoldsB S n k f) (hk : k < n) (v : Int) (hv : v = f k) : HoldsB (S.setIfInBounds k (.int .u8 v)) n (k + 1) f := by
  refine ⟨by simp [h.1], fun j hj => ?_⟩
  rw [Array.getElem?_setIfInBounds]
  by_cases e : k = j
  · subst e; rw [if_pos rfl, if_pos (by rw [h.1]; exact hk), hv]
  · rw [if_neg e]; exact h.2 j (by omega)
theorem HoldsB.whole {S : Array Value} {n : Nat} {f : Nat → Int} {l : List Int} (h : HoldsB S n n f) (hl : l.length = n) (hf : ∀ j, j < n → f j = l.getD j 0) : S = u8s l := by
  apply Array.ext_getElem?
  intro j
  by_cases hj : j < n
  · rw [h.2 j hj, u8s_get l j (by omega), hf j hj]
  · rw [Array.getElem?_eq_none (by rw [h.1]; omega), Array.getElem?_eq_none (by rw [u8s_size]; omega)]
theorem u8s_one (l : List Int) : (u8s l).all (·.oneCell') = true := by
  rw [Array.all_eq_true_iff_forall_mem]
  intro v hv
  simp only [u8s, List.mem_toArray, List.mem_map] at hv
  obtain ⟨x, _, rfl⟩ := hv
  rfl
/-- the slice (A, L.length, c) reads as the bytes L. -/
def Byt (w : World) (A : Option Addr) (c : Nat) (L : List Int) : Prop := L.length ≤ c ∧ (A = none → c = 0) ∧ (0 < L.length → ∃ g off, A = some ⟨g, off, none⟩ ∧ g < w.heap.size ∧ ∀ j, j < L.length → w.cell? ⟨g, off + j, none⟩ = some (.int .u8 (L.getD j 0)))
def vals (L : List Int) : List Value := L.map (Value.int .u8)
theorem vals_one (L : List Int) : ∀ u ∈ vals L, u.oneCell' = true := by
  intro u hu
  simp only [vals, List.mem_map] at hu
  obtain ⟨x, _, rfl⟩ := hu
  rfl
theorem vals_length (L : List Int) : (vals L).length = L.length := by simp [vals]
theorem vals_get {L : List Int} {j : Nat} {u : Value} (h : (vals L)[j]? = some u) : j < L.length ∧ u = .int .u8 (L.getD j 0) := by
  have hj : j < L.length := by have := (List.getElem?_eq_some_iff.1 h).1; rwa [vals_length] at this
  refine ⟨hj, ?_⟩
  simp [vals, hj] at h
  simp [← h, hj]
theorem Byt.cells {w w' : World} {A : Option Addr} {c : Nat} {L : List Int} (h : Byt w A c L) (hb : ∀ p : Addr, p.block < w.heap.size → w'.cell? p = w.cell? p) (ad : Addr) (hA : A = some ad) :
    ∀ j u, (vals L)[j]? = some u → w'.cell? (ad.add j) = some u := by
  intro j u hu
  obtain ⟨hj, rfl⟩ := vals_get hu
  obtain ⟨g, off, hA', hg, hc⟩ := h.2.2 (by omega)
  rw [hA] at hA'
  obtain rfl := Option.some.inj hA'
  rw [Addr.add_mid, hb _ hg]
  exact hc j hj
theorem Byt.below {w w' : World} {B c : Nat} {A : Option Addr} {L : List Int} (h : Byt w A c L) (hb : Below B w w') (hB : w.heap.size ≤ B) : Byt w' A c L :=
  ⟨h.1, h.2.1, fun hl => by
    obtain ⟨g, off, hA, hg, hc⟩ := h.2.2 hl
    exact ⟨g, off, hA, Nat.lt_of_lt_of_le hg hb.size, fun j hj => (hb.cell (p := ⟨g, off + j, none⟩) (Nat.lt_of_lt_of_le hg hB)).trans (hc j hj)⟩⟩
theorem two_new (w : World) (A B : Obj) : ((w.alloc A).alloc B).heap[w.heap.size]? = some A ∧ ((w.alloc A).alloc B).heap[w.heap.size + 1]? = some B := ⟨heap_alloc2_old w A B, heap_alloc2_new w A B⟩
theorem getD_out (L : List Int) (j : Nat) (h : L.length ≤ j) : L.getD j 0 = 0 := by simp [List.getD_eq_getElem?_getD, List.getElem?_eq_none h]
theorem InB.drop {L : List Int} (h : InB L) (n : Nat) : InB (L.drop n) := by
  intro j
  have := h (n + j)
  simpa [List.getD_eq_getElem?_getD, List.getElem?_drop] using this
theorem InB.take {L : List Int} (h : InB L) (n : Nat) : InB (L.take n) := by
  intro j
  by_cases hj : j < n
  · have := h j
    simpa [List.getD_eq_getElem?_getD, List.getElem?_take, hj] using this
  · simp [List.getD_eq_getElem?_getD, List.getElem?_take, hj]
theorem Byt.cut {w : World} {A : Option Addr} {c n : Nat} {L : List Int} (h : Byt w A c L) (hn : n ≤ L.length) : Byt w (if c = n then A else A.map (·.add n)) (c - n) (L.drop n) := by
  refine ⟨by have := h.1; simp; omega, fun hA => ?_, fun hl => ?_⟩
  · have h1 := h.1
    by_cases e : c = n
    · omega
    · rw [if_neg e] at hA
      have : A = none := by cases A <;> simp_all
      have := h.2.1 this
      omega
  · have h1 := h.1
    simp at hl
    obtain ⟨g, off, rfl, hg, hc⟩ := h.2.2 (by omega)
    rw [if_neg (by omega)]
    refine ⟨g, off + n, by simp [Addr.add_mid], hg, fun j hj => ?_⟩
    rw [show off + n + j = off + (n + j) by omega, hc (n + j) (by simp at hj; omega)]
    simp [List.getD_eq_getElem?_getD, List.getElem?_drop]
theorem results_row_tmp {P : Program} {fn : Func} {p u : Tmp} {ty : TypeId} (h : fn.results = #[.cell p ty, .tmp u]) (tmps : Array Value) (w : World) (g : Nat) (t : TypeId) (cs : Array Value) (fr : Nat × Nat) (d : TypeDesc) (x : Value)
    (hp : tmps.getD p undef = .pointer (some ⟨g, 0, none⟩)) (hx : tmps.getD u undef = x) (hg : w.heap[g]? = some (.cells cs t fr))
    (hu : P.underlying ty = some d) (hd : (match d with | .struct _ | .array _ _ => true | _ => false) = true) (hi : (P.info? ty).map (·.size) = some cs.size) :
    (results fn tmps).run P w = .ok (.tuple #[.agg cs, x]) w := by
  rw [results_cell_tmp h, hp, hx]
  simp [asAddr, run_loadVar_row w g t ty cs fr d hg hu hd hi]
theorem Byt.alloc {w : World} {A : Option Addr} {c : Nat} {l : List Int} (h : Byt w A c l) (o : Obj) : Byt (w.alloc o) A c l := h.below ((Below.refl w.heap.size w).alloc (Nat.le_refl _) o) (Nat.le_refl _)
theorem InB.append {L M : List Int} (h : InB L) (k : InB M) : InB (L ++ M) := by
  intro j
  by_cases hj : j < L.length
  · have := h j; simpa [List.getD_eq_getElem?_getD, List.getElem?_append_left hj] using this
  · have := k (j - L.length); simpa [List.getD_eq_getElem?_getD, List.getElem?_append_right (Nat.le_of_not_lt hj)] using this
end Go.Proofs.Ytpeioogkbcejmaa
/- DERIVED. What every law's frame wants, of any layer: no number of a type is typed. -/
namespace Go.Proofs.Ytpeioogkbcejmaa
open Go.ChangeShapes Go.WideShapes Go.ChangeAt Go.RowKit
theorem own : ownKnob Try.prog.godebug = none := by kernel_rfl
theorem laidOut : laidOutB Try.prog = true := by kernel_rfl
theorem trodAll_below {H : Type} {enc : TypeId × Value → H} {W W' : World} (hb : Below W.heap.size W W') : ∀ {ts : List TypeId} {vs : List Value} {ds : List (DataW H)} {ps : List MemPlace},
    (∀ t ∈ ts, Try.prog.readableRec t = true ∧ t < Try.prog.types.size) → (∀ x ∈ ps, x.block < W.heap.size) → DataW.TrodAll enc Try.prog W 0 (fun _ => true) true ts vs ds ps →
    DataW.TrodAll enc Try.prog W' 0 (fun b => decide (b < W.heap.size)) true ts vs ds ps
  | [], vs, ds, ps, _, _, h => by
    obtain ⟨rfl, rfl, rfl⟩ := trodAll_nil h
    exact trodAll_mk0
  | t :: ts, vs, ds, ps, ht, hlt, h => by
    obtain ⟨v0, vs0, d0, ds0, p0, q0, rfl, rfl, rfl, h0, r0⟩ := trodAll_cons h
    have h1 := ht t (List.mem_cons_self ..)
    exact trodAll_cons_mk (Below.trod laidOut h1.1 h1.2 h0 hb (fun x hx => hlt x (List.mem_append_left _ hx)))
      (trodAll_below hb (fun t' h' => ht t' (List.mem_cons_of_mem _ h')) (fun x hx => hlt x (List.mem_append_right _ hx)) r0)
/-- a law's end: it answers true, and what came in is as it was. -/
theorem law_post {H : Type} {enc : TypeId × Value → H} {f : Func} {s : ChangeSpec} {W W' : World} {args : Array Value} {ds gs : List (DataW H)} {before : List MemPlace}
    (hW : DataW.Whole enc Try.prog f.params.toList s.vars false W args.toList ds gs before) (hv : s.vars = []) (hr : f.resultTypes = #[4])
    (hp : ∀ t ∈ f.params.toList, Try.prog.readableRec t = true ∧ t < Try.prog.types.size)
    (hs : (s.fn H (ds ++ [])).results = [.lit (.bool true)] ∧ (s.fn H (ds ++ [])).args = ds ∧ (s.fn H (ds ++ [])).vars = []) (hb : Below W.heap.size W W') :
    s.post enc Try.prog f false true false false W args (.bool true) W' := by
  have hW' := hW
  obtain ⟨p, q, hA, hV, rfl, _, _⟩ := hW
  rw [hv] at hV
  obtain ⟨rfl, rfl⟩ := trodVars_none hV
  refine ⟨ds, [], p ++ [], [], p, [], hW', ?_, ?_, ?_, hb.frame _, fun h => by cases h⟩
  · rw [hs.1, hr]
    exact trodAll_mk1 (shut_bool Try.underlying4 true)
  · rw [hs.2.1]
    exact trodAll_below hb hp (fun x hx => by simpa using hW'.lt x (by simpa using hx)) hA
  · rw [hs.2.2, hv]
    rfl
def fillRow (cs : Array Value) : Obj → Obj
  | .cells _ t frozen => .cells cs t frozen
  | o => o
/-- the number in a value. -/
def numIn : Value → Int
  | .int _ q => q
  | _ => 0
theorem mapM_each {α β : Type} (f : α → Option β) : ∀ (L : List α) (ys : List β), L.mapM f = some ys → ∀ i ∈ L, ∃ y, f i = some y
  | [], _, _, _, h => by cases h
  | a :: L, ys, h, i, hi => by
    rw [List.mapM_cons] at h
    simp only [bind, Option.bind_eq_some_iff, pure, Option.some.injEq] at h
    obtain ⟨y, hy, zs, hzs, _⟩ := h
    rcases List.mem_cons.1 hi with rfl | hi
    · exact ⟨y, hy⟩
    · exact mapM_each f L zs hzs i hi
/-- the readings of an array's cells, one by one. -/
theorem trod_arr {H : Type} {enc : TypeId × Value → H} {W : World} {T E : TypeId} {n : Nat} {k : IntKind} (arr : WideMaps.ArrKey Try.prog T E n) (hE : Try.prog.underlying E = some (.int k)) {xs : Array Value} (hn : xs.size = n) {d : DataW H} {p : List MemPlace}
    (h : DataW.Trod enc Try.prog W 0 (fun _ => true) true T (.agg xs) d p) : ∃ l : List Int, xs = (l.map (Value.int k)).toArray ∧ l.length = n ∧ ∀ j, j < n → (Lit.int k (l.getD j 0)).wf = true := by
  obtain ⟨fuel, hf⟩ := h
  cases fuel with
  | zero => simp [DataW.trod] at hf
  | succ m =>
    rw [DataW.trod_step] at hf
    unfold DataW.trodStep at hf
    simp only [arr.hu, Value.cells] at hf
    rw [if_pos (by rw [arr.size]; simpa using hn)] at hf
    simp only [Option.map_eq_some_iff] at hf
    obtain ⟨ys, hy, _⟩ := hf
    have each : ∀ i, i < n → ∃ a : Int, xs[i]? = some (.int k a) ∧ (Lit.int k a).wf = true := by
      intro i hi
      obtain ⟨y, hy1⟩ := mapM_each _ _ _ hy i (List.mem_range.2 hi)
      obtain ⟨a, ea, _, wa⟩ := DataW.trod_int hE hy1
      rw [arr.one, Nat.mul_one] at ea
      have e2 : xs.toList[i]? = some (.int k a) := by
        have := congrArg (fun l : List Value => l[0]?) ea
        simpa [List.getElem?_take, List.getElem?_drop] using this
      rw [Array.getElem?_toList] at e2
      exact ⟨a, e2, wa⟩
    refine ⟨xs.toList.map numIn, ?_, by rw [List.length_map, Array.length_toList, hn], fun j hj => ?_⟩
    · refine Array.ext_getElem? fun i => ?_
      by_cases hi : i < n
      · obtain ⟨a, ha, _⟩ := each i hi
        rw [ha]
        simp [ha, numIn]
      · rw [Array.getElem?_eq_none (by omega), Array.getElem?_eq_none (by simp; omega)]
    · obtain ⟨a, ha, h0⟩ := each j hj
      simpa [List.getD_eq_getElem?_getD, ha, numIn] using h0
set_option maxRecDepth 100000 in
/-- a parameter that is an array of numbers. -/
theorem open_arr {H : Type} {enc : TypeId × Value → H} {W : World} {base : Nat} {v : Value} {d : DataW H} {p : List MemPlace} {T E : TypeId} {n : Nat} {k : IntKind} (arr : WideMaps.ArrKey Try.prog T E n) (hE : Try.prog.underlying E = some (.int k)) (hv : Value.okWide Try.prog W .any base T v)
    (h : DataW.Trod enc Try.prog W 0 (fun _ => true) true T v d p) : ∃ l : List Int, v = .agg (l.map (Value.int k)).toArray ∧ l.length = n ∧ ∀ j, j < n → (Lit.int k (l.getD j 0)).wf = true := by
  obtain ⟨xs, rfl, hn⟩ := WideMaps.okWide_arr arr hv
  obtain ⟨l, rfl, h1, h2⟩ := trod_arr arr hE hn h
  exact ⟨l, rfl, h1, h2⟩
theorem inB_wf {l : List Int} {n : Nat} (hl : l.length = n) (h : ∀ j, j < n → (Lit.int .u8 (l.getD j 0)).wf = true) : InB l := by
  intro j
  by_cases hj : j < n
  · have h2 : 0 ≤ l.getD j 0 ∧ l.getD j 0 ≤ 255 := by simpa [Lit.wf, IntKind.bits, IntKind.signed, IntKind.min, IntKind.max] using h j hj
    omega
  · rw [getD_out _ _ (by omega)]; omega
end Go.Proofs.Ytpeioogkbcejmaa
/- DERIVED. A parameter []byte, opened. -/
namespace Go.Proofs.Ytpeioogkbcejmaa
open Go.ChangeShapes Go.WideShapes Go.ChangeAt Go.RowKit
theorem cells5 : Try.prog.cellsOf 5 = 1 := by kernel_rfl
/-- a parameter []byte: the bytes that it reads as. -/
theorem open_bytes {H : Type} {enc : TypeId × Value → H} {W : World} {base : Nat} {v : Value} {d : DataW H} {p : List MemPlace} (hv : Value.okWide Try.prog W .any base 33 v)
    (h : DataW.Trod enc Try.prog W 0 (fun _ => true) true 33 v d p) : ∃ (A : Option Addr) (c : Nat) (L : List Int), v = .slice A L.length c ∧ InB L ∧ Byt W A c L ∧ L.length ≤ maxLen := by
  obtain ⟨a0, len, cap, rfl⟩ := okWide_slice Try.underlying33 hv
  obtain ⟨fuel, hf⟩ := h
  rcases open_ints Try.underlying33 Try.underlying5 cells5 hf with ⟨hcs, _⟩ | ⟨a, len', cap', zs, hcs, _, hl, hm, hz, _, hcell, hwz⟩
  · simp [Value.cells] at hcs
    obtain ⟨rfl, rfl, rfl⟩ := hcs
    exact ⟨none, 0, [], rfl, fun j => by simp, ⟨Nat.le_refl _, fun _ => rfl, fun h => absurd h (Nat.lt_irrefl 0)⟩, Nat.zero_le _⟩
  · simp [Value.cells] at hcs
    obtain ⟨rfl, rfl, rfl⟩ := hcs
    simp only [if_true] at hz
    have hlen : (zs.take len).length = len := by simp; omega
    refine ⟨some a, cap, zs.take len, by rw [hlen], ?_, ⟨by rw [hlen]; exact hl, (fun h => by cases h), (fun h => ?_)⟩, by rw [hlen]; omega⟩
    · intro j
      by_cases hj : j < len
      · have hj' : j < zs.length := by omega
        have e : (zs.take len).getD j 0 = zs[j] := by simp [List.getD_eq_getElem?_getD, hj, hj']
        have := hwz zs[j] (List.getElem_mem hj')
        have h2 : 0 ≤ zs[j] ∧ zs[j] ≤ 255 := by simpa [Lit.wf, IntKind.bits, IntKind.signed, IntKind.min, IntKind.max] using this
        rw [e]
        omega
      · rw [List.getD_eq_getElem?_getD, List.getElem?_eq_none (by rw [hlen]; exact Nat.le_of_not_lt hj)]; simp
    · rw [hlen] at h
      obtain ⟨b, off, spot⟩ := a
      have hspot : spot = none := by simpa [Addr.add] using World.cell?_spot (hcell 0 (by omega))
      subst hspot
      refine ⟨b, off, rfl, ?_, fun j hj => ?_⟩
      · have := World.block_lt_of_cell? W _ (hcell 0 (by omega))
        simpa [Addr.add] using this
      · rw [hlen] at hj
        rw [← Addr.add_mid, hcell j (by omega)]
        simp [List.getD_eq_getElem?_getD, hj]
end Go.Proofs.Ytpeioogkbcejmaa
/- DERIVED. More words on rows in memory; no program. -/
namespace Go.Proofs.Ytpeioogkbcejmaa
open Go.RowKit
/-- a block that was new ahead of a call is there behind it. -/
theorem kept_new {w w1 : World} {C : Array Value} {T : Nat} (h : Below (w.alloc (.cells C T)).heap.size (w.alloc (.cells C T)) w1) : w.heap.size < w1.heap.size ∧ w1.heap[w.heap.size]? = some (.cells C T (0, 0)) := by
  have hs : w.heap.size < (w.alloc (.cells C T)).heap.size := by rw [World.size_alloc]; omega
  exact ⟨Nat.lt_of_lt_of_le hs h.size, (h.block _ hs).trans (Go.heap_alloc_new _ _)⟩
/-- four cells of a block. -/
theorem cells4 {w : World} {g T : Nat} {a b c d : Value} {fr : Nat × Nat} (h : w.heap[g]? = some (.cells #[a, b, c, d] T fr)) :
    w.cell? ⟨g, 0, none⟩ = some a ∧ w.cell? ⟨g, 1, none⟩ = some b ∧ w.cell? ⟨g, 2, none⟩ = some c ∧ w.cell? ⟨g, 3, none⟩ = some d :=
  ⟨cell_row h 0, cell_row h 1, cell_row h 2, cell_row h 3⟩
theorem u32s_set (l : List Int) (k : Nat) (v : Int) : (u32s l).setIfInBounds k (.int .u32 v) = u32s (l.set k v) := by
  simp [u32s, List.map_set]
theorem u8s_set (l : List Int) (k : Nat) (v : Int) : (u8s l).setIfInBounds k (.int .u8 v) = u8s (l.set k v) := by
  simp [u8s, List.map_set]
/-- a row of words, one word written. -/
theorem row32_set {w : World} {g T : Nat} {l : List Int} (h : w.heap[g]? = some (.cells (u32s l) T (0, 0))) (k : Nat) (v : Int) : (w.setCell ⟨g, k, none⟩ (.int .u32 v)).heap[g]? = some (.cells (u32s (l.set k v)) T (0, 0)) := by
  rw [← u32s_set]; exact heap_setCell_same _ _ _ _ _ _ h
theorem row8_set {w : World} {g T : Nat} {l : List Int} (h : w.heap[g]? = some (.cells (u8s l) T (0, 0))) (k : Nat) (v : Int) : (w.setCell ⟨g, k, none⟩ (.int .u8 v)).heap[g]? = some (.cells (u8s (l.set k v)) T (0, 0)) := by
  rw [← u8s_set]; exact heap_setCell_same _ _ _ _ _ _ h
theorem row32_cell {w : World} {g T : Nat} {l : List Int} {fr : Nat × Nat} (h : w.heap[g]? = some (.cells (u32s l) T fr)) (k : Nat) (hk : k < l.length) : w.cell? ⟨g, k, none⟩ = some (.int .u32 (l.getD k 0)) := by
  rw [cell_row h, u32s_get l k hk]
theorem row8_cell {w : World} {g T : Nat} {l : List Int} {fr : Nat × Nat} (h : w.heap[g]? = some (.cells (u8s l) T fr)) (k : Nat) (hk : k < l.length) : w.cell? ⟨g, k, none⟩ = some (.int .u8 (l.getD k 0)) := by
  rw [cell_row h, u8s_get l k hk]
theorem four_new (w : World) (A B C D : Obj) : ((((w.alloc A).alloc B).alloc C).alloc D).heap[w.heap.size]? = some A ∧ ((((w.alloc A).alloc B).alloc C).alloc D).heap[w.heap.size + 1]? = some B ∧ ((((w.alloc A).alloc B).alloc C).alloc D).heap[w.heap.size + 1 + 1]? = some C ∧ ((((w.alloc A).alloc B).alloc C).alloc D).heap[w.heap.size + 1 + 1 + 1]? = some D := by
  have h := three_new w A B C
  refine ⟨?_, ?_, ?_, ?_⟩
  · exact (Go.heap_alloc_old _ D (by simp; omega)).trans h.1
  · exact (Go.heap_alloc_old _ D (by simp)).trans h.2.1
  · exact (Go.heap_alloc_old _ D (by simp)).trans h.2.2
  · have := heap_alloc_new (((w.alloc A).alloc B).alloc C) D
    simpa using this
theorem below4 (w : World) (A B C D : Obj) : Below w.heap.size w ((((w.alloc A).alloc B).alloc C).alloc D) := (below3 w A B C).alloc (by simp; omega) _
theorem Below.drewN {B : Nat} {w w' : World} (h : Below B w w') (n : Nat) : Below B w (w'.drewN n) := ⟨h.os, h.tape, h.output, h.size, h.block⟩
end Go.Proofs.Ytpeioogkbcejmaa
/- DERIVED. Blocks that were there are as they were, but for some. No program. -/
namespace Go.Proofs.Ytpeioogkbcejmaa
open Go.RowKit
structure Chg (S : List Nat) (w w' : World) : Prop where
  os : w'.os = w.os
  tape : w'.tape = w.tape
  output : w'.output = w.output
  size : w.heap.size ≤ w'.heap.size
  block : ∀ k, k < w.heap.size → k ∉ S → w'.heap[k]? = w.heap[k]?
theorem Chg.refl (S : List Nat) (w : World) : Chg S w w := ⟨rfl, rfl, rfl, Nat.le_refl _, fun _ _ _ => rfl⟩
theorem Chg.trans {S : List Nat} {a b c : World} (h : Chg S a b) (k : Chg S b c) : Chg S a c :=
  ⟨k.os.trans h.os, k.tape.trans h.tape, k.output.trans h.output, Nat.le_trans h.size k.size, fun i hi hS => (k.block i (Nat.lt_of_lt_of_le hi h.size) hS).trans (h.block i hi hS)⟩
theorem Chg.mono {S T : List Nat} {a b : World} (h : Chg S a b) (hs : ∀ k ∈ S, k ∈ T ∨ a.heap.size ≤ k) : Chg T a b :=
  ⟨h.os, h.tape, h.output, h.size, fun i hi hS => h.block i hi (fun hm => by rcases hs i hm with h | h; exact hS h; omega)⟩
theorem Chg.of_below {S : List Nat} {a b : World} (h : Below a.heap.size a b) : Chg S a b := ⟨h.os, h.tape, h.output, h.size, fun k hk _ => h.block k hk⟩
theorem Chg.below {S : List Nat} {B : Nat} {u a b : World} (h : Chg S a b) (hb : Below B u a) (hB : B ≤ a.heap.size) (hS : ∀ k ∈ S, B ≤ k) : Below B u b :=
  hb.trans ⟨h.os, h.tape, h.output, h.size, fun k hk => h.block k (by omega) (fun hm => by have := hS k hm; omega)⟩
theorem Chg.setCell {S : List Nat} {a b : World} (h : Chg S a b) {p : Addr} (hp : p.block ∈ S) (u : Value) : Chg S a (b.setCell p u) :=
  h.trans ⟨rfl, rfl, rfl, by simp [World.setCell], fun k _ hS => Below.heap_setCell _ _ _ _ (fun e => hS (by rw [e]; exact hp))⟩
theorem Chg.alloc {S : List Nat} {a b : World} (h : Chg S a b) (o : Obj) : Chg S a (b.alloc o) := h.trans (Chg.of_below ((Below.refl _ _).alloc (Nat.le_refl _) _))
theorem Chg.at {S : List Nat} {a b : World} (h : Chg S a b) {g : Nat} {o : Obj} (hg : a.heap[g]? = some o) (hS : g ∉ S) : b.heap[g]? = some o :=
  (h.block g (Array.getElem?_eq_some_iff.1 hg).1 hS).trans hg
theorem Chg.setCells {S : List Nat} {a b : World} (h : Chg S a b) {g : Nat} (hp : g ∈ S) : ∀ (vs : List Value) (o : Nat), Chg S a (b.setCells g o vs) := by
  intro vs
  induction vs generalizing b with
  | nil => exact fun _ => h
  | cons v r ih => exact fun o => ih (h.setCell (p := ⟨g, o, none⟩) hp v) (o + 1)
/-- bytes in a block that stays. -/
theorem Byt.chg {S : List Nat} {L : List Int} {A : Option Addr} {c : Nat} {w w' : World} (h : Byt w A c L) (hc : Chg S w w') (hS : ∀ a, A = some a → a.block ∉ S) : Byt w' A c L := by
  obtain ⟨h1, h2, h3⟩ := h
  refine ⟨h1, h2, fun hl => ?_⟩
  obtain ⟨g, off, hA, hg, hb⟩ := h3 hl
  exact ⟨g, off, hA, Nat.lt_of_lt_of_le hg hc.size, fun j hj => (World.cell?_of_block (hc.block g hg (hS _ hA))).trans (hb j hj)⟩
theorem splice_set {α : Type} (L : List α) (o : Nat) (v : α) (r : List α) (h : o < L.length) : splice (L.set o v) (o + 1) r = splice L o (v :: r) := by
  have e1 : (L.set o v).take (o + 1) = L.take o ++ [v] := by
    rw [List.take_succ_eq_append_getElem (by simpa using h), List.take_set_of_le (Nat.le_refl _)]; simp
  have e2 : (L.set o v).drop (o + 1 + r.length) = L.drop (o + 1 + r.length) := List.drop_set_of_lt (by omega)
  unfold splice
  rw [e1, e2, List.length_cons, List.append_assoc, show o + 1 + r.length = o + (r.length + 1) by omega]
  rfl
/-- the cells of a row, many written at once. -/
theorem heap_setCells {T : Nat} {g : Nat} : ∀ (vs : List Value) (o : Nat) (w : World) (C : Array Value), w.heap[g]? = some (.cells C T (0, 0)) → o + vs.length ≤ C.size →
    (w.setCells g o vs).heap[g]? = some (.cells (splice C.toList o vs).toArray T (0, 0)) := by
  intro vs
  induction vs with
  | nil => intro o w C h _; simpa [World.setCells, splice] using h
  | cons v r ih =>
    intro o w C h hs
    simp only [List.length_cons] at hs
    rw [World.setCells]
    have h1 : (w.setCell ⟨g, o, none⟩ v).heap[g]? = some (.cells (C.setIfInBounds o v) T (0, 0)) := heap_setCell_same _ _ _ _ _ _ h
    rw [ih (o + 1) _ _ h1 (by rw [Array.size_setIfInBounds]; omega)]
    rw [Array.toList_setIfInBounds, splice_set C.toList o v r (by rw [Array.length_toList]; omega)]
end Go.Proofs.Ytpeioogkbcejmaa
/- DERIVED. A disk on lists: what its calls make. No program. -/
namespace Go.Proofs.Ytpeioogkbcejmaa.Dsk
open Go.RowKit
structure DS where
  data : List Int
  writes : Int
  off : Bool
  laid : Bool
  whole : Int
  mask : List Int
def z16 : List Int := List.replicate 16 0
/-- is byte i of the mask's sector written? -/
def bitX (x : Int) (s : Nat) : Bool := (bits .and .u8 (x / 2 ^ s) 1 == 1)
def bitM (m : List Int) (i : Nat) : Bool := bitX (m.getD (i / 8) 0) (i % 8)
/-- the sector at, of n. -/
def secL (d : List Int) (k : Nat) : List Int := (d.drop (k * 128)).take 128
def tornL (m o b : List Int) : List Int := (List.range 128).map fun i => if bitM m i then b.getD i 0 else o.getD i 0
def DS.due (D : DS) : Bool := D.laid && decide (D.whole = 0)
/-- a sector written. -/
def stepD (D : DS) (k : Nat) (b : List Int) : DS :=
  if D.due then { data := splice D.data (k * 128) (tornL D.mask (secL D.data k) b), writes := D.writes + 1, off := true, laid := false, whole := 0, mask := z16 }
  else { D with data := splice D.data (k * 128) b, writes := D.writes + 1, whole := if D.laid then D.whole - 1 else D.whole }
/-- n sectors written, from the i-th of b on. -/
def runD (D : DS) (at_ : Nat) (b : List Int) (i : Nat) : Nat → DS × Int
  | 0 => (D, 0)
  | n + 1 => if (stepD D (at_ + i) (secL b i)).off then (stepD D (at_ + i) (secL b i), 12) else runD (stepD D (at_ + i) (secL b i)) at_ b (i + 1) n
def DS.secs (D : DS) : Nat := D.data.length / 128
def withinI (k n o : Int) : Bool := decide (0 ≤ k) && decide (0 ≤ n) && decide (n ≤ o - k)
def refE (D : DS) (fits : Bool) : Int := if fits then (if D.off then 12 else 0) else 2
structure DS.Ok (D : DS) : Prop where
  inb : InB D.data
  whole128 : D.data.length = D.secs * 128
  one : 1 ≤ D.secs
  most : D.secs ≤ 16384
  mlen : D.mask.length = 16
  minb : InB D.mask
  wh : 0 ≤ D.whole ∧ D.whole ≤ 9223372036854775807
  wr : 0 ≤ D.writes
theorem splice_get {α : Type} (L : List α) (o : Nat) (cs : List α) (h : o + cs.length ≤ L.length) (j : Nat) : (splice L o cs)[j]? = if j < o then L[j]? else if j < o + cs.length then cs[j - o]? else L[j]? := by
  have hl : (L.take o).length = o := by rw [List.length_take]; omega
  unfold splice
  by_cases h1 : j < o
  · rw [if_pos h1, List.getElem?_append_left (by omega), List.getElem?_take, if_pos h1]
  · rw [if_neg h1, List.getElem?_append_right (by omega), hl]
    by_cases h2 : j < o + cs.length
    · rw [if_pos h2, List.getElem?_append_left (by omega)]
    · rw [if_neg h2, List.getElem?_append_right (by omega), List.getElem?_drop]
      congr 1; omega
theorem splice_len {α : Type} (L : List α) (o : Nat) (cs : List α) (h : o + cs.length ≤ L.length) : (splice L o cs).length = L.length := by
  simp [splice]; omega
theorem splice_more (L : List Value) (o k : Nat) (T : List Int) (x : Int) (hk : k < T.length) (h : o + T.length ≤ L.length) (hx : x = T.getD k 0) : (splice L o (vals (T.take k))).toArray.setIfInBounds (o + k) (.int .u8 x) = (splice L o (vals (T.take (k + 1)))).toArray := by
  have l1 : (vals (T.take k)).length = k := by rw [vals_length, List.length_take]; omega
  have l2 : (vals (T.take (k + 1))).length = k + 1 := by rw [vals_length, List.length_take]; omega
  apply Array.ext_getElem?
  intro j
  rw [Array.getElem?_setIfInBounds, List.getElem?_toArray, List.getElem?_toArray, splice_get _ _ _ (by omega), splice_get _ _ _ (by omega), l1, l2, List.size_toArray, splice_len _ _ _ (by omega)]
  by_cases e : o + k = j
  · subst e
    rw [if_pos rfl, if_pos (by omega), if_neg (by omega), if_pos (by omega), Nat.add_sub_cancel_left]
    simp [vals, hx, hk]
  · rw [if_neg e]
    by_cases h1 : j < o
    · rw [if_pos h1, if_pos h1]
    · rw [if_neg h1, if_neg h1]
      by_cases h2 : j < o + k
      · rw [if_pos h2, if_pos (by omega)]
        simp [vals, show j - o < k by omega, show j - o < k + 1 by omega]
      · rw [if_neg h2, if_neg (by omega)]
theorem splice_same (L : List Value) (o k : Nat) (T : List Int) (hk : k < T.length) (h : o + T.length ≤ L.length) (hx : L[o + k]? = some (.int .u8 (T.getD k 0))) : splice L o (vals (T.take k)) = splice L o (vals (T.take (k + 1))) := by
  have l1 : (vals (T.take k)).length = k := by rw [vals_length, List.length_take]; omega
  have l2 : (vals (T.take (k + 1))).length = k + 1 := by rw [vals_length, List.length_take]; omega
  apply List.ext_getElem?
  intro j
  rw [splice_get _ _ _ (by omega), splice_get _ _ _ (by omega), l1, l2]
  by_cases h1 : j < o
  · rw [if_pos h1, if_pos h1]
  · rw [if_neg h1, if_neg h1]
    by_cases h2 : j < o + k
    · rw [if_pos h2, if_pos (by omega)]
      simp [vals, show j - o < k by omega, show j - o < k + 1 by omega]
    · rw [if_neg h2]
      by_cases h3 : j = o + k
      · subst h3
        rw [if_pos (by omega), hx, Nat.add_sub_cancel_left]
        simp [vals, hk]
      · rw [if_neg (by omega)]
theorem torn_len (m o b : List Int) : (tornL m o b).length = 128 := by simp [tornL]
theorem torn_get (m o b : List Int) (k : Nat) (h : k < 128) : (tornL m o b).getD k 0 = if bitM m k then b.getD k 0 else o.getD k 0 := by
  simp [tornL, List.getD_eq_getElem?_getD, h]
theorem secL_get (d : List Int) (k j : Nat) (h : j < 128) : (secL d k).getD j 0 = d.getD (k * 128 + j) 0 := by
  simp [secL, List.getD_eq_getElem?_getD, h]
theorem secL_len (d : List Int) (k : Nat) (h : k * 128 + 128 ≤ d.length) : (secL d k).length = 128 := by
  simp [secL]; omega
end Go.Proofs.Ytpeioogkbcejmaa.Dsk
/- DERIVED. What a write with a cut ahead leaves, byte by byte. No program. -/
namespace Go.Proofs.Ytpeioogkbcejmaa.Dsk
open Go.RowKit
theorem splice_getD (L : List Int) (o : Nat) (cs : List Int) (h : o + cs.length ≤ L.length) (j : Nat) : (splice L o cs).getD j 0 = if j < o then L.getD j 0 else if j < o + cs.length then cs.getD (j - o) 0 else L.getD j 0 := by
  simp only [List.getD_eq_getElem?_getD]
  rw [splice_get _ _ _ h]
  split
  · rfl
  · split <;> rfl
/-- is byte j written, where W more sectors are written whole, from the first-th on, of m? -/
def hitB (mask : List Int) (first m W j : Nat) : Bool := decide (first ≤ j / 128) && decide (j / 128 < first + m) && (decide (j / 128 - first < W) || (decide (j / 128 - first = W) && bitM mask (j % 128)))
structure TornQ (D : DS) (k : Nat) (b : List Int) (i m W : Nat) (R : DS × Int) : Prop where
  err : R.2 = if W < m then 12 else 0
  off : R.1.off = decide (W < m)
  len : R.1.data.length = D.data.length
  get : ∀ j, j < D.data.length → R.1.data.getD j 0 = if hitB D.mask (k + i) m W j then b.getD (j - k * 128) 0 else D.data.getD j 0
theorem torn_run (k : Nat) (b : List Int) : ∀ (m : Nat) (D : DS) (i W : Nat), D.off = false → D.laid = true → D.whole = W → (k + i + m) * 128 ≤ D.data.length → (i + m) * 128 ≤ b.length → TornQ D k b i m W (runD D k b i m) := by
  intro m
  induction m with
  | zero =>
    intro D i W ho _ _ _ _
    refine ⟨by simp [runD], by simp [runD, ho], by simp [runD], fun j _ => ?_⟩
    have : hitB D.mask (k + i) 0 W j = false := by
      unfold hitB
      by_cases h : k + i ≤ j / 128
      · rw [decide_eq_false (show ¬ j / 128 < k + i + 0 by omega)]; simp
      · rw [decide_eq_false h]; simp
    rw [runD, this, if_neg Bool.false_ne_true]
  | succ m ih =>
    intro D i W ho hl hw hd hb
    have hsl : i * 128 + 128 ≤ b.length := by omega
    have hls := secL_len b i hsl
    have hfit : (k + i) * 128 + 128 ≤ D.data.length := by omega
    by_cases h0 : W = 0
    · subst h0
      have hdue : D.due = true := by simp [DS.due, hl, hw]
      have hst : stepD D (k + i) (secL b i) = { data := splice D.data ((k + i) * 128) (tornL D.mask (secL D.data (k + i)) (secL b i)), writes := D.writes + 1, off := true, laid := false, whole := 0, mask := z16 } := by
        unfold stepD; rw [if_pos hdue]
      have hr : runD D k b i (m + 1) = (stepD D (k + i) (secL b i), 12) := by
        rw [runD, if_pos (by rw [hst])]
      rw [hr, hst]
      have ht : (tornL D.mask (secL D.data (k + i)) (secL b i)).length = 128 := torn_len _ _ _
      refine ⟨by simp, by simp, splice_len _ _ _ (by omega), fun j hj => ?_⟩
      simp only
      rw [splice_getD _ _ _ (by omega), ht]
      by_cases h1 : j < (k + i) * 128
      · have : hitB D.mask (k + i) (m + 1) 0 j = false := by
          unfold hitB; rw [decide_eq_false (show ¬ k + i ≤ j / 128 by omega)]; simp
        rw [if_pos h1, this, if_neg Bool.false_ne_true]
      · rw [if_neg h1]
        by_cases h2 : j < (k + i) * 128 + 128
        · have hq : j / 128 = k + i := by omega
          have hh : hitB D.mask (k + i) (m + 1) 0 j = bitM D.mask (j % 128) := by
            unfold hitB; rw [hq]; simp
          rw [if_pos h2, hh, torn_get _ _ _ _ (by omega), show j - (k + i) * 128 = j % 128 by omega, secL_get _ _ _ (by omega), secL_get _ _ _ (by omega)]
          rw [show i * 128 + j % 128 = j - k * 128 by omega, show (k + i) * 128 + j % 128 = j by omega]
        · have : hitB D.mask (k + i) (m + 1) 0 j = false := by
            unfold hitB; rw [decide_eq_false (show ¬ j / 128 - (k + i) < 0 by omega), decide_eq_false (show ¬ j / 128 - (k + i) = 0 by omega)]; simp
          rw [if_neg h2, this, if_neg Bool.false_ne_true]
    · obtain ⟨V, rfl⟩ : ∃ V, W = V + 1 := ⟨W - 1, by omega⟩
      have hdue : D.due = false := by
        have : D.whole ≠ 0 := by omega
        simp [DS.due, hl, this]
      have hst : stepD D (k + i) (secL b i) = { D with data := splice D.data ((k + i) * 128) (secL b i), writes := D.writes + 1, whole := D.whole - 1 } := by
        unfold stepD; rw [if_neg (by rw [hdue]; decide), if_pos hl]
      have hr : runD D k b i (m + 1) = runD (stepD D (k + i) (secL b i)) k b (i + 1) m := by
        rw [runD, if_neg (by rw [hst]; simp [ho])]
      have hlen : (splice D.data ((k + i) * 128) (secL b i)).length = D.data.length := splice_len _ _ _ (by omega)
      have h := ih (stepD D (k + i) (secL b i)) (i + 1) V (by rw [hst]; exact ho) (by rw [hst]; exact hl) (by rw [hst]; simp only; omega) (by rw [hst]; simp only [hlen]; omega) (by omega)
      rw [hr]
      obtain ⟨e1, e2, e3, e4⟩ := h
      rw [hst] at e1 e2 e3 e4 ⊢
      simp only [hlen] at e3 e4
      refine ⟨by rw [e1]; simp, by rw [e2]; simp, e3, fun j hj => ?_⟩
      rw [e4 j hj, splice_getD _ _ _ (by omega), hls]
      by_cases h1 : j < (k + i) * 128
      · have a1 : hitB D.mask (k + (i + 1)) m V j = false := by
          unfold hitB; rw [decide_eq_false (show ¬ k + (i + 1) ≤ j / 128 by omega)]; simp
        have a2 : hitB D.mask (k + i) (m + 1) (V + 1) j = false := by
          unfold hitB; rw [decide_eq_false (show ¬ k + i ≤ j / 128 by omega)]; simp
        rw [a1, a2, if_neg Bool.false_ne_true, if_neg Bool.false_ne_true, if_pos h1]
      · by_cases h2 : j < (k + i) * 128 + 128
        · have a1 : hitB D.mask (k + (i + 1)) m V j = false := by
            unfold hitB; rw [decide_eq_false (show ¬ k + (i + 1) ≤ j / 128 by omega)]; simp
          have a2 : hitB D.mask (k + i) (m + 1) (V + 1) j = true := by
            unfold hitB; rw [decide_eq_true (show k + i ≤ j / 128 by omega), decide_eq_true (show j / 128 < k + i + (m + 1) by omega), decide_eq_true (show j / 128 - (k + i) < V + 1 by omega)]; simp
          rw [a1, a2, if_neg Bool.false_ne_true, if_pos rfl, if_neg h1, if_pos h2, secL_get _ _ _ (by omega), show i * 128 + (j - (k + i) * 128) = j - k * 128 by omega]
        · have a : hitB D.mask (k + (i + 1)) m V j = hitB D.mask (k + i) (m + 1) (V + 1) j := by
            unfold hitB
            rw [show decide (k + (i + 1) ≤ j / 128) = decide (k + i ≤ j / 128) by rw [decide_eq_true (show k + (i + 1) ≤ j / 128 by omega), decide_eq_true (show k + i ≤ j / 128 by omega)],
              show decide (j / 128 < k + (i + 1) + m) = decide (j / 128 < k + i + (m + 1)) by congr 2; omega,
              show decide (j / 128 - (k + (i + 1)) < V) = decide (j / 128 - (k + i) < V + 1) by congr 1; apply propext; omega,
              show decide (j / 128 - (k + (i + 1)) = V) = decide (j / 128 - (k + i) = V + 1) by congr 1; apply propext; omega]
          rw [a, if_neg h1, if_neg h2]
end Go.Proofs.Ytpeioogkbcejmaa.Dsk
