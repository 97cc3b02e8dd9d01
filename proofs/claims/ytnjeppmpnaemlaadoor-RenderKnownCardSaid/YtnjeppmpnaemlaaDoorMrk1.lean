/- DERIVED. Texts of ours, merged: XBase XLaw XLawCard XBase2 XStr XOwn XChg XGrfKey. -/
import Derived.Laws.BitsAllLaws
import Derived.WalkKit
import Derived.KernelRfl
import Derived.Below
import Derived.Lib.Hide
import Derived.IntWalk
import Derived.Laws.ResultCell
import Derived.Laws.Rows
import Derived.Deep.MidRow
import Derived.Test.YtnjeppmpnaemlaaDoorProg
import Derived.Test.YtnjeppmpnaemlaaDoorChecked
import Derived.Test.YtnjeppmpnaemlaaDoorRows
import Derived.ProofKit
import Derived.OpenShut
import Derived.Deep.DeepHandedRow
import Derived.Lib.LaidTab
import Derived.ChangeMaps5
import Derived.WideKeyArr2
import Derived.Test.YtnjeppmpnaemlaaDoorCards
import Derived.Test.YtnjeppmpnaemlaaDoorTie
import Derived.Deep.Draws
import Derived.Lib.ConvBytes
import Derived.Laws.BytesArg
import Derived.Maps.AppendAt
import Derived.OwnWalk
import Derived.Deep.DeepCutAuto
import Derived.Laws.CopyOwn
import Derived.Laws.IdiomCopy
import Derived.Maps.OwnSet
import Derived.Maps.OwnOps
import Derived.Maps.RangeWalk
import Derived.DeepKeys5
import Derived.WideKeyEntry
/- DERIVED. Words on rows of numbers in memory that every layer uses; no program, no number of a type. -/
namespace Go.Proofs.YtnjeppmpnaemlaaDoor
open Go.RowKit
def u32s (l : List Int) : Array Value := (l.map (Value.int .u32)).toArray
def u8s (l : List Int) : Array Value := (l.map (Value.int .u8)).toArray
theorem u32s_size (l : List Int) : (u32s l).size = l.length := by simp [u32s]
theorem u8s_size (l : List Int) : (u8s l).size = l.length := by simp [u8s]
theorem u32s_get (l : List Int) (j : Nat) (h : j < l.length) : (u32s l)[j]? = some (.int .u32 (l.getD j 0)) := by simp [u32s, h]
theorem u8s_get (l : List Int) (j : Nat) (h : j < l.length) : (u8s l)[j]? = some (.int .u8 (l.getD j 0)) := by simp [u8s, h]
/-- the first k cells of S hold the words f 0 .. f (k-1). -/
def Holds (S : Array Value) (n k : Nat) (f : Nat → Int) : Prop := S.size = n ∧ ∀ j, j < k → S[j]? = some (.int .u32 (f j))
theorem Holds.nil (S : Array Value) (n : Nat) (f : Nat → Int) (h : S.size = n) : Holds S n 0 f := ⟨h, fun _ h => absurd h (Nat.not_lt_zero _)⟩
theorem Holds.set {S : Array Value} {n k : Nat} {f : Nat → Int} (h : Holds S n k f) (hk : k < n) (v : Int) (hv : v = f k) : Holds (S.setIfInBounds k (.int .u32 v)) n (k + 1) f := by
  refine ⟨by simp [h.1], fun j hj => ?_⟩
  rw [Array.getElem?_setIfInBounds]
  by_cases e : k = j
  · subst e; rw [if_pos rfl, if_pos (by rw [h.1]; exact hk), hv]
  · rw [if_neg e]; exact h.2 j (by omega)
theorem Holds.whole {S : Array Value} {n : Nat} {f : Nat → Int} {l : List Int} (h : Holds S n n f) (hl : l.length = n) (hf : ∀ j, j < n → f j = l.getD j 0) : S = u32s l := by
  apply Array.ext_getElem?
  intro j
  by_cases hj : j < n
  · rw [h.2 j hj, u32s_get l j (by omega), hf j hj]
  · rw [Array.getElem?_eq_none (by rw [h.1]; omega), Array.getElem?_eq_none (by rw [u32s_size]; omega)]

def InB (l : List Int) : Prop := ∀ j, 0 ≤ l.getD j 0 ∧ l.getD j 0 < 256
theorem u32s_one (l : List Int) : (u32s l).all (·.oneCell') = true := by
  rw [Array.all_eq_true_iff_forall_mem]
  intro v hv
  simp only [u32s, List.mem_toArray, List.mem_map] at hv
  obtain ⟨x, _, rfl⟩ := hv
  rfl
theorem cell_row {w : World} {g : Nat} {C : Array Value} {t : TypeId} {fr : Nat × Nat} (h : w.heap[g]? = some (.cells C t fr)) (j : Nat) : w.cell? ⟨g, j, none⟩ = C[j]? := by
  simp [World.cell?, h]
theorem free_row {w : World} {g : Nat} {C : Array Value} {t : TypeId} (h : w.heap[g]? = some (.cells C t (0, 0))) (j : Nat) : w.frozen? ⟨g, j, none⟩ = false := by
  simp [World.frozen?, h]
theorem three_new (w : World) (A B C : Obj) : (((w.alloc A).alloc B).alloc C).heap[w.heap.size]? = some A ∧ (((w.alloc A).alloc B).alloc C).heap[w.heap.size + 1]? = some B ∧ (((w.alloc A).alloc B).alloc C).heap[w.heap.size + 1 + 1]? = some C := by
  refine ⟨?_, ?_, ?_⟩
  · exact (Go.heap_alloc_old ((w.alloc A).alloc B) C (by simp; omega)).trans (heap_alloc2_old w A B)
  · exact (Go.heap_alloc_old ((w.alloc A).alloc B) C (by simp)).trans (heap_alloc2_new w A B)
  · have := heap_alloc_new ((w.alloc A).alloc B) C
    simpa using this
theorem below3 (w : World) (A B C : Obj) : Below w.heap.size w (((w.alloc A).alloc B).alloc C) :=
  (((Below.refl _ _).alloc (Nat.le_refl _) _).alloc (by simp) _).alloc (by simp; omega) _
/-- the first k cells of S hold the bytes f 0 .. f (k-1). -/
def HoldsB (S : Array Value) (n k : Nat) (f : Nat → Int) : Prop := S.size = n ∧ ∀ j, j < k → S[j]? = some (.int .u8 (f j))
theorem HoldsB.nil (S : Array Value) (n : Nat) (f : Nat → Int) (h : S.size = n) : HoldsB S n 0 f := ⟨h, fun _ h => absurd h (Nat.not_lt_zero _)⟩
theorem HoldsB.set {S : Array Value} {n k : Nat} {f : Nat → Int} (h : HoldsB S n k f) (hk : k < n) (v : Int) (hv : v = f k) : HoldsB (S.setIfInBounds k (.int .u8 v)) n (k + 1) f := by
  refine ⟨by simp [h.1], fun j hj => ?_⟩
  rw [Array.getElem?_setIfInBounds]
  by_cases e : k = j
  · subst e; rw [if_pos rfl, if_pos (by rw [h.1]; exact hk), hv]
  · rw [if_neg e]; exact h.2 j (by omega)
theorem HoldsB.whole {S : Array Value} {n : Nat} {f : Nat → Int} {l : List Int} (h : HoldsB S n n f) (hl : l.length = n) (hf : ∀ j, j < n → f j = l.getD j 0) : S = u8s l := by
  apply Array.ext_getElem?
  intro j
  by_cases hj : j < n
  · rw [h.2 j hj, u8s_get l j (by omega), hf j hj]
  · rw [Array.getElem?_eq_none (by rw [h.1]; omega), Array.getElem?_eq_none (by rw [u8s_size]; omega)]
theorem u8s_one (l : List Int) : (u8s l).all (·.oneCell') = true := by
  rw [Array.all_eq_true_iff_forall_mem]
  intro v hv
  simp only [u8s, List.mem_toArray, List.mem_map] at hv
  obtain ⟨x, _, rfl⟩ := hv
  rfl
/-- the slice (A, L.length, c) reads as the bytes L. -/
def Byt (w : World) (A : Option Addr) (c : Nat) (L : List Int) : Prop := L.length ≤ c ∧ (A = none → c = 0) ∧ (0 < L.length → ∃ g off, A = some ⟨g, off, none⟩ ∧ g < w.heap.size ∧ ∀ j, j < L.length → w.cell? ⟨g, off + j, none⟩ = some (.int .u8 (L.getD j 0)))
def vals (L : List Int) : List Value := L.map (Value.int .u8)
theorem vals_one (L : List Int) : ∀ u ∈ vals L, u.oneCell' = true := by
  intro u hu
  simp only [vals, List.mem_map] at hu
  obtain ⟨x, _, rfl⟩ := hu
  rfl
theorem vals_length (L : List Int) : (vals L).length = L.length := by simp [vals]
theorem vals_get {L : List Int} {j : Nat} {u : Value} (h : (vals L)[j]? = some u) : j < L.length ∧ u = .int .u8 (L.getD j 0) := by
  have hj : j < L.length := by have := (List.getElem?_eq_some_iff.1 h).1; rwa [vals_length] at this
  refine ⟨hj, ?_⟩
  simp [vals, hj] at h
  simp [← h, hj]
theorem Byt.cells {w w' : World} {A : Option Addr} {c : Nat} {L : List Int} (h : Byt w A c L) (hb : ∀ p : Addr, p.block < w.heap.size → w'.cell? p = w.cell? p) (ad : Addr) (hA : A = some ad) :
    ∀ j u, (vals L)[j]? = some u → w'.cell? (ad.add j) = some u := by
  intro j u hu
  obtain ⟨hj, rfl⟩ := vals_get hu
  obtain ⟨g, off, hA', hg, hc⟩ := h.2.2 (by omega)
  rw [hA] at hA'
  obtain rfl := Option.some.inj hA'
  rw [Addr.add_mid, hb _ hg]
  exact hc j hj
theorem Byt.below {w w' : World} {B c : Nat} {A : Option Addr} {L : List Int} (h : Byt w A c L) (hb : Below B w w') (hB : w.heap.size ≤ B) : Byt w' A c L :=
  ⟨h.1, h.2.1, fun hl => by
    obtain ⟨g, off, hA, hg, hc⟩ := h.2.2 hl
    exact ⟨g, off, hA, Nat.lt_of_lt_of_le hg hb.size, fun j hj => (hb.cell (p := ⟨g, off + j, none⟩) (Nat.lt_of_lt_of_le hg hB)).trans (hc j hj)⟩⟩
theorem two_new (w : World) (A B : Obj) : ((w.alloc A).alloc B).heap[w.heap.size]? = some A ∧ ((w.alloc A).alloc B).heap[w.heap.size + 1]? = some B := ⟨heap_alloc2_old w A B, heap_alloc2_new w A B⟩
theorem getD_out (L : List Int) (j : Nat) (h : L.length ≤ j) : L.getD j 0 = 0 := by simp [List.getD_eq_getElem?_getD, List.getElem?_eq_none h]
theorem InB.drop {L : List Int} (h : InB L) (n : Nat) : InB (L.drop n) := by
  intro j
  have := h (n + j)
  simpa [List.getD_eq_getElem?_getD, List.getElem?_drop] using this
theorem InB.take {L : List Int} (h : InB L) (n : Nat) : InB (L.take n) := by
  intro j
  by_cases hj : j < n
  · have := h j
    simpa [List.getD_eq_getElem?_getD, List.getElem?_take, hj] using this
  · simp [List.getD_eq_getElem?_getD, List.getElem?_take, hj]
theorem Byt.cut {w : World} {A : Option Addr} {c n : Nat} {L : List Int} (h : Byt w A c L) (hn : n ≤ L.length) : Byt w (if c = n then A else A.map (·.add n)) (c - n) (L.drop n) := by
  refine ⟨by have := h.1; simp; omega, fun hA => ?_, fun hl => ?_⟩
  · have h1 := h.1
    by_cases e : c = n
    · omega
    · rw [if_neg e] at hA
      have : A = none := by cases A <;> simp_all
      have := h.2.1 this
      omega
  · have h1 := h.1
    simp at hl
    obtain ⟨g, off, rfl, hg, hc⟩ := h.2.2 (by omega)
    rw [if_neg (by omega)]
    refine ⟨g, off + n, by simp [Addr.add_mid], hg, fun j hj => ?_⟩
    rw [show off + n + j = off + (n + j) by omega, hc (n + j) (by simp at hj; omega)]
    simp [List.getD_eq_getElem?_getD, List.getElem?_drop]
theorem results_row_tmp {P : Program} {fn : Func} {p u : Tmp} {ty : TypeId} (h : fn.results = #[.cell p ty, .tmp u]) (tmps : Array Value) (w : World) (g : Nat) (t : TypeId) (cs : Array Value) (fr : Nat × Nat) (d : TypeDesc) (x : Value)
    (hp : tmps.getD p undef = .pointer (some ⟨g, 0, none⟩)) (hx : tmps.getD u undef = x) (hg : w.heap[g]? = some (.cells cs t fr))
    (hu : P.underlying ty = some d) (hd : (match d with | .struct _ | .array _ _ => true | _ => false) = true) (hi : (P.info? ty).map (·.size) = some cs.size) :
    (results fn tmps).run P w = .ok (.tuple #[.agg cs, x]) w := by
  rw [results_cell_tmp h, hp, hx]
  simp [asAddr, run_loadVar_row w g t ty cs fr d hg hu hd hi]
theorem Byt.alloc {w : World} {A : Option Addr} {c : Nat} {l : List Int} (h : Byt w A c l) (o : Obj) : Byt (w.alloc o) A c l := h.below ((Below.refl w.heap.size w).alloc (Nat.le_refl _) o) (Nat.le_refl _)
theorem InB.append {L M : List Int} (h : InB L) (k : InB M) : InB (L ++ M) := by
  intro j
  by_cases hj : j < L.length
  · have := h j; simpa [List.getD_eq_getElem?_getD, List.getElem?_append_left hj] using this
  · have := k (j - L.length); simpa [List.getD_eq_getElem?_getD, List.getElem?_append_right (Nat.le_of_not_lt hj)] using this
end Go.Proofs.YtnjeppmpnaemlaaDoor
/- DERIVED. What every law's frame wants, of any layer: no number of a type is typed. -/
namespace Go.Proofs.YtnjeppmpnaemlaaDoor
open Go.ChangeShapes Go.WideShapes Go.ChangeAt Go.RowKit
theorem own : ownKnob Tryd.prog.godebug = none := by kernel_rfl
theorem laidOut : laidOutB Tryd.prog = true := by kernel_rfl
theorem trodAll_below {H : Type} {enc : TypeId × Value → H} {W W' : World} (hb : Below W.heap.size W W') : ∀ {ts : List TypeId} {vs : List Value} {ds : List (DataW H)} {ps : List MemPlace},
    (∀ t ∈ ts, Tryd.prog.readableRec t = true ∧ t < Tryd.prog.types.size) → (∀ x ∈ ps, x.block < W.heap.size) → DataW.TrodAll enc Tryd.prog W 0 (fun _ => true) true ts vs ds ps →
    DataW.TrodAll enc Tryd.prog W' 0 (fun b => decide (b < W.heap.size)) true ts vs ds ps
  | [], vs, ds, ps, _, _, h => by
    obtain ⟨rfl, rfl, rfl⟩ := trodAll_nil h
    exact trodAll_mk0
  | t :: ts, vs, ds, ps, ht, hlt, h => by
    obtain ⟨v0, vs0, d0, ds0, p0, q0, rfl, rfl, rfl, h0, r0⟩ := trodAll_cons h
    have h1 := ht t (List.mem_cons_self ..)
    exact trodAll_cons_mk (Below.trod laidOut h1.1 h1.2 h0 hb (fun x hx => hlt x (List.mem_append_left _ hx)))
      (trodAll_below hb (fun t' h' => ht t' (List.mem_cons_of_mem _ h')) (fun x hx => hlt x (List.mem_append_right _ hx)) r0)
/-- a law's end: it answers true, and what came in is as it was. -/
theorem law_post {H : Type} {enc : TypeId × Value → H} {f : Func} {s : ChangeSpec} {W W' : World} {args : Array Value} {ds gs : List (DataW H)} {before : List MemPlace}
    (hW : DataW.Whole enc Tryd.prog f.params.toList s.vars false W args.toList ds gs before) (hv : s.vars = []) (hr : f.resultTypes = #[4])
    (hp : ∀ t ∈ f.params.toList, Tryd.prog.readableRec t = true ∧ t < Tryd.prog.types.size)
    (hs : (s.fn H (ds ++ [])).results = [.lit (.bool true)] ∧ (s.fn H (ds ++ [])).args = ds ∧ (s.fn H (ds ++ [])).vars = []) (hb : Below W.heap.size W W') :
    s.post enc Tryd.prog f false true false false W args (.bool true) W' := by
  have hW' := hW
  obtain ⟨p, q, hA, hV, rfl, _, _⟩ := hW
  rw [hv] at hV
  obtain ⟨rfl, rfl⟩ := trodVars_none hV
  refine ⟨ds, [], p ++ [], [], p, [], hW', ?_, ?_, ?_, hb.frame _, fun h => by cases h⟩
  · rw [hs.1, hr]
    exact trodAll_mk1 (shut_bool Tryd.underlying4 true)
  · rw [hs.2.1]
    exact trodAll_below hb hp (fun x hx => by simpa using hW'.lt x (by simpa using hx)) hA
  · rw [hs.2.2, hv]
    rfl
def fillRow (cs : Array Value) : Obj → Obj
  | .cells _ t frozen => .cells cs t frozen
  | o => o
/-- the number in a value. -/
def numIn : Value → Int
  | .int _ q => q
  | _ => 0
theorem mapM_each {α β : Type} (f : α → Option β) : ∀ (L : List α) (ys : List β), L.mapM f = some ys → ∀ i ∈ L, ∃ y, f i = some y
  | [], _, _, _, h => by cases h
  | a :: L, ys, h, i, hi => by
    rw [List.mapM_cons] at h
    simp only [bind, Option.bind_eq_some_iff, pure, Option.some.injEq] at h
    obtain ⟨y, hy, zs, hzs, _⟩ := h
    rcases List.mem_cons.1 hi with rfl | hi
    · exact ⟨y, hy⟩
    · exact mapM_each f L zs hzs i hi
/-- the readings of an array's cells, one by one. -/
theorem trod_arr {H : Type} {enc : TypeId × Value → H} {W : World} {T E : TypeId} {n : Nat} {k : IntKind} (arr : WideMaps.ArrKey Tryd.prog T E n) (hE : Tryd.prog.underlying E = some (.int k)) {xs : Array Value} (hn : xs.size = n) {d : DataW H} {p : List MemPlace}
    (h : DataW.Trod enc Tryd.prog W 0 (fun _ => true) true T (.agg xs) d p) : ∃ l : List Int, xs = (l.map (Value.int k)).toArray ∧ l.length = n ∧ ∀ j, j < n → (Lit.int k (l.getD j 0)).wf = true := by
  obtain ⟨fuel, hf⟩ := h
  cases fuel with
  | zero => simp [DataW.trod] at hf
  | succ m =>
    rw [DataW.trod_step] at hf
    unfold DataW.trodStep at hf
    simp only [arr.hu, Value.cells] at hf
    rw [if_pos (by rw [arr.size]; simpa using hn)] at hf
    simp only [Option.map_eq_some_iff] at hf
    obtain ⟨ys, hy, _⟩ := hf
    have each : ∀ i, i < n → ∃ a : Int, xs[i]? = some (.int k a) ∧ (Lit.int k a).wf = true := by
      intro i hi
      obtain ⟨y, hy1⟩ := mapM_each _ _ _ hy i (List.mem_range.2 hi)
      obtain ⟨a, ea, _, wa⟩ := DataW.trod_int hE hy1
      rw [arr.one, Nat.mul_one] at ea
      have e2 : xs.toList[i]? = some (.int k a) := by
        have := congrArg (fun l : List Value => l[0]?) ea
        simpa [List.getElem?_take, List.getElem?_drop] using this
      rw [Array.getElem?_toList] at e2
      exact ⟨a, e2, wa⟩
    refine ⟨xs.toList.map numIn, ?_, by rw [List.length_map, Array.length_toList, hn], fun j hj => ?_⟩
    · refine Array.ext_getElem? fun i => ?_
      by_cases hi : i < n
      · obtain ⟨a, ha, _⟩ := each i hi
        rw [ha]
        simp [ha, numIn]
      · rw [Array.getElem?_eq_none (by omega), Array.getElem?_eq_none (by simp; omega)]
    · obtain ⟨a, ha, h0⟩ := each j hj
      simpa [List.getD_eq_getElem?_getD, ha, numIn] using h0
set_option maxRecDepth 100000 in
/-- a parameter that is an array of numbers. -/
theorem open_arr {H : Type} {enc : TypeId × Value → H} {W : World} {base : Nat} {v : Value} {d : DataW H} {p : List MemPlace} {T E : TypeId} {n : Nat} {k : IntKind} (arr : WideMaps.ArrKey Tryd.prog T E n) (hE : Tryd.prog.underlying E = some (.int k)) (hv : Value.okWide Tryd.prog W .any base T v)
    (h : DataW.Trod enc Tryd.prog W 0 (fun _ => true) true T v d p) : ∃ l : List Int, v = .agg (l.map (Value.int k)).toArray ∧ l.length = n ∧ ∀ j, j < n → (Lit.int k (l.getD j 0)).wf = true := by
  obtain ⟨xs, rfl, hn⟩ := WideMaps.okWide_arr arr hv
  obtain ⟨l, rfl, h1, h2⟩ := trod_arr arr hE hn h
  exact ⟨l, rfl, h1, h2⟩
theorem inB_wf {l : List Int} {n : Nat} (hl : l.length = n) (h : ∀ j, j < n → (Lit.int .u8 (l.getD j 0)).wf = true) : InB l := by
  intro j
  by_cases hj : j < n
  · have h2 : 0 ≤ l.getD j 0 ∧ l.getD j 0 ≤ 255 := by simpa [Lit.wf, IntKind.bits, IntKind.signed, IntKind.min, IntKind.max] using h j hj
    omega
  · rw [getD_out _ _ (by omega)]; omega
end Go.Proofs.YtnjeppmpnaemlaaDoor
/- DERIVED. What the cards ask of a law's parameters (a seat with cards alone). -/
namespace Go.Proofs.YtnjeppmpnaemlaaDoor
open Go.ChangeShapes Go.WideShapes Go.ChangeAt Go.RowKit
/-- no parameter wants a stand-in: what the cards ask, of a function whose parameters' types are ts. -/
theorem plain_of {b : Bool} {name : String} {n : Nat} {f0 : Func} {ts : List TypeId} (hn : Tryd.prog.funcNamed name = some n) (hf0 : Tryd.prog.funcs[n]? = some f0) (hp : f0.params.toList = ts) (hl : b = Tryd.pinned.checked.prog.looks [])
    (ht : (ts.all fun t => !Tryd.prog.wantsStandIn t) = true) (f : FuncId) (fn : Func) (hf : Tryd.pinned.checked.prog.funcNamed name = some f) (hfn : Tryd.pinned.checked.prog.funcs[f]? = some fn) :
    b = Tryd.pinned.checked.prog.looks [] ∧ ∀ (j : Nat) t, fn.params[j]? = some t → Tryd.pinned.checked.prog.wantsStandIn t = false := by
  obtain rfl : f = n := Option.some.inj (hn.symm.trans hf) |>.symm
  obtain rfl : fn = f0 := (Option.some.inj (hf0.symm.trans hfn)).symm
  refine ⟨hl, fun j t h => ?_⟩
  have hm : t ∈ ts := by rw [← hp]; simpa using Array.mem_of_getElem? h
  have := List.all_eq_true.1 ht t hm
  exact (show Tryd.prog.wantsStandIn t = false by simpa using this)
end Go.Proofs.YtnjeppmpnaemlaaDoor
/- DERIVED. More words on rows in memory; no program. -/
namespace Go.Proofs.YtnjeppmpnaemlaaDoor
open Go.RowKit
/-- a block that was new ahead of a call is there behind it. -/
theorem kept_new {w w1 : World} {C : Array Value} {T : Nat} (h : Below (w.alloc (.cells C T)).heap.size (w.alloc (.cells C T)) w1) : w.heap.size < w1.heap.size ∧ w1.heap[w.heap.size]? = some (.cells C T (0, 0)) := by
  have hs : w.heap.size < (w.alloc (.cells C T)).heap.size := by rw [World.size_alloc]; omega
  exact ⟨Nat.lt_of_lt_of_le hs h.size, (h.block _ hs).trans (Go.heap_alloc_new _ _)⟩
/-- four cells of a block. -/
theorem cells4 {w : World} {g T : Nat} {a b c d : Value} {fr : Nat × Nat} (h : w.heap[g]? = some (.cells #[a, b, c, d] T fr)) :
    w.cell? ⟨g, 0, none⟩ = some a ∧ w.cell? ⟨g, 1, none⟩ = some b ∧ w.cell? ⟨g, 2, none⟩ = some c ∧ w.cell? ⟨g, 3, none⟩ = some d :=
  ⟨cell_row h 0, cell_row h 1, cell_row h 2, cell_row h 3⟩
theorem u32s_set (l : List Int) (k : Nat) (v : Int) : (u32s l).setIfInBounds k (.int .u32 v) = u32s (l.set k v) := by
  simp [u32s, List.map_set]
theorem u8s_set (l : List Int) (k : Nat) (v : Int) : (u8s l).setIfInBounds k (.int .u8 v) = u8s (l.set k v) := by
  simp [u8s, List.map_set]
/-- a row of words, one word written. -/
theorem row32_set {w : World} {g T : Nat} {l : List Int} (h : w.heap[g]? = some (.cells (u32s l) T (0, 0))) (k : Nat) (v : Int) : (w.setCell ⟨g, k, none⟩ (.int .u32 v)).heap[g]? = some (.cells (u32s (l.set k v)) T (0, 0)) := by
  rw [← u32s_set]; exact heap_setCell_same _ _ _ _ _ _ h
theorem row8_set {w : World} {g T : Nat} {l : List Int} (h : w.heap[g]? = some (.cells (u8s l) T (0, 0))) (k : Nat) (v : Int) : (w.setCell ⟨g, k, none⟩ (.int .u8 v)).heap[g]? = some (.cells (u8s (l.set k v)) T (0, 0)) := by
  rw [← u8s_set]; exact heap_setCell_same _ _ _ _ _ _ h
theorem row32_cell {w : World} {g T : Nat} {l : List Int} {fr : Nat × Nat} (h : w.heap[g]? = some (.cells (u32s l) T fr)) (k : Nat) (hk : k < l.length) : w.cell? ⟨g, k, none⟩ = some (.int .u32 (l.getD k 0)) := by
  rw [cell_row h, u32s_get l k hk]
theorem row8_cell {w : World} {g T : Nat} {l : List Int} {fr : Nat × Nat} (h : w.heap[g]? = some (.cells (u8s l) T fr)) (k : Nat) (hk : k < l.length) : w.cell? ⟨g, k, none⟩ = some (.int .u8 (l.getD k 0)) := by
  rw [cell_row h, u8s_get l k hk]
theorem four_new (w : World) (A B C D : Obj) : ((((w.alloc A).alloc B).alloc C).alloc D).heap[w.heap.size]? = some A ∧ ((((w.alloc A).alloc B).alloc C).alloc D).heap[w.heap.size + 1]? = some B ∧ ((((w.alloc A).alloc B).alloc C).alloc D).heap[w.heap.size + 1 + 1]? = some C ∧ ((((w.alloc A).alloc B).alloc C).alloc D).heap[w.heap.size + 1 + 1 + 1]? = some D := by
  have h := three_new w A B C
  refine ⟨?_, ?_, ?_, ?_⟩
  · exact (Go.heap_alloc_old _ D (by simp; omega)).trans h.1
  · exact (Go.heap_alloc_old _ D (by simp)).trans h.2.1
  · exact (Go.heap_alloc_old _ D (by simp)).trans h.2.2
  · have := heap_alloc_new (((w.alloc A).alloc B).alloc C) D
    simpa using this
theorem below4 (w : World) (A B C D : Obj) : Below w.heap.size w ((((w.alloc A).alloc B).alloc C).alloc D) := (below3 w A B C).alloc (by simp; omega) _
theorem Below.drewN {B : Nat} {w w' : World} (h : Below B w w') (n : Nat) : Below B w (w'.drewN n) := ⟨h.os, h.tape, h.output, h.size, h.block⟩
end Go.Proofs.YtnjeppmpnaemlaaDoor
/- DERIVED. Texts and slices of bytes, there and back; no number of a type. -/
namespace Go.Proofs.YtnjeppmpnaemlaaDoor.Str
open Go.RowKit
/-- a text's bytes. -/
def bOf (s : ByteArray) : List Int := s.data.toList.map fun b => (b.toNat : Int)
theorem bOf_length (s : ByteArray) : (bOf s).length = s.size := by rw [bOf, List.length_map, Array.length_toList]; rfl
theorem bOf_in (s : ByteArray) : InB (bOf s) := by
  intro j
  by_cases h : j < (bOf s).length
  · have h' : j < s.data.toList.length := by simpa [bOf] using h
    have e : (bOf s).getD j 0 = ((s.data.toList[j]).toNat : Int) := by simp [bOf, List.getD_eq_getElem?_getD, List.getElem?_map, List.getElem?_eq_getElem h']
    rw [e]
    have := (s.data.toList[j]).toNat_lt
    omega
  · rw [getD_out _ _ (Nat.le_of_not_lt h)]; omega
theorem byt_string (w : World) (s : ByteArray) : Byt (Lib.bytesWorld w 5 s) (some ⟨w.heap.size, 0, none⟩) (grownCap w s.size 0 5) (bOf s) := by
  refine ⟨by rw [bOf_length]; exact grownCap_ge _ _ _ _, (fun h => by cases h), fun _ => ⟨w.heap.size, 0, rfl, by rw [Lib.bytesWorld_size]; omega, fun j hj => ?_⟩⟩
  rw [bOf_length] at hj
  rw [Nat.zero_add, Lib.bytesWorld_cell w 5 s j hj]
  have h' : j < s.data.toList.length := by simpa using hj
  simp [bOf, List.getD_eq_getElem?_getD, List.getElem?_map, List.getElem?_eq_getElem h']
theorem below_string (w : World) (s : ByteArray) : Below w.heap.size w (Lib.bytesWorld w 5 s) := by
  refine ⟨?_, ?_, ?_, by rw [Lib.bytesWorld_size]; omega, fun k hk => Lib.bytesWorld_at_old w 5 s k hk⟩
  all_goals (simp only [Lib.bytesWorld, World.freeze]; rfl)
/-- a text as bytes. -/
theorem run_bytes (w : World) (s : ByteArray) : (convert 9 161 (.string s)).run Tryd.prog w = .ok (.slice (some ⟨w.heap.size, 0, none⟩) s.size (grownCap w s.size 0 5)) (Lib.bytesWorld w 5 s) :=
  Lib.run_convert_string_bytes w 9 161 5 s Tryd.underlying9 Tryd.underlying161 Tryd.underlying5
/-- a slice of bytes as a text, empty ones let in. -/
theorem conv_any {w : World} {A : Option Addr} {c n : Nat} {L : List Int} (hB : Byt w A c L) (hn : L.length = n) : (convert 161 9 (.slice A n c)).run Tryd.prog w = .ok (.string (strOfNums L)) w := by
  by_cases h0 : 0 < n
  · obtain ⟨g, off, rfl, _, hc⟩ := hB.2.2 (by omega)
    exact run_convert_bytes_arg w 161 5 Tryd.underlying161 Tryd.underlying5 g off n c L hn (fun i hi => hc i (by omega)) 9 Tryd.underlying9
  · obtain rfl : n = 0 := by omega
    obtain rfl : L = [] := List.eq_nil_of_length_eq_zero hn
    cases A with
    | none => exact run_convert_bytes_nil w 161 5 Tryd.underlying161 Tryd.underlying5 0 c 9 Tryd.underlying9
    | some a =>
      rw [run_convert_bytes_string w 161 9 5 _ 0 c Tryd.underlying161 Tryd.underlying5 Tryd.underlying9]
      simp [Conv.bytesToString, loadCells, loadCellsFrom, strOfNums]
      rfl
/-- a slice's beginning. -/
theorem byt_take {w : World} {A : Option Addr} {c : Nat} {L : List Int} (h : Byt w A c L) (k : Nat) : Byt w A c (L.take k) := by
  obtain ⟨h1, h2, h3⟩ := h
  refine ⟨by rw [List.length_take]; omega, h2, fun h0 => ?_⟩
  rw [List.length_take] at h0
  obtain ⟨g, off, e, hg, hc⟩ := h3 (by omega)
  refine ⟨g, off, e, hg, fun j hj => ?_⟩
  rw [List.length_take] at hj
  rw [hc j (by omega)]
  simp [List.getD_eq_getElem?_getD, show j < k by omega]
theorem byt_rowT {w : World} {g : Nat} {t : TypeId} {l : List Int} {fr : Nat × Nat} (h : w.heap[g]? = some (.cells (u8s l) t fr)) {n : Nat} (hn : l.length = n) : Byt w (some ⟨g, 0, none⟩) n l :=
  ⟨by omega, (fun h => by cases h), fun _ => ⟨g, 0, rfl, (Array.getElem?_eq_some_iff.1 h).1, fun j hj => by rw [Nat.zero_add, cell_row h, u8s_get _ _ hj]⟩⟩
theorem inB_get {L : List Int} (h : InB L) : ∀ x ∈ L, 0 ≤ x ∧ x < 256 := by
  intro x hx
  obtain ⟨j, hj, rfl⟩ := List.getElem_of_mem hx
  have := h j
  simpa [List.getD_eq_getElem?_getD, hj] using this
theorem bOf_str {L : List Int} (h : InB L) : bOf (strOfNums L) = L := by
  have hm := inB_get h
  unfold bOf
  rw [strOfNums_data, List.map_map]
  conv => rhs; rw [← List.map_id L]
  refine List.map_congr_left fun x hx => ?_
  have := hm x hx
  simp
  omega
theorem str_bOf (s : ByteArray) : strOfNums (bOf s) = s := by
  unfold strOfNums bOf
  congr 1
  rw [List.map_map]
  have : ((fun n : Int => UInt8.ofNat n.toNat) ∘ fun b : UInt8 => (b.toNat : Int)) = id := by
    funext b
    simp
  rw [this, List.map_id]
theorem str_inj {L M : List Int} (h : InB L) (k : InB M) (e : strOfNums L = strOfNums M) : L = M := by
  rw [← bOf_str h, ← bOf_str k, e]
theorem toList_inj {s t : ByteArray} (e : s.toList = t.toList) : s = t := by
  rw [ByteArray.toList_eq, ByteArray.toList_eq] at e
  cases s; cases t
  simpa using e
theorem str_ne {L M : List Int} (h : InB L) (k : InB M) (e : L ≠ M) : ¬ (strOfNums L).toList = (strOfNums M).toList := fun h' => e (str_inj h k (toList_inj h'))
theorem bOf_inj {s t : ByteArray} (e : bOf s = bOf t) : s = t := by
  rw [← str_bOf s, ← str_bOf t, e]
end Go.Proofs.YtnjeppmpnaemlaaDoor.Str
/- DERIVED. Rows of numbers of any kind that a call makes by append: what they hold, how they grow, what stays. No program. -/
namespace Go.Proofs.YtnjeppmpnaemlaaDoor
open Go.RowKit
def valsK (k : IntKind) (L : List Int) : List Value := L.map (Value.int k)
theorem valsK_length (k : IntKind) (L : List Int) : (valsK k L).length = L.length := by simp [valsK]
theorem valsK_one (k : IntKind) (L : List Int) : ∀ u ∈ valsK k L, u.oneCell' = true := by
  intro u hu
  simp only [valsK, List.mem_map] at hu
  obtain ⟨x, _, rfl⟩ := hu
  rfl
theorem one_oneK (k : IntKind) (x : Int) : ∀ u ∈ [Value.int k x], u.oneCell' = true := by
  intro u hu
  simp at hu
  subst hu
  rfl
theorem valsK_u8 (L : List Int) : valsK .u8 L = vals L := rfl
theorem moreK (k : IntKind) (L : List Int) (x : Int) : valsK k L ++ [.int k x] = valsK k (L ++ [x]) := by simp [valsK]
theorem take_moreK (k : IntKind) {L : List Int} {j : Nat} (h : j < L.length) : valsK k (L.take j) ++ [.int k (L.getD j 0)] = valsK k (L.take (j + 1)) := by
  have e : L.getD j 0 = L[j] := by simp [List.getD_eq_getElem?_getD, h]
  rw [e, List.take_succ_eq_append_getElem h]
  simp only [valsK, List.map_append, List.map_cons, List.map_nil]
theorem take_getD {L : List Int} {j : Nat} (h : j < L.length) : L.take j ++ [L.getD j 0] = L.take (j + 1) := by
  have e : L.getD j 0 = L[j] := by simp [List.getD_eq_getElem?_getD, h]
  rw [e, List.take_succ_eq_append_getElem h]
/-- numbers that lie in a row, from its beginning on. -/
def RowK (k : IntKind) (w : World) (g : Nat) (L : List Int) : Prop := g < w.heap.size ∧ ∀ j, j < L.length → w.cell? ⟨g, j, none⟩ = some (.int k (L.getD j 0))
theorem RowK.below {k : IntKind} {w w' : World} {g B : Nat} {L : List Int} (h : RowK k w g L) (hb : Below B w w') (hB : g < B) : RowK k w' g L :=
  ⟨Nat.lt_of_lt_of_le h.1 hb.size, fun j hj => (World.cell?_of_block (hb.block _ hB)).trans (h.2 j hj)⟩
theorem RowK.later {k : IntKind} {w w' : World} {g : Nat} {L : List Int} (h : RowK k w g L) (hb : Below w.heap.size w w') : RowK k w' g L := h.below hb h.1
/-- what a value of the call's own holds: nothing, or a row of its own. -/
theorem own_rowK {k : IntKind} {w : World} {base n : Nat} {t : TypeId} {v : Value} {L : List Int} (h : w.ownsRow base t 1 v n (valsK k L)) (hl : L.length = n) (h0 : 0 < n) : ∃ g c, v = .slice (some ⟨g, 0, none⟩) n c ∧ n ≤ c ∧ base ≤ g ∧ RowK k w g L := by
  obtain ⟨_, h⟩ := h
  rcases h with ⟨_, h⟩ | ⟨g, cap, cur, hv, hb, hh, hcap, _, hs, ht⟩
  · omega
  · refine ⟨g, cap, hv, hcap, hb, (Array.getElem?_eq_some_iff.1 hh).1, fun j hj => ?_⟩
    rw [cell_row hh]
    have h2 : cur[j]? = cur.toList[j]? := by simp
    have h3 : (cur.toList.take (n * 1))[j]? = cur.toList[j]? := by rw [List.getElem?_take, if_pos (by omega)]
    rw [h2, ← h3, ht]
    simp [valsK, show j < L.length by omega]
theorem own_nilK {w : World} {base : Nat} {t : TypeId} {v : Value} {L : List Value} {n : Nat} (h : w.ownsRow base t 1 v n L) : ∃ A c, v = .slice A n c := by
  obtain ⟨_, h⟩ := h
  rcases h with ⟨h, h0⟩ | ⟨g, cap, cur, hv, _⟩
  · subst h0; exact ⟨none, 0, h⟩
  · exact ⟨_, cap, hv⟩
theorem RowK.byt {w : World} {g c : Nat} {L : List Int} (h : RowK .u8 w g L) (hc : L.length ≤ c) : Byt w (some ⟨g, 0, none⟩) c L :=
  ⟨hc, (fun h => by cases h), fun _ => ⟨g, 0, rfl, h.1, fun j hj => by rw [Nat.zero_add]; exact h.2 j hj⟩⟩
/-- a row of the call's own stays where nothing below a bound above it turns. -/
theorem own_stays {w w' : World} {base n s : Nat} {t : TypeId} {v : Value} {L : List Value} (h : w.ownsRow base t s v n L) (hb : Below w.heap.size w w') : w'.ownsRow base t s v n L := by
  obtain ⟨h1, h⟩ := h
  refine ⟨h1, ?_⟩
  rcases h with h | ⟨g, cap, cur, h1, h2, h3, h4, h5, h6, h7⟩
  · exact .inl h
  · exact .inr ⟨g, cap, cur, h1, h2, (hb.block _ (Array.getElem?_eq_some_iff.1 h3).1).trans h3, h4, h5, h6, h7⟩
theorem partsK {P : Program} {t : TypeId} {z : Value} {s b : Nat} (h : (P.info? t).map (fun i => (i.zero, i.size, i.bytes)) = some (some z, s, b)) : ∃ i, P.info? t = some i ∧ i.zero = some z ∧ i.size = s ∧ i.bytes = b := by
  cases hq : P.info? t with
  | none => rw [hq] at h; cases h
  | some i =>
    rw [hq] at h
    simp at h
    exact ⟨i, rfl, h.1, h.2.1, h.2.2⟩
theorem own_alloc {w : World} {base n s : Nat} {t : TypeId} {v : Value} {L : List Value} (h : w.ownsRow base t s v n L) (o : Obj) : (w.alloc o).ownsRow base t s v n L :=
  own_stays h ((Below.refl w.heap.size w).alloc (Nat.le_refl _) o)
/-- a row of the call's own, one number longer: what it holds then, what is as it was. -/
structure Grew (k : IntKind) (base : Nat) (e : TypeId) (n : Nat) (L : List Int) (y : Int) (wr : World) (v v' : Value) (w' : World) : Prop where
  own : w'.ownsRow base e 1 v' (n + 1) (valsK k (L ++ [y]))
  low : ∀ B u, Below B u wr → B ≤ base → Below B u w'
  keep : ∀ q b, wr.heap[q]? = some b → v.ownBlock ≠ some q → w'.heap[q]? = some b
  size : wr.heap.size ≤ w'.heap.size
theorem wpList_append_mine {P : Program} {k : IntKind} {wr : World} {ops : Array Oper} {rest : List Oper} {o : Oper} {a : Act} {Q : Exit → Act → World → Prop} (hgd : o.guard = none) (s x : Operand) (t : TypeId)
    (ho : o.op = .call { callee := .builtin .append, args := #[s, x], argTypes := #[t, t] }) (base : Nat) (e : TypeId) (i : TypeInfo) (z : Value) (bytes : Nat) (ht : P.underlying t = some (.slice e)) (hi : P.info? e = some i) (hz : i.zero = some z)
    (hsize : i.size = 1) (hby : i.bytes = bytes) (hzs : z.cells.size = 1) (hb8 : bytes ≤ 8) (v : Value) (n : Nat) (L : List Int) (y : Int) (hs : a.eval s = v) (hown : wr.ownsRow base e 1 v n (valsK k L)) (hx : a.eval x = .slice (some ⟨wr.heap.size, 0, none⟩) 1 1)
    (hn : n ≤ 100000) (hbase : base ≤ wr.heap.size) (h : ∀ v' w', Grew k base e n L y wr v v' w' → wpList P ops Q rest (a.put o.dst v') w') : wpList P ops Q (o :: rest) a (wr.alloc (.cells #[.int k y] e)) := by
  have hsz : (wr.alloc (.cells #[.int k y] e)).heap.size = wr.heap.size + 1 := by rw [World.size_alloc]
  have hge : ∀ q, v.ownBlock = some q → base ≤ q := fun q hq => (hown.lt q hq).1
  have hlt : ∀ q, v.ownBlock = some q → q < wr.heap.size := fun q hq => (hown.lt q hq).2
  refine wpList_append_own_at _ hgd s x t ho base e i z 1 bytes ht hi hz hsize hby hzs (by decide) v n (valsK k L) hs (own_alloc hown _) ⟨wr.heap.size, 0, none⟩ 1 1 [.int k y] hx rfl (cell_one_new _ _ _) (one_oneK k y) (by unfold maxLen; omega) (by have : (n + 1) * bytes ≤ (n + 1) * 8 := Nat.mul_le_mul_left _ hb8; omega) (by omega) ?_
  intro v' w' hown' hgrow _ _
  rw [moreK] at hown'
  have hs2 := hgrow.size
  exact h v' w' ⟨hown', fun B u hb hB => (hb.alloc (Nat.le_trans hB hbase) _).grown hgrow (by omega) (fun q hq => Nat.le_trans hB (hge q hq)), fun q b hq hne => by
    have hq2 := (Array.getElem?_eq_some_iff.1 hq).1
    rw [hgrow.block q (by omega) (fun e => hne (by rw [e]))]
    exact (Go.heap_alloc_old _ _ hq2).trans hq, by omega⟩
end Go.Proofs.YtnjeppmpnaemlaaDoor
/- DERIVED. Blocks that were there are as they were, but for some. No program. -/
namespace Go.Proofs.YtnjeppmpnaemlaaDoor
open Go.RowKit
structure Chg (S : List Nat) (w w' : World) : Prop where
  os : w'.os = w.os
  tape : w'.tape = w.tape
  output : w'.output = w.output
  size : w.heap.size ≤ w'.heap.size
  block : ∀ k, k < w.heap.size → k ∉ S → w'.heap[k]? = w.heap[k]?
theorem Chg.refl (S : List Nat) (w : World) : Chg S w w := ⟨rfl, rfl, rfl, Nat.le_refl _, fun _ _ _ => rfl⟩
theorem Chg.trans {S : List Nat} {a b c : World} (h : Chg S a b) (k : Chg S b c) : Chg S a c :=
  ⟨k.os.trans h.os, k.tape.trans h.tape, k.output.trans h.output, Nat.le_trans h.size k.size, fun i hi hS => (k.block i (Nat.lt_of_lt_of_le hi h.size) hS).trans (h.block i hi hS)⟩
theorem Chg.mono {S T : List Nat} {a b : World} (h : Chg S a b) (hs : ∀ k ∈ S, k ∈ T ∨ a.heap.size ≤ k) : Chg T a b :=
  ⟨h.os, h.tape, h.output, h.size, fun i hi hS => h.block i hi (fun hm => by rcases hs i hm with h | h; exact hS h; omega)⟩
theorem Chg.of_below {S : List Nat} {a b : World} (h : Below a.heap.size a b) : Chg S a b := ⟨h.os, h.tape, h.output, h.size, fun k hk _ => h.block k hk⟩
theorem Chg.below {S : List Nat} {B : Nat} {u a b : World} (h : Chg S a b) (hb : Below B u a) (hB : B ≤ a.heap.size) (hS : ∀ k ∈ S, B ≤ k) : Below B u b :=
  hb.trans ⟨h.os, h.tape, h.output, h.size, fun k hk => h.block k (by omega) (fun hm => by have := hS k hm; omega)⟩
theorem Chg.setCell {S : List Nat} {a b : World} (h : Chg S a b) {p : Addr} (hp : p.block ∈ S) (u : Value) : Chg S a (b.setCell p u) :=
  h.trans ⟨rfl, rfl, rfl, by simp [World.setCell], fun k _ hS => Below.heap_setCell _ _ _ _ (fun e => hS (by rw [e]; exact hp))⟩
theorem Chg.alloc {S : List Nat} {a b : World} (h : Chg S a b) (o : Obj) : Chg S a (b.alloc o) := h.trans (Chg.of_below ((Below.refl _ _).alloc (Nat.le_refl _) _))
theorem Chg.at {S : List Nat} {a b : World} (h : Chg S a b) {g : Nat} {o : Obj} (hg : a.heap[g]? = some o) (hS : g ∉ S) : b.heap[g]? = some o :=
  (h.block g (Array.getElem?_eq_some_iff.1 hg).1 hS).trans hg
theorem Chg.setCells {S : List Nat} {a b : World} (h : Chg S a b) {g : Nat} (hp : g ∈ S) : ∀ (vs : List Value) (o : Nat), Chg S a (b.setCells g o vs) := by
  intro vs
  induction vs generalizing b with
  | nil => exact fun _ => h
  | cons v r ih => exact fun o => ih (h.setCell (p := ⟨g, o, none⟩) hp v) (o + 1)
/-- bytes in a block that stays. -/
theorem Byt.chg {S : List Nat} {L : List Int} {A : Option Addr} {c : Nat} {w w' : World} (h : Byt w A c L) (hc : Chg S w w') (hS : ∀ a, A = some a → a.block ∉ S) : Byt w' A c L := by
  obtain ⟨h1, h2, h3⟩ := h
  refine ⟨h1, h2, fun hl => ?_⟩
  obtain ⟨g, off, hA, hg, hb⟩ := h3 hl
  exact ⟨g, off, hA, Nat.lt_of_lt_of_le hg hc.size, fun j hj => (World.cell?_of_block (hc.block g hg (hS _ hA))).trans (hb j hj)⟩
theorem splice_set {α : Type} (L : List α) (o : Nat) (v : α) (r : List α) (h : o < L.length) : splice (L.set o v) (o + 1) r = splice L o (v :: r) := by
  have e1 : (L.set o v).take (o + 1) = L.take o ++ [v] := by
    rw [List.take_succ_eq_append_getElem (by simpa using h), List.take_set_of_le (Nat.le_refl _)]; simp
  have e2 : (L.set o v).drop (o + 1 + r.length) = L.drop (o + 1 + r.length) := List.drop_set_of_lt (by omega)
  unfold splice
  rw [e1, e2, List.length_cons, List.append_assoc, show o + 1 + r.length = o + (r.length + 1) by omega]
  rfl
/-- the cells of a row, many written at once. -/
theorem heap_setCells {T : Nat} {g : Nat} : ∀ (vs : List Value) (o : Nat) (w : World) (C : Array Value), w.heap[g]? = some (.cells C T (0, 0)) → o + vs.length ≤ C.size →
    (w.setCells g o vs).heap[g]? = some (.cells (splice C.toList o vs).toArray T (0, 0)) := by
  intro vs
  induction vs with
  | nil => intro o w C h _; simpa [World.setCells, splice] using h
  | cons v r ih =>
    intro o w C h hs
    simp only [List.length_cons] at hs
    rw [World.setCells]
    have h1 : (w.setCell ⟨g, o, none⟩ v).heap[g]? = some (.cells (C.setIfInBounds o v) T (0, 0)) := heap_setCell_same _ _ _ _ _ _ h
    rw [ih (o + 1) _ _ h1 (by rw [Array.size_setIfInBounds]; omega)]
    rw [Array.toList_setIfInBounds, splice_set C.toList o v r (by rw [Array.length_toList]; omega)]
end Go.Proofs.YtnjeppmpnaemlaaDoor
/- DERIVED. Vertices and names: 32 bytes and a number; their keys. -/
set_option maxRecDepth 100000
namespace Go.Proofs.YtnjeppmpnaemlaaDoor.Grf
open Go.RowKit Str Go.Maps
/-- 32 bytes and a number: a vertex, or a part's name. -/
structure Vx where
  h : List Int
  n : Int
  len : h.length = 32
  inb : InB h
  lo : -9223372036854775808 ≤ n
  hi : n ≤ 9223372036854775807
theorem Vx.eq {a b : Vx} (h : a.h = b.h) (k : a.n = b.n) : a = b := by
  cases a; cases b; simp only at h k; subst h; subst k; rfl
instance : DecidableEq Vx := fun a b => decidable_of_iff (a.h = b.h ∧ a.n = b.n) ⟨fun h => Vx.eq h.1 h.2, fun h => by rw [h]; exact ⟨rfl, rfl⟩⟩
/-- its cells. -/
def Vx.c (v : Vx) : Array Value := (v.h.map (Value.int .u8) ++ [Value.int .i64 v.n]).toArray
theorem Vx.c_size (v : Vx) : v.c.size = 33 := by simp [Vx.c, v.len]
theorem Vx.c_list (v : Vx) : v.c.toList = v.h.map (Value.int .u8) ++ [Value.int .i64 v.n] := by simp [Vx.c]
theorem Vx.c_inj {a b : Vx} (h : a.c = b.c) : a = b := by
  have h2 : a.c.toList = b.c.toList := by rw [h]
  rw [Vx.c_list, Vx.c_list] at h2
  have h3 := List.append_inj h2 (by simp [a.len, b.len])
  have inj : ∀ {x y : Int}, Value.int .u8 x = Value.int .u8 y → x = y := fun e => by injection e
  refine Vx.eq ((List.map_inj_right (fun _ _ e => inj e)).1 h3.1) ?_
  have := h3.2
  simpa using this
theorem Vx.c_hash (v : Vx) : (v.c.toList.drop 0).take 32 = v.h.map (Value.int .u8) := by
  rw [Vx.c_list, List.drop_zero, List.take_append_of_le_length (by simp [v.len]), List.take_of_length_le (by simp [v.len])]
theorem Vx.c_n (v : Vx) : (v.c.toList.drop 32).take 1 = [Value.int .i64 v.n] := by
  rw [Vx.c_list, List.drop_append_of_le_length (by simp [v.len]), List.drop_of_length_le (by simp [v.len])]
  rfl
theorem Vx.one (v : Vx) : v.c.all (·.oneCell') = true := by
  rw [Array.all_eq_true_iff_forall_mem]
  intro x hx
  have hx : x ∈ v.c.toList := Array.mem_toList_iff.2 hx
  rw [Vx.c_list, List.mem_append] at hx
  rcases hx with hx | hx
  · obtain ⟨y, _, rfl⟩ := List.mem_map.1 hx; rfl
  · rw [List.mem_singleton.1 hx]; rfl
theorem mapM_some {α β : Type} (f : α → Option β) : ∀ l : List α, (∀ x ∈ l, ∃ y, f x = some y) → ∃ ys, l.mapM f = some ys := by
  intro l
  induction l with
  | nil => intro _; exact ⟨[], by simp⟩
  | cons x t ih =>
    intro h
    obtain ⟨y, hy⟩ := h x (by simp)
    obtain ⟨ys, hys⟩ := ih (fun z hz => h z (by simp [hz]))
    exact ⟨y :: ys, by rw [List.mapM_cons, hy]; simp [hys]⟩
theorem laidOut : laidOutB Tryd.prog = true := by kernel_rfl
theorem size_le : Tryd.prog.types.size + 2 ≤ 10000 := of_decide_eq_true (by kernel_rfl)
theorem size_ge : 4 ≤ Tryd.prog.types.size := of_decide_eq_true (by kernel_rfl)
theorem cellsV : Tryd.prog.cellsOf 27 = 33 := by kernel_rfl
theorem cellsN : Tryd.prog.cellsOf 95 = 33 := by kernel_rfl
theorem cellsH : Tryd.prog.cellsOf 25 = 32 := by kernel_rfl
theorem cells8 : Tryd.prog.cellsOf 5 = 1 := by kernel_rfl
theorem cellsI : Tryd.prog.cellsOf 3 = 1 := by kernel_rfl
theorem lawV : Keyed Tryd.prog 27 := Keyed.of_law (deep_law_gate laidOut size_le (of_decide_eq_true (by kernel_rfl)) (by kernel_rfl) (by kernel_rfl))
theorem lawVK : WideMaps.KeyLaw Tryd.prog 27 := deep_law_gate laidOut size_le (of_decide_eq_true (by kernel_rfl)) (by kernel_rfl) (by kernel_rfl)
theorem lawN : Keyed Tryd.prog 95 := Keyed.of_law (deep_law_gate laidOut size_le (of_decide_eq_true (by kernel_rfl)) (by kernel_rfl) (by kernel_rfl))
theorem lits8 {d : Nat} {x : Int} (h0 : 0 ≤ x) (h1 : x < 256) : Tryd.prog.keyLits (d + 1) 5 [.int .u8 x] = some [.int .u8 x] := by
  unfold Program.keyLits
  simp only [Tryd.underlying5]
  rw [if_pos ⟨by trivial, by simp [Lit.wf, IntKind.bits, IntKind.signed, IntKind.min, IntKind.max]; omega⟩]
theorem litsI {d : Nat} {x : Int} (h0 : -9223372036854775808 ≤ x) (h1 : x ≤ 9223372036854775807) : Tryd.prog.keyLits (d + 1) 3 [.int .i64 x] = some [.int .i64 x] := by
  unfold Program.keyLits
  simp only [Tryd.underlying3]
  rw [if_pos ⟨by trivial, by simp [Lit.wf, IntKind.bits, IntKind.signed, IntKind.min, IntKind.max]; omega⟩]
theorem litsH {d : Nat} (h : List Int) (hl : h.length = 32) (hb : InB h) : ∃ ls, Tryd.prog.keyLits (d + 1 + 1) 25 (h.map (Value.int .u8)) = some ls := by
  unfold Program.keyLits
  simp only [Tryd.underlying25]
  rw [if_pos (by rw [cellsH]; simp [hl]), cells8]
  obtain ⟨ys, hys⟩ := mapM_some (fun i => Tryd.prog.keyLits (d + 1) 5 (((h.map (Value.int .u8)).drop (i * 1)).take 1)) (List.range 32) (fun i hi => by
    have hi := List.mem_range.1 hi
    have e : ((h.map (Value.int .u8)).drop (i * 1)).take 1 = [Value.int .u8 (h.getD i 0)] := by
      rw [Nat.mul_one, List.drop_eq_getElem_cons (by simp [hl]; exact hi)]
      simp [List.getD_eq_getElem?_getD, List.getElem?_eq_getElem (show i < h.length by omega)]
    exact ⟨_, by rw [e]; exact lits8 (hb i).1 (hb i).2⟩)
  exact ⟨_, by rw [hys]; rfl⟩
theorem key_any {k : TypeId} {f0 f1 : Field} (hu : Tryd.prog.underlying k = some (.struct #[f0, f1])) (hk : Tryd.prog.keyType k = true) (hc : Tryd.prog.cellsOf k = 33) (t0 : f0.type = 25) (o0 : f0.offset = 0) (t1 : f1.type = 3) (o1 : f1.offset = 32) (hnm : #[f0, f1].all (·.name != "_") = true) (v : Vx) : ∃ l, keyOf Tryd.prog k (.agg v.c) = some l := by
  obtain ⟨m, hm⟩ : ∃ m, Tryd.prog.types.size = m + 2 := ⟨Tryd.prog.types.size - 2, by have := size_ge; omega⟩
  obtain ⟨ls, hls⟩ := litsH (d := m) v.h v.len v.inb
  have hI := litsI (d := m + 1) v.lo v.hi
  unfold keyOf
  simp only [hu]
  rw [if_pos (by simp [hk, Value.formed, hu, hc, v.c_size]), hm]
  unfold Program.keyLits
  simp only [hu, Value.cells]
  rw [if_pos ⟨by rw [hc, Array.length_toList, v.c_size], hnm⟩]
  rw [List.mapM_cons, List.mapM_cons, List.mapM_nil, t0, t1, o0, o1, cellsH, cellsI, v.c_hash, v.c_n, hls, hI]
  exact ⟨_, rfl⟩
theorem keyV (v : Vx) : ∃ l, keyOf Tryd.prog 27 (.agg v.c) = some l := key_any Tryd.underlying27 (by kernel_rfl) cellsV rfl rfl rfl rfl (by simp) v
theorem keyN (v : Vx) : ∃ l, keyOf Tryd.prog 95 (.agg v.c) = some l := key_any Tryd.underlying95 (by kernel_rfl) cellsN rfl rfl rfl rfl (by simp) v
/-- a type of keys that are 32 bytes and a number. -/
structure KB (k : TypeId) : Prop where
  law : Keyed Tryd.prog k
  lawK : WideMaps.KeyLaw Tryd.prog k
  key : ∀ v : Vx, ∃ l, keyOf Tryd.prog k (.agg v.c) = some l
theorem kbV : KB 27 := ⟨lawV, lawVK, keyV⟩
theorem kbN : KB 95 := ⟨lawN, deep_law_gate laidOut size_le (of_decide_eq_true (by kernel_rfl)) (by kernel_rfl) (by kernel_rfl), keyN⟩
/-- a key as it reads. -/
noncomputable def kl (k : TypeId) (v : Vx) : Lit := (keyOf Tryd.prog k (.agg v.c)).getD .nil
theorem KB.at {k : TypeId} (B : KB k) (v : Vx) : keyOf Tryd.prog k (.agg v.c) = some (kl k v) := by
  obtain ⟨l, h⟩ := B.key v
  unfold kl
  rw [h]
  rfl
theorem KB.inj {k : TypeId} (B : KB k) {a b : Vx} (h : kl k a = kl k b) : a = b := by
  have h1 := B.at a
  rw [h] at h1
  have := B.law.inj h1 (B.at b)
  exact Vx.c_inj (by simpa using this)
theorem KB.ne {k : TypeId} (B : KB k) {a b : Vx} (h : a ≠ b) : kl k a ≠ kl k b := fun e => h (B.inj e)
theorem KB.isKey {k : TypeId} (B : KB k) (v : Vx) : WideAt.IsKeyLit (kl k v) := B.law.key (B.at v)
end Go.Proofs.YtnjeppmpnaemlaaDoor.Grf
