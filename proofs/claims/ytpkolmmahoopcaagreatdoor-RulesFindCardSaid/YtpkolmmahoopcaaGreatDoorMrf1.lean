/- DERIVED. Texts of ours, merged: XBase XLaw XLawCard XPthSpec XBase2 XPthPart. -/
import Derived.Laws.BitsAllLaws
import Derived.WalkKit
import Derived.KernelRfl
import Derived.Below
import Derived.Lib.Hide
import Derived.IntWalk
import Derived.Laws.ResultCell
import Derived.Laws.Rows
import Derived.Deep.MidRow
import Derived.Test.YtpkolmmahoopcaaGreatDoorProg
import Derived.Test.YtpkolmmahoopcaaGreatDoorChecked
import Derived.Test.YtpkolmmahoopcaaGreatDoorRows
import Derived.ProofKit
import Derived.OpenShut
import Derived.Deep.DeepHandedRow
import Derived.Lib.LaidTab
import Derived.ChangeMaps5
import Derived.WideKeyArr2
import Derived.Test.YtpkolmmahoopcaaGreatDoorCards
import Derived.Test.YtpkolmmahoopcaaGreatDoorTie
import Derived.Lib.SplitLaws
import Derived.Lib.Strings
import GoSem.Op.String
import Derived.Deep.Draws
import Derived.Lib.OthersKept
/- DERIVED. Words on rows of numbers in memory that every layer uses; no program, no number of a type. -/
namespace Go.Proofs.YtpkolmmahoopcaaGreatDoor
open Go.RowKit
def u32s (l : List Int) : Array Value := (l.map (Value.int .u32)).toArray
def u8s (l : List Int) : Array Value := (l.map (Value.int .u8)).toArray
theorem u32s_size (l : List Int) : (u32s l).size = l.length := by simp [u32s]
theorem u8s_size (l : List Int) : (u8s l).size = l.length := by simp [u8s]
theorem u32s_get (l : List Int) (j : Nat) (h : j < l.length) : (u32s l)[j]? = some (.int .u32 (l.getD j 0)) := by simp [u32s, h]
theorem u8s_get (l : List Int) (j : Nat) (h : j < l.length) : (u8s l)[j]? = some (.int .u8 (l.getD j 0)) := by simp [u8s, h]
/-- the first k cells of S hold the words f 0 .. f (k-1). -/
def Holds (S : Array Value) (n k : Nat) (f : Nat → Int) : Prop := S.size = n ∧ ∀ j, j < k → S[j]? = some (.int .u32 (f j))
theorem Holds.nil (S : Array Value) (n : Nat) (f : Nat → Int) (h : S.size = n) : Holds S n 0 f := ⟨h, fun _ h => absurd h (Nat.not_lt_zero _)⟩
theorem Holds.set {S : Array Value} {n k : Nat} {f : Nat → Int} (h : Holds S n k f) (hk : k < n) (v : Int) (hv : v = f k) : Holds (S.setIfInBounds k (.int .u32 v)) n (k + 1) f := by
  refine ⟨by simp [h.1], fun j hj => ?_⟩
  rw [Array.getElem?_setIfInBounds]
  by_cases e : k = j
  · subst e; rw [if_pos rfl, if_pos (by rw [h.1]; exact hk), hv]
  · rw [if_neg e]; exact h.2 j (by omega)
theorem Holds.whole {S : Array Value} {n : Nat} {f : Nat → Int} {l : List Int} (h : Holds S n n f) (hl : l.length = n) (hf : ∀ j, j < n → f j = l.getD j 0) : S = u32s l := by
  apply Array.ext_getElem?
  intro j
  by_cases hj : j < n
  · rw [h.2 j hj, u32s_get l j (by omega), hf j hj]
  · rw [Array.getElem?_eq_none (by rw [h.1]; omega), Array.getElem?_eq_none (by rw [u32s_size]; omega)]

def InB (l : List Int) : Prop := ∀ j, 0 ≤ l.getD j 0 ∧ l.getD j 0 < 256
theorem u32s_one (l : List Int) : (u32s l).all (·.oneCell') = true := by
  rw [Array.all_eq_true_iff_forall_mem]
  intro v hv
  simp only [u32s, List.mem_toArray, List.mem_map] at hv
  obtain ⟨x, _, rfl⟩ := hv
  rfl
theorem cell_row {w : World} {g : Nat} {C : Array Value} {t : TypeId} {fr : Nat × Nat} (h : w.heap[g]? = some (.cells C t fr)) (j : Nat) : w.cell? ⟨g, j, none⟩ = C[j]? := by
  simp [World.cell?, h]
theorem free_row {w : World} {g : Nat} {C : Array Value} {t : TypeId} (h : w.heap[g]? = some (.cells C t (0, 0))) (j : Nat) : w.frozen? ⟨g, j, none⟩ = false := by
  simp [World.frozen?, h]
theorem three_new (w : World) (A B C : Obj) : (((w.alloc A).alloc B).alloc C).heap[w.heap.size]? = some A ∧ (((w.alloc A).alloc B).alloc C).heap[w.heap.size + 1]? = some B ∧ (((w.alloc A).alloc B).alloc C).heap[w.heap.size + 1 + 1]? = some C := by
  refine ⟨?_, ?_, ?_⟩
  · exact (Go.heap_alloc_old ((w.alloc A).alloc B) C (by simp; omega)).trans (heap_alloc2_old w A B)
  · exact (Go.heap_alloc_old ((w.alloc A).alloc B) C (by simp)).trans (heap_alloc2_new w A B)
  · have := heap_alloc_new ((w.alloc A).alloc B) C
    simpa using this
theorem below3 (w : World) (A B C : Obj) : Below w.heap.size w (((w.alloc A).alloc B).alloc C) :=
  (((Below.refl _ _).alloc (Nat.le_refl _) _).alloc (by simp) _).alloc (by simp; omega) _
/-- the first k cells of S hold the bytes f 0 .. f (k-1). -/
def HoldsB (S : Array Value) (n k : Nat) (f : Nat → Int) : Prop := S.size = n ∧ ∀ j, j < k → S[j]? = some (.int .u8 (f j))
theorem HoldsB.nil (S : Array Value) (n : Nat) (f : Nat → Int) (h : S.size = n) : HoldsB S n 0 f := ⟨h, fun _ h => absurd h (Nat.not_lt_zero _)⟩
theorem HoldsB.set {S : Array Value} {n k : Nat} {f : Nat → Int} (h : HoldsB S n k f) (hk : k < n) (v : Int) (hv : v = f k) : HoldsB (S.setIfInBounds k (.int .u8 v)) n (k + 1) f := by
  refine ⟨by simp [h.1], fun j hj => ?_⟩
  rw [Array.getElem?_setIfInBounds]
  by_cases e : k = j
  · subst e; rw [if_pos rfl, if_pos (by rw [h.1]; exact hk), hv]
  · rw [if_neg e]; exact h.2 j (by omega)
theorem HoldsB.whole {S : Array Value} {n : Nat} {f : Nat → Int} {l : List Int} (h : HoldsB S n n f) (hl : l.length = n) (hf : ∀ j, j < n → f j = l.getD j 0) : S = u8s l := by
  apply Array.ext_getElem?
  intro j
  by_cases hj : j < n
  · rw [h.2 j hj, u8s_get l j (by omega), hf j hj]
  · rw [Array.getElem?_eq_none (by rw [h.1]; omega), Array.getElem?_eq_none (by rw [u8s_size]; omega)]
theorem u8s_one (l : List Int) : (u8s l).all (·.oneCell') = true := by
  rw [Array.all_eq_true_iff_forall_mem]
  intro v hv
  simp only [u8s, List.mem_toArray, List.mem_map] at hv
  obtain ⟨x, _, rfl⟩ := hv
  rfl
/-- the slice (A, L.length, c) reads as the bytes L. -/
def Byt (w : World) (A : Option Addr) (c : Nat) (L : List Int) : Prop := L.length ≤ c ∧ (A = none → c = 0) ∧ (0 < L.length → ∃ g off, A = some ⟨g, off, none⟩ ∧ g < w.heap.size ∧ ∀ j, j < L.length → w.cell? ⟨g, off + j, none⟩ = some (.int .u8 (L.getD j 0)))
def vals (L : List Int) : List Value := L.map (Value.int .u8)
theorem vals_one (L : List Int) : ∀ u ∈ vals L, u.oneCell' = true := by
  intro u hu
  simp only [vals, List.mem_map] at hu
  obtain ⟨x, _, rfl⟩ := hu
  rfl
theorem vals_length (L : List Int) : (vals L).length = L.length := by simp [vals]
theorem vals_get {L : List Int} {j : Nat} {u : Value} (h : (vals L)[j]? = some u) : j < L.length ∧ u = .int .u8 (L.getD j 0) := by
  have hj : j < L.length := by have := (List.getElem?_eq_some_iff.1 h).1; rwa [vals_length] at this
  refine ⟨hj, ?_⟩
  simp [vals, hj] at h
  simp [← h, hj]
theorem Byt.cells {w w' : World} {A : Option Addr} {c : Nat} {L : List Int} (h : Byt w A c L) (hb : ∀ p : Addr, p.block < w.heap.size → w'.cell? p = w.cell? p) (ad : Addr) (hA : A = some ad) :
    ∀ j u, (vals L)[j]? = some u → w'.cell? (ad.add j) = some u := by
  intro j u hu
  obtain ⟨hj, rfl⟩ := vals_get hu
  obtain ⟨g, off, hA', hg, hc⟩ := h.2.2 (by omega)
  rw [hA] at hA'
  obtain rfl := Option.some.inj hA'
  rw [Addr.add_mid, hb _ hg]
  exact hc j hj
theorem Byt.below {w w' : World} {B c : Nat} {A : Option Addr} {L : List Int} (h : Byt w A c L) (hb : Below B w w') (hB : w.heap.size ≤ B) : Byt w' A c L :=
  ⟨h.1, h.2.1, fun hl => by
    obtain ⟨g, off, hA, hg, hc⟩ := h.2.2 hl
    exact ⟨g, off, hA, Nat.lt_of_lt_of_le hg hb.size, fun j hj => (hb.cell (p := ⟨g, off + j, none⟩) (Nat.lt_of_lt_of_le hg hB)).trans (hc j hj)⟩⟩
theorem two_new (w : World) (A B : Obj) : ((w.alloc A).alloc B).heap[w.heap.size]? = some A ∧ ((w.alloc A).alloc B).heap[w.heap.size + 1]? = some B := ⟨heap_alloc2_old w A B, heap_alloc2_new w A B⟩
theorem getD_out (L : List Int) (j : Nat) (h : L.length ≤ j) : L.getD j 0 = 0 := by simp [List.getD_eq_getElem?_getD, List.getElem?_eq_none h]
theorem InB.drop {L : List Int} (h : InB L) (n : Nat) : InB (L.drop n) := by
  intro j
  have := h (n + j)
  simpa [List.getD_eq_getElem?_getD, List.getElem?_drop] using this
theorem InB.take {L : List Int} (h : InB L) (n : Nat) : InB (L.take n) := by
  intro j
  by_cases hj : j < n
  · have := h j
    simpa [List.getD_eq_getElem?_getD, List.getElem?_take, hj] using this
  · simp [List.getD_eq_getElem?_getD, List.getElem?_take, hj]
theorem Byt.cut {w : World} {A : Option Addr} {c n : Nat} {L : List Int} (h : Byt w A c L) (hn : n ≤ L.length) : Byt w (if c = n then A else A.map (·.add n)) (c - n) (L.drop n) := by
  refine ⟨by have := h.1; simp; omega, fun hA => ?_, fun hl => ?_⟩
  · have h1 := h.1
    by_cases e : c = n
    · omega
    · rw [if_neg e] at hA
      have : A = none := by cases A <;> simp_all
      have := h.2.1 this
      omega
  · have h1 := h.1
    simp at hl
    obtain ⟨g, off, rfl, hg, hc⟩ := h.2.2 (by omega)
    rw [if_neg (by omega)]
    refine ⟨g, off + n, by simp [Addr.add_mid], hg, fun j hj => ?_⟩
    rw [show off + n + j = off + (n + j) by omega, hc (n + j) (by simp at hj; omega)]
    simp [List.getD_eq_getElem?_getD, List.getElem?_drop]
theorem results_row_tmp {P : Program} {fn : Func} {p u : Tmp} {ty : TypeId} (h : fn.results = #[.cell p ty, .tmp u]) (tmps : Array Value) (w : World) (g : Nat) (t : TypeId) (cs : Array Value) (fr : Nat × Nat) (d : TypeDesc) (x : Value)
    (hp : tmps.getD p undef = .pointer (some ⟨g, 0, none⟩)) (hx : tmps.getD u undef = x) (hg : w.heap[g]? = some (.cells cs t fr))
    (hu : P.underlying ty = some d) (hd : (match d with | .struct _ | .array _ _ => true | _ => false) = true) (hi : (P.info? ty).map (·.size) = some cs.size) :
    (results fn tmps).run P w = .ok (.tuple #[.agg cs, x]) w := by
  rw [results_cell_tmp h, hp, hx]
  simp [asAddr, run_loadVar_row w g t ty cs fr d hg hu hd hi]
theorem Byt.alloc {w : World} {A : Option Addr} {c : Nat} {l : List Int} (h : Byt w A c l) (o : Obj) : Byt (w.alloc o) A c l := h.below ((Below.refl w.heap.size w).alloc (Nat.le_refl _) o) (Nat.le_refl _)
theorem InB.append {L M : List Int} (h : InB L) (k : InB M) : InB (L ++ M) := by
  intro j
  by_cases hj : j < L.length
  · have := h j; simpa [List.getD_eq_getElem?_getD, List.getElem?_append_left hj] using this
  · have := k (j - L.length); simpa [List.getD_eq_getElem?_getD, List.getElem?_append_right (Nat.le_of_not_lt hj)] using this
end Go.Proofs.YtpkolmmahoopcaaGreatDoor
/- DERIVED. What every law's frame wants, of any layer: no number of a type is typed. -/
namespace Go.Proofs.YtpkolmmahoopcaaGreatDoor
open Go.ChangeShapes Go.WideShapes Go.ChangeAt Go.RowKit
theorem own : ownKnob Tryz.prog.godebug = none := by kernel_rfl
theorem laidOut : laidOutB Tryz.prog = true := by kernel_rfl
theorem trodAll_below {H : Type} {enc : TypeId × Value → H} {W W' : World} (hb : Below W.heap.size W W') : ∀ {ts : List TypeId} {vs : List Value} {ds : List (DataW H)} {ps : List MemPlace},
    (∀ t ∈ ts, Tryz.prog.readableRec t = true ∧ t < Tryz.prog.types.size) → (∀ x ∈ ps, x.block < W.heap.size) → DataW.TrodAll enc Tryz.prog W 0 (fun _ => true) true ts vs ds ps →
    DataW.TrodAll enc Tryz.prog W' 0 (fun b => decide (b < W.heap.size)) true ts vs ds ps
  | [], vs, ds, ps, _, _, h => by
    obtain ⟨rfl, rfl, rfl⟩ := trodAll_nil h
    exact trodAll_mk0
  | t :: ts, vs, ds, ps, ht, hlt, h => by
    obtain ⟨v0, vs0, d0, ds0, p0, q0, rfl, rfl, rfl, h0, r0⟩ := trodAll_cons h
    have h1 := ht t (List.mem_cons_self ..)
    exact trodAll_cons_mk (Below.trod laidOut h1.1 h1.2 h0 hb (fun x hx => hlt x (List.mem_append_left _ hx)))
      (trodAll_below hb (fun t' h' => ht t' (List.mem_cons_of_mem _ h')) (fun x hx => hlt x (List.mem_append_right _ hx)) r0)
/-- a law's end: it answers true, and what came in is as it was. -/
theorem law_post {H : Type} {enc : TypeId × Value → H} {f : Func} {s : ChangeSpec} {W W' : World} {args : Array Value} {ds gs : List (DataW H)} {before : List MemPlace}
    (hW : DataW.Whole enc Tryz.prog f.params.toList s.vars false W args.toList ds gs before) (hv : s.vars = []) (hr : f.resultTypes = #[4])
    (hp : ∀ t ∈ f.params.toList, Tryz.prog.readableRec t = true ∧ t < Tryz.prog.types.size)
    (hs : (s.fn H (ds ++ [])).results = [.lit (.bool true)] ∧ (s.fn H (ds ++ [])).args = ds ∧ (s.fn H (ds ++ [])).vars = []) (hb : Below W.heap.size W W') :
    s.post enc Tryz.prog f false true false false W args (.bool true) W' := by
  have hW' := hW
  obtain ⟨p, q, hA, hV, rfl, _, _⟩ := hW
  rw [hv] at hV
  obtain ⟨rfl, rfl⟩ := trodVars_none hV
  refine ⟨ds, [], p ++ [], [], p, [], hW', ?_, ?_, ?_, hb.frame _, fun h => by cases h⟩
  · rw [hs.1, hr]
    exact trodAll_mk1 (shut_bool Tryz.underlying4 true)
  · rw [hs.2.1]
    exact trodAll_below hb hp (fun x hx => by simpa using hW'.lt x (by simpa using hx)) hA
  · rw [hs.2.2, hv]
    rfl
def fillRow (cs : Array Value) : Obj → Obj
  | .cells _ t frozen => .cells cs t frozen
  | o => o
/-- the number in a value. -/
def numIn : Value → Int
  | .int _ q => q
  | _ => 0
theorem mapM_each {α β : Type} (f : α → Option β) : ∀ (L : List α) (ys : List β), L.mapM f = some ys → ∀ i ∈ L, ∃ y, f i = some y
  | [], _, _, _, h => by cases h
  | a :: L, ys, h, i, hi => by
    rw [List.mapM_cons] at h
    simp only [bind, Option.bind_eq_some_iff, pure, Option.some.injEq] at h
    obtain ⟨y, hy, zs, hzs, _⟩ := h
    rcases List.mem_cons.1 hi with rfl | hi
    · exact ⟨y, hy⟩
    · exact mapM_each f L zs hzs i hi
/-- the readings of an array's cells, one by one. -/
theorem trod_arr {H : Type} {enc : TypeId × Value → H} {W : World} {T E : TypeId} {n : Nat} {k : IntKind} (arr : WideMaps.ArrKey Tryz.prog T E n) (hE : Tryz.prog.underlying E = some (.int k)) {xs : Array Value} (hn : xs.size = n) {d : DataW H} {p : List MemPlace}
    (h : DataW.Trod enc Tryz.prog W 0 (fun _ => true) true T (.agg xs) d p) : ∃ l : List Int, xs = (l.map (Value.int k)).toArray ∧ l.length = n ∧ ∀ j, j < n → (Lit.int k (l.getD j 0)).wf = true := by
  obtain ⟨fuel, hf⟩ := h
  cases fuel with
  | zero => simp [DataW.trod] at hf
  | succ m =>
    rw [DataW.trod_step] at hf
    unfold DataW.trodStep at hf
    simp only [arr.hu, Value.cells] at hf
    rw [if_pos (by rw [arr.size]; simpa using hn)] at hf
    simp only [Option.map_eq_some_iff] at hf
    obtain ⟨ys, hy, _⟩ := hf
    have each : ∀ i, i < n → ∃ a : Int, xs[i]? = some (.int k a) ∧ (Lit.int k a).wf = true := by
      intro i hi
      obtain ⟨y, hy1⟩ := mapM_each _ _ _ hy i (List.mem_range.2 hi)
      obtain ⟨a, ea, _, wa⟩ := DataW.trod_int hE hy1
      rw [arr.one, Nat.mul_one] at ea
      have e2 : xs.toList[i]? = some (.int k a) := by
        have := congrArg (fun l : List Value => l[0]?) ea
        simpa [List.getElem?_take, List.getElem?_drop] using this
      rw [Array.getElem?_toList] at e2
      exact ⟨a, e2, wa⟩
    refine ⟨xs.toList.map numIn, ?_, by rw [List.length_map, Array.length_toList, hn], fun j hj => ?_⟩
    · refine Array.ext_getElem? fun i => ?_
      by_cases hi : i < n
      · obtain ⟨a, ha, _⟩ := each i hi
        rw [ha]
        simp [ha, numIn]
      · rw [Array.getElem?_eq_none (by omega), Array.getElem?_eq_none (by simp; omega)]
    · obtain ⟨a, ha, h0⟩ := each j hj
      simpa [List.getD_eq_getElem?_getD, ha, numIn] using h0
set_option maxRecDepth 100000 in
/-- a parameter that is an array of numbers. -/
theorem open_arr {H : Type} {enc : TypeId × Value → H} {W : World} {base : Nat} {v : Value} {d : DataW H} {p : List MemPlace} {T E : TypeId} {n : Nat} {k : IntKind} (arr : WideMaps.ArrKey Tryz.prog T E n) (hE : Tryz.prog.underlying E = some (.int k)) (hv : Value.okWide Tryz.prog W .any base T v)
    (h : DataW.Trod enc Tryz.prog W 0 (fun _ => true) true T v d p) : ∃ l : List Int, v = .agg (l.map (Value.int k)).toArray ∧ l.length = n ∧ ∀ j, j < n → (Lit.int k (l.getD j 0)).wf = true := by
  obtain ⟨xs, rfl, hn⟩ := WideMaps.okWide_arr arr hv
  obtain ⟨l, rfl, h1, h2⟩ := trod_arr arr hE hn h
  exact ⟨l, rfl, h1, h2⟩
theorem inB_wf {l : List Int} {n : Nat} (hl : l.length = n) (h : ∀ j, j < n → (Lit.int .u8 (l.getD j 0)).wf = true) : InB l := by
  intro j
  by_cases hj : j < n
  · have h2 : 0 ≤ l.getD j 0 ∧ l.getD j 0 ≤ 255 := by simpa [Lit.wf, IntKind.bits, IntKind.signed, IntKind.min, IntKind.max] using h j hj
    omega
  · rw [getD_out _ _ (by omega)]; omega
end Go.Proofs.YtpkolmmahoopcaaGreatDoor
/- DERIVED. What the cards ask of a law's parameters (a seat with cards alone). -/
namespace Go.Proofs.YtpkolmmahoopcaaGreatDoor
open Go.ChangeShapes Go.WideShapes Go.ChangeAt Go.RowKit
/-- no parameter wants a stand-in: what the cards ask, of a function whose parameters' types are ts. -/
theorem plain_of {b : Bool} {name : String} {n : Nat} {f0 : Func} {ts : List TypeId} (hn : Tryz.prog.funcNamed name = some n) (hf0 : Tryz.prog.funcs[n]? = some f0) (hp : f0.params.toList = ts) (hl : b = Tryz.pinned.checked.prog.looks [])
    (ht : (ts.all fun t => !Tryz.prog.wantsStandIn t) = true) (f : FuncId) (fn : Func) (hf : Tryz.pinned.checked.prog.funcNamed name = some f) (hfn : Tryz.pinned.checked.prog.funcs[f]? = some fn) :
    b = Tryz.pinned.checked.prog.looks [] ∧ ∀ (j : Nat) t, fn.params[j]? = some t → Tryz.pinned.checked.prog.wantsStandIn t = false := by
  obtain rfl : f = n := Option.some.inj (hn.symm.trans hf) |>.symm
  obtain rfl : fn = f0 := (Option.some.inj (hf0.symm.trans hfn)).symm
  refine ⟨hl, fun j t h => ?_⟩
  have hm : t ∈ ts := by rw [← hp]; simpa using Array.mem_of_getElem? h
  have := List.all_eq_true.1 ht t hm
  exact (show Tryz.prog.wantsStandIn t = false by simpa using this)
end Go.Proofs.YtpkolmmahoopcaaGreatDoor
/- DERIVED. Paths, as plain functions of bytes: parts, paths, what covers what, the order; no program. -/
namespace Go.Proofs.YtpkolmmahoopcaaGreatDoor.Pth
/-- may a rune stand in a part? -/
def alw (r : Int) : Bool := decide ((97 ≤ r ∧ r ≤ 122) ∨ (65 ≤ r ∧ r ≤ 90) ∨ (48 ≤ r ∧ r ≤ 57) ∨ r = 95 ∨ r = 45 ∨ r = 46)
/-- a part's bytes, gone through; d: dots alone until here. -/
def partG : Bool → List UInt8 → Bool
  | d, [] => !d
  | d, c :: l => alw (c.toNat : Int) && partG (d && ((c.toNat : Int) == 46)) l
def partL (l : List UInt8) : Bool := partG true l
/-- what stands between the slashes. -/
def pcs : List UInt8 → List (List UInt8)
  | [] => [[]]
  | c :: l => if c = 47 then [] :: pcs l else match pcs l with
    | [] => [[c]]
    | h :: t => (c :: h) :: t
theorem pcs_cons_eq (l : List UInt8) : pcs (47 :: l) = [] :: pcs l := by simp [pcs]
theorem pcs_ne : ∀ l, pcs l ≠ []
  | [] => by simp [pcs]
  | c :: l => by
    unfold pcs
    split
    · simp
    · split <;> simp
theorem pcs_cons (c : UInt8) (l : List UInt8) (h : c ≠ 47) : ∃ x t, pcs l = x :: t ∧ pcs (c :: l) = (c :: x) :: t := by
  cases e : pcs l with
  | nil => exact absurd e (pcs_ne l)
  | cons x t => exact ⟨x, t, rfl, by simp [pcs, h, e]⟩
theorem pcs_len : ∀ l, (pcs l).length = l.count 47 + 1
  | [] => rfl
  | c :: l => by
    by_cases h : c = 47
    · subst h; rw [pcs_cons_eq, List.length_cons, pcs_len l]; simp
    · obtain ⟨x, t, e1, e2⟩ := pcs_cons c l h
      have := pcs_len l
      rw [e1] at this
      rw [e2, List.count_cons_of_ne (by simpa using h), ← this]
      simp
theorem pcs_app : ∀ p r, pcs (p ++ 47 :: r) = pcs p ++ pcs r
  | [], r => by simp [pcs]
  | c :: p, r => by
    by_cases h : c = 47
    · subst h; rw [List.cons_append, pcs_cons_eq, pcs_cons_eq, pcs_app p r]; rfl
    · obtain ⟨x, t, e1, e2⟩ := pcs_cons c p h
      obtain ⟨x', t', e1', e2'⟩ := pcs_cons c (p ++ 47 :: r) h
      rw [List.cons_append, e2', e2]
      rw [pcs_app p r, e1] at e1'
      simp at e1'
      obtain ⟨rfl, rfl⟩ := e1'
      simp
def joinS : List (List UInt8) → List UInt8
  | [] => []
  | x :: t => match t with
    | [] => x
    | _ :: _ => x ++ 47 :: joinS t
theorem joinS_one (x : List UInt8) : joinS [x] = x := rfl
theorem joinS_cons (x : List UInt8) (t : List (List UInt8)) (h : t ≠ []) : joinS (x :: t) = x ++ 47 :: joinS t := by
  cases t with
  | nil => exact absurd rfl h
  | cons y t => rfl
theorem joinS_pcs : ∀ l, joinS (pcs l) = l
  | [] => rfl
  | c :: l => by
    have ih := joinS_pcs l
    by_cases h : c = 47
    · subst h; rw [pcs_cons_eq, joinS_cons _ _ (pcs_ne l), ih]; rfl
    · obtain ⟨x, t, e1, e2⟩ := pcs_cons c l h
      rw [e2]
      rw [e1] at ih
      cases t with
      | nil => rw [joinS_one] at ih ⊢; rw [ih]
      | cons y t => rw [joinS_cons _ _ (by simp)] at ih ⊢; rw [← ih]; rfl
theorem joinS_snoc : ∀ (t : List (List UInt8)) (x : List UInt8), t ≠ [] → joinS (t ++ [x]) = joinS t ++ 47 :: x
  | [], _, h => absurd rfl h
  | [y], x, _ => rfl
  | y :: z :: t, x, _ => by
    have ih := joinS_snoc (z :: t) x (by simp)
    rw [List.cons_append, joinS_cons _ _ (by simp), ih, joinS_cons y (z :: t) (by simp)]
    simp
/-- the pieces by the library's word. -/
theorem split_pcs : ∀ l, Lib.split l [47] = pcs l
  | [] => by simp [Lib.split, Lib.count_one, Lib.splitK, pcs]
  | c :: l => by
    have ih := split_pcs l
    unfold Lib.split at ih ⊢
    rw [Lib.count_one] at ih ⊢
    by_cases h : c = 47
    · subst h
      rw [List.count_cons_self, pcs_cons_eq, ← ih]
      have e : Lib.index (47 :: l) [47] = 0 := by rw [Lib.index]; simp [List.isPrefixOf]
      simp [Lib.splitK, e]
    · obtain ⟨x, t, e1, e2⟩ := pcs_cons c l h
      rw [List.count_cons_of_ne (by simpa using h), e2]
      rw [e1] at ih
      cases hk : List.count 47 l with
      | zero =>
        rw [hk] at ih
        simp only [Lib.splitK, List.cons.injEq] at ih ⊢
        obtain ⟨rfl, rfl⟩ := ih
        simp
      | succ k =>
        rw [hk] at ih
        have hm : Lib.index l [47] ≠ -1 := by
          intro e
          have := Lib.count_miss (s := l) (sub := [47]) e
          rw [Lib.count_one, hk] at this
          omega
        have hge := Lib.index_ge l [47]
        obtain ⟨j, hj⟩ : ∃ j : Nat, Lib.index l [47] = j := ⟨(Lib.index l [47]).toNat, by omega⟩
        have hp : ([47] : List UInt8).isPrefixOf (c :: l) = false := by simp [List.isPrefixOf, Ne.symm h]
        have hi : Lib.index (c :: l) [47] = ((j + 1 : Nat) : Int) := by
          rw [Lib.index, hp]
          simp [hj]
        have a1 : ¬ ((Lib.index l [47] == -1) = true) := by simpa using hm
        have a2 : ¬ ((Lib.index (c :: l) [47] == -1) = true) := by rw [hi]; simp; omega
        unfold Lib.splitK at ih ⊢
        rw [if_neg a1, hj] at ih
        rw [if_neg a2, hi]
        simp only [Int.toNat_natCast, List.cons.injEq, Nat.add_zero, List.length_singleton] at ih ⊢
        obtain ⟨rfl, rfl⟩ := ih
        exact ⟨by simp, by simp [List.drop_succ_cons]⟩
/-- is it a path? -/
def isP (l : List UInt8) : Bool := decide (l.length ≤ 60) && (decide ((pcs l).length ≤ 8) && (pcs l).all partL)
/-- does the one cover the other? -/
def und (p l : List UInt8) : Bool := isP l && (p == [] || (p == l || Lib.hasPrefix l (p ++ [47])))
theorem isP_parts {l : List UInt8} (h : isP l = true) : l.length ≤ 60 ∧ (pcs l).length ≤ 8 ∧ ∀ x ∈ pcs l, partL x = true := by
  simp only [isP, Bool.and_eq_true, decide_eq_true_eq, List.all_eq_true] at h
  exact ⟨h.1, h.2.1, h.2.2⟩
theorem isP_mk {l : List UInt8} (h1 : l.length ≤ 60) (h2 : (pcs l).length ≤ 8) (h3 : ∀ x ∈ pcs l, partL x = true) : isP l = true := by
  simp only [isP, Bool.and_eq_true, decide_eq_true_eq, List.all_eq_true]
  exact ⟨h1, h2, h3⟩
theorem isP_left {p r : List UInt8} (h : isP (p ++ 47 :: r) = true) : isP p = true := by
  obtain ⟨h1, h2, h3⟩ := isP_parts h
  rw [pcs_app] at h2 h3
  rw [List.length_append] at h1 h2
  exact isP_mk (by omega) (by omega) fun x hx => h3 x (List.mem_append_left _ hx)
theorem isP_ne {l : List UInt8} (h : isP l = true) : l ≠ [] := by
  rintro rfl
  revert h
  decide
/-- a path doesn't begin with a slash. -/
theorem isP_head {l : List UInt8} (h : isP (47 :: l) = true) : False := by
  obtain ⟨_, _, h3⟩ := isP_parts h
  rw [pcs_cons_eq] at h3
  have := h3 [] (List.mem_cons_self ..)
  revert this
  decide
theorem pre_iff (l q : List UInt8) : Lib.hasPrefix l q = true ↔ ∃ r, l = q ++ r := by
  unfold Lib.hasPrefix
  rw [List.isPrefixOf_iff_prefix]
  exact ⟨fun ⟨r, h⟩ => ⟨r, h.symm⟩, fun ⟨r, h⟩ => ⟨r, h.symm⟩⟩
theorem und_iff (p l : List UInt8) : und p l = true ↔ isP l = true ∧ (p = [] ∨ p = l ∨ ∃ r, l = p ++ 47 :: r) := by
  simp only [und, Bool.and_eq_true, Bool.or_eq_true, beq_iff_eq, pre_iff, List.append_assoc, List.singleton_append]
theorem und_prefix {p l : List UInt8} (h : und p l = true) : p = [] ∨ isP p = true := by
  obtain ⟨h1, rfl | rfl | ⟨r, rfl⟩⟩ := (und_iff p l).1 h
  · exact .inl rfl
  · exact .inr h1
  · exact .inr (isP_left h1)
theorem und_trans {a b c : List UInt8} (h : und a b = true) (k : und b c = true) : und a c = true := by
  obtain ⟨h1, h2⟩ := (und_iff a b).1 h
  obtain ⟨k1, k2⟩ := (und_iff b c).1 k
  refine (und_iff a c).2 ⟨k1, ?_⟩
  have hb := isP_ne h1
  rcases h2 with rfl | rfl | ⟨r, rfl⟩
  · exact .inl rfl
  · exact k2
  · rcases k2 with e | rfl | ⟨r', rfl⟩
    · exact absurd e hb
    · exact .inr (.inr ⟨r, rfl⟩)
    · exact .inr (.inr ⟨r ++ 47 :: r', by simp⟩)
theorem und_two {a b c : List UInt8} (h : und a c = true) (k : und b c = true) (ha : a ≠ []) (hb : b ≠ []) : und a b = true ∨ und b a = true := by
  have pa := (und_prefix h).resolve_left ha
  have pb := (und_prefix k).resolve_left hb
  obtain ⟨h1, h2⟩ := (und_iff a c).1 h
  obtain ⟨_, k2⟩ := (und_iff b c).1 k
  rcases h2 with e | rfl | ⟨r, rfl⟩
  · exact absurd e ha
  · exact .inr k
  · rcases k2 with e | rfl | ⟨r', e⟩
    · exact absurd e hb
    · exact .inl h
    · rcases List.append_eq_append_iff.1 e with ⟨m, e1, e2⟩ | ⟨m, e1, e2⟩
      · left
        refine (und_iff a b).2 ⟨pb, ?_⟩
        cases m with
        | nil => exact .inr (.inl (by simpa using e1.symm))
        | cons x m =>
          simp at e2
          exact .inr (.inr ⟨m, by rw [e1, ← e2.1]⟩)
      · right
        refine (und_iff b a).2 ⟨pa, ?_⟩
        cases m with
        | nil => exact .inr (.inl (by simpa using e1.symm))
        | cons x m =>
          simp at e2
          exact .inr (.inr ⟨m, by rw [e1, ← e2.1]⟩)
/-- the order. -/
def ordL : List UInt8 → List UInt8 → Int
  | [], [] => 0
  | [], _ :: _ => -1
  | _ :: _, [] => 1
  | a :: x, b :: y => if a < b then -1 else if b < a then 1 else ordL x y
theorem less_ord : ∀ x y, Op.bytesLess x y = decide (ordL x y = -1)
  | [], [] => by simp [Op.bytesLess, ordL]
  | [], _ :: _ => by simp [Op.bytesLess, ordL]
  | _ :: _, [] => by simp [Op.bytesLess, ordL]
  | a :: x, b :: y => by
    rw [Op.bytesLess, less_ord x y, ordL]
    by_cases h : a < b
    · simp [h]
    · by_cases h' : b < a
      · have : ¬ a = b := by rintro rfl; exact h h'
        simp [h, h', this]
      · have : a = b := by
          have h1 := UInt8.not_lt.1 h
          have h2 := UInt8.not_lt.1 h'
          exact UInt8.le_antisymm h2 h1
        subst this
        simp [h]
theorem ord_eq : ∀ x y, ordL x y = 0 ↔ x = y
  | [], [] => by simp [ordL]
  | [], _ :: _ => by simp [ordL]
  | _ :: _, [] => by simp [ordL]
  | a :: x, b :: y => by
    rw [ordL]
    by_cases h : a < b
    · have : a ≠ b := by rintro rfl; exact absurd h (UInt8.lt_irrefl _)
      simp [h, this]
    · by_cases h' : b < a
      · have : a ≠ b := by rintro rfl; exact h h'
        simp [h, h', this]
      · have : a = b := UInt8.le_antisymm (UInt8.not_lt.1 h') (UInt8.not_lt.1 h)
        subst this
        simp [h, ord_eq x y]
theorem ord_neg : ∀ x y, ordL y x = - ordL x y
  | [], [] => by simp [ordL]
  | [], _ :: _ => by simp [ordL]
  | _ :: _, [] => by simp [ordL]
  | a :: x, b :: y => by
    rw [ordL, ordL]
    by_cases h : a < b
    · have : ¬ b < a := fun h' => UInt8.lt_irrefl _ (UInt8.lt_trans h h')
      simp [h, this]
    · by_cases h' : b < a
      · simp [h, h']
      · simp [h, h', ord_neg x y]
theorem ord_three : ∀ x y, ordL x y = -1 ∨ ordL x y = 0 ∨ ordL x y = 1
  | [], [] => by simp [ordL]
  | [], _ :: _ => by simp [ordL]
  | _ :: _, [] => by simp [ordL]
  | a :: x, b :: y => by
    rw [ordL]
    split
    · exact .inl rfl
    · split
      · exact .inr (.inr rfl)
      · exact ord_three x y
theorem ord_trans : ∀ x y z, ordL x y ≤ 0 → ordL y z ≤ 0 → ordL x z ≤ 0
  | [], _, [] => by intros; simp [ordL]
  | [], _, _ :: _ => by intros; simp [ordL]
  | _ :: _, [], _ => by intro h; simp [ordL] at h
  | _ :: _, _ :: _, [] => by intro _ h; simp [ordL] at h
  | a :: x, b :: y, c :: z => by
    intro h k
    have ih := ord_trans x y z
    rw [ordL] at h k ⊢
    by_cases ab : a < b
    · by_cases bc : b < c
      · simp [UInt8.lt_trans ab bc]
      · by_cases cb : c < b
        · simp [bc, cb] at k
        · have : b = c := UInt8.le_antisymm (UInt8.not_lt.1 cb) (UInt8.not_lt.1 bc)
          subst this; simp [ab]
    · by_cases ba : b < a
      · simp [ab, ba] at h
      · have : a = b := UInt8.le_antisymm (UInt8.not_lt.1 ba) (UInt8.not_lt.1 ab)
        subst this
        by_cases bc : a < c
        · simp [bc]
        · by_cases cb : c < a
          · simp [bc, cb] at k
          · simp only [bc, cb, ab, if_false] at h k ⊢
            exact ih h k
end Go.Proofs.YtpkolmmahoopcaaGreatDoor.Pth
/- DERIVED. More words on rows in memory; no program. -/
namespace Go.Proofs.YtpkolmmahoopcaaGreatDoor
open Go.RowKit
/-- a block that was new ahead of a call is there behind it. -/
theorem kept_new {w w1 : World} {C : Array Value} {T : Nat} (h : Below (w.alloc (.cells C T)).heap.size (w.alloc (.cells C T)) w1) : w.heap.size < w1.heap.size ∧ w1.heap[w.heap.size]? = some (.cells C T (0, 0)) := by
  have hs : w.heap.size < (w.alloc (.cells C T)).heap.size := by rw [World.size_alloc]; omega
  exact ⟨Nat.lt_of_lt_of_le hs h.size, (h.block _ hs).trans (Go.heap_alloc_new _ _)⟩
/-- four cells of a block. -/
theorem cells4 {w : World} {g T : Nat} {a b c d : Value} {fr : Nat × Nat} (h : w.heap[g]? = some (.cells #[a, b, c, d] T fr)) :
    w.cell? ⟨g, 0, none⟩ = some a ∧ w.cell? ⟨g, 1, none⟩ = some b ∧ w.cell? ⟨g, 2, none⟩ = some c ∧ w.cell? ⟨g, 3, none⟩ = some d :=
  ⟨cell_row h 0, cell_row h 1, cell_row h 2, cell_row h 3⟩
theorem u32s_set (l : List Int) (k : Nat) (v : Int) : (u32s l).setIfInBounds k (.int .u32 v) = u32s (l.set k v) := by
  simp [u32s, List.map_set]
theorem u8s_set (l : List Int) (k : Nat) (v : Int) : (u8s l).setIfInBounds k (.int .u8 v) = u8s (l.set k v) := by
  simp [u8s, List.map_set]
/-- a row of words, one word written. -/
theorem row32_set {w : World} {g T : Nat} {l : List Int} (h : w.heap[g]? = some (.cells (u32s l) T (0, 0))) (k : Nat) (v : Int) : (w.setCell ⟨g, k, none⟩ (.int .u32 v)).heap[g]? = some (.cells (u32s (l.set k v)) T (0, 0)) := by
  rw [← u32s_set]; exact heap_setCell_same _ _ _ _ _ _ h
theorem row8_set {w : World} {g T : Nat} {l : List Int} (h : w.heap[g]? = some (.cells (u8s l) T (0, 0))) (k : Nat) (v : Int) : (w.setCell ⟨g, k, none⟩ (.int .u8 v)).heap[g]? = some (.cells (u8s (l.set k v)) T (0, 0)) := by
  rw [← u8s_set]; exact heap_setCell_same _ _ _ _ _ _ h
theorem row32_cell {w : World} {g T : Nat} {l : List Int} {fr : Nat × Nat} (h : w.heap[g]? = some (.cells (u32s l) T fr)) (k : Nat) (hk : k < l.length) : w.cell? ⟨g, k, none⟩ = some (.int .u32 (l.getD k 0)) := by
  rw [cell_row h, u32s_get l k hk]
theorem row8_cell {w : World} {g T : Nat} {l : List Int} {fr : Nat × Nat} (h : w.heap[g]? = some (.cells (u8s l) T fr)) (k : Nat) (hk : k < l.length) : w.cell? ⟨g, k, none⟩ = some (.int .u8 (l.getD k 0)) := by
  rw [cell_row h, u8s_get l k hk]
theorem four_new (w : World) (A B C D : Obj) : ((((w.alloc A).alloc B).alloc C).alloc D).heap[w.heap.size]? = some A ∧ ((((w.alloc A).alloc B).alloc C).alloc D).heap[w.heap.size + 1]? = some B ∧ ((((w.alloc A).alloc B).alloc C).alloc D).heap[w.heap.size + 1 + 1]? = some C ∧ ((((w.alloc A).alloc B).alloc C).alloc D).heap[w.heap.size + 1 + 1 + 1]? = some D := by
  have h := three_new w A B C
  refine ⟨?_, ?_, ?_, ?_⟩
  · exact (Go.heap_alloc_old _ D (by simp; omega)).trans h.1
  · exact (Go.heap_alloc_old _ D (by simp)).trans h.2.1
  · exact (Go.heap_alloc_old _ D (by simp)).trans h.2.2
  · have := heap_alloc_new (((w.alloc A).alloc B).alloc C) D
    simpa using this
theorem below4 (w : World) (A B C D : Obj) : Below w.heap.size w ((((w.alloc A).alloc B).alloc C).alloc D) := (below3 w A B C).alloc (by simp; omega) _
theorem Below.drewN {B : Nat} {w w' : World} (h : Below B w w') (n : Nat) : Below B w (w'.drewN n) := ⟨h.os, h.tape, h.output, h.size, h.block⟩
end Go.Proofs.YtpkolmmahoopcaaGreatDoor
/- DERIVED. paths.isAllowed, paths.isPart of any text, and the reference's may and part. -/
namespace Go.Proofs.YtpkolmmahoopcaaGreatDoor.Pth
open Go.RowKit
theorem ret_b {a b : Bool} (h : a = b) : Ending.returned (.bool a) = Ending.returned (.bool b) := by rw [h]
theorem ret_yes {r : Int} (h : alw r = true) : Ending.returned (.bool true) = Ending.returned (.bool (alw r)) := by rw [h]
theorem ret_no {r : Int} (h : alw r = false) : Ending.returned (.bool false) = Ending.returned (.bool (alw r)) := by rw [h]
theorem allowed_any (r : Int) (w : World) (h0 : 0 ≤ r) (h1 : r ≤ 2147483647) : Calls Tryz.prog 61 #[.int .i32 r] w fun e w' => e = .returned (.bool (alw r)) ∧ w = w' := by
  go_enter Tryz.func61, Tryz.ntmps61
  go_wp2
  all_goals
    go_ret
    refine ⟨?_, rfl⟩
    first
      | refine ret_yes ?_
      | refine ret_no ?_
    simp only [alw, decide_eq_true_eq, decide_eq_false_iff_not]
    try simp only [beq_iff_eq, beq_eq_false_iff_ne, ne_eq] at *
    omega
theorem iterPos_of {w : World} {k : Nat} {s : ByteArray} {p : Nat} (h : w.heap[k]? = some (.stringIter s p)) : w.iterPos k = p := by simp [World.iterPos, h]
theorem drop_at (s : ByteArray) (k : Nat) (h : k < s.size) : s.data.toList.drop k = s[k] :: s.data.toList.drop (k + 1) := by
  rw [List.drop_eq_getElem_cons (by simpa using h)]; rfl
theorem drop_end (s : ByteArray) (k : Nat) (h : ¬ k < s.size) : s.data.toList.drop k = [] := by
  rw [List.drop_eq_nil_iff]; simp; omega
/-- a step of a part. -/
theorem partG_yes {d : Bool} {s : ByteArray} {k : Nat} (h : k < s.size) (ha : alw ((s[k]'h).toNat : Int) = true) : partG d (s.data.toList.drop k) = partG (d && (((s[k]'h).toNat : Int) == 46)) (s.data.toList.drop (k + 1)) := by
  rw [drop_at s k h, partG, ha, Bool.true_and]
theorem partG_no {d : Bool} {s : ByteArray} {k : Nat} (h : k < s.size) (ha : alw ((s[k]'h).toNat : Int) = false) : partG d (s.data.toList.drop k) = false := by
  rw [drop_at s k h, partG, ha, Bool.false_and]
theorem partG_end {d : Bool} {s : ByteArray} {k : Nat} (h : ¬ k < s.size) : partG d (s.data.toList.drop k) = !d := by
  rw [drop_end s k h, partG]
theorem alw_high {r : Int} (h : 128 ≤ r) : alw r = false := by
  simp only [alw, decide_eq_false_iff_not]
  omega
set_option maxHeartbeats 1000000 in
theorem part_any (s : ByteArray) (w : World) : Calls Tryz.prog 48 #[.string s] w fun e w' => e = .returned (.bool (partL s.data.toList)) ∧ Below w.heap.size w w' := by
  go_enter Tryz.func48, Tryz.ntmps48
  go_wp2
  go_loopw [3] (fun v wr => ∃ (k : Nat) (d : Bool), wr.heap[w.heap.size]? = some (.stringIter s k) ∧ Below w.heap.size w wr ∧ k ≤ s.size ∧ v = .bool d ∧ Hid (partG d (s.data.toList.drop k) = partL s.data.toList)) (fun _ wr => s.size - wr.iterPos w.heap.size)
  case atStart => exact ⟨0, true, World.iter_heap w s 0, (Below.refl _ _).alloc (Nat.le_refl _) _, Nat.zero_le _, rfl, rfl⟩
  case round =>
    obtain ⟨k, d, hit, hb, hk, rfl, HS⟩ := hrel
    have hpos0 := iterPos_of hit
    by_cases hp : k < s.size
    · have hit2 := Lib.iterAt_heap wr w.heap.size s k (k + (Utf8.decode s k).2) hit
      have hb2 := Lib.below_iterAt hb (k := w.heap.size) (Nat.le_refl _) s (k + (Utf8.decode s k).2)
      have hnx : ∀ ty, (Instr.next (.pointer (some ⟨w.heap.size, 0, none⟩)) true ty).run Tryz.prog wr = _ := fun ty => Lib.run_next_any_at wr w.heap.size s k ty hit hp
      have hle := decode_le s k
      obtain ⟨W1, hW1⟩ : ∃ W1, W1 = wr.iterAt w.heap.size s (k + (Utf8.decode s k).2) := ⟨_, rfl⟩
      rw [← hW1] at hnx hit2 hb2
      clear hW1
      by_cases ha : (s[k]'hp).toNat < 128
      · rw [decode_ascii s k hp ha] at hnx hit2 hle
        cases hal : alw ((s[k]'hp).toNat : Int)
        · have hr := HS.out
          rw [partG_no hp hal] at hr
          have HR := Lib.hid hr
          clear hr HS
          go_wp2_with (go_at_call 61; refine (allowed_any _ _ (by omega) (by omega)).mono ?_; rintro e w' ⟨rfl, rfl⟩)
          go_ret
          exact ⟨ret_b HR.out, hb2⟩
        · have hr := HS.out
          rw [partG_yes hp hal] at hr
          have HR := Lib.hid hr
          have HL := Lib.hid hal
          clear hr HS
          cases h46 : (((s[k]'hp).toNat : Int) == 46)
          all_goals
            have h47 : (((s[k]'hp).toNat : Int) != 46) = !(((s[k]'hp).toNat : Int) == 46) := rfl
            rw [h46] at h47
            go_wp2_with (go_at_call 61; refine (allowed_any _ _ (by omega) (by omega)).mono ?_; rintro e w' ⟨rfl, rfl⟩)
            go_roundw
            case rel => exact ⟨k + 1, _, hit2, hb2, by omega, rfl, Lib.hid (by rw [← HR.out, h46]; simp)⟩
            case measure => rw [iterPos_of hit2, hpos0]; omega
      · have hh := decode_high s k hp (by omega)
        have hal : alw ((s[k]'hp).toNat : Int) = false := alw_high (by omega)
        have hal2 : alw ((Utf8.decode s k).1 : Int) = false := alw_high (by omega)
        have hr := HS.out
        rw [partG_no hp hal] at hr
        have HR := Lib.hid hr
        clear hr HS hal
        go_wp2_with (go_at_call 61; refine (allowed_any _ _ (by omega) (by omega)).mono ?_; rintro e w' ⟨rfl, rfl⟩)
        go_ret
        exact ⟨ret_b HR.out, hb2⟩
    · have hnx : ∀ ty, (Instr.next (.pointer (some ⟨w.heap.size, 0, none⟩)) true ty).run Tryz.prog wr = _ := fun ty => Lib.run_next_end_at wr w.heap.size s k ty hit hp
      have hr := HS.out
      rw [partG_end hp] at hr
      have HR := Lib.hid hr
      clear hr HS
      go_wp2
      go_ret
      exact ⟨ret_b HR.out, hb⟩
end Go.Proofs.YtpkolmmahoopcaaGreatDoor.Pth
