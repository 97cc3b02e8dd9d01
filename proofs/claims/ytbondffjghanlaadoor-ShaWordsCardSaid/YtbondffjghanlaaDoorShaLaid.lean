/- DERIVED. What the rows' list of the two tables gives the walks; a world for the witness. -/
import Derived.Test.YtbondffjghanlaaDoorCards
import Derived.Test.YtbondffjghanlaaDoorTie
import Derived.Test.YtbondffjghanlaaDoorShaCat
import Derived.ProofKit
import Derived.OpenShut
import Derived.Deep.DeepHandedRow
import Derived.Lib.LaidTab
namespace Go.Proofs.YtbondffjghanlaaDoor
open Go.ChangeShapes Go.WideShapes Go.ChangeAt Go.RowKit
theorem own : ownKnob Tryd.prog.godebug = none := by kernel_rfl
theorem gS : Tryd.prog.globalNamed "redwax/sha.startWords" = some 0 := by kernel_rfl
theorem gK : Tryd.prog.globalNamed "redwax/sha.roundWords" = some 1 := by kernel_rfl
theorem gSType : (Tryd.prog.globals[0]?).map (·.type) = some 23 := by kernel_rfl
theorem gKType : (Tryd.prog.globals[1]?).map (·.type) = some 67 := by kernel_rfl
theorem cells23 : Tryd.prog.cellsOf 23 = 8 := by kernel_rfl
theorem cells55 : Tryd.prog.cellsOf 67 = 64 := by kernel_rfl
theorem cells22 : Tryd.prog.cellsOf 22 = 1 := by kernel_rfl
def SW : List Int := [1779033703, 3144134277, 1013904242, 2773480762, 1359893119, 2600822924, 528734635, 1541459225]
/-- the rows' list. -/
def laidList : List (String × DataW Unit) := [("redwax/sha.startWords", Rows.laid_redwax_sha_startWords), ("redwax/sha.roundWords", Rows.laid_redwax_sha_roundWords)]
theorem laid_of {W : World} (h : laidMetH Tryd.prog laidList W) : Laid W := by
  have h0 : Lib.TabIs Tryd.prog W "redwax/sha.startWords" .u32 SW := Lib.tabIs_of_head (rest := [("redwax/sha.roundWords", Rows.laid_redwax_sha_roundWords)]) gS gSType Tryd.underlying23 Tryd.underlying22 cells22 cells23 h
  have h1 : Lib.TabIs Tryd.prog W "redwax/sha.roundWords" .u32 KW := by
    obtain ⟨ps, ⟨g0, t0, cs0, f0, p0, q0, hg0, ht0, hv0, hd0, ⟨g1, t1, cs1, f1, p1, q1, hg1, ht1, hv1, hd1, _⟩, _⟩, _⟩ := h
    obtain rfl := Option.some.inj (gK.symm.trans hg1)
    obtain rfl := Option.some.inj (gKType.symm.trans ht1)
    have hc := Lib.cells_of_tab (zs := KW) Tryd.underlying67 Tryd.underlying22 cells22 cells55 hd1
    unfold Lib.TabIs
    rw [hv1]
    congr 1
    apply Array.ext'
    simpa using hc
  refine ⟨fun j hj => h1.cell gK j hj, fun j hj => h0.cell gS j hj, ?_⟩
  have := World.block_lt_of_cell? W _ (h1.cell gK 0 (by decide))
  exact this
def fillRow (cs : Array Value) : Obj → Obj
  | .cells _ t frozen => .cells cs t frozen
  | o => o
/-- a world for the witness: the settled one, the two tables laid. -/
noncomputable def laidWorld (os : Os) : World :=
  { World.holding Tryd.prog os ⟨#[], #[], []⟩ with heap := ((World.holding Tryd.prog os ⟨#[], #[], []⟩).heap.modify 0 (fillRow (SW.map (Value.int .u32)).toArray)).modify 1 (fillRow (KW.map (Value.int .u32)).toArray) }
/-- no parameter wants a stand-in: what the cards ask, of a function whose parameters' types are ts. -/
theorem plain_of {name : String} {n : Nat} {f0 : Func} {ts : List TypeId} (hn : Tryd.prog.funcNamed name = some n) (hf0 : Tryd.prog.funcs[n]? = some f0) (hp : f0.params.toList = ts) (hl : false = Tryd.pinned.checked.prog.looks [])
    (ht : (ts.all fun t => !Tryd.prog.wantsStandIn t) = true) (f : FuncId) (fn : Func) (hf : Tryd.pinned.checked.prog.funcNamed name = some f) (hfn : Tryd.pinned.checked.prog.funcs[f]? = some fn) :
    false = Tryd.pinned.checked.prog.looks [] ∧ ∀ (j : Nat) t, fn.params[j]? = some t → Tryd.pinned.checked.prog.wantsStandIn t = false := by
  obtain rfl : f = n := Option.some.inj (hn.symm.trans hf) |>.symm
  obtain rfl : fn = f0 := (Option.some.inj (hf0.symm.trans hfn)).symm
  refine ⟨hl, fun j t h => ?_⟩
  have hm : t ∈ ts := by rw [← hp]; simpa using Array.mem_of_getElem? h
  have := List.all_eq_true.1 ht t hm
  exact (show Tryd.prog.wantsStandIn t = false by simpa using this)
theorem laidOut : laidOutB Tryd.prog = true := by kernel_rfl
theorem trodAll_below {H : Type} {enc : TypeId × Value → H} {W W' : World} (hb : Below W.heap.size W W') : ∀ {ts : List TypeId} {vs : List Value} {ds : List (DataW H)} {ps : List MemPlace},
    (∀ t ∈ ts, Tryd.prog.readableRec t = true ∧ t < Tryd.prog.types.size) → (∀ x ∈ ps, x.block < W.heap.size) → DataW.TrodAll enc Tryd.prog W 0 (fun _ => true) true ts vs ds ps →
    DataW.TrodAll enc Tryd.prog W' 0 (fun b => decide (b < W.heap.size)) true ts vs ds ps
  | [], vs, ds, ps, _, _, h => by
    obtain ⟨rfl, rfl, rfl⟩ := trodAll_nil h
    exact trodAll_mk0
  | t :: ts, vs, ds, ps, ht, hlt, h => by
    obtain ⟨v0, vs0, d0, ds0, p0, q0, rfl, rfl, rfl, h0, r0⟩ := trodAll_cons h
    have h1 := ht t (List.mem_cons_self ..)
    exact trodAll_cons_mk (Below.trod laidOut h1.1 h1.2 h0 hb (fun x hx => hlt x (List.mem_append_left _ hx)))
      (trodAll_below hb (fun t' h' => ht t' (List.mem_cons_of_mem _ h')) (fun x hx => hlt x (List.mem_append_right _ hx)) r0)
/-- a law's end: it answers true, and what came in is as it was. -/
theorem law_post {H : Type} {enc : TypeId × Value → H} {f : Func} {s : ChangeSpec} {W W' : World} {args : Array Value} {ds gs : List (DataW H)} {before : List MemPlace}
    (hW : DataW.Whole enc Tryd.prog f.params.toList s.vars false W args.toList ds gs before) (hv : s.vars = []) (hr : f.resultTypes = #[4])
    (hp : ∀ t ∈ f.params.toList, Tryd.prog.readableRec t = true ∧ t < Tryd.prog.types.size)
    (hs : (s.fn H (ds ++ [])).results = [.lit (.bool true)] ∧ (s.fn H (ds ++ [])).args = ds ∧ (s.fn H (ds ++ [])).vars = []) (hb : Below W.heap.size W W') :
    s.post enc Tryd.prog f false true false false W args (.bool true) W' := by
  have hW' := hW
  obtain ⟨p, q, hA, hV, rfl, _, _⟩ := hW
  rw [hv] at hV
  obtain ⟨rfl, rfl⟩ := trodVars_none hV
  refine ⟨ds, [], p ++ [], [], p, [], hW', ?_, ?_, ?_, hb.frame _, fun h => by cases h⟩
  · rw [hs.1, hr]
    exact trodAll_mk1 (shut_bool Tryd.underlying4 true)
  · rw [hs.2.1]
    exact trodAll_below hb hp (fun x hx => by simpa using hW'.lt x (by simpa using hx)) hA
  · rw [hs.2.2, hv]
    rfl
theorem cells5 : Tryd.prog.cellsOf 5 = 1 := by kernel_rfl
/-- a parameter []byte: the bytes that it reads as. -/
theorem open_bytes {H : Type} {enc : TypeId × Value → H} {W : World} {base : Nat} {v : Value} {d : DataW H} {p : List MemPlace} (hv : Value.okWide Tryd.prog W .any base 26 v)
    (h : DataW.Trod enc Tryd.prog W 0 (fun _ => true) true 26 v d p) : ∃ (A : Option Addr) (c : Nat) (L : List Int), v = .slice A L.length c ∧ InB L ∧ Byt W A c L ∧ L.length ≤ maxLen := by
  obtain ⟨a0, len, cap, rfl⟩ := okWide_slice Tryd.underlying26 hv
  obtain ⟨fuel, hf⟩ := h
  rcases open_ints Tryd.underlying26 Tryd.underlying5 cells5 hf with ⟨hcs, _⟩ | ⟨a, len', cap', zs, hcs, _, hl, hm, hz, _, hcell, hwz⟩
  · simp [Value.cells] at hcs
    obtain ⟨rfl, rfl, rfl⟩ := hcs
    exact ⟨none, 0, [], rfl, fun j => by simp, ⟨Nat.le_refl _, fun _ => rfl, fun h => absurd h (Nat.lt_irrefl 0)⟩, Nat.zero_le _⟩
  · simp [Value.cells] at hcs
    obtain ⟨rfl, rfl, rfl⟩ := hcs
    simp only [if_true] at hz
    have hlen : (zs.take len).length = len := by simp; omega
    refine ⟨some a, cap, zs.take len, by rw [hlen], ?_, ⟨by rw [hlen]; exact hl, (fun h => by cases h), (fun h => ?_)⟩, by rw [hlen]; omega⟩
    · intro j
      by_cases hj : j < len
      · have hj' : j < zs.length := by omega
        have e : (zs.take len).getD j 0 = zs[j] := by simp [List.getD_eq_getElem?_getD, hj, hj']
        have := hwz zs[j] (List.getElem_mem hj')
        have h2 : 0 ≤ zs[j] ∧ zs[j] ≤ 255 := by simpa [Lit.wf, IntKind.bits, IntKind.signed, IntKind.min, IntKind.max] using this
        rw [e]
        omega
      · rw [List.getD_eq_getElem?_getD, List.getElem?_eq_none (by rw [hlen]; exact Nat.le_of_not_lt hj)]; simp
    · rw [hlen] at h
      obtain ⟨b, off, spot⟩ := a
      have hspot : spot = none := by simpa [Addr.add] using World.cell?_spot (hcell 0 (by omega))
      subst hspot
      refine ⟨b, off, rfl, ?_, fun j hj => ?_⟩
      · have := World.block_lt_of_cell? W _ (hcell 0 (by omega))
        simpa [Addr.add] using this
      · rw [hlen] at hj
        rw [← Addr.add_mid, hcell j (by omega)]
        simp [List.getD_eq_getElem?_getD, hj]
end Go.Proofs.YtbondffjghanlaaDoor
