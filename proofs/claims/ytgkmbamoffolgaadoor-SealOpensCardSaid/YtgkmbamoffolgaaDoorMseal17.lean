/- DERIVED. Texts of ours, merged: XSealAwake XLaw XLawCard XLawBytes XLawHash XSealLaid. -/
import Derived.Test.YtgkmbamoffolgaaDoorMseal16
import Derived.Lib.SlBytesConst
import Derived.Test.YtgkmbamoffolgaaDoorProg
import Derived.Test.YtgkmbamoffolgaaDoorChecked
import Derived.Test.YtgkmbamoffolgaaDoorRows
import Derived.Test.YtgkmbamoffolgaaDoorMseal1
import Derived.ProofKit
import Derived.OpenShut
import Derived.Deep.DeepHandedRow
import Derived.Lib.LaidTab
import Derived.ChangeMaps5
import Derived.WideKeyArr2
import Derived.Test.YtgkmbamoffolgaaDoorCards
import Derived.Test.YtgkmbamoffolgaaDoorTie
/- DERIVED. What was sealed opens, on lists; the statements' own helpers of layer 11: here, awake. -/
namespace Go.Proofs.YtgkmbamoffolgaaDoor.Seal
open Go.RowKit
theorem open_seal (k C L : List Int) (pos ep : Nat) (hL : InB L) (hm : L.length ≤ 131068) (he : ep < 4294967296) : openL k C pos (sealL k C pos ep L) = some (L, ep) := by
  obtain ⟨q, hq⟩ : ∃ q, q = bkt L.length := ⟨_, rfl⟩
  obtain ⟨BB, hBB⟩ : ∃ BB, BB = bodyL k C pos ep (padL L) := ⟨_, rfl⟩
  obtain ⟨TT, hTT⟩ : ∃ TT, TT = tagL k C pos ep BB := ⟨_, rfl⟩
  have hS : sealL k C pos ep L = numL ep 4 ++ (BB ++ TT) := by rw [hTT, hBB]; unfold sealL; rw [List.append_assoc]
  have hBl : BB.length = q := by rw [hBB, bodyL_length, padL_length hm, hq]
  have hTl : TT.length = 32 := by rw [hTT]; exact tagL_length _ _ _ _ _
  have hlen : (numL ep 4 ++ (BB ++ TT)).length = 36 + q := by rw [List.length_append, List.length_append, numL_length, hBl, hTl]; omega
  have hbk : isBk (q : Int) := by rw [hq]; exact bkt_bk hm
  have hd4 : (numL ep 4 ++ (BB ++ TT)).drop 4 = BB ++ TT := by
    rw [List.drop_append_of_le_length (by rw [numL_length]; exact Nat.le_refl _), List.drop_of_length_le (by rw [numL_length]; exact Nat.le_refl _), List.nil_append]
  have hE : be4 (numL ep 4 ++ (BB ++ TT)) = ep := by
    rw [← be4_take, List.take_append_of_le_length (by rw [numL_length]; exact Nat.le_refl _), List.take_of_length_le (by rw [numL_length]; exact Nat.le_refl _), be4_numL _ he]
  have hB : ((numL ep 4 ++ (BB ++ TT)).drop 4).take q = BB := by
    rw [hd4, List.take_append_of_le_length (by omega), List.take_of_length_le (by omega)]
  have hT : (numL ep 4 ++ (BB ++ TT)).drop (4 + q) = TT := by
    rw [← List.drop_drop, hd4, List.drop_append_of_le_length (by omega), List.drop_of_length_le (by omega), List.nil_append]
  rw [hS, openL_yes (by rw [hlen, show ((36 + q : Nat) : Int) - 36 = q by omega]; exact hbk) hlen hE (by rw [hB, hT, hTT]), hB, hBB]
  have e : bodyL k C pos ep (bodyL k C pos ep (padL L)) = padL L := Cha.stream_twice _ _ _ _ (padL_in hL)
  rw [e, unpad_pad L hm]
  rfl
def hereL : List Int := [104, 101, 114, 101]
def keyOne : List Int := [1, 0, 0, 0, 0, 0, 0, 0, 0, 0, 0, 0, 0, 0, 0, 0, 0, 0, 0, 0, 0, 0, 0, 0, 0, 0, 0, 0, 0, 0, 0, 0]
theorem keyOne_in : InB keyOne := inB_of (by decide)
theorem hereL_in : InB hereL := inB_of (by decide)
set_option maxRecDepth 100000 in
theorem here_any (w : World) : Calls Tryd.prog 18 #[] w fun e w' => ∃ g, e = .returned (.agg #[.slice (some ⟨g, 0, none⟩) 4 4, .int .u64 7, .int .u32 3]) ∧ Byt w' (some ⟨g, 0, none⟩) 4 hereL ∧ Below w.heap.size w w' := by
  have k1 := conv_const2 w (Obj.cells #[.slice none 0 0, .int .u64 0, .int .u32 0] 28) #[.int .u8 104, .int .u8 101, .int .u8 114, .int .u8 101] 4
  go_enter Tryd.func18, Tryd.ntmps18
  go_wp2
  exact bodyPost_ret (v := .agg #[.slice (some ⟨w.heap.size + 1, 0, none⟩) 4 4, .int .u64 7, .int .u32 3]) (results_cell_row rfl _ _ w.heap.size 28 _ (0, 0) _ rfl (two_new w _ _).1 Tryd.underlying28 rfl infoP) rfl ⟨w.heap.size + 1, rfl, byt_rowF (l := hereL) (two_new w _ _).2 rfl, below_two w _ _⟩
theorem key_one : Value.agg (u8s keyOne) = .agg #[.int .u8 1, .int .u8 0, .int .u8 0, .int .u8 0, .int .u8 0, .int .u8 0, .int .u8 0, .int .u8 0, .int .u8 0, .int .u8 0, .int .u8 0, .int .u8 0, .int .u8 0, .int .u8 0, .int .u8 0, .int .u8 0, .int .u8 0, .int .u8 0, .int .u8 0, .int .u8 0, .int .u8 0, .int .u8 0, .int .u8 0, .int .u8 0, .int .u8 0, .int .u8 0, .int .u8 0, .int .u8 0, .int .u8 0, .int .u8 0, .int .u8 0, .int .u8 0] := rfl
def sealedAb : List Int := sealL keyOne hereL 7 3 [97, 98]
theorem ab_in : InB [97, 98] := inB_of (by decide)
theorem sealedAb_length : sealedAb.length = 100 := by
  unfold sealedAb
  rw [sealL_length _ _ _ _ (by decide)]
  decide
theorem seal_aw {g g2 : Nat} {w : World} (hL : SLaid w) (hB : Byt w (some ⟨g, 0, none⟩) 4 hereL) (hB2 : Byt w (some ⟨g2, 0, none⟩) 2 [97, 98]) :
    Calls Tryd.prog 11 #[.agg #[.int .u8 1, .int .u8 0, .int .u8 0, .int .u8 0, .int .u8 0, .int .u8 0, .int .u8 0, .int .u8 0, .int .u8 0, .int .u8 0, .int .u8 0, .int .u8 0, .int .u8 0, .int .u8 0, .int .u8 0, .int .u8 0, .int .u8 0, .int .u8 0, .int .u8 0, .int .u8 0, .int .u8 0, .int .u8 0, .int .u8 0, .int .u8 0, .int .u8 0, .int .u8 0, .int .u8 0, .int .u8 0, .int .u8 0, .int .u8 0, .int .u8 0, .int .u8 0], .agg #[.slice (some ⟨g, 0, none⟩) 4 4, .int .u64 7, .int .u32 3], .slice (some ⟨g2, 0, none⟩) 2 2] w fun e w' => ∃ A c, e = .returned (.tuple #[.slice A 100 c, .int .i64 0]) ∧ Byt w' A c sealedAb ∧ Below w.heap.size w w' := by
  have h := seal_ok keyOne hereL [97, 98] 7 3 (some ⟨g, 0, none⟩) (some ⟨g2, 0, none⟩) 4 4 2 2 w rfl keyOne_in rfl hereL_in (by decide) rfl ab_in (by decide) ⟨by decide, by decide⟩ hB hB2 hL
  rw [key_one] at h
  refine h.mono ?_
  rintro e w' ⟨v, rfl, ho, hb⟩
  obtain ⟨A, c, rfl, hby⟩ := ho.sl
  refine ⟨A, c, ?_, hby, hb⟩
  show Ending.returned (.tuple #[.slice A sealedAb.length c, .int .i64 0]) = _
  rw [sealedAb_length]
theorem open_aw {g c : Nat} {A : Option Addr} {w : World} (hL : SLaid w) (hB : Byt w (some ⟨g, 0, none⟩) 4 hereL) (hB2 : Byt w A c sealedAb) :
    Calls Tryd.prog 15 #[.agg #[.int .u8 1, .int .u8 0, .int .u8 0, .int .u8 0, .int .u8 0, .int .u8 0, .int .u8 0, .int .u8 0, .int .u8 0, .int .u8 0, .int .u8 0, .int .u8 0, .int .u8 0, .int .u8 0, .int .u8 0, .int .u8 0, .int .u8 0, .int .u8 0, .int .u8 0, .int .u8 0, .int .u8 0, .int .u8 0, .int .u8 0, .int .u8 0, .int .u8 0, .int .u8 0, .int .u8 0, .int .u8 0, .int .u8 0, .int .u8 0, .int .u8 0, .int .u8 0], .agg #[.slice (some ⟨g, 0, none⟩) 4 4, .int .u64 7, .int .u32 3], .slice A 100 c] w fun e w' => ∃ A' c', e = .returned (.tuple #[.slice A' 2 c', .int .u32 3, .int .i64 0]) ∧ Byt w' A' c' [97, 98] ∧ Below w.heap.size w w' := by
  have h := open_any keyOne hereL sealedAb 7 3 (some ⟨g, 0, none⟩) A 4 4 100 c w rfl keyOne_in rfl hereL_in (by decide) sealedAb_length (sealL_in ab_in) (by decide) (by decide) hB hB2 hL
  have e : openL keyOne hereL 7 sealedAb = some ([97, 98], 3) := open_seal keyOne hereL [97, 98] 7 3 ab_in (by decide) (by decide)
  rw [key_one, e] at h
  refine h.mono ?_
  rintro e w' ⟨⟨v, rfl, A', c', rfl, hby⟩, hb⟩
  exact ⟨A', c', rfl, hby, hb⟩
set_option maxRecDepth 100000 in
set_option maxHeartbeats 4000000 in
theorem awake_any (w : World) (hL : SLaid w) : Calls Tryd.prog 10 #[] w fun e w' => e = .returned (.bool true) ∧ Below w.heap.size w w' := by
  have HL := Lib.hid hL
  clear hL
  go_enter Tryd.func10, Tryd.ntmps10
  go_upto_region 2 with (first
    | (go_at_call 18; refine (here_any _).mono ?_; rintro e w1 ⟨g, rfl, hg, hb1⟩; have k1 := conv_const w1 #[.int .u8 97, .int .u8 98] 2; have Hg := Lib.hid hg; have Hb1 := Lib.hid hb1; clear hg hb1)
    | (go_at_call 11; refine (seal_aw (HL.out.later (Hb1.out.alloc (Hb1.out.size) _)) (Hg.out.alloc _) (byt_rowF (l := [97, 98]) (Go.heap_alloc_new w1 _) rfl)).mono ?_; rintro e w2 ⟨A, c, rfl, hs, hb2⟩; have Hs := Lib.hid hs; have Hb2 := Lib.hid ((Hb1.out.alloc (Hb1.out.size) _).trans (hb2.mono (by rw [World.size_alloc]; exact Nat.le_succ_of_le Hb1.out.size))); clear hs hb2))
  clear k1 Hg
  go_upto_region 3 with (first
    | (go_at_call 18; refine (here_any _).mono ?_; rintro e w3 ⟨g3, rfl, hg, hb3⟩; have Hg := Lib.hid hg; have Hb3 := Lib.hid (Hb2.out.trans (hb3.mono Hb2.out.size)); have Hs3 := Lib.hid (Hs.out.below hb3 (Nat.le_refl _)); clear hg hb3)
    | (go_at_call 15; refine (open_aw (HL.out.later Hb3.out) Hg.out Hs3.out).mono ?_; rintro e w4 ⟨A4, c4, rfl, hs4, hb4⟩; have kc := Cha.conv_any (n := 2) hs4 rfl; rw [show strOfNums [97, 98] = ⟨#[97, 98]⟩ from rfl] at kc; have Hb4 := Lib.hid (Hb3.out.trans (hb4.mono Hb3.out.size)); clear hs4 hb4))
  go_wp2
  go_ret
  exact ⟨rfl, Hb4.out⟩
end Go.Proofs.YtgkmbamoffolgaaDoor.Seal
/- DERIVED. What every law's frame wants, of any layer: no number of a type is typed. -/
namespace Go.Proofs.YtgkmbamoffolgaaDoor
open Go.ChangeShapes Go.WideShapes Go.ChangeAt Go.RowKit
theorem own : ownKnob Tryd.prog.godebug = none := by kernel_rfl
theorem laidOut : laidOutB Tryd.prog = true := by kernel_rfl
theorem trodAll_below {H : Type} {enc : TypeId × Value → H} {W W' : World} (hb : Below W.heap.size W W') : ∀ {ts : List TypeId} {vs : List Value} {ds : List (DataW H)} {ps : List MemPlace},
    (∀ t ∈ ts, Tryd.prog.readableRec t = true ∧ t < Tryd.prog.types.size) → (∀ x ∈ ps, x.block < W.heap.size) → DataW.TrodAll enc Tryd.prog W 0 (fun _ => true) true ts vs ds ps →
    DataW.TrodAll enc Tryd.prog W' 0 (fun b => decide (b < W.heap.size)) true ts vs ds ps
  | [], vs, ds, ps, _, _, h => by
    obtain ⟨rfl, rfl, rfl⟩ := trodAll_nil h
    exact trodAll_mk0
  | t :: ts, vs, ds, ps, ht, hlt, h => by
    obtain ⟨v0, vs0, d0, ds0, p0, q0, rfl, rfl, rfl, h0, r0⟩ := trodAll_cons h
    have h1 := ht t (List.mem_cons_self ..)
    exact trodAll_cons_mk (Below.trod laidOut h1.1 h1.2 h0 hb (fun x hx => hlt x (List.mem_append_left _ hx)))
      (trodAll_below hb (fun t' h' => ht t' (List.mem_cons_of_mem _ h')) (fun x hx => hlt x (List.mem_append_right _ hx)) r0)
/-- a law's end: it answers true, and what came in is as it was. -/
theorem law_post {H : Type} {enc : TypeId × Value → H} {f : Func} {s : ChangeSpec} {W W' : World} {args : Array Value} {ds gs : List (DataW H)} {before : List MemPlace}
    (hW : DataW.Whole enc Tryd.prog f.params.toList s.vars false W args.toList ds gs before) (hv : s.vars = []) (hr : f.resultTypes = #[4])
    (hp : ∀ t ∈ f.params.toList, Tryd.prog.readableRec t = true ∧ t < Tryd.prog.types.size)
    (hs : (s.fn H (ds ++ [])).results = [.lit (.bool true)] ∧ (s.fn H (ds ++ [])).args = ds ∧ (s.fn H (ds ++ [])).vars = []) (hb : Below W.heap.size W W') :
    s.post enc Tryd.prog f false true false false W args (.bool true) W' := by
  have hW' := hW
  obtain ⟨p, q, hA, hV, rfl, _, _⟩ := hW
  rw [hv] at hV
  obtain ⟨rfl, rfl⟩ := trodVars_none hV
  refine ⟨ds, [], p ++ [], [], p, [], hW', ?_, ?_, ?_, hb.frame _, fun h => by cases h⟩
  · rw [hs.1, hr]
    exact trodAll_mk1 (shut_bool Tryd.underlying4 true)
  · rw [hs.2.1]
    exact trodAll_below hb hp (fun x hx => by simpa using hW'.lt x (by simpa using hx)) hA
  · rw [hs.2.2, hv]
    rfl
def fillRow (cs : Array Value) : Obj → Obj
  | .cells _ t frozen => .cells cs t frozen
  | o => o
/-- the number in a value. -/
def numIn : Value → Int
  | .int _ q => q
  | _ => 0
theorem mapM_each {α β : Type} (f : α → Option β) : ∀ (L : List α) (ys : List β), L.mapM f = some ys → ∀ i ∈ L, ∃ y, f i = some y
  | [], _, _, _, h => by cases h
  | a :: L, ys, h, i, hi => by
    rw [List.mapM_cons] at h
    simp only [bind, Option.bind_eq_some_iff, pure, Option.some.injEq] at h
    obtain ⟨y, hy, zs, hzs, _⟩ := h
    rcases List.mem_cons.1 hi with rfl | hi
    · exact ⟨y, hy⟩
    · exact mapM_each f L zs hzs i hi
/-- the readings of an array's cells, one by one. -/
theorem trod_arr {H : Type} {enc : TypeId × Value → H} {W : World} {T E : TypeId} {n : Nat} {k : IntKind} (arr : WideMaps.ArrKey Tryd.prog T E n) (hE : Tryd.prog.underlying E = some (.int k)) {xs : Array Value} (hn : xs.size = n) {d : DataW H} {p : List MemPlace}
    (h : DataW.Trod enc Tryd.prog W 0 (fun _ => true) true T (.agg xs) d p) : ∃ l : List Int, xs = (l.map (Value.int k)).toArray ∧ l.length = n ∧ ∀ j, j < n → (Lit.int k (l.getD j 0)).wf = true := by
  obtain ⟨fuel, hf⟩ := h
  cases fuel with
  | zero => simp [DataW.trod] at hf
  | succ m =>
    rw [DataW.trod_step] at hf
    unfold DataW.trodStep at hf
    simp only [arr.hu, Value.cells] at hf
    rw [if_pos (by rw [arr.size]; simpa using hn)] at hf
    simp only [Option.map_eq_some_iff] at hf
    obtain ⟨ys, hy, _⟩ := hf
    have each : ∀ i, i < n → ∃ a : Int, xs[i]? = some (.int k a) ∧ (Lit.int k a).wf = true := by
      intro i hi
      obtain ⟨y, hy1⟩ := mapM_each _ _ _ hy i (List.mem_range.2 hi)
      obtain ⟨a, ea, _, wa⟩ := DataW.trod_int hE hy1
      rw [arr.one, Nat.mul_one] at ea
      have e2 : xs.toList[i]? = some (.int k a) := by
        have := congrArg (fun l : List Value => l[0]?) ea
        simpa [List.getElem?_take, List.getElem?_drop] using this
      rw [Array.getElem?_toList] at e2
      exact ⟨a, e2, wa⟩
    refine ⟨xs.toList.map numIn, ?_, by rw [List.length_map, Array.length_toList, hn], fun j hj => ?_⟩
    · refine Array.ext_getElem? fun i => ?_
      by_cases hi : i < n
      · obtain ⟨a, ha, _⟩ := each i hi
        rw [ha]
        simp [ha, numIn]
      · rw [Array.getElem?_eq_none (by omega), Array.getElem?_eq_none (by simp; omega)]
    · obtain ⟨a, ha, h0⟩ := each j hj
      simpa [List.getD_eq_getElem?_getD, ha, numIn] using h0
set_option maxRecDepth 100000 in
/-- a parameter that is an array of numbers. -/
theorem open_arr {H : Type} {enc : TypeId × Value → H} {W : World} {base : Nat} {v : Value} {d : DataW H} {p : List MemPlace} {T E : TypeId} {n : Nat} {k : IntKind} (arr : WideMaps.ArrKey Tryd.prog T E n) (hE : Tryd.prog.underlying E = some (.int k)) (hv : Value.okWide Tryd.prog W .any base T v)
    (h : DataW.Trod enc Tryd.prog W 0 (fun _ => true) true T v d p) : ∃ l : List Int, v = .agg (l.map (Value.int k)).toArray ∧ l.length = n ∧ ∀ j, j < n → (Lit.int k (l.getD j 0)).wf = true := by
  obtain ⟨xs, rfl, hn⟩ := WideMaps.okWide_arr arr hv
  obtain ⟨l, rfl, h1, h2⟩ := trod_arr arr hE hn h
  exact ⟨l, rfl, h1, h2⟩
theorem inB_wf {l : List Int} {n : Nat} (hl : l.length = n) (h : ∀ j, j < n → (Lit.int .u8 (l.getD j 0)).wf = true) : InB l := by
  intro j
  by_cases hj : j < n
  · have h2 : 0 ≤ l.getD j 0 ∧ l.getD j 0 ≤ 255 := by simpa [Lit.wf, IntKind.bits, IntKind.signed, IntKind.min, IntKind.max] using h j hj
    omega
  · rw [getD_out _ _ (by omega)]; omega
end Go.Proofs.YtgkmbamoffolgaaDoor
/- DERIVED. What the cards ask of a law's parameters (a seat with cards alone). -/
namespace Go.Proofs.YtgkmbamoffolgaaDoor
open Go.ChangeShapes Go.WideShapes Go.ChangeAt Go.RowKit
/-- no parameter wants a stand-in: what the cards ask, of a function whose parameters' types are ts. -/
theorem plain_of {b : Bool} {name : String} {n : Nat} {f0 : Func} {ts : List TypeId} (hn : Tryd.prog.funcNamed name = some n) (hf0 : Tryd.prog.funcs[n]? = some f0) (hp : f0.params.toList = ts) (hl : b = Tryd.pinned.checked.prog.looks [])
    (ht : (ts.all fun t => !Tryd.prog.wantsStandIn t) = true) (f : FuncId) (fn : Func) (hf : Tryd.pinned.checked.prog.funcNamed name = some f) (hfn : Tryd.pinned.checked.prog.funcs[f]? = some fn) :
    b = Tryd.pinned.checked.prog.looks [] ∧ ∀ (j : Nat) t, fn.params[j]? = some t → Tryd.pinned.checked.prog.wantsStandIn t = false := by
  obtain rfl : f = n := Option.some.inj (hn.symm.trans hf) |>.symm
  obtain rfl : fn = f0 := (Option.some.inj (hf0.symm.trans hfn)).symm
  refine ⟨hl, fun j t h => ?_⟩
  have hm : t ∈ ts := by rw [← hp]; simpa using Array.mem_of_getElem? h
  have := List.all_eq_true.1 ht t hm
  exact (show Tryd.prog.wantsStandIn t = false by simpa using this)
end Go.Proofs.YtgkmbamoffolgaaDoor
/- DERIVED. A parameter []byte, opened. -/
namespace Go.Proofs.YtgkmbamoffolgaaDoor
open Go.ChangeShapes Go.WideShapes Go.ChangeAt Go.RowKit
theorem cells5 : Tryd.prog.cellsOf 5 = 1 := by kernel_rfl
set_option maxRecDepth 100000 in
/-- a parameter []byte: the bytes that it reads as. -/
theorem open_bytes {H : Type} {enc : TypeId × Value → H} {W : World} {base : Nat} {v : Value} {d : DataW H} {p : List MemPlace} (hv : Value.okWide Tryd.prog W .any base 24 v)
    (h : DataW.Trod enc Tryd.prog W 0 (fun _ => true) true 24 v d p) : ∃ (A : Option Addr) (c : Nat) (L : List Int), v = .slice A L.length c ∧ InB L ∧ Byt W A c L ∧ L.length ≤ maxLen := by
  obtain ⟨a0, len, cap, rfl⟩ := okWide_slice Tryd.underlying24 hv
  obtain ⟨fuel, hf⟩ := h
  rcases open_ints Tryd.underlying24 Tryd.underlying5 cells5 hf with ⟨hcs, _⟩ | ⟨a, len', cap', zs, hcs, _, hl, hm, hz, _, hcell, hwz⟩
  · simp [Value.cells] at hcs
    obtain ⟨rfl, rfl, rfl⟩ := hcs
    exact ⟨none, 0, [], rfl, fun j => by simp, ⟨Nat.le_refl _, fun _ => rfl, fun h => absurd h (Nat.lt_irrefl 0)⟩, Nat.zero_le _⟩
  · simp [Value.cells] at hcs
    obtain ⟨rfl, rfl, rfl⟩ := hcs
    simp only [if_true] at hz
    have hlen : (zs.take len).length = len := by simp; omega
    refine ⟨some a, cap, zs.take len, by rw [hlen], ?_, ⟨by rw [hlen]; exact hl, (fun h => by cases h), (fun h => ?_)⟩, by rw [hlen]; omega⟩
    · intro j
      by_cases hj : j < len
      · have hj' : j < zs.length := by omega
        have e : (zs.take len).getD j 0 = zs[j] := by simp [List.getD_eq_getElem?_getD, hj, hj']
        have := hwz zs[j] (List.getElem_mem hj')
        have h2 : 0 ≤ zs[j] ∧ zs[j] ≤ 255 := by simpa [Lit.wf, IntKind.bits, IntKind.signed, IntKind.min, IntKind.max] using this
        rw [e]
        omega
      · rw [List.getD_eq_getElem?_getD, List.getElem?_eq_none (by rw [hlen]; exact Nat.le_of_not_lt hj)]; simp
    · rw [hlen] at h
      obtain ⟨b, off, spot⟩ := a
      have hspot : spot = none := by simpa [Addr.add] using World.cell?_spot (hcell 0 (by omega))
      subst hspot
      refine ⟨b, off, rfl, ?_, fun j hj => ?_⟩
      · have := World.block_lt_of_cell? W _ (hcell 0 (by omega))
        simpa [Addr.add] using this
      · rw [hlen] at hj
        rw [← Addr.add_mid, hcell j (by omega)]
        simp [List.getD_eq_getElem?_getD, hj]
end Go.Proofs.YtgkmbamoffolgaaDoor
/- DERIVED. A parameter that is an api.Hash, opened: 32 bytes. -/
namespace Go.Proofs.YtgkmbamoffolgaaDoor
open Go.ChangeShapes Go.WideShapes Go.ChangeAt Go.RowKit
theorem arrHash : WideMaps.ArrKey Tryd.prog 23 5 32 := ⟨by kernel_rfl, by kernel_rfl, by kernel_rfl, by kernel_rfl⟩
set_option maxRecDepth 100000 in
/-- a parameter that is an api.Hash. -/
theorem open_hash {H : Type} {enc : TypeId × Value → H} {W : World} {base : Nat} {v : Value} {d : DataW H} {p : List MemPlace} (hv : Value.okWide Tryd.prog W .any base 23 v)
    (h : DataW.Trod enc Tryd.prog W 0 (fun _ => true) true 23 v d p) : ∃ l : List Int, v = .agg (u8s l) ∧ l.length = 32 ∧ InB l := by
  obtain ⟨l, rfl, h1, h2⟩ := open_arr arrHash Tryd.underlying5 hv h
  exact ⟨l, rfl, h1, inB_wf h1 h2⟩
end Go.Proofs.YtgkmbamoffolgaaDoor
/- DERIVED. What the rows' list of layer 11's three tables gives the walks; a world for the witness; a parameter that is a Place. -/
namespace Go.Proofs.YtgkmbamoffolgaaDoor.Seal
open Go.ChangeShapes Go.WideShapes Go.ChangeAt Go.RowKit
theorem gS : Tryd.prog.globalNamed "redwax/sha.startWords" = some 0 := by kernel_rfl
theorem gK : Tryd.prog.globalNamed "redwax/sha.roundWords" = some 2 := by kernel_rfl
theorem gSType : (Tryd.prog.globals[0]?).map (·.type) = some 76 := by kernel_rfl
theorem gKType : (Tryd.prog.globals[2]?).map (·.type) = some 117 := by kernel_rfl
theorem cells23 : Tryd.prog.cellsOf 76 = 8 := by kernel_rfl
theorem cells55 : Tryd.prog.cellsOf 117 = 64 := by kernel_rfl
theorem cells22 : Tryd.prog.cellsOf 26 = 1 := by kernel_rfl
def SW : List Int := [1779033703, 3144134277, 1013904242, 2773480762, 1359893119, 2600822924, 528734635, 1541459225]
theorem gQ : Tryd.prog.globalNamed "redwax/chacha.quarters" = some 1 := by kernel_rfl
theorem gQType : (Tryd.prog.globals[1]?).map (·.type) = some 106 := by kernel_rfl
theorem cellsQ : Tryd.prog.cellsOf 106 = 32 := by kernel_rfl
theorem cellsQ4 : Tryd.prog.cellsOf 105 = 4 := by kernel_rfl
theorem cellsQ1 : Tryd.prog.cellsOf 3 = 1 := by kernel_rfl
/-- the table's four numbers at k. -/
def rowQ (k : Nat) : List Int := [(Cha.qn k 0 : Nat), (Cha.qn k 1 : Nat), (Cha.qn k 2 : Nat), (Cha.qn k 3 : Nat)]
theorem laid_shape : (Rows.laid_redwax_chacha_quarters : DataW Unit) = .agg ((List.range 8).map fun k => Lib.tabData .i64 (rowQ k)) := by rfl
set_option maxRecDepth 100000 in
theorem nested {H : Type} {enc : TypeId × Value → H} {w : World} {base : Nat} {sp : Nat → Bool} {held : Bool} {fuel : Nat} {cs : List Value} {p : List MemPlace}
    (h : DataW.trod enc Tryd.prog w base sp held fuel 106 cs = some (.agg ((List.range 8).map fun k => Lib.tabData .i64 (rowQ k)), p)) : cs = Cha.QW.map (Value.int .i64) := by
  cases fuel with
  | zero => simp [DataW.trod] at h
  | succ fuel =>
    simp only [DataW.trod, Tryd.underlying106, cellsQ4, cellsQ] at h
    split at h
    · rename_i hl
      obtain ⟨xs, hm, hx⟩ := Option.map_eq_some_iff.1 h
      have hxs : xs.map (·.1) = (List.range 8).map fun k => (Lib.tabData .i64 (rowQ k) : DataW H) := by
        have := congrArg Prod.fst hx
        simpa using this
      have each : ∀ k, k < 8 → (cs.drop (k * 4)).take 4 = (rowQ k).map (Value.int .i64) := by
        intro k hk
        obtain ⟨b, hb, hf⟩ := Lib.mapM_at hm k k (by simp [hk])
        have h2 : (xs.map (·.1))[k]? = some b.1 := by simp [hb]
        rw [hxs] at h2
        simp only [List.getElem?_map, List.getElem?_range hk, Option.map_some, Option.some.injEq] at h2
        have hf' : DataW.trod enc Tryd.prog w base sp held fuel 105 ((cs.drop (k * 4)).take 4) = some (Lib.tabData .i64 (rowQ k), b.2) := by rw [hf, h2]
        exact Lib.cells_of_tab Tryd.underlying105 Tryd.underlying3 cellsQ1 cellsQ4 hf'
      have hlen : cs.length = 32 := by simpa using hl
      apply List.ext_getElem?
      intro j
      by_cases hj : j < 32
      · have he := each (j / 4) (by omega)
        have h1 : ((cs.drop (j / 4 * 4)).take 4)[j % 4]? = cs[j]? := by
          rw [List.getElem?_take, if_pos (by omega), List.getElem?_drop, show j / 4 * 4 + j % 4 = j by omega]
        rw [← h1, he]
        have all : ∀ j, j < 32 → (rowQ (j / 4))[j % 4]? = Cha.QW[j]? := by decide
        rw [List.getElem?_map, List.getElem?_map, all j hj]
      · rw [List.getElem?_eq_none (by omega), List.getElem?_eq_none (by simp [Cha.QW, Cha.QN]; omega)]
    · cases h

/-- the rows' list. -/
def laidList : List (String × DataW Unit) := [("redwax/chacha.quarters", Rows.laid_redwax_chacha_quarters), ("redwax/sha.startWords", Rows.laid_redwax_sha_startWords), ("redwax/sha.roundWords", Rows.laid_redwax_sha_roundWords)]
set_option maxRecDepth 100000 in
theorem laid_of {W : World} (h : laidMetH Tryd.prog laidList W) : SLaid W := by
  obtain ⟨ps, ⟨g0, t0, cs0, f0, p0, q0, hg0, ht0, hv0, hd0, ⟨g1, t1, cs1, f1, p1, q1, hg1, ht1, hv1, hd1, ⟨g2, t2, cs2, f2, p2, q2, hg2, ht2, hv2, hd2, _⟩, _⟩, _⟩, _⟩ := h
  obtain rfl := Option.some.inj (gQ.symm.trans hg0)
  obtain rfl := Option.some.inj (gQType.symm.trans ht0)
  obtain rfl := Option.some.inj (gS.symm.trans hg1)
  obtain rfl := Option.some.inj (gSType.symm.trans ht1)
  obtain rfl := Option.some.inj (gK.symm.trans hg2)
  obtain rfl := Option.some.inj (gKType.symm.trans ht2)
  have h1 : Lib.TabIs Tryd.prog W "redwax/sha.startWords" .u32 SW := by
    have hc := Lib.cells_of_tab (zs := SW) Tryd.underlying76 Tryd.underlying26 cells22 cells23 hd1
    unfold Lib.TabIs
    rw [hv1]
    congr 1
    apply Array.ext'
    simpa using hc
  have h2 : Lib.TabIs Tryd.prog W "redwax/sha.roundWords" .u32 KW := by
    have hc := Lib.cells_of_tab (zs := KW) Tryd.underlying117 Tryd.underlying26 cells22 cells55 hd2
    unfold Lib.TabIs
    rw [hv2]
    congr 1
    apply Array.ext'
    simpa using hc
  refine ⟨⟨fun j hj => h2.cell gK j hj, fun j hj => h1.cell gS j hj, ?_⟩, ?_⟩
  · have b1 : 2 < W.heap.size := World.block_lt_of_cell? W _ (h2.cell gK 0 (by decide))
    have b0 : 0 < W.heap.size := World.block_lt_of_cell? W _ (h1.cell gS 0 (by decide))
    unfold lim
    omega
  · rw [laid_shape] at hd0
    have hc := nested hd0
    unfold World.var? at hv0
    rw [gQ] at hv0
    simp only [Option.bind_some] at hv0
    split at hv0
    · rename_i cs t fr hh
      refine ⟨t, fr, ?_⟩
      rw [hh]
      have e : cs = Arr.nums .i64 Cha.QW := by
        have := Option.some.inj hv0
        unfold Arr.nums
        rw [← hc, this]
      rw [e]
    · cases hv0
/-- a world for the witness: the settled one, the three tables laid. -/
noncomputable def laidWorld (os : Os) : World :=
  { World.holding Tryd.prog os ⟨#[], #[], []⟩ with heap := (((World.holding Tryd.prog os ⟨#[], #[], []⟩).heap.modify 0 (fillRow (SW.map (Value.int .u32)).toArray)).modify 2 (fillRow (KW.map (Value.int .u32)).toArray)).modify 1 (fillRow (Cha.QW.map (Value.int .i64)).toArray) }
set_option maxRecDepth 100000 in
theorem bytes_cell {H : Type} {enc : TypeId × Value → H} {W : World} {fuel : Nat} {cs : List Value} {y : DataW H × List MemPlace} (hf : DataW.trod enc Tryd.prog W 0 (fun _ => true) true fuel 24 cs = some y) :
    ∃ (A : Option Addr) (c : Nat) (L : List Int), cs = [.slice A L.length c] ∧ InB L ∧ Byt W A c L ∧ L.length ≤ maxLen := by
  rcases open_ints Tryd.underlying24 Tryd.underlying5 cells5 hf with ⟨hcs, _⟩ | ⟨a, len, cap, zs, hcs, _, hl, hm, hz, _, hcell, hwz⟩
  · exact ⟨none, 0, [], hcs, fun j => by simp, ⟨Nat.le_refl _, fun _ => rfl, fun h => absurd h (Nat.lt_irrefl 0)⟩, Nat.zero_le _⟩
  · simp only [if_true] at hz
    have hlen : (zs.take len).length = len := by simp; omega
    refine ⟨some a, cap, zs.take len, by rw [hlen]; exact hcs, ?_, ⟨by rw [hlen]; exact hl, (fun h => by cases h), (fun h => ?_)⟩, by rw [hlen]; omega⟩
    · intro j
      by_cases hj : j < len
      · have hj' : j < zs.length := by omega
        have e : (zs.take len).getD j 0 = zs[j] := by simp [List.getD_eq_getElem?_getD, hj, hj']
        have := hwz zs[j] (List.getElem_mem hj')
        have h2 : 0 ≤ zs[j] ∧ zs[j] ≤ 255 := by simpa [Lit.wf, IntKind.bits, IntKind.signed, IntKind.min, IntKind.max] using this
        rw [e]
        omega
      · rw [List.getD_eq_getElem?_getD, List.getElem?_eq_none (by rw [hlen]; exact Nat.le_of_not_lt hj)]; simp
    · rw [hlen] at h
      obtain ⟨b, off, spot⟩ := a
      have hspot : spot = none := by simpa [Addr.add] using World.cell?_spot (hcell 0 (by omega))
      subst hspot
      refine ⟨b, off, rfl, ?_, fun j hj => ?_⟩
      · have := World.block_lt_of_cell? W _ (hcell 0 (by omega))
        simpa [Addr.add] using this
      · rw [hlen] at hj
        rw [← Addr.add_mid, hcell j (by omega)]
        simp [List.getD_eq_getElem?_getD, hj]
set_option maxRecDepth 100000 in
theorem cellsPl : Tryd.prog.cellsOf 28 = 3 := by kernel_rfl
theorem cellsSl : Tryd.prog.cellsOf 24 = 1 := by kernel_rfl
theorem cells64 : Tryd.prog.cellsOf 25 = 1 := by kernel_rfl
theorem cells32 : Tryd.prog.cellsOf 26 = 1 := by kernel_rfl
set_option maxRecDepth 100000 in
/-- a parameter that is a Place. -/
theorem open_place {H : Type} {enc : TypeId × Value → H} {W : World} {base : Nat} {v : Value} {d : DataW H} {p : List MemPlace} (hv : Value.okWide Tryd.prog W .any base 28 v)
    (h : DataW.Trod enc Tryd.prog W 0 (fun _ => true) true 28 v d p) : ∃ (A : Option Addr) (c : Nat) (C : List Int) (pos ep : Nat), v = .agg #[.slice A C.length c, .int .u64 (pos : Nat), .int .u32 (ep : Nat)] ∧ InB C ∧ Byt W A c C ∧ C.length ≤ maxLen ∧ pos < 18446744073709551616 ∧ ep < 4294967296 := by
  obtain ⟨cs, rfl, hsz⟩ := okWide_struct Tryd.underlying28 hv
  rw [cellsPl] at hsz
  obtain ⟨fuel, hf⟩ := h
  obtain ⟨xs, n, _, _, _, hlen, hff⟩ := DataW.trod_struct Tryd.underlying28 hf
  obtain ⟨y0, y1, y2, rfl⟩ : ∃ y0 y1 y2, xs = [y0, y1, y2] := by
    match xs, hlen with
    | [a, b, c], _ => exact ⟨a, b, c, rfl⟩
  obtain ⟨u0, u1, u2, rfl⟩ : ∃ u0 u1 u2, cs = #[u0, u1, u2] := by
    match cs, hsz with
    | ⟨[a, b, c]⟩, _ => exact ⟨a, b, c, rfl⟩
  have q0 : DataW.trod enc Tryd.prog W 0 (fun _ => true) true n 24 (List.take (Tryd.prog.cellsOf 24) (List.drop 0 [u0, u1, u2])) = some y0 := hff 0 _ rfl
  have q1 : DataW.trod enc Tryd.prog W 0 (fun _ => true) true n 25 (List.take (Tryd.prog.cellsOf 25) (List.drop 1 [u0, u1, u2])) = some y1 := hff 1 _ rfl
  have q2 : DataW.trod enc Tryd.prog W 0 (fun _ => true) true n 26 (List.take (Tryd.prog.cellsOf 26) (List.drop 2 [u0, u1, u2])) = some y2 := hff 2 _ rfl
  rw [cellsSl] at q0
  rw [cells64] at q1
  rw [cells32] at q2
  obtain ⟨A, c, C, h0, hin, hby, hmx⟩ := bytes_cell q0
  obtain ⟨b, hb, _, hbw⟩ := DataW.trod_int Tryd.underlying25 q1
  obtain ⟨e, he, _, hew⟩ := DataW.trod_int Tryd.underlying26 q2
  simp only [List.drop_zero, List.take_succ_cons, List.take_zero, List.drop_succ_cons, List.cons.injEq, and_true] at h0 hb he
  subst h0 hb he
  have hb2 : 0 ≤ b ∧ b ≤ 18446744073709551615 := by simpa [Lit.wf, IntKind.bits, IntKind.signed, IntKind.min, IntKind.max] using hbw
  have he2 : 0 ≤ e ∧ e ≤ 4294967295 := by simpa [Lit.wf, IntKind.bits, IntKind.signed, IntKind.min, IntKind.max] using hew
  refine ⟨A, c, C, b.toNat, e.toNat, ?_, hin, hby, hmx, by omega, by omega⟩
  rw [Int.toNat_of_nonneg hb2.1, Int.toNat_of_nonneg he2.1]
end Go.Proofs.YtgkmbamoffolgaaDoor.Seal
