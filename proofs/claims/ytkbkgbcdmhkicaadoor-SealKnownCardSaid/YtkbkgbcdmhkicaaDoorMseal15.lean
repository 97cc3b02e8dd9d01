/- DERIVED. Texts of ours, merged: XSealLaid. -/
import Derived.Test.YtkbkgbcdmhkicaaDoorCards
import Derived.Test.YtkbkgbcdmhkicaaDoorTie
import Derived.Test.YtkbkgbcdmhkicaaDoorMseal14
import Derived.ProofKit
import Derived.OpenShut
import Derived.Deep.DeepHandedRow
import Derived.Lib.LaidTab
/- DERIVED. What the rows' list of layer 11's three tables gives the walks; a world for the witness; a parameter that is a Place. -/
namespace Go.Proofs.YtkbkgbcdmhkicaaDoor.Seal
open Go.ChangeShapes Go.WideShapes Go.ChangeAt Go.RowKit
theorem gS : Tryd.prog.globalNamed "redwax/sha.startWords" = some 0 := by kernel_rfl
theorem gK : Tryd.prog.globalNamed "redwax/sha.roundWords" = some 2 := by kernel_rfl
theorem gSType : (Tryd.prog.globals[0]?).map (·.type) = some 76 := by kernel_rfl
theorem gKType : (Tryd.prog.globals[2]?).map (·.type) = some 117 := by kernel_rfl
theorem cells23 : Tryd.prog.cellsOf 76 = 8 := by kernel_rfl
theorem cells55 : Tryd.prog.cellsOf 117 = 64 := by kernel_rfl
theorem cells22 : Tryd.prog.cellsOf 26 = 1 := by kernel_rfl
def SW : List Int := [1779033703, 3144134277, 1013904242, 2773480762, 1359893119, 2600822924, 528734635, 1541459225]
theorem gQ : Tryd.prog.globalNamed "redwax/chacha.quarters" = some 1 := by kernel_rfl
theorem gQType : (Tryd.prog.globals[1]?).map (·.type) = some 106 := by kernel_rfl
theorem cellsQ : Tryd.prog.cellsOf 106 = 32 := by kernel_rfl
theorem cellsQ4 : Tryd.prog.cellsOf 105 = 4 := by kernel_rfl
theorem cellsQ1 : Tryd.prog.cellsOf 3 = 1 := by kernel_rfl
/-- the table's four numbers at k. -/
def rowQ (k : Nat) : List Int := [(Cha.qn k 0 : Nat), (Cha.qn k 1 : Nat), (Cha.qn k 2 : Nat), (Cha.qn k 3 : Nat)]
theorem laid_shape : (Rows.laid_redwax_chacha_quarters : DataW Unit) = .agg ((List.range 8).map fun k => Lib.tabData .i64 (rowQ k)) := by rfl
set_option maxRecDepth 100000 in
theorem nested {H : Type} {enc : TypeId × Value → H} {w : World} {base : Nat} {sp : Nat → Bool} {held : Bool} {fuel : Nat} {cs : List Value} {p : List MemPlace}
    (h : DataW.trod enc Tryd.prog w base sp held fuel 106 cs = some (.agg ((List.range 8).map fun k => Lib.tabData .i64 (rowQ k)), p)) : cs = Cha.QW.map (Value.int .i64) := by
  cases fuel with
  | zero => simp [DataW.trod] at h
  | succ fuel =>
    simp only [DataW.trod, Tryd.underlying106, cellsQ4, cellsQ] at h
    split at h
    · rename_i hl
      obtain ⟨xs, hm, hx⟩ := Option.map_eq_some_iff.1 h
      have hxs : xs.map (·.1) = (List.range 8).map fun k => (Lib.tabData .i64 (rowQ k) : DataW H) := by
        have := congrArg Prod.fst hx
        simpa using this
      have each : ∀ k, k < 8 → (cs.drop (k * 4)).take 4 = (rowQ k).map (Value.int .i64) := by
        intro k hk
        obtain ⟨b, hb, hf⟩ := Lib.mapM_at hm k k (by simp [hk])
        have h2 : (xs.map (·.1))[k]? = some b.1 := by simp [hb]
        rw [hxs] at h2
        simp only [List.getElem?_map, List.getElem?_range hk, Option.map_some, Option.some.injEq] at h2
        have hf' : DataW.trod enc Tryd.prog w base sp held fuel 105 ((cs.drop (k * 4)).take 4) = some (Lib.tabData .i64 (rowQ k), b.2) := by rw [hf, h2]
        exact Lib.cells_of_tab Tryd.underlying105 Tryd.underlying3 cellsQ1 cellsQ4 hf'
      have hlen : cs.length = 32 := by simpa using hl
      apply List.ext_getElem?
      intro j
      by_cases hj : j < 32
      · have he := each (j / 4) (by omega)
        have h1 : ((cs.drop (j / 4 * 4)).take 4)[j % 4]? = cs[j]? := by
          rw [List.getElem?_take, if_pos (by omega), List.getElem?_drop, show j / 4 * 4 + j % 4 = j by omega]
        rw [← h1, he]
        have all : ∀ j, j < 32 → (rowQ (j / 4))[j % 4]? = Cha.QW[j]? := by decide
        rw [List.getElem?_map, List.getElem?_map, all j hj]
      · rw [List.getElem?_eq_none (by omega), List.getElem?_eq_none (by simp [Cha.QW, Cha.QN]; omega)]
    · cases h

/-- the rows' list. -/
def laidList : List (String × DataW Unit) := [("redwax/chacha.quarters", Rows.laid_redwax_chacha_quarters), ("redwax/sha.startWords", Rows.laid_redwax_sha_startWords), ("redwax/sha.roundWords", Rows.laid_redwax_sha_roundWords)]
set_option maxRecDepth 100000 in
theorem laid_of {W : World} (h : laidMetH Tryd.prog laidList W) : SLaid W := by
  obtain ⟨ps, ⟨g0, t0, cs0, f0, p0, q0, hg0, ht0, hv0, hd0, ⟨g1, t1, cs1, f1, p1, q1, hg1, ht1, hv1, hd1, ⟨g2, t2, cs2, f2, p2, q2, hg2, ht2, hv2, hd2, _⟩, _⟩, _⟩, _⟩ := h
  obtain rfl := Option.some.inj (gQ.symm.trans hg0)
  obtain rfl := Option.some.inj (gQType.symm.trans ht0)
  obtain rfl := Option.some.inj (gS.symm.trans hg1)
  obtain rfl := Option.some.inj (gSType.symm.trans ht1)
  obtain rfl := Option.some.inj (gK.symm.trans hg2)
  obtain rfl := Option.some.inj (gKType.symm.trans ht2)
  have h1 : Lib.TabIs Tryd.prog W "redwax/sha.startWords" .u32 SW := by
    have hc := Lib.cells_of_tab (zs := SW) Tryd.underlying76 Tryd.underlying26 cells22 cells23 hd1
    unfold Lib.TabIs
    rw [hv1]
    congr 1
    apply Array.ext'
    simpa using hc
  have h2 : Lib.TabIs Tryd.prog W "redwax/sha.roundWords" .u32 KW := by
    have hc := Lib.cells_of_tab (zs := KW) Tryd.underlying117 Tryd.underlying26 cells22 cells55 hd2
    unfold Lib.TabIs
    rw [hv2]
    congr 1
    apply Array.ext'
    simpa using hc
  refine ⟨⟨fun j hj => h2.cell gK j hj, fun j hj => h1.cell gS j hj, ?_⟩, ?_⟩
  · have b1 : 2 < W.heap.size := World.block_lt_of_cell? W _ (h2.cell gK 0 (by decide))
    have b0 : 0 < W.heap.size := World.block_lt_of_cell? W _ (h1.cell gS 0 (by decide))
    unfold lim
    omega
  · rw [laid_shape] at hd0
    have hc := nested hd0
    unfold World.var? at hv0
    rw [gQ] at hv0
    simp only [Option.bind_some] at hv0
    split at hv0
    · rename_i cs t fr hh
      refine ⟨t, fr, ?_⟩
      rw [hh]
      have e : cs = Arr.nums .i64 Cha.QW := by
        have := Option.some.inj hv0
        unfold Arr.nums
        rw [← hc, this]
      rw [e]
    · cases hv0
/-- a world for the witness: the settled one, the three tables laid. -/
noncomputable def laidWorld (os : Os) : World :=
  { World.holding Tryd.prog os ⟨#[], #[], []⟩ with heap := (((World.holding Tryd.prog os ⟨#[], #[], []⟩).heap.modify 0 (fillRow (SW.map (Value.int .u32)).toArray)).modify 2 (fillRow (KW.map (Value.int .u32)).toArray)).modify 1 (fillRow (Cha.QW.map (Value.int .i64)).toArray) }
set_option maxRecDepth 100000 in
theorem bytes_cell {H : Type} {enc : TypeId × Value → H} {W : World} {fuel : Nat} {cs : List Value} {y : DataW H × List MemPlace} (hf : DataW.trod enc Tryd.prog W 0 (fun _ => true) true fuel 24 cs = some y) :
    ∃ (A : Option Addr) (c : Nat) (L : List Int), cs = [.slice A L.length c] ∧ InB L ∧ Byt W A c L ∧ L.length ≤ maxLen := by
  rcases open_ints Tryd.underlying24 Tryd.underlying5 cells5 hf with ⟨hcs, _⟩ | ⟨a, len, cap, zs, hcs, _, hl, hm, hz, _, hcell, hwz⟩
  · exact ⟨none, 0, [], hcs, fun j => by simp, ⟨Nat.le_refl _, fun _ => rfl, fun h => absurd h (Nat.lt_irrefl 0)⟩, Nat.zero_le _⟩
  · simp only [if_true] at hz
    have hlen : (zs.take len).length = len := by simp; omega
    refine ⟨some a, cap, zs.take len, by rw [hlen]; exact hcs, ?_, ⟨by rw [hlen]; exact hl, (fun h => by cases h), (fun h => ?_)⟩, by rw [hlen]; omega⟩
    · intro j
      by_cases hj : j < len
      · have hj' : j < zs.length := by omega
        have e : (zs.take len).getD j 0 = zs[j] := by simp [List.getD_eq_getElem?_getD, hj, hj']
        have := hwz zs[j] (List.getElem_mem hj')
        have h2 : 0 ≤ zs[j] ∧ zs[j] ≤ 255 := by simpa [Lit.wf, IntKind.bits, IntKind.signed, IntKind.min, IntKind.max] using this
        rw [e]
        omega
      · rw [List.getD_eq_getElem?_getD, List.getElem?_eq_none (by rw [hlen]; exact Nat.le_of_not_lt hj)]; simp
    · rw [hlen] at h
      obtain ⟨b, off, spot⟩ := a
      have hspot : spot = none := by simpa [Addr.add] using World.cell?_spot (hcell 0 (by omega))
      subst hspot
      refine ⟨b, off, rfl, ?_, fun j hj => ?_⟩
      · have := World.block_lt_of_cell? W _ (hcell 0 (by omega))
        simpa [Addr.add] using this
      · rw [hlen] at hj
        rw [← Addr.add_mid, hcell j (by omega)]
        simp [List.getD_eq_getElem?_getD, hj]
set_option maxRecDepth 100000 in
theorem cellsPl : Tryd.prog.cellsOf 28 = 3 := by kernel_rfl
theorem cellsSl : Tryd.prog.cellsOf 24 = 1 := by kernel_rfl
theorem cells64 : Tryd.prog.cellsOf 25 = 1 := by kernel_rfl
theorem cells32 : Tryd.prog.cellsOf 26 = 1 := by kernel_rfl
set_option maxRecDepth 100000 in
/-- a parameter that is a Place. -/
theorem open_place {H : Type} {enc : TypeId × Value → H} {W : World} {base : Nat} {v : Value} {d : DataW H} {p : List MemPlace} (hv : Value.okWide Tryd.prog W .any base 28 v)
    (h : DataW.Trod enc Tryd.prog W 0 (fun _ => true) true 28 v d p) : ∃ (A : Option Addr) (c : Nat) (C : List Int) (pos ep : Nat), v = .agg #[.slice A C.length c, .int .u64 (pos : Nat), .int .u32 (ep : Nat)] ∧ InB C ∧ Byt W A c C ∧ C.length ≤ maxLen ∧ pos < 18446744073709551616 ∧ ep < 4294967296 := by
  obtain ⟨cs, rfl, hsz⟩ := okWide_struct Tryd.underlying28 hv
  rw [cellsPl] at hsz
  obtain ⟨fuel, hf⟩ := h
  obtain ⟨xs, n, _, _, _, hlen, hff⟩ := DataW.trod_struct Tryd.underlying28 hf
  obtain ⟨y0, y1, y2, rfl⟩ : ∃ y0 y1 y2, xs = [y0, y1, y2] := by
    match xs, hlen with
    | [a, b, c], _ => exact ⟨a, b, c, rfl⟩
  obtain ⟨u0, u1, u2, rfl⟩ : ∃ u0 u1 u2, cs = #[u0, u1, u2] := by
    match cs, hsz with
    | ⟨[a, b, c]⟩, _ => exact ⟨a, b, c, rfl⟩
  have q0 : DataW.trod enc Tryd.prog W 0 (fun _ => true) true n 24 (List.take (Tryd.prog.cellsOf 24) (List.drop 0 [u0, u1, u2])) = some y0 := hff 0 _ rfl
  have q1 : DataW.trod enc Tryd.prog W 0 (fun _ => true) true n 25 (List.take (Tryd.prog.cellsOf 25) (List.drop 1 [u0, u1, u2])) = some y1 := hff 1 _ rfl
  have q2 : DataW.trod enc Tryd.prog W 0 (fun _ => true) true n 26 (List.take (Tryd.prog.cellsOf 26) (List.drop 2 [u0, u1, u2])) = some y2 := hff 2 _ rfl
  rw [cellsSl] at q0
  rw [cells64] at q1
  rw [cells32] at q2
  obtain ⟨A, c, C, h0, hin, hby, hmx⟩ := bytes_cell q0
  obtain ⟨b, hb, _, hbw⟩ := DataW.trod_int Tryd.underlying25 q1
  obtain ⟨e, he, _, hew⟩ := DataW.trod_int Tryd.underlying26 q2
  simp only [List.drop_zero, List.take_succ_cons, List.take_zero, List.drop_succ_cons, List.cons.injEq, and_true] at h0 hb he
  subst h0 hb he
  have hb2 : 0 ≤ b ∧ b ≤ 18446744073709551615 := by simpa [Lit.wf, IntKind.bits, IntKind.signed, IntKind.min, IntKind.max] using hbw
  have he2 : 0 ≤ e ∧ e ≤ 4294967295 := by simpa [Lit.wf, IntKind.bits, IntKind.signed, IntKind.min, IntKind.max] using hew
  refine ⟨A, c, C, b.toNat, e.toNat, ?_, hin, hby, hmx, by omega, by omega⟩
  rw [Int.toNat_of_nonneg hb2.1, Int.toNat_of_nonneg he2.1]
end Go.Proofs.YtkbkgbcdmhkicaaDoor.Seal
