/- DERIVED. A parameter that is an Act, or a slice of Acts, of layer 8's laws, opened. -/
import Derived.Test.YtbmkejhkckdoeaaDskData
import Derived.Test.YtbmkejhkckdoeaaLawBytes
namespace Go.Proofs.Ytbmkejhkckdoeaa.Dsk
open Go.ChangeShapes Go.WideShapes Go.ChangeAt Go.RowKit
theorem wfI {z : Int} (h : (Lit.int .i64 z).wf = true) : -9223372036854775808 ≤ z ∧ z ≤ 9223372036854775807 := by simpa [Lit.wf, IntKind.bits, IntKind.signed, IntKind.min, IntKind.max] using h
theorem cellsAct : Try.prog.cellsOf 25 = 21 := by kernel_rfl
theorem cellsInt : Try.prog.cellsOf 3 = 1 := by kernel_rfl
theorem cellsBs : Try.prog.cellsOf 22 = 1 := by kernel_rfl
theorem cellsBo : Try.prog.cellsOf 4 = 1 := by kernel_rfl
theorem cellsM : Try.prog.cellsOf 23 = 16 := by kernel_rfl
theorem arrMask : WideMaps.ArrKey Try.prog 23 5 16 := ⟨by kernel_rfl, by kernel_rfl, by kernel_rfl, by kernel_rfl⟩
structure Av.Ok (x : Av) : Prop where
  what : 0 ≤ x.what ∧ x.what ≤ 255
  at_ : -9223372036854775808 ≤ x.at_ ∧ x.at_ ≤ 9223372036854775807
  n : -9223372036854775808 ≤ x.n ∧ x.n ≤ 9223372036854775807
  inb : InB x.L
  len : x.L.length ≤ maxLen
  mlen : x.mask.length = 16
  minb : InB x.mask
/-- a slice of bytes, read out of its cell. -/
theorem bytes_cell {H : Type} {enc : TypeId × Value → H} {W : World} {fuel : Nat} {cs : List Value} {y : DataW H × List MemPlace} (hf : DataW.trod enc Try.prog W 0 (fun _ => true) true fuel 22 cs = some y) :
    ∃ (A : Option Addr) (c : Nat) (L : List Int), cs = [.slice A L.length c] ∧ InB L ∧ Byt W A c L ∧ L.length ≤ maxLen := by
  rcases open_ints Try.underlying22 Try.underlying5 cells5 hf with ⟨hcs, _⟩ | ⟨a, len, cap, zs, hcs, _, hl, hm, hz, _, hcell, hwz⟩
  · exact ⟨none, 0, [], hcs, fun j => by simp, ⟨Nat.le_refl _, fun _ => rfl, fun h => absurd h (Nat.lt_irrefl 0)⟩, Nat.zero_le _⟩
  · simp only [if_true] at hz
    have hlen : (zs.take len).length = len := by simp; omega
    refine ⟨some a, cap, zs.take len, by rw [hlen]; exact hcs, ?_, ⟨by rw [hlen]; exact hl, (fun h => by cases h), (fun h => ?_)⟩, by rw [hlen]; omega⟩
    · intro j
      by_cases hj : j < len
      · have hj' : j < zs.length := by omega
        have e : (zs.take len).getD j 0 = zs[j] := by simp [List.getD_eq_getElem?_getD, hj, hj']
        have := hwz zs[j] (List.getElem_mem hj')
        have h2 : 0 ≤ zs[j] ∧ zs[j] ≤ 255 := by simpa [Lit.wf, IntKind.bits, IntKind.signed, IntKind.min, IntKind.max] using this
        rw [e]
        omega
      · rw [List.getD_eq_getElem?_getD, List.getElem?_eq_none (by rw [hlen]; exact Nat.le_of_not_lt hj)]; simp
    · rw [hlen] at h
      obtain ⟨b, off, spot⟩ := a
      have hspot : spot = none := by simpa [Addr.add] using World.cell?_spot (hcell 0 (by omega))
      subst hspot
      refine ⟨b, off, rfl, ?_, fun j hj => ?_⟩
      · have := World.block_lt_of_cell? W _ (hcell 0 (by omega))
        simpa [Addr.add] using this
      · rw [hlen] at hj
        rw [← Addr.add_mid, hcell j (by omega)]
        simp [List.getD_eq_getElem?_getD, hj]
set_option maxRecDepth 100000 in
theorem act_cells {H : Type} {enc : TypeId × Value → H} {W : World} {fuel : Nat} {cs : List Value} {y : DataW H × List MemPlace} (hl : cs.length = 21)
    (hf : DataW.trod enc Try.prog W 0 (fun _ => true) true fuel 25 cs = some y) : ∃ x : Av, cs = x.c.toList ∧ x.Ok ∧ Byt W x.A x.cap x.L := by
  obtain ⟨xs, n, _, _, _, hlen, hff⟩ := DataW.trod_struct Try.underlying25 hf
  obtain ⟨y0, y1, y2, y3, y4, y5, rfl⟩ : ∃ y0 y1 y2 y3 y4 y5, xs = [y0, y1, y2, y3, y4, y5] := by
    match xs, hlen with
    | [a, b, c, d, e, f], _ => exact ⟨a, b, c, d, e, f, rfl⟩
  have q0 : DataW.trod enc Try.prog W 0 (fun _ => true) true n 5 (List.take (Try.prog.cellsOf 5) (List.drop 0 cs)) = some y0 := hff 0 _ rfl
  have q1 : DataW.trod enc Try.prog W 0 (fun _ => true) true n 3 (List.take (Try.prog.cellsOf 3) (List.drop 1 cs)) = some y1 := hff 1 _ rfl
  have q2 : DataW.trod enc Try.prog W 0 (fun _ => true) true n 3 (List.take (Try.prog.cellsOf 3) (List.drop 2 cs)) = some y2 := hff 2 _ rfl
  have q3 : DataW.trod enc Try.prog W 0 (fun _ => true) true n 22 (List.take (Try.prog.cellsOf 22) (List.drop 3 cs)) = some y3 := hff 3 _ rfl
  have q4 : DataW.trod enc Try.prog W 0 (fun _ => true) true n 4 (List.take (Try.prog.cellsOf 4) (List.drop 4 cs)) = some y4 := hff 4 _ rfl
  have q5 : DataW.trod enc Try.prog W 0 (fun _ => true) true n 23 (List.take (Try.prog.cellsOf 23) (List.drop 5 cs)) = some y5 := hff 5 _ rfl
  rw [cells5] at q0
  rw [cellsInt] at q1 q2
  rw [cellsBs] at q3
  rw [cellsBo] at q4
  rw [cellsM] at q5
  obtain ⟨a, ha, _, haw⟩ := DataW.trod_int Try.underlying5 q0
  obtain ⟨b, hb, _, hbw⟩ := DataW.trod_int Try.underlying3 q1
  obtain ⟨c, hc, _, hcw⟩ := DataW.trod_int Try.underlying3 q2
  obtain ⟨A, cap, L, hL, hin, hbyt, hmax⟩ := bytes_cell q3
  obtain ⟨o, ho, _⟩ := DataW.trod_bool Try.underlying4 q4
  obtain ⟨m, hm, hm1, hm2⟩ := trod_arr arrMask Try.underlying5 (xs := ((cs.drop 5).take 16).toArray) (by simp; omega) (d := y5.1) (p := y5.2) ⟨n, q5⟩
  have hm' : (cs.drop 5).take 16 = m.map (Value.int .u8) := by simpa using congrArg Array.toList hm
  match cs, hl with
  | u0 :: u1 :: u2 :: u3 :: u4 :: r, hl =>
    simp only [List.length_cons] at hl
    simp only [List.drop_zero, List.take_succ_cons, List.take_zero, List.drop_succ_cons, List.cons.injEq, and_true] at ha hb hc hL ho hm'
    rw [List.take_of_length_le (by omega)] at hm'
    refine ⟨⟨a, b, c, A, cap, L, o, m⟩, ?_, ⟨by simpa [Lit.wf, IntKind.bits, IntKind.signed, IntKind.min, IntKind.max] using haw, wfI hbw, wfI hcw, hin, hmax, hm1, inB_wf hm1 hm2⟩, hbyt⟩
    rw [ha, hb, hc, hL, ho, hm']
    rfl
/-- a parameter that is an Act. -/
theorem open_act {H : Type} {enc : TypeId × Value → H} {W : World} {base : Nat} {v : Value} {d : DataW H} {p : List MemPlace} (hv : Value.okWide Try.prog W .any base 25 v)
    (h : DataW.Trod enc Try.prog W 0 (fun _ => true) true 25 v d p) : ∃ x : Av, v = .agg x.c ∧ x.Ok ∧ Byt W x.A x.cap x.L := by
  obtain ⟨cs, rfl, hsz⟩ := okWide_struct Try.underlying25 hv
  rw [cellsAct] at hsz
  obtain ⟨fuel, hf⟩ := h
  obtain ⟨x, hx, ok, hb⟩ := act_cells (by simpa [Value.cells] using hsz) hf
  exact ⟨x, by rw [show cs = x.c from Array.ext' hx], ok, hb⟩
/-- the slice (A, xs.length, c) reads as the Acts xs. -/
def Acts (w : World) (A : Option Addr) (c : Nat) (xs : List Av) : Prop :=
  xs.length ≤ c ∧ (A = none → c = 0) ∧ (0 < xs.length → ∃ b off, A = some ⟨b, off, none⟩ ∧ b < w.heap.size ∧ ∀ i x, xs[i]? = some x → w.rangeAt b (off + i * 21) x.c.toList)
theorem Acts.below {w w' : World} {B c : Nat} {A : Option Addr} {xs : List Av} (h : Acts w A c xs) (hb : Below B w w') (hB : w.heap.size ≤ B) : Acts w' A c xs :=
  ⟨h.1, h.2.1, fun hl => by
    obtain ⟨b, off, hA, hg, hc⟩ := h.2.2 hl
    exact ⟨b, off, hA, Nat.lt_of_lt_of_le hg hb.size, fun i x hx j v hv => (hb.cell (p := ⟨b, off + i * 21 + j, none⟩) (Nat.lt_of_lt_of_le hg hB)).trans (hc i x hx j v hv)⟩⟩
theorem acts_list {H : Type} {enc : TypeId × Value → H} {W : World} {n : Nat} {a : Addr} : ∀ (len : Nat) (elems : List (DataW H × List MemPlace)), elems.length = len →
    (∀ i, i < len → (W.cells? 0 (a.add (i * 21)) 21).bind (DataW.trod enc Try.prog W 0 (fun _ => true) true n 25) = elems[i]?) →
    ∃ xs : List Av, xs.length = len ∧ (∀ x ∈ xs, x.Ok ∧ Byt W x.A x.cap x.L) ∧ ∀ i x, xs[i]? = some x → W.cells? 0 (a.add (i * 21)) 21 = some x.c.toList := by
  intro len
  induction len with
  | zero => exact fun _ _ _ => ⟨[], rfl, (fun _ h => by cases h), (fun i x h => by simp at h)⟩
  | succ m ih =>
    intro elems hl h
    obtain ⟨xs, hxl, hok, hx⟩ := ih (elems.take m) (by simp; omega) (fun i hi => by rw [h i (by omega), List.getElem?_take, if_pos hi])
    have hm := h m (by omega)
    rw [List.getElem?_eq_getElem (by omega : m < elems.length)] at hm
    obtain ⟨cs, hcs, htr⟩ := Option.bind_eq_some_iff.1 hm
    obtain ⟨x, rfl, ok⟩ := act_cells (World.cells?_some hcs).2.1 htr
    refine ⟨xs ++ [x], by simp [hxl], ?_, ?_⟩
    · intro y hy
      rcases List.mem_append.1 hy with hy | hy
      · exact hok y hy
      · obtain rfl := List.mem_singleton.1 hy
        exact ok
    · intro i y hy
      by_cases hi : i < m
      · rw [List.getElem?_append_left (by omega)] at hy
        exact hx i y hy
      · have hlen := (List.getElem?_eq_some_iff.1 hy).1
        simp only [List.length_append, List.length_singleton] at hlen
        obtain rfl : i = m := by omega
        rw [List.getElem?_append_right (by omega), hxl, Nat.sub_self] at hy
        obtain rfl := Option.some.inj hy
        exact hcs
/-- a parameter []Act. -/
theorem open_acts {H : Type} {enc : TypeId × Value → H} {W : World} {base : Nat} {v : Value} {d : DataW H} {p : List MemPlace} (hv : Value.okWide Try.prog W .any base 37 v)
    (h : DataW.Trod enc Try.prog W 0 (fun _ => true) true 37 v d p) : ∃ (A : Option Addr) (c : Nat) (xs : List Av), v = .slice A xs.length c ∧ (∀ x ∈ xs, x.Ok ∧ Byt W x.A x.cap x.L) ∧ Acts W A c xs ∧ xs.length ≤ maxLen := by
  obtain ⟨a0, len, cap, rfl⟩ := okWide_slice Try.underlying37 hv
  obtain ⟨fuel, hf⟩ := h
  rcases DataW.trod_slice Try.underlying37 hf with ⟨hcs, _⟩ | ⟨a, len', cap', elems, rest, n, _, hcs, _, _, hl, hm, hz, hel, _, _⟩
  · simp [Value.cells] at hcs
    obtain ⟨rfl, rfl, rfl⟩ := hcs
    exact ⟨none, 0, [], rfl, (fun _ h => by cases h), ⟨Nat.le_refl _, fun _ => rfl, fun h => absurd h (Nat.lt_irrefl 0)⟩, Nat.zero_le _⟩
  · simp [Value.cells] at hcs
    obtain ⟨rfl, rfl, rfl⟩ := hcs
    rw [cellsAct] at hel
    obtain ⟨xs, hxl, hok, hx⟩ := acts_list len elems hz hel
    refine ⟨some a, cap, xs, by rw [hxl], hok, ⟨by rw [hxl]; exact hl, (fun h => by cases h), (fun h => ?_)⟩, by rw [hxl]; omega⟩
    obtain ⟨x0, h0⟩ : ∃ x0, xs[0]? = some x0 := ⟨_, List.getElem?_eq_getElem h⟩
    have k0 := (World.cells?_some (hx 0 x0 h0)).2.2 0 (by omega)
    rw [show x0.c.toList[0]? = some (.int .u8 x0.what) from rfl] at k0
    obtain ⟨b, off, spot⟩ := a
    have hspot : spot = none := by simpa [Addr.add] using World.cell?_spot k0
    subst hspot
    refine ⟨b, off, rfl, ?_, fun i x hi j v hv => ?_⟩
    · have := World.block_lt_of_cell? W _ k0
      simpa [Addr.add] using this
    · obtain ⟨_, hlen, hc⟩ := World.cells?_some (hx i x hi)
      have hj : j < 21 := by rw [← hlen]; exact (List.getElem?_eq_some_iff.1 hv).1
      have := hc j hj
      rw [hv] at this
      rw [Addr.add_mid, Addr.add_mid] at this
      exact this
end Go.Proofs.Ytbmkejhkckdoeaa.Dsk
