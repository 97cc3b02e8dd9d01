/- DERIVED. Texts of ours, merged: XSltArgs XRef9DoSt XRef9PlStep XRef9Two2. -/
import Derived.Test.YtpeioogkbcejmaaMplays1
import Derived.Test.YtpeioogkbcejmaaMplays8
import Derived.Test.YtpeioogkbcejmaaMplays17
import Derived.Deep.DeepCutAuto
import Derived.Test.YtpeioogkbcejmaaMplays16
/- DERIVED. Parameters of layer 9's laws, opened: slices of texts, and Acts. -/
namespace Go.Proofs.Ytpeioogkbcejmaa.Slt
open Go.ChangeShapes Go.WideShapes Go.ChangeAt Go.RowKit Dsk
structure Tp where
  A : Option Addr
  c : Nat
  M : List Int
def Tp.val (p : Tp) : Value := .slice p.A p.M.length p.c
/-- the texts lie where they should. -/
structure TpsAt (wb : World) (Ap : Option Addr) (ps : List Tp) : Prop where
  row : ∀ j (h : j < ps.length), ∃ g off, Ap = some ⟨g, off, none⟩ ∧ g < wb.heap.size ∧ wb.cell? ⟨g, off + j, none⟩ = some ps[j].val
  byt : ∀ j (h : j < ps.length), Byt wb ps[j].A ps[j].c ps[j].M ∧ InB ps[j].M
theorem TpsAt.tx {w : World} {A : Option Addr} {ps : List Tp} (h : TpsAt w A ps) : TxAt w A (ps.map (·.M)) := ⟨fun i hi => by
  rw [List.length_map] at hi
  obtain ⟨g, off, e, hg, hc⟩ := h.row i hi
  obtain ⟨hB, hin⟩ := h.byt i hi
  have e2 : (ps.map (·.M)).getD i [] = ps[i].M := by simp [List.getD_eq_getElem?_getD, hi]
  exact ⟨g, off, ps[i].A, ps[i].c, e, hg, by rw [e2]; exact hc, by rw [e2]; exact hB, by rw [e2]; exact hin⟩⟩
/-- one slice of bytes, read out of its cell. -/
theorem part_cells {H : Type} {enc : TypeId × Value → H} {W : World} {n : Nat} {cs : List Value} {y : DataW H × List MemPlace} (hf : DataW.trod enc Try.prog W 0 (fun _ => true) true n 33 cs = some y) : ∃ p : Tp, cs = [p.val] ∧ InB p.M ∧ Byt W p.A p.c p.M := by
  rcases open_ints Try.underlying33 Try.underlying5 cells5 hf with ⟨hcs, _⟩ | ⟨a, len, cap, zs, hcs, _, hl, hm, hz, _, hcell, hwz⟩
  · exact ⟨⟨none, 0, []⟩, hcs, fun j => by simp, Nat.le_refl _, fun _ => rfl, fun h => absurd h (Nat.lt_irrefl 0)⟩
  · simp only [if_true] at hz
    have hlen : (zs.take len).length = len := by simp; omega
    refine ⟨⟨some a, cap, zs.take len⟩, by rw [hcs]; simp only [Tp.val, hlen], ?_, ⟨by simp only [hlen]; exact hl, (fun h => by cases h), (fun h => ?_)⟩⟩
    · intro j
      by_cases hj : j < len
      · have hj' : j < zs.length := by omega
        have e : (zs.take len).getD j 0 = zs[j] := by simp [List.getD_eq_getElem?_getD, hj, hj']
        have := hwz zs[j] (List.getElem_mem hj')
        have h2 : 0 ≤ zs[j] ∧ zs[j] ≤ 255 := by simpa [Lit.wf, IntKind.bits, IntKind.signed, IntKind.min, IntKind.max] using this
        show 0 ≤ (zs.take len).getD j 0 ∧ (zs.take len).getD j 0 < 256
        rw [e]
        omega
      · show 0 ≤ (zs.take len).getD j 0 ∧ (zs.take len).getD j 0 < 256
        rw [List.getD_eq_getElem?_getD, List.getElem?_eq_none (by rw [hlen]; exact Nat.le_of_not_lt hj)]; simp
    · simp only [hlen] at h
      obtain ⟨b, off, spot⟩ := a
      have hspot : spot = none := by simpa [Addr.add] using World.cell?_spot (hcell 0 (by omega))
      subst hspot
      refine ⟨b, off, rfl, ?_, fun j hj => ?_⟩
      · have := World.block_lt_of_cell? W _ (hcell 0 (by omega))
        simpa [Addr.add] using this
      · simp only [hlen] at hj
        rw [← Addr.add_mid, hcell j (by omega)]
        simp [List.getD_eq_getElem?_getD, hj]
theorem parts_list {H : Type} {enc : TypeId × Value → H} {W : World} {n : Nat} {a : Addr} : ∀ (len : Nat) (elems : List (DataW H × List MemPlace)), elems.length = len →
    (∀ i, i < len → (W.cells? 0 (a.add (i * 1)) 1).bind (DataW.trod enc Try.prog W 0 (fun _ => true) true n 33) = elems[i]?) →
    ∃ xs : List Tp, xs.length = len ∧ (∀ x ∈ xs, InB x.M ∧ Byt W x.A x.c x.M) ∧ ∀ i x, xs[i]? = some x → W.cells? 0 (a.add (i * 1)) 1 = some [x.val] := by
  intro len
  induction len with
  | zero => exact fun _ _ _ => ⟨[], rfl, (fun _ h => by cases h), (fun i x h => by simp at h)⟩
  | succ m ih =>
    intro elems hl h
    obtain ⟨xs, hxl, hok, hx⟩ := ih (elems.take m) (by simp; omega) (fun i hi => by rw [h i (by omega), List.getElem?_take, if_pos hi])
    have hm := h m (by omega)
    rw [List.getElem?_eq_getElem (by omega : m < elems.length)] at hm
    obtain ⟨cs, hcs, htr⟩ := Option.bind_eq_some_iff.1 hm
    obtain ⟨x, rfl, ok⟩ := part_cells htr
    refine ⟨xs ++ [x], by simp [hxl], ?_, ?_⟩
    · intro y hy
      rcases List.mem_append.1 hy with hy | hy
      · exact hok y hy
      · obtain rfl := List.mem_singleton.1 hy
        exact ok
    · intro i y hy
      by_cases hi : i < m
      · rw [List.getElem?_append_left (by omega)] at hy
        exact hx i y hy
      · have hlen := (List.getElem?_eq_some_iff.1 hy).1
        simp only [List.length_append, List.length_singleton] at hlen
        obtain rfl : i = m := by omega
        rw [List.getElem?_append_right (by omega), hxl, Nat.sub_self] at hy
        obtain rfl := Option.some.inj hy
        exact hcs
theorem cellsSl : Try.prog.cellsOf 33 = 1 := by kernel_rfl
/-- a parameter [][]byte. -/
theorem open_parts {H : Type} {enc : TypeId × Value → H} {W : World} {base : Nat} {v : Value} {d : DataW H} {p : List MemPlace} (hv : Value.okWide Try.prog W .any base 46 v)
    (h : DataW.Trod enc Try.prog W 0 (fun _ => true) true 46 v d p) : ∃ (A : Option Addr) (c : Nat) (ps : List Tp), v = .slice A ps.length c ∧ TpsAt W A ps ∧ ps.length ≤ c ∧ (A = none → c = 0) ∧ ps.length ≤ maxLen := by
  obtain ⟨a0, len, cap, rfl⟩ := okWide_slice Try.underlying46 hv
  obtain ⟨fuel, hf⟩ := h
  rcases DataW.trod_slice Try.underlying46 hf with ⟨hcs, _⟩ | ⟨a, len', cap', elems, rest, n, _, hcs, _, _, hl, hm, hz, hel, _, _⟩
  · simp [Value.cells] at hcs
    obtain ⟨rfl, rfl, rfl⟩ := hcs
    exact ⟨none, 0, [], rfl, ⟨fun j h => absurd h (Nat.not_lt_zero _), fun j h => absurd h (Nat.not_lt_zero _)⟩, Nat.le_refl _, fun _ => rfl, Nat.zero_le _⟩
  · simp [Value.cells] at hcs
    obtain ⟨rfl, rfl, rfl⟩ := hcs
    rw [cellsSl] at hel
    obtain ⟨xs, hxl, hok, hx⟩ := parts_list len elems hz hel
    refine ⟨some a, cap, xs, by rw [hxl], ⟨fun j hj => ?_, fun j hj => ⟨(hok _ (List.getElem_mem hj)).2, (hok _ (List.getElem_mem hj)).1⟩⟩, by rw [hxl]; exact hl, (fun h => by cases h), by rw [hxl]; omega⟩
    have k0 := (World.cells?_some (hx j xs[j] (List.getElem?_eq_getElem hj))).2.2 0 (by omega)
    obtain ⟨b, off, spot⟩ := a
    have k1 : W.cell? ((⟨b, off, spot⟩ : Addr).add (j * 1)) = some xs[j].val := by
      have e : ((⟨b, off, spot⟩ : Addr).add (j * 1)).add 0 = (⟨b, off, spot⟩ : Addr).add (j * 1) := by simp [Addr.add]
      rw [e] at k0
      simpa using k0
    have k00 := (World.cells?_some (hx 0 xs[0] (List.getElem?_eq_getElem (by omega)))).2.2 0 (by omega)
    have hspot : spot = none := by simpa [Addr.add] using World.cell?_spot k00
    subst hspot
    rw [Addr.add_mid, Nat.mul_one] at k1
    exact ⟨b, off, rfl, by have := World.block_lt_of_cell? W _ k1; simpa using this, k1⟩
theorem wfI {z : Int} (h : (Lit.int .i64 z).wf = true) : -9223372036854775808 ≤ z ∧ z ≤ 9223372036854775807 := by simpa [Lit.wf, IntKind.bits, IntKind.signed, IntKind.min, IntKind.max] using h
/-- an Act of layer 9. -/
structure Aw where
  what : Int
  whole : Int
  at_ : Int
  mask : List Int
  A : Option Addr
  cap : Nat
  L : List Int
def Aw.c (x : Aw) : Array Value := (Value.int .i64 x.what :: Value.int .i64 x.whole :: Value.int .i64 x.at_ :: (vals x.mask ++ [Value.slice x.A x.L.length x.cap])).toArray
theorem cellsAct : Try.prog.cellsOf 43 = 20 := by kernel_rfl
theorem cellsInt : Try.prog.cellsOf 3 = 1 := by kernel_rfl
theorem cellsM : Try.prog.cellsOf 34 = 16 := by kernel_rfl
theorem arrMask : WideMaps.ArrKey Try.prog 34 5 16 := ⟨by kernel_rfl, by kernel_rfl, by kernel_rfl, by kernel_rfl⟩
structure Aw.Ok (x : Aw) : Prop where
  what : -9223372036854775808 ≤ x.what ∧ x.what ≤ 9223372036854775807
  whole : -9223372036854775808 ≤ x.whole ∧ x.whole ≤ 9223372036854775807
  at_ : -9223372036854775808 ≤ x.at_ ∧ x.at_ ≤ 9223372036854775807
  inb : InB x.L
  len : x.L.length ≤ maxLen
  mlen : x.mask.length = 16
  minb : InB x.mask
/-- a slice of bytes, read out of its cell. -/
theorem bytes_cell {H : Type} {enc : TypeId × Value → H} {W : World} {fuel : Nat} {cs : List Value} {y : DataW H × List MemPlace} (hf : DataW.trod enc Try.prog W 0 (fun _ => true) true fuel 33 cs = some y) :
    ∃ (A : Option Addr) (c : Nat) (L : List Int), cs = [.slice A L.length c] ∧ InB L ∧ Byt W A c L ∧ L.length ≤ maxLen := by
  rcases open_ints Try.underlying33 Try.underlying5 cells5 hf with ⟨hcs, _⟩ | ⟨a, len, cap, zs, hcs, _, hl, hm, hz, _, hcell, hwz⟩
  · exact ⟨none, 0, [], hcs, fun j => by simp, ⟨Nat.le_refl _, fun _ => rfl, fun h => absurd h (Nat.lt_irrefl 0)⟩, Nat.zero_le _⟩
  · simp only [if_true] at hz
    have hlen : (zs.take len).length = len := by simp; omega
    refine ⟨some a, cap, zs.take len, by rw [hlen]; exact hcs, ?_, ⟨by rw [hlen]; exact hl, (fun h => by cases h), (fun h => ?_)⟩, by rw [hlen]; omega⟩
    · intro j
      by_cases hj : j < len
      · have hj' : j < zs.length := by omega
        have e : (zs.take len).getD j 0 = zs[j] := by simp [List.getD_eq_getElem?_getD, hj, hj']
        have := hwz zs[j] (List.getElem_mem hj')
        have h2 : 0 ≤ zs[j] ∧ zs[j] ≤ 255 := by simpa [Lit.wf, IntKind.bits, IntKind.signed, IntKind.min, IntKind.max] using this
        rw [e]
        omega
      · rw [List.getD_eq_getElem?_getD, List.getElem?_eq_none (by rw [hlen]; exact Nat.le_of_not_lt hj)]; simp
    · rw [hlen] at h
      obtain ⟨b, off, spot⟩ := a
      have hspot : spot = none := by simpa [Addr.add] using World.cell?_spot (hcell 0 (by omega))
      subst hspot
      refine ⟨b, off, rfl, ?_, fun j hj => ?_⟩
      · have := World.block_lt_of_cell? W _ (hcell 0 (by omega))
        simpa [Addr.add] using this
      · rw [hlen] at hj
        rw [← Addr.add_mid, hcell j (by omega)]
        simp [List.getD_eq_getElem?_getD, hj]
set_option maxRecDepth 100000 in
theorem act_cells {H : Type} {enc : TypeId × Value → H} {W : World} {fuel : Nat} {cs : List Value} {y : DataW H × List MemPlace} (hl : cs.length = 20)
    (hf : DataW.trod enc Try.prog W 0 (fun _ => true) true fuel 43 cs = some y) : ∃ x : Aw, cs = x.c.toList ∧ x.Ok ∧ Byt W x.A x.cap x.L := by
  obtain ⟨xs, n, _, _, _, hlen, hff⟩ := DataW.trod_struct Try.underlying43 hf
  obtain ⟨y0, y1, y2, y3, y4, rfl⟩ : ∃ y0 y1 y2 y3 y4, xs = [y0, y1, y2, y3, y4] := by
    match xs, hlen with
    | [a, b, c, d, e], _ => exact ⟨a, b, c, d, e, rfl⟩
  have q0 : DataW.trod enc Try.prog W 0 (fun _ => true) true n 3 (List.take (Try.prog.cellsOf 3) (List.drop 0 cs)) = some y0 := hff 0 _ rfl
  have q1 : DataW.trod enc Try.prog W 0 (fun _ => true) true n 3 (List.take (Try.prog.cellsOf 3) (List.drop 1 cs)) = some y1 := hff 1 _ rfl
  have q2 : DataW.trod enc Try.prog W 0 (fun _ => true) true n 3 (List.take (Try.prog.cellsOf 3) (List.drop 2 cs)) = some y2 := hff 2 _ rfl
  have q3 : DataW.trod enc Try.prog W 0 (fun _ => true) true n 34 (List.take (Try.prog.cellsOf 34) (List.drop 3 cs)) = some y3 := hff 3 _ rfl
  have q4 : DataW.trod enc Try.prog W 0 (fun _ => true) true n 33 (List.take (Try.prog.cellsOf 33) (List.drop 19 cs)) = some y4 := hff 4 _ rfl
  rw [cellsInt] at q0 q1 q2
  rw [cellsM] at q3
  rw [cellsSl] at q4
  obtain ⟨a, ha, _, haw⟩ := DataW.trod_int Try.underlying3 q0
  obtain ⟨b, hb, _, hbw⟩ := DataW.trod_int Try.underlying3 q1
  obtain ⟨c, hc, _, hcw⟩ := DataW.trod_int Try.underlying3 q2
  obtain ⟨m, hm, hm1, hm2⟩ := trod_arr arrMask Try.underlying5 (xs := ((cs.drop 3).take 16).toArray) (by simp; omega) (d := y3.1) (p := y3.2) ⟨n, q3⟩
  obtain ⟨A, cap, L, hL, hin, hbyt, hmax⟩ := bytes_cell q4
  have hm' : (cs.drop 3).take 16 = m.map (Value.int .u8) := by simpa using congrArg Array.toList hm
  have e : cs = cs.take 3 ++ ((cs.drop 3).take 16 ++ cs.drop 19) := by
    rw [show cs.drop 19 = (cs.drop 3).drop 16 by rw [List.drop_drop], List.take_append_drop, List.take_append_drop]
  have e3 : cs.take 3 = [.int .i64 a, .int .i64 b, .int .i64 c] := by
    match cs, hl with
    | u0 :: u1 :: u2 :: r, hl =>
      simp only [List.drop_zero, List.take_succ_cons, List.take_zero, List.drop_succ_cons, List.cons.injEq, and_true] at ha hb hc
      rw [ha, hb, hc]
      rfl
  have e4 : cs.drop 19 = [.slice A L.length cap] := by
    rw [← hL, List.take_of_length_le (by rw [List.length_drop]; omega)]
  refine ⟨⟨a, b, c, m, A, cap, L⟩, ?_, ⟨wfI haw, wfI hbw, wfI hcw, hin, hmax, hm1, inB_wf hm1 hm2⟩, hbyt⟩
  rw [e, e3, e4, hm']
  rfl
/-- the slice (A, xs.length, c) reads as the Acts xs. -/
def Acts (w : World) (A : Option Addr) (c : Nat) (xs : List Aw) : Prop :=
  xs.length ≤ c ∧ (A = none → c = 0) ∧ (0 < xs.length → ∃ b off, A = some ⟨b, off, none⟩ ∧ b < w.heap.size ∧ ∀ i x, xs[i]? = some x → w.rangeAt b (off + i * 20) x.c.toList)
theorem Acts.below {w w' : World} {B c : Nat} {A : Option Addr} {xs : List Aw} (h : Acts w A c xs) (hb : Below B w w') (hB : w.heap.size ≤ B) : Acts w' A c xs :=
  ⟨h.1, h.2.1, fun hl => by
    obtain ⟨b, off, hA, hg, hc⟩ := h.2.2 hl
    exact ⟨b, off, hA, Nat.lt_of_lt_of_le hg hb.size, fun i x hx j v hv => (hb.cell (p := ⟨b, off + i * 20 + j, none⟩) (Nat.lt_of_lt_of_le hg hB)).trans (hc i x hx j v hv)⟩⟩
theorem acts_list {H : Type} {enc : TypeId × Value → H} {W : World} {n : Nat} {a : Addr} : ∀ (len : Nat) (elems : List (DataW H × List MemPlace)), elems.length = len →
    (∀ i, i < len → (W.cells? 0 (a.add (i * 20)) 20).bind (DataW.trod enc Try.prog W 0 (fun _ => true) true n 43) = elems[i]?) →
    ∃ xs : List Aw, xs.length = len ∧ (∀ x ∈ xs, x.Ok ∧ Byt W x.A x.cap x.L) ∧ ∀ i x, xs[i]? = some x → W.cells? 0 (a.add (i * 20)) 20 = some x.c.toList := by
  intro len
  induction len with
  | zero => exact fun _ _ _ => ⟨[], rfl, (fun _ h => by cases h), (fun i x h => by simp at h)⟩
  | succ m ih =>
    intro elems hl h
    obtain ⟨xs, hxl, hok, hx⟩ := ih (elems.take m) (by simp; omega) (fun i hi => by rw [h i (by omega), List.getElem?_take, if_pos hi])
    have hm := h m (by omega)
    rw [List.getElem?_eq_getElem (by omega : m < elems.length)] at hm
    obtain ⟨cs, hcs, htr⟩ := Option.bind_eq_some_iff.1 hm
    obtain ⟨x, rfl, ok⟩ := act_cells (World.cells?_some hcs).2.1 htr
    refine ⟨xs ++ [x], by simp [hxl], ?_, ?_⟩
    · intro y hy
      rcases List.mem_append.1 hy with hy | hy
      · exact hok y hy
      · obtain rfl := List.mem_singleton.1 hy
        exact ok
    · intro i y hy
      by_cases hi : i < m
      · rw [List.getElem?_append_left (by omega)] at hy
        exact hx i y hy
      · have hlen := (List.getElem?_eq_some_iff.1 hy).1
        simp only [List.length_append, List.length_singleton] at hlen
        obtain rfl : i = m := by omega
        rw [List.getElem?_append_right (by omega), hxl, Nat.sub_self] at hy
        obtain rfl := Option.some.inj hy
        exact hcs
/-- a parameter []Act. -/
theorem open_acts {H : Type} {enc : TypeId × Value → H} {W : World} {base : Nat} {v : Value} {d : DataW H} {p : List MemPlace} (hv : Value.okWide Try.prog W .any base 24 v)
    (h : DataW.Trod enc Try.prog W 0 (fun _ => true) true 24 v d p) : ∃ (A : Option Addr) (c : Nat) (xs : List Aw), v = .slice A xs.length c ∧ (∀ x ∈ xs, x.Ok ∧ Byt W x.A x.cap x.L) ∧ Acts W A c xs ∧ xs.length ≤ maxLen := by
  obtain ⟨a0, len, cap, rfl⟩ := okWide_slice Try.underlying24 hv
  obtain ⟨fuel, hf⟩ := h
  rcases DataW.trod_slice Try.underlying24 hf with ⟨hcs, _⟩ | ⟨a, len', cap', elems, rest, n, _, hcs, _, _, hl, hm, hz, hel, _, _⟩
  · simp [Value.cells] at hcs
    obtain ⟨rfl, rfl, rfl⟩ := hcs
    exact ⟨none, 0, [], rfl, (fun _ h => by cases h), ⟨Nat.le_refl _, fun _ => rfl, fun h => absurd h (Nat.lt_irrefl 0)⟩, Nat.zero_le _⟩
  · simp [Value.cells] at hcs
    obtain ⟨rfl, rfl, rfl⟩ := hcs
    rw [cellsAct] at hel
    obtain ⟨xs, hxl, hok, hx⟩ := acts_list len elems hz hel
    refine ⟨some a, cap, xs, by rw [hxl], hok, ⟨by rw [hxl]; exact hl, (fun h => by cases h), (fun h => ?_)⟩, by rw [hxl]; omega⟩
    obtain ⟨x0, h0⟩ : ∃ x0, xs[0]? = some x0 := ⟨_, List.getElem?_eq_getElem h⟩
    have k0 := (World.cells?_some (hx 0 x0 h0)).2.2 0 (by omega)
    rw [show x0.c.toList[0]? = some (.int .i64 x0.what) from rfl] at k0
    obtain ⟨b, off, spot⟩ := a
    have hspot : spot = none := by simpa [Addr.add] using World.cell?_spot k0
    subst hspot
    refine ⟨b, off, rfl, ?_, fun i x hi j v hv => ?_⟩
    · have := World.block_lt_of_cell? W _ k0
      simpa [Addr.add] using this
    · obtain ⟨_, hlen, hc⟩ := World.cells?_some (hx i x hi)
      have hj : j < 20 := by rw [← hlen]; exact (List.getElem?_eq_some_iff.1 hv).1
      have := hc j hj
      rw [hv] at this
      rw [Addr.add_mid, Addr.add_mid] at this
      exact this
/-- a parameter that is a Disk of the laws: three numbers. -/
theorem cellsDk : Try.prog.cellsOf 23 = 3 := by kernel_rfl
theorem open_disk {H : Type} {enc : TypeId × Value → H} {W : World} {base : Nat} {v : Value} {d : DataW H} {p : List MemPlace} (hv : Value.okWide Try.prog W .any base 23 v)
    (h : DataW.Trod enc Try.prog W 0 (fun _ => true) true 23 v d p) : ∃ a b c : Int, v = .agg #[.int .i64 a, .int .i64 b, .int .i64 c] ∧ (-9223372036854775808 ≤ a ∧ a ≤ 9223372036854775807) ∧ (-9223372036854775808 ≤ b ∧ b ≤ 9223372036854775807) ∧ (-9223372036854775808 ≤ c ∧ c ≤ 9223372036854775807) := by
  obtain ⟨cs, rfl, hsz⟩ := okWide_struct Try.underlying23 hv
  rw [cellsDk] at hsz
  obtain ⟨fuel, hf⟩ := h
  obtain ⟨xs, n, _, _, _, hlen, hff⟩ := DataW.trod_struct Try.underlying23 hf
  obtain ⟨y0, y1, y2, rfl⟩ : ∃ y0 y1 y2, xs = [y0, y1, y2] := by
    match xs, hlen with
    | [a, b, c], _ => exact ⟨a, b, c, rfl⟩
  obtain ⟨u0, u1, u2, rfl⟩ : ∃ u0 u1 u2, cs = #[u0, u1, u2] := by
    match cs, hsz with
    | ⟨[a, b, c]⟩, _ => exact ⟨a, b, c, rfl⟩
  have q0 : DataW.trod enc Try.prog W 0 (fun _ => true) true n 3 (List.take (Try.prog.cellsOf 3) (List.drop 0 [u0, u1, u2])) = some y0 := hff 0 _ rfl
  have q1 : DataW.trod enc Try.prog W 0 (fun _ => true) true n 3 (List.take (Try.prog.cellsOf 3) (List.drop 1 [u0, u1, u2])) = some y1 := hff 1 _ rfl
  have q2 : DataW.trod enc Try.prog W 0 (fun _ => true) true n 3 (List.take (Try.prog.cellsOf 3) (List.drop 2 [u0, u1, u2])) = some y2 := hff 2 _ rfl
  rw [cellsInt] at q0 q1 q2
  obtain ⟨a, ha, _, haw⟩ := DataW.trod_int Try.underlying3 q0
  obtain ⟨b, hb, _, hbw⟩ := DataW.trod_int Try.underlying3 q1
  obtain ⟨c, hc, _, hcw⟩ := DataW.trod_int Try.underlying3 q2
  simp only [List.drop_zero, List.take_succ_cons, List.take_zero, List.drop_succ_cons, List.cons.injEq, and_true] at ha hb hc
  subst ha hb hc
  exact ⟨a, b, c, rfl, wfI haw, wfI hbw, wfI hcw⟩
end Go.Proofs.Ytpeioogkbcejmaa.Slt
/- DERIVED. Layer 9's law: what play.do's regions hold. -/
namespace Go.Proofs.Ytpeioogkbcejmaa.Slt
open Go.RowKit Dsk
def kindA (a : Aw) : Int := (wrap64 (a.what.tmod 6 + 6)).tmod 6
/-- the reference disk's row while its power and its cut are written, at operations q1 and q2. -/
structure RS (M : MK) (N : Nat) (q1 : Nat) (o o1 : Bool) (q2 : Nat) (c c1 : Bool) (wh : Int) (m : List Int) (W : World) (ll : Array Bool) (wx : World) : Prop where
  chg : Chg [M.g] W wx
  row : wx.heap[M.g]? = some (.cells (rowR M.b N (if ll.getD q1 false = true then o1 else o) (if ll.getD q2 false = true then c1 else c) wh m) 36 (0, 0))
section
variable {M : MK} {N q1 q2 : Nat} {o o1 c c1 : Bool} {wh : Int} {m : List Int} {W wx : World} {ll : Array Bool}
theorem RS.start {n : Nat} (h : W.heap[M.g]? = some (.cells (rowR M.b N o c wh m) 36 (0, 0))) : RS M N q1 o o1 q2 c c1 wh m W (Array.replicate n false) W.drew := by
  have hz : ∀ q, (Array.replicate n false).getD q false = false := fun q => by
    by_cases hq : q < n
    · simp [Array.getD, hq]
    · simp [Array.getD, hq]
  refine ⟨Chg.of_below (Below.refl _ _).drew, ?_⟩
  rw [hz, hz]
  exact h
theorem RS.same {i : Nat} (h : RS M N q1 o o1 q2 c c1 wh m W ll wx) (h1 : i ≠ q1) (h2 : i ≠ q2) : RS M N q1 o o1 q2 c c1 wh m W (ll.setIfInBounds i true) wx :=
  ⟨h.chg, by rw [getD_set_ne false h1, getD_set_ne false h2]; exact h.row⟩
theorem RS.cell (h : RS M N q1 o o1 q2 c c1 wh m W ll wx) {p : Addr} {v : Value} (hc : W.cell? p = some v) (hp : p.block ≠ M.g) : wx.cell? p = some v :=
  (World.cell?_of_block (h.chg.block p.block (World.block_lt_of_cell? W p hc) (by simpa using hp))).trans hc
theorem RS.st1 (h : RS M N q1 o o1 q2 c c1 wh m W ll wx) (hq : q1 < ll.size) (hne : q1 ≠ q2) : RS M N q1 o o1 q2 c c1 wh m W (ll.setIfInBounds q1 true) (wx.setCell ⟨M.g, 1, none⟩ (.bool o1)) := by
  refine ⟨h.chg.setCell (p := ⟨M.g, 1, none⟩) (by simp) _, ?_⟩
  rw [heap_setCell_same _ _ _ _ _ _ h.row, getD_set_ne false hne, rowR_off, show (ll.setIfInBounds q1 true).getD q1 false = true by simp [hq], if_pos rfl]
theorem RS.st2 (h : RS M N q1 o o1 q2 c c1 wh m W ll wx) (hq : q2 < ll.size) (hne : q2 ≠ q1) : RS M N q1 o o1 q2 c c1 wh m W (ll.setIfInBounds q2 true) (wx.setCell ⟨M.g, 2, none⟩ (.bool c1)) := by
  refine ⟨h.chg.setCell (p := ⟨M.g, 2, none⟩) (by simp) _, ?_⟩
  rw [heap_setCell_same _ _ _ _ _ _ h.row, getD_set_ne false hne, rowR_has, show (ll.setIfInBounds q2 true).getD q2 false = true by simp [hq], if_pos rfl]
end
theorem PD.disk {w0 w w' : World} {pg : Nat} {K : DK} {M : MK} {D D' : DS} {x : X3} {vl vr : Value} (h : PD w0 w pg K M D x vl vr) (hc : Chg (K.bl ++ M.bl) w w') (hd : Dsk w' K D') (hr : RD w' M D') : PD w0 w' pg K M D' x vl vr :=
  ⟨hc.at h.row (fun hm => (List.mem_append.1 hm).elim h.kp h.mp), hd, hr, h.km, h.kp, h.mp, hc.below h.low h.low.size (fun q hq => (List.mem_append.1 hq).elim (h.kb q) (h.mb q)), h.kb, h.mb, h.pb⟩
theorem PLog.disk {w0 w w' : World} {pg : Nat} {K : DK} {M : MK} {D D' : DS} {J I : LK} {S : LS} (h : PLog w0 w pg K M D J I S) (hc : Chg (K.bl ++ M.bl) w w') (hs : D'.secs = D.secs) : PLog w0 w' pg K M D' J I S := by
  have hj : ∀ q ∈ J.bl ++ J.tx, q ∉ K.bl ++ M.bl := fun q hq hm => by
    rcases List.mem_append.1 hm with hm | hm
    · rcases List.mem_append.1 hq with hq | hq
      · exact h.lg.toLg0.kap q hq hm
      · exact (h.lg.toLg0.tap q hq).1 hm
    · exact (h.jb q hq).1 hm
  have hi : ∀ q ∈ I.bl ++ I.tx, q ∉ K.bl ++ M.bl := fun q hq hm => by
    rcases List.mem_append.1 hm with hm | hm
    · exact (h.ib q hq).1 hm
    · rcases List.mem_append.1 hq with hq | hq
      · exact h.rl.kap q hq hm
      · exact (h.rl.tap q hq).1 hm
  exact ⟨lg_chg h.lg hc (fun q hq => hj q (List.mem_append_left _ hq)) (fun q hq => hj q (List.mem_append_right _ hq)), h.rl.chg hc (fun q hq => hi q (List.mem_append_left _ hq)) (fun q hq => hi q (List.mem_append_right _ hq)), by rw [hs]; exact h.end_,
    fun q hq => ⟨(h.jb q hq).1, (h.jb q hq).2.1, (h.jb q hq).2.2.1, (h.jb q hq).2.2.2.1, Nat.lt_of_lt_of_le (h.jb q hq).2.2.2.2 hc.size⟩, fun q hq => ⟨(h.ib q hq).1, (h.ib q hq).2.1, (h.ib q hq).2.2.1, Nat.lt_of_lt_of_le (h.ib q hq).2.2.2 hc.size⟩⟩
/-- the reference disk's row while a cut is laid. -/
structure RC (M : MK) (N : Nat) (o c : Bool) (wh wh1 : Int) (m mk : List Int) (W : World) (ll : Array Bool) (wx : World) : Prop where
  chg : Chg [M.g] W wx
  row : wx.heap[M.g]? = some (.cells (rowR M.b N o (if ll.getD 18 false = true then true else c) (if ll.getD 21 false = true then wh1 else wh) (if ll.getD 24 false = true then mk else m)) 36 (0, 0))
theorem rowR_there {w : World} {g gb N : Nat} {o c : Bool} {wh : Int} {m : List Int} {T : Nat} (hr : w.heap[g]? = some (.cells (rowR gb N o c wh m) T (0, 0))) (hm : m.length = 16) : w.there g 4 16 := fun j hj => by
  refine ⟨?_, free_row hr _⟩
  rw [cell_row hr, Array.getElem?_eq_getElem (by simp [rowR, vals, hm]; omega)]
  rfl
theorem rowR_mask {w : World} {g gb N : Nat} {o c : Bool} {wh : Int} {m mk : List Int} {T : Nat} (hr : w.heap[g]? = some (.cells (rowR gb N o c wh m) T (0, 0))) (hm : m.length = 16) (hk : mk.length = 16) : (w.setCells g 4 (vals mk)).heap[g]? = some (.cells (rowR gb N o c wh mk) T (0, 0)) := by
  rw [heap_setCells _ _ _ _ hr (by simp [rowR, vals, hm, hk])]
  congr 2
  have hl : (vals m).length = 16 := by rw [vals_length, hm]
  have hl2 : (vals mk).length = 16 := by rw [vals_length, hk]
  apply Array.ext'
  rw [List.toList_toArray]
  show splice (_ :: _ :: _ :: _ :: vals m) 4 (vals mk) = _ :: _ :: _ :: _ :: vals mk
  unfold splice
  rw [hl2]
  simp [hl]
section
variable {M : MK} {N : Nat} {o c : Bool} {wh wh1 : Int} {m mk : List Int} {W wx : World} {ll : Array Bool}
theorem RC.start {n : Nat} (h : W.heap[M.g]? = some (.cells (rowR M.b N o c wh m) 36 (0, 0))) : RC M N o c wh wh1 m mk W (Array.replicate n false) W.drew := by
  have hz : ∀ q, (Array.replicate n false).getD q false = false := fun q => by
    by_cases hq : q < n
    · simp [Array.getD, hq]
    · simp [Array.getD, hq]
  refine ⟨Chg.of_below (Below.refl _ _).drew, ?_⟩
  rw [hz, hz, hz]
  exact h
theorem RC.same {i : Nat} (h : RC M N o c wh wh1 m mk W ll wx) (h1 : i ≠ 18) (h2 : i ≠ 21) (h3 : i ≠ 24) : RC M N o c wh wh1 m mk W (ll.setIfInBounds i true) wx :=
  ⟨h.chg, by rw [getD_set_ne false h1, getD_set_ne false h2, getD_set_ne false h3]; exact h.row⟩
theorem RC.cell (h : RC M N o c wh wh1 m mk W ll wx) {p : Addr} {v : Value} (hc : W.cell? p = some v) (hp : p.block ≠ M.g) : wx.cell? p = some v :=
  (World.cell?_of_block (h.chg.block p.block (World.block_lt_of_cell? W p hc) (by simpa using hp))).trans hc
theorem RC.st1 (h : RC M N o c wh wh1 m mk W ll wx) (hq : 18 < ll.size) : RC M N o c wh wh1 m mk W (ll.setIfInBounds 18 true) (wx.setCell ⟨M.g, 2, none⟩ (.bool true)) := by
  refine ⟨h.chg.setCell (p := ⟨M.g, 2, none⟩) (by simp) _, ?_⟩
  rw [heap_setCell_same _ _ _ _ _ _ h.row, rowR_has, show (ll.setIfInBounds 18 true).getD 18 false = true by simp [hq], if_pos rfl, getD_set_ne false (by decide), getD_set_ne false (by decide)]
theorem RC.st2 (h : RC M N o c wh wh1 m mk W ll wx) (hq : 21 < ll.size) : RC M N o c wh wh1 m mk W (ll.setIfInBounds 21 true) (wx.setCell ⟨M.g, 3, none⟩ (.int .i64 wh1)) := by
  refine ⟨h.chg.setCell (p := ⟨M.g, 3, none⟩) (by simp) _, ?_⟩
  rw [heap_setCell_same _ _ _ _ _ _ h.row, rowR_wh, show (ll.setIfInBounds 21 true).getD 21 false = true by simp [hq], if_pos rfl, getD_set_ne false (by decide), getD_set_ne false (by decide)]
theorem RC.mlen (_h : RC M N o c wh wh1 m mk W ll wx) (h1 : m.length = 16) (h2 : mk.length = 16) : (if ll.getD 24 false = true then mk else m).length = 16 := by
  split
  · exact h2
  · exact h1
theorem RC.st3 (h : RC M N o c wh wh1 m mk W ll wx) (h1 : m.length = 16) (h2 : mk.length = 16) (hq : 24 < ll.size) : RC M N o c wh wh1 m mk W (ll.setIfInBounds 24 true) (wx.setCells M.g 4 (vals mk)) := by
  refine ⟨h.chg.setCells (by simp) _ _, ?_⟩
  rw [rowR_mask h.row (h.mlen h1 h2) h2, show (ll.setIfInBounds 24 true).getD 24 false = true by simp [hq], if_pos rfl, getD_set_ne false (by decide), getD_set_ne false (by decide)]
end
noncomputable def loadM9 (v : Value) : Sem Value := Instr.loadAt 34 v
theorem loadAtM9 (v : Value) : Instr.loadAt 34 v = loadM9 v := rfl
theorem loadM9_eq {w : World} {b o : Nat} {m : List Int} (hm : m.length = 16) (h : w.rangeAt b o (vals m)) : (loadM9 (.pointer (some ⟨b, o, none⟩))).run Try.prog w = .ok (.agg (vals m).toArray) w := by
  unfold loadM9
  exact run_loadAt_mid (P := Try.prog) w b o 34 (vals m) _ h Try.underlying34 rfl (by rw [vals_length, hm]; exact info16)
attribute [irreducible] loadM9
end Go.Proofs.Ytpeioogkbcejmaa.Slt
/- DERIVED. Layer 9's law: what the loop of SlotsPlays holds while an act is done. -/
namespace Go.Proofs.Ytpeioogkbcejmaa.Slt
open Go.RowKit Dsk
variable {w0 wr wx w' w : World} {pg : Nat} {K : DK} {M : MK} {D D' : DS} {x : X3} {N : Int} {q i : Nat} {ll : Array Bool} {v : Value}
theorem PS.later (h : PS w0 w pg K M D x) (hb : Below w.heap.size w w') : PS w0 w' pg K M D x := by
  obtain ⟨vl, vr, hp, hl⟩ := h
  refine ⟨vl, vr, hp.later hb, ?_⟩
  rcases hl with hl | ⟨J, I, S, e1, e2, hl⟩
  · exact .inl hl
  · exact .inr ⟨J, I, S, e1, e2, hl.later hb⟩
/-- until operation q comes nothing old changes; from then on the play stands. -/
structure R12 (w0 wr : World) (pg : Nat) (K : DK) (M : MK) (x : X3) (N : Int) (q : Nat) (ll : Array Bool) (wx : World) : Prop where
  bef : ll.getD q false = false → Below wr.heap.size wr wx
  aft : ll.getD q false = true → ∃ D, PS w0 wx pg K M D x ∧ D.writes ≤ N
theorem R12.start {n : Nat} : R12 w0 wr pg K M x N q (Array.replicate n false) wr.drew := by
  have hz : (Array.replicate n false).getD q false = false := by
    by_cases hq : q < n
    · simp [Array.getD, hq]
    · simp [Array.getD, hq]
  exact ⟨fun _ => (Below.refl _ _).drew, fun h => by rw [hz] at h; cases h⟩
theorem R12.same (h : R12 w0 wr pg K M x N q ll wx) (hi : i ≠ q) : R12 w0 wr pg K M x N q (ll.setIfInBounds i true) wx :=
  ⟨fun hl => h.bef (by rwa [getD_set_ne false hi] at hl), fun hl => h.aft (by rwa [getD_set_ne false hi] at hl)⟩
theorem R12.call (h : R12 w0 wr pg K M x N q ll wx) (hi : i ≠ q) (hb : Below wx.heap.size wx w') : R12 w0 wr pg K M x N q (ll.setIfInBounds i true) w' :=
  ⟨fun hl => (h.bef (by rwa [getD_set_ne false hi] at hl)).trans (hb.mono (h.bef (by rwa [getD_set_ne false hi] at hl)).size), fun hl => by
    obtain ⟨D, hp, hw⟩ := h.aft (by rwa [getD_set_ne false hi] at hl)
    exact ⟨D, hp.later hb, hw⟩⟩
theorem R12.done (_h : R12 w0 wr pg K M x N q ll wx) (hq : q < ll.size) (hp : ∃ D, PS w0 w' pg K M D x ∧ D.writes ≤ N) : R12 w0 wr pg K M x N q (ll.setIfInBounds q true) w' :=
  ⟨fun hl => by simp [hq] at hl, fun _ => hp⟩
theorem vals_inj {L L' : List Int} (h : vals L = vals L') : L = L' := by
  have : Function.Injective (Value.int .u8) := fun a b e => by cases e; rfl
  exact List.map_inj_right (f := Value.int .u8) (fun a b e => this e) |>.1 h
/-- a world's disk has its bytes. -/
theorem ps_data (h : PS w0 w pg K M D x) (h' : PS w0 w pg K M D' x) : D.data = D'.data := by
  obtain ⟨_, _, hp, _⟩ := h
  obtain ⟨_, _, hp', _⟩ := h'
  have e := hp.rd.body.symm.trans hp'.rd.body
  have e2 : (vals D.data).toArray = (vals D'.data).toArray := by injection e with e; injection e
  exact vals_inj (by simpa using congrArg Array.toList e2)
/-- a slice that reads as the disk's bytes. -/
def Y12 (w0 : World) (pg : Nat) (K : DK) (M : MK) (x : X3) (v : Value) (w : World) : Prop := ∃ D A c, PS w0 w pg K M D x ∧ v = .slice A D.data.length c ∧ Byt w A c D.data
theorem Y12.later (h : Y12 w0 pg K M x v w) (hb : Below w.heap.size w w') : Y12 w0 pg K M x v w' := by
  obtain ⟨D, A, c, hp, e, hB⟩ := h
  exact ⟨D, A, c, hp.later hb, e, hB.below hb (Nat.le_refl _)⟩
/-- the disk's bytes as a text. -/
def T12 (w0 : World) (pg : Nat) (K : DK) (M : MK) (x : X3) (v : Value) (w : World) : Prop := ∃ D, PS w0 w pg K M D x ∧ v = .string (strOfNums D.data)
theorem T12.later (h : T12 w0 pg K M x v w) (hb : Below w.heap.size w w') : T12 w0 pg K M x v w' := by
  obtain ⟨D, hp, e⟩ := h
  exact ⟨D, hp.later hb, e⟩
theorem infoAct : (Try.prog.info? 43).map (·.size) = some 20 := by kernel_rfl
theorem y12_own {B : Nat} (h : PS w0 w pg K M D x) (ho : w'.ownsRow B 5 1 v D.data.length (vals D.data)) (hb : Below w.heap.size w w') : Y12 w0 pg K M x v w' := by
  obtain ⟨A, c, e, hB⟩ := own_sl ho rfl
  exact ⟨D, A, c, h.later hb, e, hB⟩
theorem y12_ref (h : PS w0 w pg K M D x) : Y12 w0 pg K M x (.slice (some ⟨M.b, 0, none⟩) D.data.length D.data.length) w := by
  obtain ⟨vl, vr, hp, hl⟩ := h
  exact ⟨D, _, _, ⟨vl, vr, hp, hl⟩, rfl, Str.byt_rowT (l := D.data) hp.rd.body rfl⟩
end Go.Proofs.Ytpeioogkbcejmaa.Slt
/- DERIVED. Both logs behind both appends. -/
namespace Go.Proofs.Ytpeioogkbcejmaa.Slt
open Go.RowKit Dsk
/-- what an append of a text leaves of the numbers. -/
structure AppN (D : DS) (S : LS) (D' : DS) (S' : LS) : Prop where
  wr : D'.writes ≤ D.writes + 20
  len : D'.data.length = D.data.length
  fr : S'.from_ = S.from_
  se : S'.secs = S.secs
theorem appD_n {D : DS} {S : LS} {t : List Int} (ht : t.length ≤ 2000) (hfit : S.used ≤ S.secs) (hend : (S.from_ + S.secs) * 128 ≤ D.data.length) : AppN D S (appD D S t).1 (appD D S t).2.1 := by
  have hnop : ∀ e, AppN D S ((D, S, e) : DS × LS × Int).1 ((D, S, e) : DS × LS × Int).2.1 := fun e => ⟨by show D.writes ≤ D.writes + 20; omega, rfl, rfl, rfl⟩
  by_cases h1 : S.lost = true ∨ D.off = true
  · rw [show appD D S t = (D, S, 12) by unfold appD; rw [if_pos h1]]; exact hnop _
  · by_cases h2 : 262144 < t.length
    · rw [show appD D S t = (D, S, 3) by unfold appD; rw [if_neg h1, if_pos h2]]; exact hnop _
    · by_cases h3 : S.secs - S.used < tk t.length
      · rw [show appD D S t = (D, S, 7) by unfold appD; rw [if_neg h1, if_neg h2, if_pos h3]]; exact hnop _
      · have ho : D.off = false := by cases e : D.off; rfl; exact absurd (.inr e) h1
        rw [appD_go h1 h2 h3 rfl rfl]
        have hf := tk_fit t.length
        have hk : tk t.length ≤ 17 := by unfold tk; omega
        have hF : tk t.length ≤ firstK t.length (S.secs - S.used) ∧ firstK t.length (S.secs - S.used) ≤ tk t.length + 1 ∧ firstK t.length (S.secs - S.used) ≤ S.secs - S.used := by unfold firstK; omega
        have q := writ_q (D := D) (p := S.from_ + S.used) (k := firstK t.length (S.secs - S.used)) (t := t) ho (by omega) (by omega)
        refine ⟨Int.le_trans q.wr (by omega), q.len, ?_, ?_⟩
        · show (if _ then _ else _ : LS).from_ = _
          split <;> rfl
        · show (if _ then _ else _ : LS).secs = _
          split <;> rfl
theorem both_app {w0 w3 w4 w4b w5 : World} {pg : Nat} {K : DK} {M : MK} {D D' : DS} {x : X3} {vl vr : Value} {J J' I I' : LK} {S S' : LS} (hp : PD w0 w3 pg K M D x vl vr) (hl : PLog w0 w3 pg K M D J I S) (h1 : AppQ w3 w4 K J J' D' S') (hb : Below w4.heap.size w4 w4b) (h2 : RAppQ w4b w5 M I I' D' S') (hn : AppN D S D' S') :
    PD w0 w5 pg K M D' x vl vr ∧ PLog w0 w5 pg K M D' J' I' S' ∧ J'.g = J.g ∧ I'.g = I.g := by
  have hs4 := h1.chg.size
  have hs4b := hb.size
  have hs5 := h2.chg.size
  have hk := hp.klt.1
  have hm := hp.klt.2
  have hpl := hp.plt
  have hlow := hp.low.size
  -- blocks of the reference's side are none of the program's
  have hMK : ∀ q ∈ M.bl, q ∉ K.bl ++ J.bl := fun q hq hx => (List.mem_append.1 hx).elim (fun h => hp.km q h hq) (fun h => (hl.jb q (List.mem_append_left _ h)).1 hq)
  have hIK : ∀ q ∈ I.bl ++ I.tx, q ∉ K.bl ++ J.bl := fun q hq hx => (List.mem_append.1 hx).elim (fun h => (hl.ib q hq).1 h) (fun h => (hl.jb q (List.mem_append_left _ h)).2.1 hq)
  have hJold : ∀ q ∈ J'.bl ++ J'.tx, q ∈ J.bl ++ J.tx ∨ w3.heap.size ≤ q := fun q hq => by
    rcases List.mem_append.1 hq with hq | hq
    · exact (h1.bl q hq).imp (fun h => List.mem_append_left _ h) id
    · exact (h1.tx q hq).imp (fun h => List.mem_append_right _ h) id
  have hIold : ∀ q ∈ I'.bl ++ I'.tx, q ∈ I.bl ++ I.tx ∨ w4b.heap.size ≤ q := fun q hq => by
    rcases List.mem_append.1 hq with hq | hq
    · exact (h2.bl q hq).imp (fun h => List.mem_append_left _ h) id
    · exact (h2.tx q hq).imp (fun h => List.mem_append_right _ h) id
  have hJlt := lg_lt h1.lg
  -- the second append's blocks are none of the program's
  have hK2 : ∀ q ∈ K.bl, q ∉ M.bl ++ I.bl := fun q hq hx => (List.mem_append.1 hx).elim (fun h => hp.km q hq h) (fun h => (hl.ib q (List.mem_append_left _ h)).1 hq)
  have hJ2 : ∀ q ∈ J'.bl ++ J'.tx, q ∉ M.bl ++ I.bl := fun q hq hx => by
    rcases hJold q hq with h | h
    · exact (List.mem_append.1 hx).elim (fun h' => (hl.jb q h).1 h') (fun h' => (hl.jb q h).2.1 (List.mem_append_left _ h'))
    · rcases List.mem_append.1 hx with hx | hx
      · have := hm q hx; omega
      · have := (hl.ib q (List.mem_append_left _ hx)).2.2.2; omega
  have hrow4 := h1.chg.at hp.row (fun hx => (List.mem_append.1 hx).elim hp.kp (fun h => (hl.jb pg (List.mem_append_left _ h)).2.2.1 rfl))
  have hrow5 := h2.chg.at ((hb.block _ (Array.getElem?_eq_some_iff.1 hrow4).1).trans hrow4) (fun hx => (List.mem_append.1 hx).elim hp.mp (fun h => (hl.ib pg (List.mem_append_left _ h)).2.1 rfl))
  have hlow5 : Below w0.heap.size w0 w5 := by
    have a := h1.chg.below hp.low hlow (fun q hq => (List.mem_append.1 hq).elim (hp.kb q) (fun h => (hl.jb q (List.mem_append_left _ h)).2.2.2.1))
    exact h2.chg.below (a.trans (hb.mono a.size)) (by have := a.size; omega) (fun q hq => (List.mem_append.1 hq).elim (hp.mb q) (fun h => (hl.ib q (List.mem_append_left _ h)).2.2.1))
  refine ⟨⟨hrow5, (h1.dsk.later hb).chg h2.chg (hK2 K.g (by simp [DK.bl])) (hK2 K.h (by simp [DK.bl])), h2.rd, hp.km, hp.kp, hp.mp, hlow5, hp.kb, hp.mb, hp.pb⟩, ⟨lg_chg (h1.lg.later hb) h2.chg (fun q hq => hJ2 q (List.mem_append_left _ hq)) (fun q hq => hJ2 q (List.mem_append_right _ hq)), h2.rl, ?_, fun q hq => ⟨?_, ?_, ?_, ?_, ?_⟩, fun q hq => ⟨?_, ?_, ?_, ?_⟩⟩, h1.g, h2.g⟩
  · rw [hn.fr, hn.se, show D'.secs = D.secs by simp [DS.secs, hn.len]]
    exact hl.end_
  · exact fun hx => hJ2 q hq (List.mem_append_left _ hx)
  · intro hx
    have hq4 := hJlt q hq
    rcases hIold q hx with h | h
    · rcases hJold q hq with h' | h'
      · exact (hl.jb q h').2.1 h
      · have := (hl.ib q h).2.2.2; omega
    · omega
  · rcases hJold q hq with h | h
    · exact (hl.jb q h).2.2.1
    · omega
  · rcases hJold q hq with h | h
    · exact (hl.jb q h).2.2.2.1
    · omega
  · have := hJlt q hq; omega
  · intro hx
    rcases hIold q hq with h | h
    · exact (hl.ib q h).1 hx
    · have := hk q hx; omega
  · rcases hIold q hq with h | h
    · exact (hl.ib q h).2.1
    · omega
  · rcases hIold q hq with h | h
    · exact (hl.ib q h).2.2.1
    · omega
  · exact rl_lt h2.rl q hq
end Go.Proofs.Ytpeioogkbcejmaa.Slt
