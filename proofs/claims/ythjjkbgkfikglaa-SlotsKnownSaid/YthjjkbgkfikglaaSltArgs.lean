/- DERIVED. Parameters of layer 9's laws, opened: slices of texts, and Acts. -/
import Derived.Test.YthjjkbgkfikglaaLawBytes
import Derived.Test.YthjjkbgkfikglaaSltSame
namespace Go.Proofs.Ythjjkbgkfikglaa.Slt
open Go.ChangeShapes Go.WideShapes Go.ChangeAt Go.RowKit Dsk
structure Tp where
  A : Option Addr
  c : Nat
  M : List Int
def Tp.val (p : Tp) : Value := .slice p.A p.M.length p.c
/-- the texts lie where they should. -/
structure TpsAt (wb : World) (Ap : Option Addr) (ps : List Tp) : Prop where
  row : ∀ j (h : j < ps.length), ∃ g off, Ap = some ⟨g, off, none⟩ ∧ g < wb.heap.size ∧ wb.cell? ⟨g, off + j, none⟩ = some ps[j].val
  byt : ∀ j (h : j < ps.length), Byt wb ps[j].A ps[j].c ps[j].M ∧ InB ps[j].M
theorem TpsAt.tx {w : World} {A : Option Addr} {ps : List Tp} (h : TpsAt w A ps) : TxAt w A (ps.map (·.M)) := ⟨fun i hi => by
  rw [List.length_map] at hi
  obtain ⟨g, off, e, hg, hc⟩ := h.row i hi
  obtain ⟨hB, hin⟩ := h.byt i hi
  have e2 : (ps.map (·.M)).getD i [] = ps[i].M := by simp [List.getD_eq_getElem?_getD, hi]
  exact ⟨g, off, ps[i].A, ps[i].c, e, hg, by rw [e2]; exact hc, by rw [e2]; exact hB, by rw [e2]; exact hin⟩⟩
/-- one slice of bytes, read out of its cell. -/
theorem part_cells {H : Type} {enc : TypeId × Value → H} {W : World} {n : Nat} {cs : List Value} {y : DataW H × List MemPlace} (hf : DataW.trod enc Try.prog W 0 (fun _ => true) true n 33 cs = some y) : ∃ p : Tp, cs = [p.val] ∧ InB p.M ∧ Byt W p.A p.c p.M := by
  rcases open_ints Try.underlying33 Try.underlying5 cells5 hf with ⟨hcs, _⟩ | ⟨a, len, cap, zs, hcs, _, hl, hm, hz, _, hcell, hwz⟩
  · exact ⟨⟨none, 0, []⟩, hcs, fun j => by simp, Nat.le_refl _, fun _ => rfl, fun h => absurd h (Nat.lt_irrefl 0)⟩
  · simp only [if_true] at hz
    have hlen : (zs.take len).length = len := by simp; omega
    refine ⟨⟨some a, cap, zs.take len⟩, by rw [hcs]; simp only [Tp.val, hlen], ?_, ⟨by simp only [hlen]; exact hl, (fun h => by cases h), (fun h => ?_)⟩⟩
    · intro j
      by_cases hj : j < len
      · have hj' : j < zs.length := by omega
        have e : (zs.take len).getD j 0 = zs[j] := by simp [List.getD_eq_getElem?_getD, hj, hj']
        have := hwz zs[j] (List.getElem_mem hj')
        have h2 : 0 ≤ zs[j] ∧ zs[j] ≤ 255 := by simpa [Lit.wf, IntKind.bits, IntKind.signed, IntKind.min, IntKind.max] using this
        show 0 ≤ (zs.take len).getD j 0 ∧ (zs.take len).getD j 0 < 256
        rw [e]
        omega
      · show 0 ≤ (zs.take len).getD j 0 ∧ (zs.take len).getD j 0 < 256
        rw [List.getD_eq_getElem?_getD, List.getElem?_eq_none (by rw [hlen]; exact Nat.le_of_not_lt hj)]; simp
    · simp only [hlen] at h
      obtain ⟨b, off, spot⟩ := a
      have hspot : spot = none := by simpa [Addr.add] using World.cell?_spot (hcell 0 (by omega))
      subst hspot
      refine ⟨b, off, rfl, ?_, fun j hj => ?_⟩
      · have := World.block_lt_of_cell? W _ (hcell 0 (by omega))
        simpa [Addr.add] using this
      · simp only [hlen] at hj
        rw [← Addr.add_mid, hcell j (by omega)]
        simp [List.getD_eq_getElem?_getD, hj]
theorem parts_list {H : Type} {enc : TypeId × Value → H} {W : World} {n : Nat} {a : Addr} : ∀ (len : Nat) (elems : List (DataW H × List MemPlace)), elems.length = len →
    (∀ i, i < len → (W.cells? 0 (a.add (i * 1)) 1).bind (DataW.trod enc Try.prog W 0 (fun _ => true) true n 33) = elems[i]?) →
    ∃ xs : List Tp, xs.length = len ∧ (∀ x ∈ xs, InB x.M ∧ Byt W x.A x.c x.M) ∧ ∀ i x, xs[i]? = some x → W.cells? 0 (a.add (i * 1)) 1 = some [x.val] := by
  intro len
  induction len with
  | zero => exact fun _ _ _ => ⟨[], rfl, (fun _ h => by cases h), (fun i x h => by simp at h)⟩
  | succ m ih =>
    intro elems hl h
    obtain ⟨xs, hxl, hok, hx⟩ := ih (elems.take m) (by simp; omega) (fun i hi => by rw [h i (by omega), List.getElem?_take, if_pos hi])
    have hm := h m (by omega)
    rw [List.getElem?_eq_getElem (by omega : m < elems.length)] at hm
    obtain ⟨cs, hcs, htr⟩ := Option.bind_eq_some_iff.1 hm
    obtain ⟨x, rfl, ok⟩ := part_cells htr
    refine ⟨xs ++ [x], by simp [hxl], ?_, ?_⟩
    · intro y hy
      rcases List.mem_append.1 hy with hy | hy
      · exact hok y hy
      · obtain rfl := List.mem_singleton.1 hy
        exact ok
    · intro i y hy
      by_cases hi : i < m
      · rw [List.getElem?_append_left (by omega)] at hy
        exact hx i y hy
      · have hlen := (List.getElem?_eq_some_iff.1 hy).1
        simp only [List.length_append, List.length_singleton] at hlen
        obtain rfl : i = m := by omega
        rw [List.getElem?_append_right (by omega), hxl, Nat.sub_self] at hy
        obtain rfl := Option.some.inj hy
        exact hcs
theorem cellsSl : Try.prog.cellsOf 33 = 1 := by kernel_rfl
/-- a parameter [][]byte. -/
theorem open_parts {H : Type} {enc : TypeId × Value → H} {W : World} {base : Nat} {v : Value} {d : DataW H} {p : List MemPlace} (hv : Value.okWide Try.prog W .any base 46 v)
    (h : DataW.Trod enc Try.prog W 0 (fun _ => true) true 46 v d p) : ∃ (A : Option Addr) (c : Nat) (ps : List Tp), v = .slice A ps.length c ∧ TpsAt W A ps ∧ ps.length ≤ c ∧ (A = none → c = 0) ∧ ps.length ≤ maxLen := by
  obtain ⟨a0, len, cap, rfl⟩ := okWide_slice Try.underlying46 hv
  obtain ⟨fuel, hf⟩ := h
  rcases DataW.trod_slice Try.underlying46 hf with ⟨hcs, _⟩ | ⟨a, len', cap', elems, rest, n, _, hcs, _, _, hl, hm, hz, hel, _, _⟩
  · simp [Value.cells] at hcs
    obtain ⟨rfl, rfl, rfl⟩ := hcs
    exact ⟨none, 0, [], rfl, ⟨fun j h => absurd h (Nat.not_lt_zero _), fun j h => absurd h (Nat.not_lt_zero _)⟩, Nat.le_refl _, fun _ => rfl, Nat.zero_le _⟩
  · simp [Value.cells] at hcs
    obtain ⟨rfl, rfl, rfl⟩ := hcs
    rw [cellsSl] at hel
    obtain ⟨xs, hxl, hok, hx⟩ := parts_list len elems hz hel
    refine ⟨some a, cap, xs, by rw [hxl], ⟨fun j hj => ?_, fun j hj => ⟨(hok _ (List.getElem_mem hj)).2, (hok _ (List.getElem_mem hj)).1⟩⟩, by rw [hxl]; exact hl, (fun h => by cases h), by rw [hxl]; omega⟩
    have k0 := (World.cells?_some (hx j xs[j] (List.getElem?_eq_getElem hj))).2.2 0 (by omega)
    obtain ⟨b, off, spot⟩ := a
    have k1 : W.cell? ((⟨b, off, spot⟩ : Addr).add (j * 1)) = some xs[j].val := by
      have e : ((⟨b, off, spot⟩ : Addr).add (j * 1)).add 0 = (⟨b, off, spot⟩ : Addr).add (j * 1) := by simp [Addr.add]
      rw [e] at k0
      simpa using k0
    have k00 := (World.cells?_some (hx 0 xs[0] (List.getElem?_eq_getElem (by omega)))).2.2 0 (by omega)
    have hspot : spot = none := by simpa [Addr.add] using World.cell?_spot k00
    subst hspot
    rw [Addr.add_mid, Nat.mul_one] at k1
    exact ⟨b, off, rfl, by have := World.block_lt_of_cell? W _ k1; simpa using this, k1⟩
theorem wfI {z : Int} (h : (Lit.int .i64 z).wf = true) : -9223372036854775808 ≤ z ∧ z ≤ 9223372036854775807 := by simpa [Lit.wf, IntKind.bits, IntKind.signed, IntKind.min, IntKind.max] using h
/-- an Act of layer 9. -/
structure Aw where
  what : Int
  whole : Int
  at_ : Int
  mask : List Int
  A : Option Addr
  cap : Nat
  L : List Int
def Aw.c (x : Aw) : Array Value := (Value.int .i64 x.what :: Value.int .i64 x.whole :: Value.int .i64 x.at_ :: (vals x.mask ++ [Value.slice x.A x.L.length x.cap])).toArray
theorem cellsAct : Try.prog.cellsOf 43 = 20 := by kernel_rfl
theorem cellsInt : Try.prog.cellsOf 3 = 1 := by kernel_rfl
theorem cellsM : Try.prog.cellsOf 34 = 16 := by kernel_rfl
theorem arrMask : WideMaps.ArrKey Try.prog 34 5 16 := ⟨by kernel_rfl, by kernel_rfl, by kernel_rfl, by kernel_rfl⟩
structure Aw.Ok (x : Aw) : Prop where
  what : -9223372036854775808 ≤ x.what ∧ x.what ≤ 9223372036854775807
  whole : -9223372036854775808 ≤ x.whole ∧ x.whole ≤ 9223372036854775807
  at_ : -9223372036854775808 ≤ x.at_ ∧ x.at_ ≤ 9223372036854775807
  inb : InB x.L
  len : x.L.length ≤ maxLen
  mlen : x.mask.length = 16
  minb : InB x.mask
/-- a slice of bytes, read out of its cell. -/
theorem bytes_cell {H : Type} {enc : TypeId × Value → H} {W : World} {fuel : Nat} {cs : List Value} {y : DataW H × List MemPlace} (hf : DataW.trod enc Try.prog W 0 (fun _ => true) true fuel 33 cs = some y) :
    ∃ (A : Option Addr) (c : Nat) (L : List Int), cs = [.slice A L.length c] ∧ InB L ∧ Byt W A c L ∧ L.length ≤ maxLen := by
  rcases open_ints Try.underlying33 Try.underlying5 cells5 hf with ⟨hcs, _⟩ | ⟨a, len, cap, zs, hcs, _, hl, hm, hz, _, hcell, hwz⟩
  · exact ⟨none, 0, [], hcs, fun j => by simp, ⟨Nat.le_refl _, fun _ => rfl, fun h => absurd h (Nat.lt_irrefl 0)⟩, Nat.zero_le _⟩
  · simp only [if_true] at hz
    have hlen : (zs.take len).length = len := by simp; omega
    refine ⟨some a, cap, zs.take len, by rw [hlen]; exact hcs, ?_, ⟨by rw [hlen]; exact hl, (fun h => by cases h), (fun h => ?_)⟩, by rw [hlen]; omega⟩
    · intro j
      by_cases hj : j < len
      · have hj' : j < zs.length := by omega
        have e : (zs.take len).getD j 0 = zs[j] := by simp [List.getD_eq_getElem?_getD, hj, hj']
        have := hwz zs[j] (List.getElem_mem hj')
        have h2 : 0 ≤ zs[j] ∧ zs[j] ≤ 255 := by simpa [Lit.wf, IntKind.bits, IntKind.signed, IntKind.min, IntKind.max] using this
        rw [e]
        omega
      · rw [List.getD_eq_getElem?_getD, List.getElem?_eq_none (by rw [hlen]; exact Nat.le_of_not_lt hj)]; simp
    · rw [hlen] at h
      obtain ⟨b, off, spot⟩ := a
      have hspot : spot = none := by simpa [Addr.add] using World.cell?_spot (hcell 0 (by omega))
      subst hspot
      refine ⟨b, off, rfl, ?_, fun j hj => ?_⟩
      · have := World.block_lt_of_cell? W _ (hcell 0 (by omega))
        simpa [Addr.add] using this
      · rw [hlen] at hj
        rw [← Addr.add_mid, hcell j (by omega)]
        simp [List.getD_eq_getElem?_getD, hj]
set_option maxRecDepth 100000 in
theorem act_cells {H : Type} {enc : TypeId × Value → H} {W : World} {fuel : Nat} {cs : List Value} {y : DataW H × List MemPlace} (hl : cs.length = 20)
    (hf : DataW.trod enc Try.prog W 0 (fun _ => true) true fuel 43 cs = some y) : ∃ x : Aw, cs = x.c.toList ∧ x.Ok ∧ Byt W x.A x.cap x.L := by
  obtain ⟨xs, n, _, _, _, hlen, hff⟩ := DataW.trod_struct Try.underlying43 hf
  obtain ⟨y0, y1, y2, y3, y4, rfl⟩ : ∃ y0 y1 y2 y3 y4, xs = [y0, y1, y2, y3, y4] := by
    match xs, hlen with
    | [a, b, c, d, e], _ => exact ⟨a, b, c, d, e, rfl⟩
  have q0 : DataW.trod enc Try.prog W 0 (fun _ => true) true n 3 (List.take (Try.prog.cellsOf 3) (List.drop 0 cs)) = some y0 := hff 0 _ rfl
  have q1 : DataW.trod enc Try.prog W 0 (fun _ => true) true n 3 (List.take (Try.prog.cellsOf 3) (List.drop 1 cs)) = some y1 := hff 1 _ rfl
  have q2 : DataW.trod enc Try.prog W 0 (fun _ => true) true n 3 (List.take (Try.prog.cellsOf 3) (List.drop 2 cs)) = some y2 := hff 2 _ rfl
  have q3 : DataW.trod enc Try.prog W 0 (fun _ => true) true n 34 (List.take (Try.prog.cellsOf 34) (List.drop 3 cs)) = some y3 := hff 3 _ rfl
  have q4 : DataW.trod enc Try.prog W 0 (fun _ => true) true n 33 (List.take (Try.prog.cellsOf 33) (List.drop 19 cs)) = some y4 := hff 4 _ rfl
  rw [cellsInt] at q0 q1 q2
  rw [cellsM] at q3
  rw [cellsSl] at q4
  obtain ⟨a, ha, _, haw⟩ := DataW.trod_int Try.underlying3 q0
  obtain ⟨b, hb, _, hbw⟩ := DataW.trod_int Try.underlying3 q1
  obtain ⟨c, hc, _, hcw⟩ := DataW.trod_int Try.underlying3 q2
  obtain ⟨m, hm, hm1, hm2⟩ := trod_arr arrMask Try.underlying5 (xs := ((cs.drop 3).take 16).toArray) (by simp; omega) (d := y3.1) (p := y3.2) ⟨n, q3⟩
  obtain ⟨A, cap, L, hL, hin, hbyt, hmax⟩ := bytes_cell q4
  have hm' : (cs.drop 3).take 16 = m.map (Value.int .u8) := by simpa using congrArg Array.toList hm
  have e : cs = cs.take 3 ++ ((cs.drop 3).take 16 ++ cs.drop 19) := by
    rw [show cs.drop 19 = (cs.drop 3).drop 16 by rw [List.drop_drop], List.take_append_drop, List.take_append_drop]
  have e3 : cs.take 3 = [.int .i64 a, .int .i64 b, .int .i64 c] := by
    match cs, hl with
    | u0 :: u1 :: u2 :: r, hl =>
      simp only [List.drop_zero, List.take_succ_cons, List.take_zero, List.drop_succ_cons, List.cons.injEq, and_true] at ha hb hc
      rw [ha, hb, hc]
      rfl
  have e4 : cs.drop 19 = [.slice A L.length cap] := by
    rw [← hL, List.take_of_length_le (by rw [List.length_drop]; omega)]
  refine ⟨⟨a, b, c, m, A, cap, L⟩, ?_, ⟨wfI haw, wfI hbw, wfI hcw, hin, hmax, hm1, inB_wf hm1 hm2⟩, hbyt⟩
  rw [e, e3, e4, hm']
  rfl
/-- the slice (A, xs.length, c) reads as the Acts xs. -/
def Acts (w : World) (A : Option Addr) (c : Nat) (xs : List Aw) : Prop :=
  xs.length ≤ c ∧ (A = none → c = 0) ∧ (0 < xs.length → ∃ b off, A = some ⟨b, off, none⟩ ∧ b < w.heap.size ∧ ∀ i x, xs[i]? = some x → w.rangeAt b (off + i * 20) x.c.toList)
theorem Acts.below {w w' : World} {B c : Nat} {A : Option Addr} {xs : List Aw} (h : Acts w A c xs) (hb : Below B w w') (hB : w.heap.size ≤ B) : Acts w' A c xs :=
  ⟨h.1, h.2.1, fun hl => by
    obtain ⟨b, off, hA, hg, hc⟩ := h.2.2 hl
    exact ⟨b, off, hA, Nat.lt_of_lt_of_le hg hb.size, fun i x hx j v hv => (hb.cell (p := ⟨b, off + i * 20 + j, none⟩) (Nat.lt_of_lt_of_le hg hB)).trans (hc i x hx j v hv)⟩⟩
theorem acts_list {H : Type} {enc : TypeId × Value → H} {W : World} {n : Nat} {a : Addr} : ∀ (len : Nat) (elems : List (DataW H × List MemPlace)), elems.length = len →
    (∀ i, i < len → (W.cells? 0 (a.add (i * 20)) 20).bind (DataW.trod enc Try.prog W 0 (fun _ => true) true n 43) = elems[i]?) →
    ∃ xs : List Aw, xs.length = len ∧ (∀ x ∈ xs, x.Ok ∧ Byt W x.A x.cap x.L) ∧ ∀ i x, xs[i]? = some x → W.cells? 0 (a.add (i * 20)) 20 = some x.c.toList := by
  intro len
  induction len with
  | zero => exact fun _ _ _ => ⟨[], rfl, (fun _ h => by cases h), (fun i x h => by simp at h)⟩
  | succ m ih =>
    intro elems hl h
    obtain ⟨xs, hxl, hok, hx⟩ := ih (elems.take m) (by simp; omega) (fun i hi => by rw [h i (by omega), List.getElem?_take, if_pos hi])
    have hm := h m (by omega)
    rw [List.getElem?_eq_getElem (by omega : m < elems.length)] at hm
    obtain ⟨cs, hcs, htr⟩ := Option.bind_eq_some_iff.1 hm
    obtain ⟨x, rfl, ok⟩ := act_cells (World.cells?_some hcs).2.1 htr
    refine ⟨xs ++ [x], by simp [hxl], ?_, ?_⟩
    · intro y hy
      rcases List.mem_append.1 hy with hy | hy
      · exact hok y hy
      · obtain rfl := List.mem_singleton.1 hy
        exact ok
    · intro i y hy
      by_cases hi : i < m
      · rw [List.getElem?_append_left (by omega)] at hy
        exact hx i y hy
      · have hlen := (List.getElem?_eq_some_iff.1 hy).1
        simp only [List.length_append, List.length_singleton] at hlen
        obtain rfl : i = m := by omega
        rw [List.getElem?_append_right (by omega), hxl, Nat.sub_self] at hy
        obtain rfl := Option.some.inj hy
        exact hcs
/-- a parameter []Act. -/
theorem open_acts {H : Type} {enc : TypeId × Value → H} {W : World} {base : Nat} {v : Value} {d : DataW H} {p : List MemPlace} (hv : Value.okWide Try.prog W .any base 24 v)
    (h : DataW.Trod enc Try.prog W 0 (fun _ => true) true 24 v d p) : ∃ (A : Option Addr) (c : Nat) (xs : List Aw), v = .slice A xs.length c ∧ (∀ x ∈ xs, x.Ok ∧ Byt W x.A x.cap x.L) ∧ Acts W A c xs ∧ xs.length ≤ maxLen := by
  obtain ⟨a0, len, cap, rfl⟩ := okWide_slice Try.underlying24 hv
  obtain ⟨fuel, hf⟩ := h
  rcases DataW.trod_slice Try.underlying24 hf with ⟨hcs, _⟩ | ⟨a, len', cap', elems, rest, n, _, hcs, _, _, hl, hm, hz, hel, _, _⟩
  · simp [Value.cells] at hcs
    obtain ⟨rfl, rfl, rfl⟩ := hcs
    exact ⟨none, 0, [], rfl, (fun _ h => by cases h), ⟨Nat.le_refl _, fun _ => rfl, fun h => absurd h (Nat.lt_irrefl 0)⟩, Nat.zero_le _⟩
  · simp [Value.cells] at hcs
    obtain ⟨rfl, rfl, rfl⟩ := hcs
    rw [cellsAct] at hel
    obtain ⟨xs, hxl, hok, hx⟩ := acts_list len elems hz hel
    refine ⟨some a, cap, xs, by rw [hxl], hok, ⟨by rw [hxl]; exact hl, (fun h => by cases h), (fun h => ?_)⟩, by rw [hxl]; omega⟩
    obtain ⟨x0, h0⟩ : ∃ x0, xs[0]? = some x0 := ⟨_, List.getElem?_eq_getElem h⟩
    have k0 := (World.cells?_some (hx 0 x0 h0)).2.2 0 (by omega)
    rw [show x0.c.toList[0]? = some (.int .i64 x0.what) from rfl] at k0
    obtain ⟨b, off, spot⟩ := a
    have hspot : spot = none := by simpa [Addr.add] using World.cell?_spot k0
    subst hspot
    refine ⟨b, off, rfl, ?_, fun i x hi j v hv => ?_⟩
    · have := World.block_lt_of_cell? W _ k0
      simpa [Addr.add] using this
    · obtain ⟨_, hlen, hc⟩ := World.cells?_some (hx i x hi)
      have hj : j < 20 := by rw [← hlen]; exact (List.getElem?_eq_some_iff.1 hv).1
      have := hc j hj
      rw [hv] at this
      rw [Addr.add_mid, Addr.add_mid] at this
      exact this
/-- a parameter that is a Disk of the laws: three numbers. -/
theorem cellsDk : Try.prog.cellsOf 23 = 3 := by kernel_rfl
theorem open_disk {H : Type} {enc : TypeId × Value → H} {W : World} {base : Nat} {v : Value} {d : DataW H} {p : List MemPlace} (hv : Value.okWide Try.prog W .any base 23 v)
    (h : DataW.Trod enc Try.prog W 0 (fun _ => true) true 23 v d p) : ∃ a b c : Int, v = .agg #[.int .i64 a, .int .i64 b, .int .i64 c] ∧ (-9223372036854775808 ≤ a ∧ a ≤ 9223372036854775807) ∧ (-9223372036854775808 ≤ b ∧ b ≤ 9223372036854775807) ∧ (-9223372036854775808 ≤ c ∧ c ≤ 9223372036854775807) := by
  obtain ⟨cs, rfl, hsz⟩ := okWide_struct Try.underlying23 hv
  rw [cellsDk] at hsz
  obtain ⟨fuel, hf⟩ := h
  obtain ⟨xs, n, _, _, _, hlen, hff⟩ := DataW.trod_struct Try.underlying23 hf
  obtain ⟨y0, y1, y2, rfl⟩ : ∃ y0 y1 y2, xs = [y0, y1, y2] := by
    match xs, hlen with
    | [a, b, c], _ => exact ⟨a, b, c, rfl⟩
  obtain ⟨u0, u1, u2, rfl⟩ : ∃ u0 u1 u2, cs = #[u0, u1, u2] := by
    match cs, hsz with
    | ⟨[a, b, c]⟩, _ => exact ⟨a, b, c, rfl⟩
  have q0 : DataW.trod enc Try.prog W 0 (fun _ => true) true n 3 (List.take (Try.prog.cellsOf 3) (List.drop 0 [u0, u1, u2])) = some y0 := hff 0 _ rfl
  have q1 : DataW.trod enc Try.prog W 0 (fun _ => true) true n 3 (List.take (Try.prog.cellsOf 3) (List.drop 1 [u0, u1, u2])) = some y1 := hff 1 _ rfl
  have q2 : DataW.trod enc Try.prog W 0 (fun _ => true) true n 3 (List.take (Try.prog.cellsOf 3) (List.drop 2 [u0, u1, u2])) = some y2 := hff 2 _ rfl
  rw [cellsInt] at q0 q1 q2
  obtain ⟨a, ha, _, haw⟩ := DataW.trod_int Try.underlying3 q0
  obtain ⟨b, hb, _, hbw⟩ := DataW.trod_int Try.underlying3 q1
  obtain ⟨c, hc, _, hcw⟩ := DataW.trod_int Try.underlying3 q2
  simp only [List.drop_zero, List.take_succ_cons, List.take_zero, List.drop_succ_cons, List.cons.injEq, and_true] at ha hb hc
  subst ha hb hc
  exact ⟨a, b, c, rfl, wfI haw, wfI hbw, wfI hcw⟩
end Go.Proofs.Ythjjkbgkfikglaa.Slt
