/- DERIVED. Texts of ours, merged: XSltSame XSgmArgs XSgmParts XRef9Same. -/
import Derived.Test.YtkjhoanlkkcfkaaGreatDoorMseg18
import Derived.Test.YtkjhoanlkkcfkaaGreatDoorMseg14
import Derived.Test.YtkjhoanlkkcfkaaGreatDoorMseg13
import Derived.BigQuiet
/- DERIVED. The contract of layer 9's same: are two lists of texts the same? -/
namespace Go.Proofs.YtkjhoanlkkcfkaaGreatDoor.Slt
open Go.RowKit Dsk
/-- a slice of slices that read as the texts. -/
structure TxAt (w : World) (A : Option Addr) (L : List (List Int)) : Prop where
  at_ : ∀ i, i < L.length → ∃ g off B c, A = some ⟨g, off, none⟩ ∧ g < w.heap.size ∧ w.cell? ⟨g, off + i, none⟩ = some (.slice B (L.getD i []).length c) ∧ Byt w B c (L.getD i []) ∧ InB (L.getD i [])
theorem TxAt.later {w w' : World} {A : Option Addr} {L : List (List Int)} (h : TxAt w A L) (hb : Below w.heap.size w w') : TxAt w' A L := ⟨fun i hi => by
  obtain ⟨g, off, B, c, e, hg, hc, hB, hin⟩ := h.at_ i hi
  exact ⟨g, off, B, c, e, Nat.lt_of_lt_of_le hg hb.size, (hb.cell (p := ⟨g, off + i, none⟩) hg).trans hc, hB.below hb (Nat.le_refl _), hin⟩⟩
end Go.Proofs.YtkjhoanlkkcfkaaGreatDoor.Slt
/- DERIVED. Parameters of layer 9's laws, opened: slices of texts, and Acts. -/
namespace Go.Proofs.YtkjhoanlkkcfkaaGreatDoor.Slt
open Go.ChangeShapes Go.WideShapes Go.ChangeAt Go.RowKit Dsk
structure Tp where
  A : Option Addr
  c : Nat
  M : List Int
def Tp.val (p : Tp) : Value := .slice p.A p.M.length p.c
/-- the texts lie where they should. -/
structure TpsAt (wb : World) (Ap : Option Addr) (ps : List Tp) : Prop where
  row : ∀ j (h : j < ps.length), ∃ g off, Ap = some ⟨g, off, none⟩ ∧ g < wb.heap.size ∧ wb.cell? ⟨g, off + j, none⟩ = some ps[j].val
  byt : ∀ j (h : j < ps.length), Byt wb ps[j].A ps[j].c ps[j].M ∧ InB ps[j].M
theorem TpsAt.tx {w : World} {A : Option Addr} {ps : List Tp} (h : TpsAt w A ps) : TxAt w A (ps.map (·.M)) := ⟨fun i hi => by
  rw [List.length_map] at hi
  obtain ⟨g, off, e, hg, hc⟩ := h.row i hi
  obtain ⟨hB, hin⟩ := h.byt i hi
  have e2 : (ps.map (·.M)).getD i [] = ps[i].M := by simp [List.getD_eq_getElem?_getD, hi]
  exact ⟨g, off, ps[i].A, ps[i].c, e, hg, by rw [e2]; exact hc, by rw [e2]; exact hB, by rw [e2]; exact hin⟩⟩
theorem cellsSl : Tryz.prog.cellsOf 38 = 1 := by kernel_rfl
end Go.Proofs.YtkjhoanlkkcfkaaGreatDoor.Slt
namespace Go.Proofs.YtkjhoanlkkcfkaaGreatDoor.Sgm
open Go.ChangeShapes Go.WideShapes Go.ChangeAt Go.RowKit Dsk Slt
theorem wf8 {z : Int} (h : (Lit.int .u8 z).wf = true) : 0 ≤ z ∧ z ≤ 255 := by simpa [Lit.wf, IntKind.bits, IntKind.signed, IntKind.min, IntKind.max] using h
/-- an Act of layer 12. -/
structure Ac where
  what : Int
  A : Option Addr
  cap : Nat
  L : List Int
  whole : Int
  mask : List Int
  at_ : Int
def Ac.c (x : Ac) : Array Value := (Value.int .u8 x.what :: Value.slice x.A x.L.length x.cap :: Value.int .u8 x.whole :: (vals x.mask ++ [Value.int .u32 x.at_])).toArray
theorem cellsU8 : Tryz.prog.cellsOf 5 = 1 := by kernel_rfl
theorem cellsInt : Tryz.prog.cellsOf 3 = 1 := by kernel_rfl
theorem cellsU64 : Tryz.prog.cellsOf 25 = 1 := by kernel_rfl
theorem cellsStr : Tryz.prog.cellsOf 9 = 1 := by kernel_rfl
theorem cellsLab : Tryz.prog.cellsOf 27 = 2 := by kernel_rfl
theorem cellsWh : Tryz.prog.cellsOf 29 = 4 := by kernel_rfl
structure Ac.Ok (x : Ac) : Prop where
  what : 0 ≤ x.what ∧ x.what ≤ 255
  whole : 0 ≤ x.whole ∧ x.whole ≤ 255
  at_ : 0 ≤ x.at_ ∧ x.at_ ≤ 4294967295
  inb : InB x.L
  len : x.L.length ≤ maxLen
  mlen : x.mask.length = 16
  minb : InB x.mask
/-- a slice of bytes, read out of its cell. -/
theorem bytes_cell {H : Type} {enc : TypeId × Value → H} {W : World} {fuel : Nat} {cs : List Value} {y : DataW H × List MemPlace} (hf : DataW.trod enc Tryz.prog W 0 (fun _ => true) true fuel 38 cs = some y) :
    ∃ (A : Option Addr) (c : Nat) (L : List Int), cs = [.slice A L.length c] ∧ InB L ∧ Byt W A c L ∧ L.length ≤ maxLen := by
  rcases open_ints Tryz.underlying38 Tryz.underlying5 cells5 hf with ⟨hcs, _⟩ | ⟨a, len, cap, zs, hcs, _, hl, hm, hz, _, hcell, hwz⟩
  · exact ⟨none, 0, [], hcs, fun j => by simp, ⟨Nat.le_refl _, fun _ => rfl, fun h => absurd h (Nat.lt_irrefl 0)⟩, Nat.zero_le _⟩
  · simp only [if_true] at hz
    have hlen : (zs.take len).length = len := by simp; omega
    refine ⟨some a, cap, zs.take len, by rw [hlen]; exact hcs, ?_, ⟨by rw [hlen]; exact hl, (fun h => by cases h), (fun h => ?_)⟩, by rw [hlen]; omega⟩
    · intro j
      by_cases hj : j < len
      · have hj' : j < zs.length := by omega
        have e : (zs.take len).getD j 0 = zs[j] := by simp [List.getD_eq_getElem?_getD, hj, hj']
        have := hwz zs[j] (List.getElem_mem hj')
        have h2 : 0 ≤ zs[j] ∧ zs[j] ≤ 255 := by simpa [Lit.wf, IntKind.bits, IntKind.signed, IntKind.min, IntKind.max] using this
        rw [e]
        omega
      · rw [List.getD_eq_getElem?_getD, List.getElem?_eq_none (by rw [hlen]; exact Nat.le_of_not_lt hj)]; simp
    · rw [hlen] at h
      obtain ⟨b, off, spot⟩ := a
      have hspot : spot = none := by simpa [Addr.add] using World.cell?_spot (hcell 0 (by omega))
      subst hspot
      refine ⟨b, off, rfl, ?_, fun j hj => ?_⟩
      · have := World.block_lt_of_cell? W _ (hcell 0 (by omega))
        simpa [Addr.add] using this
      · rw [hlen] at hj
        rw [← Addr.add_mid, hcell j (by omega)]
        simp [List.getD_eq_getElem?_getD, hj]
/-- the slice (A, xs.length, c) reads as the Acts xs. -/
def Acts (w : World) (A : Option Addr) (c : Nat) (xs : List Ac) : Prop :=
  xs.length ≤ c ∧ (A = none → c = 0) ∧ (0 < xs.length → ∃ b off, A = some ⟨b, off, none⟩ ∧ b < w.heap.size ∧ ∀ i x, xs[i]? = some x → w.rangeAt b (off + i * 20) x.c.toList)
theorem Acts.below {w w' : World} {B c : Nat} {A : Option Addr} {xs : List Ac} (h : Acts w A c xs) (hb : Below B w w') (hB : w.heap.size ≤ B) : Acts w' A c xs :=
  ⟨h.1, h.2.1, fun hl => by
    obtain ⟨b, off, hA, hg, hc⟩ := h.2.2 hl
    exact ⟨b, off, hA, Nat.lt_of_lt_of_le hg hb.size, fun i x hx j v hv => (hb.cell (p := ⟨b, off + i * 20 + j, none⟩) (Nat.lt_of_lt_of_le hg hB)).trans (hc i x hx j v hv)⟩⟩
set_option maxRecDepth 100000 in
/-- a parameter that is a Where. -/
theorem open_where {H : Type} {enc : TypeId × Value → H} {W : World} {base : Nat} {v : Value} {d : DataW H} {p : List MemPlace} (hv : Value.okWide Tryz.prog W .any base 29 v)
    (h : DataW.Trod enc Tryz.prog W 0 (fun _ => true) true 29 v d p) : ∃ (s : ByteArray) (lv : Int) (cp : Nat) (sc : Nat), v = .agg #[.string s, .int .i64 lv, .int .u64 (cp : Nat), .int .u8 (sc : Nat)] ∧ s.size ≤ 9223372036854775807 ∧ cp < 18446744073709551616 ∧ sc < 256 := by
  obtain ⟨cs, rfl, hsz⟩ := okWide_struct Tryz.underlying29 hv
  rw [cellsWh] at hsz
  obtain ⟨fuel, hf⟩ := h
  obtain ⟨xs, n, _, _, _, hlen, hff⟩ := DataW.trod_struct Tryz.underlying29 hf
  obtain ⟨y0, y1, y2, rfl⟩ : ∃ y0 y1 y2, xs = [y0, y1, y2] := by
    match xs, hlen with
    | [a, b, c], _ => exact ⟨a, b, c, rfl⟩
  obtain ⟨u0, u1, u2, u3, rfl⟩ : ∃ u0 u1 u2 u3, cs = #[u0, u1, u2, u3] := by
    match cs, hsz with
    | ⟨[a, b, c, d]⟩, _ => exact ⟨a, b, c, d, rfl⟩
  have q0 : DataW.trod enc Tryz.prog W 0 (fun _ => true) true n 9 (List.take (Tryz.prog.cellsOf 9) (List.drop 0 [u0, u1, u2, u3])) = some y0 := hff 0 _ rfl
  have q1 : DataW.trod enc Tryz.prog W 0 (fun _ => true) true n 27 (List.take (Tryz.prog.cellsOf 27) (List.drop 1 [u0, u1, u2, u3])) = some y1 := hff 1 _ rfl
  have q2 : DataW.trod enc Tryz.prog W 0 (fun _ => true) true n 5 (List.take (Tryz.prog.cellsOf 5) (List.drop 3 [u0, u1, u2, u3])) = some y2 := hff 2 _ rfl
  rw [cellsStr] at q0
  rw [cellsLab] at q1
  rw [cellsU8] at q2
  obtain ⟨s, hs, _, hsl⟩ := DataW.trod_string Tryz.underlying9 q0
  obtain ⟨ys, n2, _, _, _, hlen2, hff2⟩ := DataW.trod_struct Tryz.underlying27 q1
  obtain ⟨z0, z1, rfl⟩ : ∃ z0 z1, ys = [z0, z1] := by
    match ys, hlen2 with
    | [a, b], _ => exact ⟨a, b, rfl⟩
  have r0 : DataW.trod enc Tryz.prog W 0 (fun _ => true) true n2 3 (List.take (Tryz.prog.cellsOf 3) (List.drop 0 (List.take 2 (List.drop 1 [u0, u1, u2, u3])))) = some z0 := hff2 0 _ rfl
  have r1 : DataW.trod enc Tryz.prog W 0 (fun _ => true) true n2 25 (List.take (Tryz.prog.cellsOf 25) (List.drop 1 (List.take 2 (List.drop 1 [u0, u1, u2, u3])))) = some z1 := hff2 1 _ rfl
  rw [cellsInt] at r0
  rw [cellsU64] at r1
  obtain ⟨a, ha, _, haw⟩ := DataW.trod_int Tryz.underlying3 r0
  obtain ⟨b, hb, _, hbw⟩ := DataW.trod_int Tryz.underlying25 r1
  obtain ⟨e, he, _, hew⟩ := DataW.trod_int Tryz.underlying5 q2
  simp only [List.drop_zero, List.take_succ_cons, List.take_zero, List.drop_succ_cons, List.cons.injEq, and_true] at hs ha hb he
  subst hs ha hb he
  have hb2 : 0 ≤ b ∧ b ≤ 18446744073709551615 := by simpa [Lit.wf, IntKind.bits, IntKind.signed, IntKind.min, IntKind.max] using hbw
  have he2 := wf8 hew
  refine ⟨s, a, b.toNat, e.toNat, ?_, hsl, by omega, by omega⟩
  rw [Int.toNat_of_nonneg hb2.1, Int.toNat_of_nonneg he2.1]
end Go.Proofs.YtkjhoanlkkcfkaaGreatDoor.Sgm
/- DERIVED. A parameter [][]byte, each text with its length bounded. -/
namespace Go.Proofs.YtkjhoanlkkcfkaaGreatDoor.Sgm
open Go.ChangeShapes Go.WideShapes Go.ChangeAt Go.RowKit Dsk Slt
/-- one slice of bytes, read out of its cell. -/
theorem part_cells9 {H : Type} {enc : TypeId × Value → H} {W : World} {n : Nat} {cs : List Value} {y : DataW H × List MemPlace} (hf : DataW.trod enc Tryz.prog W 0 (fun _ => true) true n 38 cs = some y) : ∃ p : Tp, cs = [p.val] ∧ p.M.length ≤ maxLen ∧ InB p.M ∧ Byt W p.A p.c p.M := by
  rcases open_ints Tryz.underlying38 Tryz.underlying5 cells5 hf with ⟨hcs, _⟩ | ⟨a, len, cap, zs, hcs, _, hl, hm, hz, _, hcell, hwz⟩
  · exact ⟨⟨none, 0, []⟩, hcs, Nat.zero_le _, fun j => by simp, Nat.le_refl _, fun _ => rfl, fun h => absurd h (Nat.lt_irrefl 0)⟩
  · simp only [if_true] at hz
    have hlen : (zs.take len).length = len := by simp; omega
    refine ⟨⟨some a, cap, zs.take len⟩, by rw [hcs]; simp only [Tp.val, hlen], by simp only [hlen]; omega, ?_, ⟨by simp only [hlen]; exact hl, (fun h => by cases h), (fun h => ?_)⟩⟩
    · intro j
      by_cases hj : j < len
      · have hj' : j < zs.length := by omega
        have e : (zs.take len).getD j 0 = zs[j] := by simp [List.getD_eq_getElem?_getD, hj, hj']
        have := hwz zs[j] (List.getElem_mem hj')
        have h2 : 0 ≤ zs[j] ∧ zs[j] ≤ 255 := by simpa [Lit.wf, IntKind.bits, IntKind.signed, IntKind.min, IntKind.max] using this
        show 0 ≤ (zs.take len).getD j 0 ∧ (zs.take len).getD j 0 < 256
        rw [e]
        omega
      · show 0 ≤ (zs.take len).getD j 0 ∧ (zs.take len).getD j 0 < 256
        rw [List.getD_eq_getElem?_getD, List.getElem?_eq_none (by rw [hlen]; exact Nat.le_of_not_lt hj)]; simp
    · simp only [hlen] at h
      obtain ⟨b, off, spot⟩ := a
      have hspot : spot = none := by simpa [Addr.add] using World.cell?_spot (hcell 0 (by omega))
      subst hspot
      refine ⟨b, off, rfl, ?_, fun j hj => ?_⟩
      · have := World.block_lt_of_cell? W _ (hcell 0 (by omega))
        simpa [Addr.add] using this
      · simp only [hlen] at hj
        rw [← Addr.add_mid, hcell j (by omega)]
        simp [List.getD_eq_getElem?_getD, hj]
theorem parts_list9 {H : Type} {enc : TypeId × Value → H} {W : World} {n : Nat} {a : Addr} : ∀ (len : Nat) (elems : List (DataW H × List MemPlace)), elems.length = len →
    (∀ i, i < len → (W.cells? 0 (a.add (i * 1)) 1).bind (DataW.trod enc Tryz.prog W 0 (fun _ => true) true n 38) = elems[i]?) →
    ∃ xs : List Tp, xs.length = len ∧ (∀ x ∈ xs, x.M.length ≤ maxLen ∧ InB x.M ∧ Byt W x.A x.c x.M) ∧ ∀ i x, xs[i]? = some x → W.cells? 0 (a.add (i * 1)) 1 = some [x.val] := by
  intro len
  induction len with
  | zero => exact fun _ _ _ => ⟨[], rfl, (fun _ h => by cases h), (fun i x h => by simp at h)⟩
  | succ m ih =>
    intro elems hl h
    obtain ⟨xs, hxl, hok, hx⟩ := ih (elems.take m) (by simp; omega) (fun i hi => by rw [h i (by omega), List.getElem?_take, if_pos hi])
    have hm := h m (by omega)
    rw [List.getElem?_eq_getElem (by omega : m < elems.length)] at hm
    obtain ⟨cs, hcs, htr⟩ := Option.bind_eq_some_iff.1 hm
    obtain ⟨x, rfl, ok⟩ := part_cells9 htr
    refine ⟨xs ++ [x], by simp [hxl], ?_, ?_⟩
    · intro y hy
      rcases List.mem_append.1 hy with hy | hy
      · exact hok y hy
      · obtain rfl := List.mem_singleton.1 hy
        exact ok
    · intro i y hy
      by_cases hi : i < m
      · rw [List.getElem?_append_left (by omega)] at hy
        exact hx i y hy
      · have hlen := (List.getElem?_eq_some_iff.1 hy).1
        simp only [List.length_append, List.length_singleton] at hlen
        obtain rfl : i = m := by omega
        rw [List.getElem?_append_right (by omega), hxl, Nat.sub_self] at hy
        obtain rfl := Option.some.inj hy
        exact hcs
set_option maxRecDepth 100000 in
/-- a parameter [][]byte. -/
theorem open_parts9 {H : Type} {enc : TypeId × Value → H} {W : World} {base : Nat} {v : Value} {d : DataW H} {p : List MemPlace} (hv : Value.okWide Tryz.prog W .any base 51 v)
    (h : DataW.Trod enc Tryz.prog W 0 (fun _ => true) true 51 v d p) : ∃ (A : Option Addr) (c : Nat) (ps : List Tp), v = .slice A ps.length c ∧ TpsAt W A ps ∧ ps.length ≤ c ∧ (A = none → c = 0) ∧ ps.length ≤ maxLen ∧ ∀ x ∈ ps, x.M.length ≤ maxLen := by
  obtain ⟨a0, len, cap, rfl⟩ := okWide_slice Tryz.underlying51 hv
  obtain ⟨fuel, hf⟩ := h
  rcases DataW.trod_slice Tryz.underlying51 hf with ⟨hcs, _⟩ | ⟨a, len', cap', elems, rest, n, _, hcs, _, _, hl, hm, hz, hel, _, _⟩
  · simp [Value.cells] at hcs
    obtain ⟨rfl, rfl, rfl⟩ := hcs
    exact ⟨none, 0, [], rfl, ⟨fun j h => absurd h (Nat.not_lt_zero _), fun j h => absurd h (Nat.not_lt_zero _)⟩, Nat.le_refl _, fun _ => rfl, Nat.zero_le _, fun x h => by cases h⟩
  · simp [Value.cells] at hcs
    obtain ⟨rfl, rfl, rfl⟩ := hcs
    rw [cellsSl] at hel
    obtain ⟨xs, hxl, hok, hx⟩ := parts_list9 len elems hz hel
    refine ⟨some a, cap, xs, by rw [hxl], ⟨fun j hj => ?_, fun j hj => ⟨(hok _ (List.getElem_mem hj)).2.2, (hok _ (List.getElem_mem hj)).2.1⟩⟩, by rw [hxl]; exact hl, (fun h => by cases h), by rw [hxl]; omega, fun x hx => (hok x hx).1⟩
    have k0 := (World.cells?_some (hx j xs[j] (List.getElem?_eq_getElem hj))).2.2 0 (by omega)
    obtain ⟨b, off, spot⟩ := a
    have k1 : W.cell? ((⟨b, off, spot⟩ : Addr).add (j * 1)) = some xs[j].val := by
      have e : ((⟨b, off, spot⟩ : Addr).add (j * 1)).add 0 = (⟨b, off, spot⟩ : Addr).add (j * 1) := by simp [Addr.add]
      rw [e] at k0
      simpa using k0
    have k00 := (World.cells?_some (hx 0 xs[0] (List.getElem?_eq_getElem (by omega)))).2.2 0 (by omega)
    have hspot : spot = none := by simpa [Addr.add] using World.cell?_spot k00
    subst hspot
    rw [Addr.add_mid, Nat.mul_one] at k1
    exact ⟨b, off, rfl, by have := World.block_lt_of_cell? W _ k1; simpa using this, k1⟩
end Go.Proofs.YtkjhoanlkkcfkaaGreatDoor.Sgm
/- DERIVED. Layer 9's reference: Same. -/
namespace Go.Proofs.YtkjhoanlkkcfkaaGreatDoor.Slt
open Go.RowKit Dsk
end Go.Proofs.YtkjhoanlkkcfkaaGreatDoor.Slt
