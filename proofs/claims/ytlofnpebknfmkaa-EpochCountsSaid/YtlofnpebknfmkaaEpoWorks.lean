/- DERIVED. Counters that are none; works. -/
import Derived.Test.YtlofnpebknfmkaaEpoCt
import Derived.Test.YtlofnpebknfmkaaEpoMath
namespace Go.Proofs.Ytlofnpebknfmkaa.Epo
open Go.RowKit Dsk
/-- nil, and a counter that Open did not return. -/
def BadC (v : Value) (w : World) : Prop := v = .pointer none ∨ ∃ g, v = .pointer (some ⟨g, 0, none⟩) ∧ w.heap[g]? = some (.cells #[.pointer none, .pointer none, .int .i64 0, .int .i64 0, .int .i64 0] 49 (0, 0))
theorem BadC.later {v : Value} {w w' : World} (h : BadC v w) (hb : Below w.heap.size w w') : BadC v w' := by
  rcases h with h | ⟨g, h, hr⟩
  · exact .inl h
  · exact .inr ⟨g, h, (hb.block _ (Array.getElem?_eq_some_iff.1 hr).1).trans hr⟩
theorem ceq_nil (a : Addr) (w : World) : (binOp .eql 30 (.pointer none) (.pointer (some a))).run Try.prog w = .ok (.bool false) w := by
  go_simp
  rfl
theorem bad_made {v : Value} {w : World} (h : BadC v w) : Calls Try.prog 27 #[v] w fun e w' => e = .returned (.bool false) ∧ w = w' := by
  rcases h with rfl | ⟨g, rfl, hr⟩
  · go_enter Try.func27, Try.ntmps27
    go_wp2
    go_ret
    exact ⟨rfl, rfl⟩
  · have c0 := cell_row hr 0
    have he := ceq_nil ⟨g, 0, none⟩
    rw [show (#[.pointer none, .pointer none, .int .i64 0, .int .i64 0, .int .i64 0] : Array Value)[0]? = some (.pointer none) by rfl] at c0
    go_enter Try.func27, Try.ntmps27
    go_wp2
    go_ret
    exact ⟨rfl, rfl⟩
theorem bad_next {v : Value} {w : World} (h : BadC v w) : Calls Try.prog 16 #[v] w fun e w' => e = .returned (.int .i64 1) ∧ w = w' := by
  have Hm := Lib.hid (bad_made h)
  clear h
  go_enter Try.func16, Try.ntmps16
  go_wp2_with (go_at_call 27; refine Hm.out.mono ?_; rintro e w' ⟨rfl, rfl⟩)
  go_ret
  exact ⟨rfl, rfl⟩
theorem bad_value {v : Value} {w : World} (h : BadC v w) : Calls Try.prog 14 #[v] w fun e w' => e = .returned (.int .i64 0) ∧ w = w' := by
  have Hm := Lib.hid (bad_made h)
  clear h
  go_enter Try.func14, Try.ntmps14
  go_wp2_with (go_at_call 27; refine Hm.out.mono ?_; rintro e w' ⟨rfl, rfl⟩)
  go_ret
  exact ⟨rfl, rfl⟩
/-- a disk and a counter of it, in the law's own memory. -/
structure EC (w0 w : World) (K : DK) (D : DS) (g : Nat) (C : CV) : Prop where
  dsk : Dsk w K D
  ct : Ct w K g C
  ng : g ∉ K.bl
  low : Below w0.heap.size w0 w
  kg : w0.heap.size ≤ K.g
  kh : w0.heap.size ≤ K.h
  gg : w0.heap.size ≤ g
theorem EC.later {w0 w w' : World} {K : DK} {D : DS} {g : Nat} {C : CV} (h : EC w0 w K D g C) (hb : Below w.heap.size w w') : EC w0 w' K D g C :=
  ⟨h.dsk.later hb, h.ct.later hb, h.ng, h.low.trans (hb.mono h.low.size), h.kg, h.kh, h.gg⟩
theorem EC.chg {w0 w w' : World} {K : DK} {D D' : DS} {g : Nat} {C C' : CV} (h : EC w0 w K D g C) (hd : Dsk w' K D') (hc : Ct w' K g C') (hch : Chg (g :: K.bl) w w') : EC w0 w' K D' g C' :=
  ⟨hd, hc, h.ng, hch.below h.low h.low.size (fun k hk => by have := h.kg; have := h.kh; have := h.gg; simp [DK.bl] at hk; omega), h.kg, h.kh, h.gg⟩
/-- what is asked ahead of a step. -/
structure CanN (D : DS) (C : CV) : Prop where
  lt : C.v < C.bd
  fit : C.f * 128 + C.bd ≤ D.data.length
  wr : D.writes ≤ 1152921504606846976
theorem ec_next {w0 w : World} {K : DK} {D : DS} {g : Nat} {C : CV} (h : EC w0 w K D g C) (c : CanN D C) (ho : D.off = false) : Calls Try.prog 16 #[.pointer (some ⟨g, 0, none⟩)] w fun e w' => e = .returned (.int .i64 (nextD D C.f C.v).2) ∧ EC w0 w' K (nextD D C.f C.v).1 g (C.step (nextD D C.f C.v).2) :=
  (next_on h.dsk h.ct h.ng c.lt c.fit ho c.wr).mono fun _ _ ⟨e, hd, hc, hch⟩ => ⟨e, h.chg hd hc hch⟩
theorem ec_value {w0 w : World} {K : DK} {D : DS} {g : Nat} {C : CV} (h : EC w0 w K D g C) : Calls Try.prog 14 #[.pointer (some ⟨g, 0, none⟩)] w fun e w' => e = .returned (.int .i64 C.v) ∧ w = w' := value_any h.ct
/-- a disk alone, in the law's own memory. -/
structure ED (w0 w : World) (K : DK) (D : DS) : Prop where
  dsk : Dsk w K D
  low : Below w0.heap.size w0 w
  kg : w0.heap.size ≤ K.g
  kh : w0.heap.size ≤ K.h
theorem EC.ed {w0 w : World} {K : DK} {D : DS} {g : Nat} {C : CV} (h : EC w0 w K D g C) : ED w0 w K D := ⟨h.dsk, h.low, h.kg, h.kh⟩
theorem ED.later {w0 w w' : World} {K : DK} {D : DS} (h : ED w0 w K D) (hb : Below w.heap.size w w') : ED w0 w' K D := ⟨h.dsk.later hb, h.low.trans (hb.mono h.low.size), h.kg, h.kh⟩
theorem ED.chg {w0 w w' : World} {K : DK} {D D' : DS} (h : ED w0 w K D) (hd : Dsk w' K D') (hch : Chg K.bl w w') : ED w0 w' K D' :=
  ⟨hd, hch.below h.low h.low.size (fun k hk => by have := h.kg; have := h.kh; simp [DK.bl] at hk; omega), h.kg, h.kh⟩
theorem ed_new (n : Nat) (w : World) (h1 : 1 ≤ n) (h2 : n ≤ 16384) : Calls Try.prog 8 #[.int .i64 n] w fun e w' => ∃ K : DK, e = .returned (.tuple #[.pointer (some ⟨K.g, 0, none⟩), .int .i64 0]) ∧ ED w w' K (newD n) :=
  (new_ok n w h1 h2).mono fun _ _ ⟨K, e, hd, hb, hg, hh⟩ => ⟨K, e, hd, hb, hg, hh⟩
theorem ed_open {w0 w : World} {K : DK} {D : DS} (h : ED w0 w K D) (f n v : Nat) (h1 : 1 ≤ n) (hk : f + n ≤ D.secs) (ho : D.off = false) (ht : Cnt (regL D f (n * 128)) v) : Calls Try.prog 11 #[.pointer (some ⟨K.g, 0, none⟩), .int .i64 f, .int .i64 n] w fun e w' => ∃ g, e = .returned (.tuple #[.pointer (some ⟨g, 0, none⟩), .int .i64 0]) ∧ EC w0 w' K D g ⟨f, n * 128, v⟩ ∧ w.heap.size ≤ g ∧ Below w.heap.size w w' :=
  (open_ok h.dsk f n v h1 hk ho ht).mono fun _ _ ⟨g, e, hg, hc, hb⟩ => ⟨g, e, ⟨h.dsk.later hb, hc, fun hm => by have := h.dsk.glt; have := h.dsk.hlt; simp [DK.bl] at hm; omega, h.low.trans (hb.mono h.low.size), h.kg, h.kh, Nat.le_trans h.low.size hg⟩, hg, hb⟩
theorem newD_secs (n : Nat) : (newD n).secs = n := by
  show (List.replicate (n * 128) (0 : Int)).length / 128 = n
  rw [List.length_replicate]; omega
theorem cnt_new (n f m : Nat) (h : f * 128 + m ≤ n * 128) : Cnt (regL (newD n) f m) 0 := by
  refine (cnt_reg (by show _ ≤ (List.replicate (n * 128) (0 : Int)).length; rw [List.length_replicate]; exact h)).2 ⟨Nat.zero_le _, fun j hj => ?_⟩
  rw [if_neg (Nat.not_lt_zero _)]
  show (List.replicate (n * 128) (0 : Int)).getD _ 0 = 0
  simp [List.getD_eq_getElem?_getD, show f * 128 + j < n * 128 by omega]
/-- the disk of works behind one step and behind two. -/
def wk1 : DS := (nextD (newD 2) 1 0).1
def wk2 : DS := (nextD wk1 1 1).1
theorem wk1_e : (nextD (newD 2) 1 0).2 = 0 := by kernel_rfl
theorem wk2_e : (nextD wk1 1 1).2 = 0 := by kernel_rfl
theorem wk1_off : wk1.off = false := by kernel_rfl
theorem wk1_wr : wk1.writes = 1 := by kernel_rfl
theorem wk1_len : wk1.data.length = 256 := by kernel_rfl
theorem wk2_len : wk2.data.length = 256 := by kernel_rfl
theorem wk2_a : wk2.data.getD 128 0 = 1 := by kernel_rfl
theorem wk2_b : wk2.data.getD 129 0 = 1 := by kernel_rfl
theorem wk2_c : wk2.data.getD 130 0 = 0 := by kernel_rfl
theorem wk2_d : wk2.data.getD 0 0 = 0 := by kernel_rfl
theorem wk_new (w : World) : Calls Try.prog 8 #[.int .i64 2] w fun e w' => ∃ K : DK, e = .returned (.tuple #[.pointer (some ⟨K.g, 0, none⟩), .int .i64 0]) ∧ ED w w' K (newD 2) := ed_new 2 w (by decide) (by decide)
theorem wk_open {w0 w : World} {K : DK} (h : ED w0 w K (newD 2)) : Calls Try.prog 11 #[.pointer (some ⟨K.g, 0, none⟩), .int .i64 1, .int .i64 1] w fun e w' => ∃ g, e = .returned (.tuple #[.pointer (some ⟨g, 0, none⟩), .int .i64 0]) ∧ EC w0 w' K (newD 2) g ⟨1, 128, 0⟩ :=
  (ed_open h 1 1 0 (by decide) (by rw [newD_secs]; decide) rfl (cnt_new 2 1 128 (by decide))).mono fun _ _ ⟨g, e, hc, _⟩ => ⟨g, e, hc⟩
theorem wk_value {w0 w : World} {K : DK} {D : DS} {g : Nat} {C : CV} (h : EC w0 w K D g C) (n : Nat) (hn : C.v = n) : Calls Try.prog 14 #[.pointer (some ⟨g, 0, none⟩)] w fun e w' => e = .returned (.int .i64 (n : Nat)) ∧ w = w' := by
  rw [← hn]; exact ec_value h
theorem wk_next1 {w0 w : World} {K : DK} {g : Nat} (h : EC w0 w K (newD 2) g ⟨1, 128, 0⟩) : Calls Try.prog 16 #[.pointer (some ⟨g, 0, none⟩)] w fun e w' => e = .returned (.int .i64 0) ∧ EC w0 w' K wk1 g ⟨1, 128, 1⟩ := by
  have := ec_next h ⟨by decide, by show 1 * 128 + 128 ≤ (List.replicate (2 * 128) (0 : Int)).length; rw [List.length_replicate]; decide, by decide⟩ rfl
  rw [wk1_e] at this
  exact this
theorem wk_next2 {w0 w : World} {K : DK} {g : Nat} (h : EC w0 w K wk1 g ⟨1, 128, 1⟩) : Calls Try.prog 16 #[.pointer (some ⟨g, 0, none⟩)] w fun e w' => e = .returned (.int .i64 0) ∧ EC w0 w' K wk2 g ⟨1, 128, 2⟩ := by
  have := ec_next h ⟨by decide, by rw [wk1_len]; decide, by rw [wk1_wr]; decide⟩ wk1_off
  rw [wk2_e] at this
  exact this
theorem wk_bytes {w0 w : World} {K : DK} (h : ED w0 w K wk2) : Calls Try.prog 17 #[.pointer (some ⟨K.g, 0, none⟩)] w fun e w' => ∃ g c, e = .returned (.slice (some ⟨g, 0, none⟩) 256 c) ∧ 256 ≤ c ∧ (w'.cell? ⟨g, 128, none⟩ = some (.int .u8 1) ∧ w'.cell? ⟨g, 129, none⟩ = some (.int .u8 1) ∧ w'.cell? ⟨g, 130, none⟩ = some (.int .u8 0) ∧ w'.cell? ⟨g, 0, none⟩ = some (.int .u8 0)) ∧ Below w0.heap.size w0 w' := by
  refine (bytes_any h.dsk).mono ?_
  rintro e w' ⟨v, rfl, hown, hb⟩
  obtain ⟨A, c, rfl, hB⟩ := own_sl hown rfl
  rw [wk2_len] at hown ⊢
  obtain ⟨g, off, rfl, hg, hc⟩ := hB.2.2 (by rw [wk2_len]; decide)
  obtain ⟨g', c', e'⟩ := ownsRow_succ hown
  cases e'
  rw [wk2_len] at hc
  have k1 := hc 128 (by decide)
  have k2 := hc 129 (by decide)
  have k3 := hc 130 (by decide)
  have k4 := hc 0 (by decide)
  rw [wk2_a] at k1
  rw [wk2_b] at k2
  rw [wk2_c] at k3
  rw [wk2_d] at k4
  exact ⟨g, _, rfl, by have := hB.1; rw [wk2_len] at this; exact this, ⟨k1, k2, k3, k4⟩, h.low.trans (hb.mono h.low.size)⟩
set_option maxRecDepth 100000 in
theorem works_any (w : World) : Calls Try.prog 12 #[] w fun e w' => e = .returned (.bool true) ∧ Below w.heap.size w w' := by
  go_enter Try.func12, Try.ntmps12
  go_wp2_with (first
    | (go_at_call 8; with_reducible refine (wk_new w).mono ?_; rintro e w1 ⟨K, rfl, hq1⟩; have Q1 := Lib.hid hq1; clear hq1)
    | (go_at_call 11; with_reducible refine (wk_open Q1.out).mono ?_; rintro e w2 ⟨g, rfl, hq2⟩; have Q2 := Lib.hid hq2; clear hq2)
    | (go_at_call 16; with_reducible refine (wk_next2 Q3.out).mono ?_; rintro e w4 ⟨rfl, hq4⟩; have Q4 := Lib.hid hq4; clear hq4)
    | (go_at_call 16; with_reducible refine (wk_next1 Q2.out).mono ?_; rintro e w3 ⟨rfl, hq3⟩; have Q3 := Lib.hid hq3; clear hq3)
    | (go_at_call 14; with_reducible refine (wk_value Q4.out 2 rfl).mono ?_; rintro e w' ⟨rfl, rfl⟩)
    | (go_at_call 14; with_reducible refine (wk_value Q2.out 0 rfl).mono ?_; rintro e w' ⟨rfl, rfl⟩)
    | (go_at_call 17; with_reducible refine (wk_bytes Q4.out.ed).mono ?_; rintro e w5 ⟨g5, c5, rfl, hc5, ⟨k1, k2, k3, k4⟩, hb5⟩; have L5 := Lib.hid hb5; clear hb5))
  go_ret
  exact ⟨rfl, L5.out⟩
end Go.Proofs.Ytlofnpebknfmkaa.Epo
