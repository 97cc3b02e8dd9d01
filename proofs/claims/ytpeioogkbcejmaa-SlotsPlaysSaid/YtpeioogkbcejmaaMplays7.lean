/- DERIVED. Texts of ours, merged: XRef9Write XSltAll XStr. -/
import Derived.Test.YtpeioogkbcejmaaMplays6
import Derived.Deep.DeepCutAuto
import Derived.Test.YtpeioogkbcejmaaProg
import Derived.Test.YtpeioogkbcejmaaMplays1
import Derived.Lib.ConvBytes
import Derived.Laws.BytesArg
/- DERIVED. Layer 9's reference: its disk, and what its Write leaves. -/
namespace Go.Proofs.Ytpeioogkbcejmaa.Slt
open Go.RowKit Dsk
def rowR (gb n : Nat) (off has : Bool) (wh : Int) (m : List Int) : Array Value := (.slice (some ⟨gb, 0, none⟩) n n :: .bool off :: .bool has :: .int .i64 wh :: vals m).toArray
/-- where the reference's disk lies: its struct, its bytes. -/
structure MK where
  g : Nat
  b : Nat
def MK.bl (M : MK) : List Nat := [M.g, M.b]
def MK.ptr (M : MK) : Value := .pointer (some ⟨M.g, 0, none⟩)
/-- the reference's disk is D. -/
structure RD (w : World) (M : MK) (D : DS) : Prop where
  row : ∃ wh m, w.heap[M.g]? = some (.cells (rowR M.b D.data.length D.off D.laid wh m) 36 (0, 0)) ∧ (D.laid = true → wh = D.whole ∧ m = D.mask) ∧ m.length = 16 ∧ InB m
  body : w.heap[M.b]? = some (.cells (vals D.data).toArray 5 (0, 0))
  ne : M.g ≠ M.b
  wb : 0 ≤ D.whole ∧ D.whole ≤ 9223372036854775807
theorem RD.chg {w w' : World} {M : MK} {D : DS} {S : List Nat} (h : RD w M D) (hc : Chg S w w') (hS : ∀ q ∈ M.bl, q ∉ S) : RD w' M D := by
  obtain ⟨wh, m, h1, h2⟩ := h.row
  exact ⟨⟨wh, m, hc.at h1 (hS _ (by simp [MK.bl])), h2⟩, hc.at h.body (hS _ (by simp [MK.bl])), h.ne, h.wb⟩
theorem RD.later {w w' : World} {M : MK} {D : DS} (h : RD w M D) (hb : Below w.heap.size w w') : RD w' M D := h.chg (S := []) (Chg.of_below hb) (by simp)
theorem RD.glt {w : World} {M : MK} {D : DS} (h : RD w M D) : M.g < w.heap.size := by obtain ⟨_, _, h1, _⟩ := h.row; exact (Array.getElem?_eq_some_iff.1 h1).1
theorem RD.blt {w : World} {M : MK} {D : DS} (h : RD w M D) : M.b < w.heap.size := (Array.getElem?_eq_some_iff.1 h.body).1
theorem rowR_cells {w : World} {g gb n : Nat} {off has : Bool} {wh : Int} {m : List Int} {T : Nat} {fr : Nat × Nat} (h : w.heap[g]? = some (.cells (rowR gb n off has wh m) T fr)) :
    w.cell? ⟨g, 0, none⟩ = some (.slice (some ⟨gb, 0, none⟩) n n) ∧ w.cell? ⟨g, 1, none⟩ = some (.bool off) ∧ w.cell? ⟨g, 2, none⟩ = some (.bool has) ∧ w.cell? ⟨g, 3, none⟩ = some (.int .i64 wh) ∧ ∀ j, j < m.length → w.cell? ⟨g, 4 + j, none⟩ = some (.int .u8 (m.getD j 0)) := by
  refine ⟨by rw [cell_row h]; rfl, by rw [cell_row h]; rfl, by rw [cell_row h]; rfl, by rw [cell_row h]; rfl, fun j hj => ?_⟩
  rw [cell_row h, rowR, List.getElem?_toArray, show 4 + j = j + 4 by omega]
  simp [vals, hj]
/-- the sector that comes. -/
def newT (D : DS) (k : Nat) (b : List Int) : List Int := if D.due then tornL D.mask (secL D.data k) b else b
theorem newT_len {D : DS} {k : Nat} {b : List Int} (hb : b.length = 128) : (newT D k b).length = 128 := by
  unfold newT; split
  · exact torn_len _ _ _
  · exact hb
theorem stepD_data (D : DS) (k : Nat) (b : List Int) : (stepD D k b).data = splice D.data (k * 128) (newT D k b) := by
  unfold stepD newT; split <;> rfl
theorem stepD_due {D : DS} {k : Nat} {b : List Int} (h : D.due = true) : stepD D k b = { data := splice D.data (k * 128) (newT D k b), writes := D.writes + 1, off := true, laid := false, whole := 0, mask := z16 } := by
  unfold stepD newT; rw [if_pos h, if_pos h]
theorem stepD_not {D : DS} {k : Nat} {b : List Int} (h : D.due = false) : stepD D k b = { D with data := splice D.data (k * 128) (newT D k b), writes := D.writes + 1, whole := if D.laid then D.whole - 1 else D.whole } := by
  unfold stepD newT; simp only [h]; rfl
/-- within a sector. -/
structure WI2 (W : World) (M : MK) (D : DS) (k j : Nat) (b : List Int) (wr : World) : Prop where
  body : wr.heap[M.b]? = some (.cells (splice (vals D.data) (k * 128) (vals ((newT D k b).take j))).toArray 5 (0, 0))
  chg : Chg [M.b] W wr
theorem WI2.start {W : World} {M : MK} {D : DS} (k : Nat) (b : List Int) (h : RD W M D) : WI2 W M D k 0 b W := ⟨by rw [h.body]; simp [splice, vals], Chg.refl _ _⟩
theorem vals_splice (d : List Int) (k : Nat) (t : List Int) : splice (vals d) k (vals t) = vals (splice d k t) := by
  simp [splice, vals]
/-- the sectors, one by one. -/
structure WO (W : World) (M : MK) (D0 : DS) (at_ : Nat) (b : List Int) (n i : Nat) (D : DS) (wr : World) : Prop where
  rd : RD wr M D
  chg : Chg M.bl W wr
  run : runD D0 at_ b 0 n = runD D at_ b i (n - i)
  off : D.off = false
  len : D.data.length = D0.data.length
theorem rowR_wh (gb n : Nat) (off has : Bool) (wh x : Int) (m : List Int) : (rowR gb n off has wh m).setIfInBounds 3 (.int .i64 x) = rowR gb n off has x m := rfl
theorem rowR_off (gb n : Nat) (off has x : Bool) (wh : Int) (m : List Int) : (rowR gb n off has wh m).setIfInBounds 1 (.bool x) = rowR gb n x has wh m := rfl
theorem rowR_has (gb n : Nat) (off has x : Bool) (wh : Int) (m : List Int) : (rowR gb n off has wh m).setIfInBounds 2 (.bool x) = rowR gb n off x wh m := rfl
/-- a sector is written, and the next one comes. -/
theorem WO.next {W wc wr : World} {M : MK} {D0 D : DS} {at_ n i : Nat} {b : List Int} {wh x : Int} {mm : List Int} (h : WO W M D0 at_ b n i D wc) (hi : i < n) (hw : WI2 wc M D (at_ + i) 128 (secL b i) wr) (hsl : (secL b i).length = 128) (hfit : (at_ + i) * 128 + 128 ≤ D.data.length)
    (hrow : wr.heap[M.g]? = some (.cells (rowR M.b D.data.length D.off D.laid wh mm) 36 (0, 0))) (hrel : D.laid = true → wh = D.whole ∧ mm = D.mask) (hml : mm.length = 16) (hmi : InB mm) (hd : D.due = false) (hx : D.laid = true → x = wh - 1) :
    WO W M D0 at_ b n (i + 1) (stepD D (at_ + i) (secL b i)) (wr.setCell ⟨M.g, 3, none⟩ (.int .i64 x)) := by
  have lT : (newT D (at_ + i) (secL b i)).length = 128 := newT_len hsl
  have hst := stepD_not (k := at_ + i) (b := secL b i) hd
  have hlen : (splice D.data ((at_ + i) * 128) (newT D (at_ + i) (secL b i))).length = D.data.length := splice_len _ _ _ (by rw [lT]; exact hfit)
  have hne := h.rd.ne
  have hwb := h.rd.wb
  have hchg : Chg M.bl wc (wr.setCell ⟨M.g, 3, none⟩ (.int .i64 x)) := (hw.chg.mono (fun q hq => .inl (by simp at hq; simp [MK.bl, hq]))).setCell (by simp [MK.bl]) _
  refine ⟨⟨⟨x, mm, ?_, fun hla => ?_, hml, hmi⟩, ?_, hne, ?_⟩, h.chg.trans hchg, ?_, ?_, ?_⟩
  · rw [heap_setCell_same _ _ _ _ _ _ hrow, rowR_wh, hst]
    simp only [hlen]
  · have hl2 : D.laid = true := by rw [hst] at hla; exact hla
    rw [hst]
    simp only [hl2, if_true]
    rw [hx hl2, (hrel hl2).1]
    exact ⟨rfl, (hrel hl2).2⟩
  · rw [heap_setCell_other _ _ _ _ (by simpa using fun e => hne e.symm), hw.body, hst]
    simp only
    rw [List.take_of_length_le (by omega), vals_splice]
  · rw [hst]
    simp only
    split
    · rename_i hl2
      have : ¬ D.whole = 0 := fun e => by
        have : D.due = true := by simp [DS.due, hl2, e]
        rw [this] at hd; cases hd
      omega
    · exact hwb
  · rw [h.run, show n - i = n - (i + 1) + 1 by omega, run_on (by rw [hst]; exact h.off)]
  · rw [hst]; exact h.off
  · rw [hst]; simp only; rw [hlen]; exact h.len
/-- the power goes. -/
theorem WO.stop {W wc wr : World} {M : MK} {D0 D : DS} {at_ n i : Nat} {b : List Int} {wh : Int} {mm : List Int} (h : WO W M D0 at_ b n i D wc) (hi : i < n) (hw : WI2 wc M D (at_ + i) 128 (secL b i) wr) (hsl : (secL b i).length = 128) (hfit : (at_ + i) * 128 + 128 ≤ D.data.length)
    (hrow : wr.heap[M.g]? = some (.cells (rowR M.b D.data.length D.off D.laid wh mm) 36 (0, 0))) (hml : mm.length = 16) (hmi : InB mm) (hd : D.due = true) :
    (runD D0 at_ b 0 n).2 = 12 ∧ RD ((wr.setCell ⟨M.g, 1, none⟩ (.bool true)).setCell ⟨M.g, 2, none⟩ (.bool false)) M (runD D0 at_ b 0 n).1 ∧ Chg M.bl W ((wr.setCell ⟨M.g, 1, none⟩ (.bool true)).setCell ⟨M.g, 2, none⟩ (.bool false)) := by
  have lT : (newT D (at_ + i) (secL b i)).length = 128 := newT_len hsl
  have hst := stepD_due (k := at_ + i) (b := secL b i) hd
  have hlen : (splice D.data ((at_ + i) * 128) (newT D (at_ + i) (secL b i))).length = D.data.length := splice_len _ _ _ (by rw [lT]; exact hfit)
  have hne := h.rd.ne
  have hrun : runD D0 at_ b 0 n = (stepD D (at_ + i) (secL b i), 12) := by
    rw [h.run, show n - i = n - (i + 1) + 1 by omega, run_off (by rw [hst])]
  rw [hrun]
  refine ⟨rfl, ⟨⟨wh, mm, ?_, fun hla => ?_, hml, hmi⟩, ?_, hne, ?_⟩, h.chg.trans (((hw.chg.mono (fun q hq => .inl (by simp at hq; simp [MK.bl, hq]))).setCell (by simp [MK.bl]) _).setCell (by simp [MK.bl]) _)⟩
  · rw [heap_setCell_same _ _ _ _ _ _ (heap_setCell_same _ _ _ _ _ _ hrow), rowR_off, rowR_has, hst]
    simp only [hlen]
  · rw [hst] at hla; cases hla
  · rw [heap_setCell_other _ _ _ _ (by simpa using fun e => hne e.symm), heap_setCell_other _ _ _ _ (by simpa using fun e => hne e.symm), hw.body, hst]
    simp only
    rw [List.take_of_length_le (by omega), vals_splice]
  · rw [hst]
    show (0 : Int) ≤ 0 ∧ (0 : Int) ≤ 9223372036854775807
    decide
theorem bit_mod (x : Int) (hx : 0 ≤ x ∧ x < 256) (s : Nat) (hs : s < 8) : bitX x s = decide ((x / 2 ^ s) % 2 = 1) := by
  have key : ∀ y : Fin 256, ∀ s : Fin 8, bitX ((y.val : Nat) : Int) s.val = decide ((((y.val : Nat) : Int) / 2 ^ s.val) % 2 = 1) := by decide +kernel
  have := key ⟨x.toNat, by omega⟩ ⟨s, hs⟩
  rw [show ((x.toNat : Nat) : Int) = x by omega] at this
  exact this
set_option maxRecDepth 100000 in
set_option maxHeartbeats 4000000 in
theorem rwrite_any {w : World} {M : MK} {D : DS} (h : RD w M D) (ho : D.off = false) (at_ n m : Nat) (A : Option Addr) (c : Nat) (b : List Int) (hm : m = n * 128) (hl : b.length = m) (hi : InB b) (hat : (at_ + n) * 128 ≤ D.data.length) (hB : Byt w A c b) (hA : 0 < b.length → ∀ a, A = some a → a.block ∉ M.bl) (hmost : D.data.length ≤ 2097152) :
    Calls Try.prog 42 #[.pointer (some ⟨M.g, 0, none⟩), .int .i64 at_, .slice A m c] w fun e w' => e = .returned (.int .i64 (runD D at_ b 0 n).2) ∧ RD w' M (runD D at_ b 0 n).1 ∧ Chg M.bl w w' := by
  obtain ⟨wh0, m0, hrow0, _⟩ := h.row
  have c1 := (rowR_cells hrow0).2.1
  rw [ho] at c1
  have H0 : Hid (WO w M D at_ b n 0 D w) := ⟨h, Chg.refl _ _, rfl, ho, rfl⟩
  have Hl := Lib.hid hl
  have Hi := Lib.hid hi
  have Hm := Lib.hid hm
  have HB := Lib.hid hB
  have HA := Lib.hid hA
  have Hat := Lib.hid hat
  have hm2 : m ≤ 2097152 := by omega
  have hat2 : at_ ≤ 16384 := by omega
  have Hmost := Lib.hid hmost
  clear h ho hrow0 hl hi hm hB hA hat hmost
  go_enter Try.func42, Try.ntmps42
  go_wp2
  clear c1
  go_loopw [7] (fun v wr => ∃ i : Nat, i ≤ n ∧ v = .int .i64 i ∧ ∃ Di, Hid (WO w M D at_ b n i Di wr)) (fun v _ => n - (intOf v).toNat)
  case atStart => exact ⟨0, Nat.zero_le _, rfl, D, H0.out⟩
  case round =>
    obtain ⟨i, hi, rfl, Di, hw⟩ := hrel
    clear H0
    by_cases hlt : i < n
    · have hiI : (128 : Int) * (i : Int) < (m : Int) := by have := Hm.out; omega
      have hi2 : i ≤ 16384 := by have := Hm.out; omega
      obtain ⟨wh, mm, hrow, hrel2, hml, hmi⟩ := hw.out.rd.row
      obtain ⟨cc0, cc1, cc2, cc3, cc4⟩ := rowR_cells hrow
      have hstep : (at_ + i) * 128 + 128 ≤ Di.data.length := by rw [hw.out.len]; have := Hat.out; omega
      have hsl : (secL b i).length = 128 := secL_len b i (by rw [Hl.out]; have := Hm.out; omega)
      have hdue : Di.due = (Di.laid && decide (Di.whole = 0)) := rfl
      go_upto_region 6 with (fail)
      go_cut [8] from 21 to 31 (fun s8 wx => s8 = .bool Di.due ∧ wx = wr)
      case first =>
        cases hla : Di.laid
        · rw [hla] at cc2 hdue
          go_wp2
          go_meet
          exact ⟨by rw [hdue]; rfl, rfl⟩
        · rw [hla] at cc2 hdue
          rw [← (hrel2 hla).1] at hdue
          by_cases hz : wh = 0
          · subst hz
            go_wp2
            go_meet
            exact ⟨by rw [hdue]; rfl, rfl⟩
          · have hz2 : ¬ Di.whole = 0 := by rw [← (hrel2 hla).1]; exact hz
            have Hd : Hid (Di.due = false) := by show _ = _; rw [hdue, decide_eq_false hz]; rfl
            clear hdue
            go_wp2
            go_meet
            exact ⟨by rw [Hd.out]; simp [hz2], rfl⟩
      case rest =>
        obtain ⟨rfl, rfl⟩ := hcut
        obtain ⟨q, hq⟩ : ∃ q, q = at_ + i := ⟨_, rfl⟩
        have hst := WI2.start (at_ + i) (secL b i) hw.out.rd
        rw [← hq] at hst hstep
        have Hst := Lib.hid hst
        have HQ := Lib.hid hq
        clear hst hdue hq
        go_wp2
        go_loopw [9] (fun v wx => ∃ j : Nat, j ≤ 128 ∧ v = .int .i64 j ∧ Hid (WI2 wc M Di q j (secL b i) wx)) (fun v _ => 128 - (intOf v).toNat)
        case atStart => exact ⟨0, Nat.zero_le _, rfl, Hst.out⟩
        case round =>
          obtain ⟨j, hj, rfl, hin⟩ := hrel
          have hgM : M.g ∉ [M.b] := by simpa using hw.out.rd.ne
          have hrow2 := hin.out.chg.at hrow hgM
          obtain ⟨d0, d1, d2, d3, d4⟩ := rowR_cells hrow2
          clear cc0 cc1 cc2 cc3 cc4
          by_cases hj1 : j < 128
          · have lD : (vals Di.data).length = Di.data.length := vals_length _
            have lT : (newT Di q (secL b i)).length = 128 := newT_len hsl
            have lk : (vals ((newT Di q (secL b i)).take j)).length = j := by rw [vals_length, List.length_take, lT]; omega
            have old : (vals Di.data)[q * 128 + j]? = some (.int .u8 (Di.data.getD (q * 128 + j) 0)) := by
              simp [vals, show q * 128 + j < Di.data.length by omega]
            have ch1 : wr.cell? ⟨M.b, q * 128 + j, none⟩ = some (.int .u8 (Di.data.getD (q * 128 + j) 0)) := by
              rw [cell_row hin.out.body, List.getElem?_toArray, splice_get _ _ _ (by omega), if_neg (by omega), if_neg (by omega), old]
            have fh1 : wr.frozen? ⟨M.b, q * 128 + j, none⟩ = false := free_row hin.out.body _
            have hbl : 0 < b.length := by rw [Hl.out]; have := Hm.out; omega
            obtain ⟨gb, ob, rfl, hgb, hcb⟩ := HB.out.2.2 hbl
            have hgbM : gb ∉ M.bl := HA.out hbl _ rfl
            have hgb1 : gb ∉ [M.b] := fun hm => hgbM (by simp at hm; simp [MK.bl, hm])
            have hsrc : wr.cell? ⟨gb, ob + (128 * i + j), none⟩ = some (.int .u8 (b.getD (128 * i + j) 0)) := by
              have e1 := World.cell?_of_block (a := ⟨gb, ob + (128 * i + j), none⟩) (hw.out.chg.block gb hgb hgbM)
              have e2 := World.cell?_of_block (a := ⟨gb, ob + (128 * i + j), none⟩) (hin.out.chg.block gb (Nat.lt_of_lt_of_le hgb hw.out.chg.size) hgb1)
              exact (e2.trans e1).trans (hcb _ (by rw [Hl.out]; have := Hm.out; omega))
            have hnext : ∀ v : Int, v = (newT Di q (secL b i)).getD j 0 → WI2 wc M Di q (j + 1) (secL b i) (wr.drew.setCell ⟨M.b, q * 128 + j, none⟩ (.int .u8 v)) := fun v hv => ⟨by
              have := heap_setCell_same wr.drew M.b (q * 128 + j) _ _ (.int .u8 v) hin.out.body
              rwa [splice_more _ _ _ _ _ (by omega) (by omega) hv] at this, (hin.out.chg.trans (Chg.of_below (Below.refl _ _).drew)).setCell (p := ⟨M.b, q * 128 + j, none⟩) (List.mem_singleton.2 rfl) _⟩
            have hstay : Di.data.getD (q * 128 + j) 0 = (newT Di q (secL b i)).getD j 0 → WI2 wc M Di q (j + 1) (secL b i) wr := fun hv => ⟨by
              rw [← splice_same _ _ _ _ (by omega) (by omega) (by rw [old, hv])]; exact hin.out.body, hin.out.chg⟩
            have hT1 : Di.due = false → b.getD (128 * i + j) 0 = (newT Di q (secL b i)).getD j 0 := fun hd => by
              unfold newT
              rw [hd, if_neg (by decide), secL_get _ _ _ hj1, Nat.mul_comm i 128]
            have hT2 : Di.due = true → (newT Di q (secL b i)).getD j 0 = if bitX (Di.mask.getD (j / 8) 0) (j % 8) then b.getD (128 * i + j) 0 else Di.data.getD (q * 128 + j) 0 := fun hd => by
              unfold newT
              rw [hd, if_pos rfl, torn_get _ _ _ _ hj1, secL_get _ _ _ hj1, secL_get _ _ _ hj1, Nat.mul_comm i 128]
              rfl
            have d4' := d4 (j / 8) (by omega)
            obtain ⟨p, hp⟩ : ∃ p, p = q * 128 + j := ⟨_, rfl⟩
            obtain ⟨s, hs⟩ : ∃ s, s = 128 * i + j := ⟨_, rfl⟩
            rw [← hp] at ch1 fh1 hnext hstay hT2
            rw [← hs] at hsrc hT1 hT2
            obtain ⟨y, hy⟩ : ∃ y, y = b.getD s 0 := ⟨_, rfl⟩
            rw [← hy] at hsrc hT1 hT2
            have hqa := HQ.out
            have hw1 : IntKind.i64.wrap ((at_ : Int) + (i : Int)) = (at_ : Int) + (i : Int) := by rw [IntKind.wrap_i64]; omega
            have hw2 : IntKind.i64.wrap (128 * ((at_ : Int) + (i : Int))) = 128 * ((at_ : Int) + (i : Int)) := by rw [IntKind.wrap_i64]; omega
            have hw3 : IntKind.i64.wrap (128 * ((at_ : Int) + (i : Int)) + (j : Int)) = (p : Int) := by rw [IntKind.wrap_i64]; omega
            have hw4 : IntKind.i64.wrap (128 * (i : Int)) = 128 * (i : Int) := by rw [IntKind.wrap_i64]; omega
            have hw5 : IntKind.i64.wrap (128 * (i : Int) + (j : Int)) = (s : Int) := by rw [IntKind.wrap_i64]; omega
            have hpI : (p : Int) < (Di.data.length : Int) := by omega
            have hsI : (s : Int) < (m : Int) := by have := Hm.out; omega
            have hpn : p < Di.data.length := by omega
            have hsn : s < m := by have := Hm.out; omega
            obtain ⟨dl, hdl⟩ : ∃ dl, dl = Di.data.length := ⟨_, rfl⟩
            rw [← hdl] at d0 hpI hpn
            have Hn := Lib.hid hnext
            have Hs := Lib.hid hstay
            have HT1 := Lib.hid hT1
            have HT2 := Lib.hid hT2
            have hj1I : (j : Int) < 128 := by omega
            have e0 : wr.drew.cell? ⟨M.g, 0, none⟩ = some (.slice (some ⟨M.b, 0, none⟩) dl dl) := d0
            have esrc : wr.drew.cell? ⟨gb, ob + s, none⟩ = some (.int .u8 y) := hsrc
            have eold : wr.drew.cell? ⟨M.b, p, none⟩ = some (.int .u8 (Di.data.getD p 0)) := ch1
            have efr : wr.drew.frozen? ⟨M.b, p, none⟩ = false := fh1
            clear lD lT lk old hnext hstay hT1 hT2 hcb hrow2 d4 hgb hbl hgbM hgb1 hqa hp hs hy hdl
            cases hd : Di.due
            · have hv := HT1.out hd
              have Hv := Lib.hid hv
              clear d4' hv
              go_upto_region 11 with (fail)
              refine wp_region_still_tail 18 (by kernel_rfl) (by kernel_rfl) ?_
              simp only [List.take_succ_cons, List.take_zero, List.drop_succ_cons, List.drop_zero]
              change wpStill _ _ wr.drew _ _ _
              repeat (refine wpStill_step (fun K hK => ?_); go_simp; refine hK _ ?_; clear hK K)
              refine wpStill_nil ?_
              change wpList _ _ _ _ _ wr.drew
              go_wp2
              exact ⟨⟨j + 1, by omega, by go_num, Hn.out _ Hv.out⟩, by simp [intOf]; omega⟩
            · have hla : Di.laid = true := by
                have h1 : (Di.laid && decide (Di.whole = 0)) = true := hd
                rw [Bool.and_eq_true] at h1
                exact h1.1
              have hmm := (hrel2 hla).2
              have hx0 : 0 ≤ mm.getD (j / 8) 0 ∧ mm.getD (j / 8) 0 < 256 := hmi _
              have hbm := bit_mod _ hx0 (j % 8) (by omega)
              have hv := HT2.out hd
              rw [← hmm] at hv
              obtain ⟨x, hx⟩ : ∃ x, x = mm.getD (j / 8) 0 := ⟨_, rfl⟩
              rw [← hx] at d4' hbm hv hx0
              have Hmm := Lib.hid hmm
              clear hx hmm hrel2 hmi HT1 HT2
              cases hbit : bitX x (j % 8)
              · rw [hbit, if_neg (by decide)] at hv
                rw [hbit] at hbm
                have hb2 : ((x / 2 ^ (j % 8)).tmod 2 == 1) = false := by
                  have := of_decide_eq_false hbm.symm
                  rw [Int.tmod_eq_emod_of_nonneg (Int.ediv_nonneg hx0.1 (by exact_mod_cast Nat.zero_le _))]
                  rw [beq_eq_false_iff_ne]; exact this
                have Hv := Lib.hid hv
                clear hv hbm hbit
                go_wp2
                exact ⟨⟨j + 1, by omega, by go_num, Hs.out Hv.out.symm⟩, by simp [intOf]; omega⟩
              · rw [hbit, if_pos rfl] at hv
                rw [hbit] at hbm
                have hb2 : ((x / 2 ^ (j % 8)).tmod 2 == 1) = true := by
                  have := of_decide_eq_true hbm.symm
                  rw [Int.tmod_eq_emod_of_nonneg (Int.ediv_nonneg hx0.1 (by exact_mod_cast Nat.zero_le _))]
                  rw [beq_iff_eq]; exact this
                have Hv := Lib.hid hv
                clear hv hbm hbit
                go_upto_region 11 with (fail)
                refine wp_region_still_tail 18 (by kernel_rfl) (by kernel_rfl) ?_
                simp only [List.take_succ_cons, List.take_zero, List.drop_succ_cons, List.drop_zero]
                change wpStill _ _ wr.drew _ _ _
                repeat (refine wpStill_step (fun K hK => ?_); go_simp; refine hK _ ?_; clear hK K)
                refine wpStill_nil ?_
                change wpList _ _ _ _ _ wr.drew
                go_wp2
                exact ⟨⟨j + 1, by omega, by go_num, Hn.out _ Hv.out.symm⟩, by simp [intOf]; omega⟩
          · obtain rfl : j = 128 := by omega
            have f3 := free_row hrow2 3
            have f1 := free_row hrow2 1
            have f2 := free_row hrow2 2
            have Hrow2 := Lib.hid hrow2
            have Hin := Lib.hid hin.out
            rw [HQ.out] at Hin
            rw [HQ.out] at hstep
            have Hstep := Lib.hid hstep
            have Hml := Lib.hid hml
            have Hmi := Lib.hid hmi
            have Hsl := Lib.hid hsl
            have Hrel2 := Lib.hid hrel2
            cases hd : Di.due
            · have Hd := Lib.hid hd
              clear hrow2 hml hmi hsl hrel2 hstep hd
              go_wp2
              obtain ⟨x, hx⟩ : ∃ x, x = wrap64 (wh - 1) := ⟨_, rfl⟩
              rw [← hx]
              have hnext := hw.out.next hlt Hin.out Hsl.out Hstep.out Hrow2.out Hrel2.out Hml.out Hmi.out Hd.out (x := x) (fun hla => by
                have h1 := (Hrel2.out hla).1
                have h2 := hw.out.rd.wb
                have h3 : ¬ Di.whole = 0 := fun e => by
                  have h4 : Di.due = true := by simp [DS.due, hla, e]
                  rw [Hd.out] at h4; cases h4
                rw [hx]
                unfold wrap64
                omega)
              exact ⟨⟨i + 1, by omega, by go_num, _, hnext⟩, by simp [intOf]; omega⟩
            · have hstop := hw.out.stop hlt Hin.out Hsl.out Hstep.out Hrow2.out Hml.out Hmi.out hd
              have Hstop := Lib.hid hstop
              clear hrow2 hml hmi hsl hrel2 hstep hd hstop
              go_wp2
              go_ret
              exact ⟨by rw [Hstop.out.1]; rfl, Hstop.out.2⟩
    · obtain rfl : i = n := by omega
      have hnI : ¬ (128 : Int) * (i : Int) < (m : Int) := by have := Hm.out; omega
      have hn2 : (i : Int) ≤ 16384 := by have := Hm.out; omega
      have hrun := hw.out.run
      rw [Nat.sub_self] at hrun
      have hr2 : runD D at_ b 0 i = (Di, 0) := hrun
      have Hr2 := Lib.hid hr2
      clear hrun hr2
      go_wp2
      go_ret
      rw [Hr2.out]
      exact ⟨rfl, hw.out.rd, hw.out.chg⟩
end Go.Proofs.Ytpeioogkbcejmaa.Slt
/- DERIVED. The contract of slots.Log.All. -/
namespace Go.Proofs.Ytpeioogkbcejmaa.Slt
open Go.RowKit Dsk
/-- a row of new slices: its first k read as texts. -/
structure Rows (B : Nat) (L : List (List Int)) (n k : Nat) (g : Nat) (w : World) : Prop where
  row : ∃ C, w.heap[g]? = some (.cells C 33 (0, 0)) ∧ C.size = n ∧ ∀ i, i < k → ∃ v, C[i]? = some v ∧ SlB (L.getD i []) v w ∧ ∀ q, v.ownBlock = some q → B ≤ q ∧ q ≠ g
  ge : B ≤ g
theorem _root_.Go.Proofs.Ytpeioogkbcejmaa.SlB.chg {T : List Nat} {w w' : World} {L : List Int} {v : Value} (h : SlB L v w) (hc : Chg T w w') (hT : ∀ q, v.ownBlock = some q → q ∉ T) : SlB L v w' := by
  obtain ⟨A, c, rfl, hB⟩ := h
  exact ⟨A, c, rfl, hB.chg hc (fun a ha => hT _ (by rw [ha]; rfl))⟩
theorem Rows.chg {T : List Nat} {B n k g : Nat} {L : List (List Int)} {w w' : World} (h : Rows B L n k g w) (hc : Chg T w w') (hT : ∀ q ∈ T, q < B) : Rows B L n k g w' := by
  obtain ⟨⟨C, h1, h2, h3⟩, h4⟩ := h
  refine ⟨⟨C, hc.at h1 (fun hm => by have := hT _ hm; omega), h2, fun i hi => ?_⟩, h4⟩
  obtain ⟨v, a, b, d⟩ := h3 i hi
  exact ⟨v, a, b.chg hc (fun q hq hm => by have := hT _ hm; have := d q hq; omega), d⟩
theorem Rows.later {B n k g : Nat} {L : List (List Int)} {w w' : World} (h : Rows B L n k g w) (hb : Below w.heap.size w w') : Rows B L n k g w' := h.chg (T := []) (Chg.of_below hb) (by simp)
theorem Rows.lt {B n k g : Nat} {L : List (List Int)} {w : World} (h : Rows B L n k g w) : g < w.heap.size := by obtain ⟨⟨C, h1, _⟩, _⟩ := h; exact (Array.getElem?_eq_some_iff.1 h1).1
/-- one more. -/
theorem Rows.next {B n k g : Nat} {L : List (List Int)} {w : World} {v : Value} (h : Rows B L n k g w) (hk : k < n) (hv : SlB (L.getD k []) v w) (ho : ∀ q, v.ownBlock = some q → B ≤ q ∧ q ≠ g) : Rows B L n (k + 1) g (w.setCell ⟨g, k, none⟩ v) := by
  obtain ⟨⟨C, h1, h2, h3⟩, h4⟩ := h
  have hc : Chg [g] w (w.setCell ⟨g, k, none⟩ v) := (Chg.refl _ _).setCell (by simp) _
  refine ⟨⟨C.setIfInBounds k v, heap_setCell_same _ _ _ _ _ _ h1, by simp [h2], fun i hi => ?_⟩, h4⟩
  rw [Array.getElem?_setIfInBounds]
  by_cases e : k = i
  · subst e
    rw [if_pos rfl, if_pos (by omega)]
    exact ⟨v, rfl, hv.chg hc (fun q hq => by simp; exact (ho q hq).2), ho⟩
  · rw [if_neg e]
    obtain ⟨u, a, b, d⟩ := h3 i (by omega)
    exact ⟨u, a, b.chg hc (fun q hq => by simp; exact (d q hq).2), d⟩
theorem made_slots (n : Nat) : ∃ C : Array Value, madeCells (Value.cells (.slice none 0 0)) n = C ∧ C.size = n := ⟨_, rfl, by simp [madeCells, Value.cells]⟩
theorem mk_slots (n : Nat) (hn : n ≤ 1000000) (w : World) : ∃ C : Array Value, C.size = n ∧ (Instr.makeSlice 46 (.int .i64 n) (.int .i64 n)).run Try.prog w = .ok (.slice (some ⟨w.heap.size, 0, none⟩) n n) (w.alloc (.cells C 33)) := by
  obtain ⟨i0, hi, hz0, hz1, hz2⟩ := info_parts info_slz
  have h := run_make (P := Try.prog) w 46 33 i0 (.slice none 0 0) Try.underlying46 hi hz0 .i64 .i64 n n (by omega) (by omega) (by rw [hz2]; omega) (by omega)
  rw [hz1] at h
  rw [Int.toNat_natCast, Nat.mul_one] at h
  obtain ⟨C, hC, hs⟩ := made_slots n
  rw [hC] at h
  exact ⟨C, hs, h⟩
theorem own_cellS {w : World} {base n : Nat} {A : Option Addr} {c : Nat} {ts : List Value} (h : w.ownsRow base 33 1 (.slice A n c) n ts) (i : Nat) (hi : i < n) : ∃ g, A = some ⟨g, 0, none⟩ ∧ n ≤ c ∧ g < w.heap.size ∧ w.cell? ⟨g, i, none⟩ = some (ts.getD i undef) := by
  rcases h.2 with ⟨_, h0⟩ | ⟨g, cap, cur, hv, _, hh, hcap, _, hs, ht⟩
  · omega
  · cases hv
    refine ⟨g, rfl, hcap, (Array.getElem?_eq_some_iff.1 hh).1, ?_⟩
    rw [cell_row hh]
    have h2 : cur[i]? = cur.toList[i]? := by simp
    have h3 : (cur.toList.take (n * 1))[i]? = cur.toList[i]? := by rw [List.getElem?_take, if_pos (by omega)]
    rw [h2, ← h3, ht]
    have hl : ts.length = n := by have := h.1; omega
    simp [List.getD_eq_getElem?_getD, show i < ts.length by omega]
set_option maxHeartbeats 1000000 in
theorem all_any {w : World} {K : DK} {J : LK} {S : LS} (h : Lg w K J S) : Calls Try.prog 13 #[J.ptr] w fun e w' => ∃ g, e = .returned (.slice (some ⟨g, 0, none⟩) S.texts.length S.texts.length) ∧ Rows w.heap.size S.texts S.texts.length S.texts.length g w' ∧ Below w.heap.size w w' := by
  have Hm := Lib.hid (lmade_any h)
  obtain ⟨_, _, _, _, _, c5, _⟩ := h.cells
  have hn : S.texts.length ≤ 16384 := by have := h.cnt; have := h.fit; have := h.end_; omega
  have H := Lib.hid h
  obtain ⟨A, c, hv⟩ := own_nilK h.own
  have hown := h.own
  rw [hv] at c5 hown
  unfold LK.ptr at *
  obtain ⟨n, hn'⟩ : ∃ n, n = S.texts.length := ⟨_, rfl⟩
  rw [← hn'] at hn c5 hown ⊢
  have HN := Lib.hid hn'
  have Hown := Lib.hid hown
  obtain ⟨Cz, hCz, hmk⟩ := mk_slots n (by omega) w
  have hz : Rows w.heap.size S.texts n 0 w.heap.size (w.alloc (.cells Cz 33)) := ⟨⟨Cz, Go.heap_alloc_new _ _, hCz, fun i hi => by omega⟩, Nat.le_refl _⟩
  have hb0 : Below w.heap.size w (w.alloc (.cells Cz 33)) := (Below.refl _ _).alloc (Nat.le_refl _) _
  have hgl := h.glt
  have c52 := (hb0.cell (p := ⟨J.g, 5, none⟩) hgl).trans c5
  have Hz := Lib.hid hz
  have Hb0 := Lib.hid hb0
  clear h hn' hv hown hCz hz hgl hb0
  obtain ⟨w1, hw1⟩ : ∃ w1, w1 = w.alloc (.cells Cz 33) := ⟨_, rfl⟩
  rw [← hw1] at hmk c52 Hz Hb0
  clear hw1
  go_enter Try.func13, Try.ntmps13
  go_wp2_with (first
    | (go_at_call 29; refine Hm.out.mono ?_; rintro e w' ⟨rfl, rfl⟩))
  go_loopw [20] (fun v wr => ∃ i : Nat, i ≤ n ∧ v = .int .i64 i ∧ Hid (Rows w.heap.size S.texts n i w.heap.size wr ∧ Below w.heap.size w wr)) (fun v _ => n - (intOf v).toNat)
  case atStart => exact ⟨0, Nat.zero_le _, rfl, Hz.out, Hb0.out⟩
  case round =>
    obtain ⟨i, hi, rfl, hr⟩ := hrel
    by_cases hlt : i < n
    · have hltI : (i : Int) < (n : Int) := by omega
      obtain ⟨g, rfl, hcap, hg, hc⟩ := own_cellS Hown.out i hlt
      obtain ⟨A2, c2, e2, hB2⟩ := H.out.txt i (by rw [← HN.out]; exact hlt)
      rw [e2] at hc
      have hcr := (hr.out.2.cell (p := ⟨g, i, none⟩) hg).trans hc
      have hcl := clone_sl (L := S.texts.getD i []) ⟨A2, c2, rfl, hB2.below hr.out.2 (Nat.le_refl _)⟩ (by
        have hm : S.texts.getD i [] ∈ S.texts := by
          rw [List.getD_eq_getElem?_getD, List.getElem?_eq_getElem (by rw [← HN.out]; exact hlt), Option.getD_some]
          exact List.getElem_mem _
        have := (H.out.inb _ hm).2
        omega)
      have Hcl := Lib.hid hcl
      obtain ⟨m2, hm2⟩ : ∃ m2, m2 = (S.texts.getD i []).length := ⟨_, rfl⟩
      rw [← hm2] at hcr Hcl
      have Hm2 := Lib.hid hm2
      clear hcl hc hB2 hm2 e2
      go_upto_region 7 with (fail)
      have Hr := Lib.hid (hr.out)
      clear hr
      go_wp2_with (go_at_call 28; refine Hcl.out.mono ?_; rintro e w2 ⟨v2, rfl, ho, hb⟩; obtain ⟨A3, c3, rfl⟩ := own_nilK ho; have Ho := Lib.hid ho; have Hb := Lib.hid hb; have hr2 := Hr.out.1.later hb; obtain ⟨⟨C2, hC2, _⟩, _⟩ := id hr2; have f2 := free_row hC2 i; have cc := cell_row hC2 i; have Hr2 := Lib.hid hr2; clear ho hb hr2 hC2)
      have hlt2 := Hr.out.1.lt
      have ho2 := Ho.out
      rw [Hm2.out] at ho2 ⊢
      refine ⟨⟨i + 1, by omega, by go_num, Hr2.out.next hlt (own_sl ho2 rfl) (fun q hq => by have := (ho2.lt q hq).1; have := Hr.out.2.size; omega), (Hr.out.2.trans (Hb.out.mono Hr.out.2.size)).setCell (Nat.le_refl _) _⟩, by simp [intOf]; omega⟩
    · have hltI : ¬ (i : Int) < (n : Int) := by omega
      obtain rfl : i = n := by omega
      go_wp2
      go_ret
      exact ⟨_, rfl, hr.out.1, hr.out.2⟩
end Go.Proofs.Ytpeioogkbcejmaa.Slt
/- DERIVED. Texts and slices of bytes, there and back; no number of a type. -/
namespace Go.Proofs.Ytpeioogkbcejmaa.Str
open Go.RowKit
/-- a text's bytes. -/
def bOf (s : ByteArray) : List Int := s.data.toList.map fun b => (b.toNat : Int)
theorem bOf_length (s : ByteArray) : (bOf s).length = s.size := by rw [bOf, List.length_map, Array.length_toList]; rfl
theorem bOf_in (s : ByteArray) : InB (bOf s) := by
  intro j
  by_cases h : j < (bOf s).length
  · have h' : j < s.data.toList.length := by simpa [bOf] using h
    have e : (bOf s).getD j 0 = ((s.data.toList[j]).toNat : Int) := by simp [bOf, List.getD_eq_getElem?_getD, List.getElem?_map, List.getElem?_eq_getElem h']
    rw [e]
    have := (s.data.toList[j]).toNat_lt
    omega
  · rw [getD_out _ _ (Nat.le_of_not_lt h)]; omega
theorem byt_string (w : World) (s : ByteArray) : Byt (Lib.bytesWorld w 5 s) (some ⟨w.heap.size, 0, none⟩) (grownCap w s.size 0 5) (bOf s) := by
  refine ⟨by rw [bOf_length]; exact grownCap_ge _ _ _ _, (fun h => by cases h), fun _ => ⟨w.heap.size, 0, rfl, by rw [Lib.bytesWorld_size]; omega, fun j hj => ?_⟩⟩
  rw [bOf_length] at hj
  rw [Nat.zero_add, Lib.bytesWorld_cell w 5 s j hj]
  have h' : j < s.data.toList.length := by simpa using hj
  simp [bOf, List.getD_eq_getElem?_getD, List.getElem?_map, List.getElem?_eq_getElem h']
theorem below_string (w : World) (s : ByteArray) : Below w.heap.size w (Lib.bytesWorld w 5 s) := by
  refine ⟨?_, ?_, ?_, by rw [Lib.bytesWorld_size]; omega, fun k hk => Lib.bytesWorld_at_old w 5 s k hk⟩
  all_goals (simp only [Lib.bytesWorld, World.freeze]; rfl)
/-- a text as bytes. -/
theorem run_bytes (w : World) (s : ByteArray) : (convert 9 33 (.string s)).run Try.prog w = .ok (.slice (some ⟨w.heap.size, 0, none⟩) s.size (grownCap w s.size 0 5)) (Lib.bytesWorld w 5 s) :=
  Lib.run_convert_string_bytes w 9 33 5 s Try.underlying9 Try.underlying33 Try.underlying5
/-- a slice of bytes as a text, empty ones let in. -/
theorem conv_any {w : World} {A : Option Addr} {c n : Nat} {L : List Int} (hB : Byt w A c L) (hn : L.length = n) : (convert 33 9 (.slice A n c)).run Try.prog w = .ok (.string (strOfNums L)) w := by
  by_cases h0 : 0 < n
  · obtain ⟨g, off, rfl, _, hc⟩ := hB.2.2 (by omega)
    exact run_convert_bytes_arg w 33 5 Try.underlying33 Try.underlying5 g off n c L hn (fun i hi => hc i (by omega)) 9 Try.underlying9
  · obtain rfl : n = 0 := by omega
    obtain rfl : L = [] := List.eq_nil_of_length_eq_zero hn
    cases A with
    | none => exact run_convert_bytes_nil w 33 5 Try.underlying33 Try.underlying5 0 c 9 Try.underlying9
    | some a =>
      rw [run_convert_bytes_string w 33 9 5 _ 0 c Try.underlying33 Try.underlying5 Try.underlying9]
      simp [Conv.bytesToString, loadCells, loadCellsFrom, strOfNums]
      rfl
/-- a slice's beginning. -/
theorem byt_take {w : World} {A : Option Addr} {c : Nat} {L : List Int} (h : Byt w A c L) (k : Nat) : Byt w A c (L.take k) := by
  obtain ⟨h1, h2, h3⟩ := h
  refine ⟨by rw [List.length_take]; omega, h2, fun h0 => ?_⟩
  rw [List.length_take] at h0
  obtain ⟨g, off, e, hg, hc⟩ := h3 (by omega)
  refine ⟨g, off, e, hg, fun j hj => ?_⟩
  rw [List.length_take] at hj
  rw [hc j (by omega)]
  simp [List.getD_eq_getElem?_getD, show j < k by omega]
theorem byt_rowT {w : World} {g : Nat} {t : TypeId} {l : List Int} {fr : Nat × Nat} (h : w.heap[g]? = some (.cells (u8s l) t fr)) {n : Nat} (hn : l.length = n) : Byt w (some ⟨g, 0, none⟩) n l :=
  ⟨by omega, (fun h => by cases h), fun _ => ⟨g, 0, rfl, (Array.getElem?_eq_some_iff.1 h).1, fun j hj => by rw [Nat.zero_add, cell_row h, u8s_get _ _ hj]⟩⟩
theorem inB_get {L : List Int} (h : InB L) : ∀ x ∈ L, 0 ≤ x ∧ x < 256 := by
  intro x hx
  obtain ⟨j, hj, rfl⟩ := List.getElem_of_mem hx
  have := h j
  simpa [List.getD_eq_getElem?_getD, hj] using this
theorem bOf_str {L : List Int} (h : InB L) : bOf (strOfNums L) = L := by
  have hm := inB_get h
  unfold bOf
  rw [strOfNums_data, List.map_map]
  conv => rhs; rw [← List.map_id L]
  refine List.map_congr_left fun x hx => ?_
  have := hm x hx
  simp
  omega
theorem str_bOf (s : ByteArray) : strOfNums (bOf s) = s := by
  unfold strOfNums bOf
  congr 1
  rw [List.map_map]
  have : ((fun n : Int => UInt8.ofNat n.toNat) ∘ fun b : UInt8 => (b.toNat : Int)) = id := by
    funext b
    simp
  rw [this, List.map_id]
theorem str_inj {L M : List Int} (h : InB L) (k : InB M) (e : strOfNums L = strOfNums M) : L = M := by
  rw [← bOf_str h, ← bOf_str k, e]
theorem toList_inj {s t : ByteArray} (e : s.toList = t.toList) : s = t := by
  rw [ByteArray.toList_eq, ByteArray.toList_eq] at e
  cases s; cases t
  simpa using e
theorem str_ne {L M : List Int} (h : InB L) (k : InB M) (e : L ≠ M) : ¬ (strOfNums L).toList = (strOfNums M).toList := fun h' => e (str_inj h k (toList_inj h'))
theorem bOf_inj {s t : ByteArray} (e : bOf s = bOf t) : s = t := by
  rw [← str_bOf s, ← str_bOf t, e]
end Go.Proofs.Ytpeioogkbcejmaa.Str
