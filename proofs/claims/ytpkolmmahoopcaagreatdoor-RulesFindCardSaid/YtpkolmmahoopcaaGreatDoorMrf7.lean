/- DERIVED. Texts of ours, merged: XOwn XRulTextV. -/
import Derived.Test.YtpkolmmahoopcaaGreatDoorMrf1
import Derived.Maps.AppendAt
import Derived.OwnWalk
import Derived.Deep.DeepCutAuto
import Derived.Test.YtpkolmmahoopcaaGreatDoorMrf5
import Derived.Test.YtpkolmmahoopcaaGreatDoorShelf
import Derived.Lib.Builder
import Derived.Lib.AppendStr
import Derived.Test.YtpkolmmahoopcaaGreatDoorMrf3
import Derived.Test.YtpkolmmahoopcaaGreatDoorMrf6
/- DERIVED. Rows of numbers of any kind that a call makes by append: what they hold, how they grow, what stays. No program. -/
namespace Go.Proofs.YtpkolmmahoopcaaGreatDoor
open Go.RowKit
def valsK (k : IntKind) (L : List Int) : List Value := L.map (Value.int k)
theorem valsK_length (k : IntKind) (L : List Int) : (valsK k L).length = L.length := by simp [valsK]
theorem valsK_one (k : IntKind) (L : List Int) : ∀ u ∈ valsK k L, u.oneCell' = true := by
  intro u hu
  simp only [valsK, List.mem_map] at hu
  obtain ⟨x, _, rfl⟩ := hu
  rfl
theorem one_oneK (k : IntKind) (x : Int) : ∀ u ∈ [Value.int k x], u.oneCell' = true := by
  intro u hu
  simp at hu
  subst hu
  rfl
theorem valsK_u8 (L : List Int) : valsK .u8 L = vals L := rfl
theorem moreK (k : IntKind) (L : List Int) (x : Int) : valsK k L ++ [.int k x] = valsK k (L ++ [x]) := by simp [valsK]
theorem take_moreK (k : IntKind) {L : List Int} {j : Nat} (h : j < L.length) : valsK k (L.take j) ++ [.int k (L.getD j 0)] = valsK k (L.take (j + 1)) := by
  have e : L.getD j 0 = L[j] := by simp [List.getD_eq_getElem?_getD, h]
  rw [e, List.take_succ_eq_append_getElem h]
  simp only [valsK, List.map_append, List.map_cons, List.map_nil]
theorem take_getD {L : List Int} {j : Nat} (h : j < L.length) : L.take j ++ [L.getD j 0] = L.take (j + 1) := by
  have e : L.getD j 0 = L[j] := by simp [List.getD_eq_getElem?_getD, h]
  rw [e, List.take_succ_eq_append_getElem h]
/-- numbers that lie in a row, from its beginning on. -/
def RowK (k : IntKind) (w : World) (g : Nat) (L : List Int) : Prop := g < w.heap.size ∧ ∀ j, j < L.length → w.cell? ⟨g, j, none⟩ = some (.int k (L.getD j 0))
theorem RowK.below {k : IntKind} {w w' : World} {g B : Nat} {L : List Int} (h : RowK k w g L) (hb : Below B w w') (hB : g < B) : RowK k w' g L :=
  ⟨Nat.lt_of_lt_of_le h.1 hb.size, fun j hj => (World.cell?_of_block (hb.block _ hB)).trans (h.2 j hj)⟩
theorem RowK.later {k : IntKind} {w w' : World} {g : Nat} {L : List Int} (h : RowK k w g L) (hb : Below w.heap.size w w') : RowK k w' g L := h.below hb h.1
/-- what a value of the call's own holds: nothing, or a row of its own. -/
theorem own_rowK {k : IntKind} {w : World} {base n : Nat} {t : TypeId} {v : Value} {L : List Int} (h : w.ownsRow base t 1 v n (valsK k L)) (hl : L.length = n) (h0 : 0 < n) : ∃ g c, v = .slice (some ⟨g, 0, none⟩) n c ∧ n ≤ c ∧ base ≤ g ∧ RowK k w g L := by
  obtain ⟨_, h⟩ := h
  rcases h with ⟨_, h⟩ | ⟨g, cap, cur, hv, hb, hh, hcap, _, hs, ht⟩
  · omega
  · refine ⟨g, cap, hv, hcap, hb, (Array.getElem?_eq_some_iff.1 hh).1, fun j hj => ?_⟩
    rw [cell_row hh]
    have h2 : cur[j]? = cur.toList[j]? := by simp
    have h3 : (cur.toList.take (n * 1))[j]? = cur.toList[j]? := by rw [List.getElem?_take, if_pos (by omega)]
    rw [h2, ← h3, ht]
    simp [valsK, show j < L.length by omega]
theorem own_nilK {w : World} {base : Nat} {t : TypeId} {v : Value} {L : List Value} {n : Nat} (h : w.ownsRow base t 1 v n L) : ∃ A c, v = .slice A n c := by
  obtain ⟨_, h⟩ := h
  rcases h with ⟨h, h0⟩ | ⟨g, cap, cur, hv, _⟩
  · subst h0; exact ⟨none, 0, h⟩
  · exact ⟨_, cap, hv⟩
theorem RowK.byt {w : World} {g c : Nat} {L : List Int} (h : RowK .u8 w g L) (hc : L.length ≤ c) : Byt w (some ⟨g, 0, none⟩) c L :=
  ⟨hc, (fun h => by cases h), fun _ => ⟨g, 0, rfl, h.1, fun j hj => by rw [Nat.zero_add]; exact h.2 j hj⟩⟩
/-- a row of the call's own stays where nothing below a bound above it turns. -/
theorem own_stays {w w' : World} {base n s : Nat} {t : TypeId} {v : Value} {L : List Value} (h : w.ownsRow base t s v n L) (hb : Below w.heap.size w w') : w'.ownsRow base t s v n L := by
  obtain ⟨h1, h⟩ := h
  refine ⟨h1, ?_⟩
  rcases h with h | ⟨g, cap, cur, h1, h2, h3, h4, h5, h6, h7⟩
  · exact .inl h
  · exact .inr ⟨g, cap, cur, h1, h2, (hb.block _ (Array.getElem?_eq_some_iff.1 h3).1).trans h3, h4, h5, h6, h7⟩
theorem partsK {P : Program} {t : TypeId} {z : Value} {s b : Nat} (h : (P.info? t).map (fun i => (i.zero, i.size, i.bytes)) = some (some z, s, b)) : ∃ i, P.info? t = some i ∧ i.zero = some z ∧ i.size = s ∧ i.bytes = b := by
  cases hq : P.info? t with
  | none => rw [hq] at h; cases h
  | some i =>
    rw [hq] at h
    simp at h
    exact ⟨i, rfl, h.1, h.2.1, h.2.2⟩
theorem own_alloc {w : World} {base n s : Nat} {t : TypeId} {v : Value} {L : List Value} (h : w.ownsRow base t s v n L) (o : Obj) : (w.alloc o).ownsRow base t s v n L :=
  own_stays h ((Below.refl w.heap.size w).alloc (Nat.le_refl _) o)
/-- a row of the call's own, one number longer: what it holds then, what is as it was. -/
structure Grew (k : IntKind) (base : Nat) (e : TypeId) (n : Nat) (L : List Int) (y : Int) (wr : World) (v v' : Value) (w' : World) : Prop where
  own : w'.ownsRow base e 1 v' (n + 1) (valsK k (L ++ [y]))
  low : ∀ B u, Below B u wr → B ≤ base → Below B u w'
  keep : ∀ q b, wr.heap[q]? = some b → v.ownBlock ≠ some q → w'.heap[q]? = some b
  size : wr.heap.size ≤ w'.heap.size
theorem wpList_append_mine {P : Program} {k : IntKind} {wr : World} {ops : Array Oper} {rest : List Oper} {o : Oper} {a : Act} {Q : Exit → Act → World → Prop} (hgd : o.guard = none) (s x : Operand) (t : TypeId)
    (ho : o.op = .call { callee := .builtin .append, args := #[s, x], argTypes := #[t, t] }) (base : Nat) (e : TypeId) (i : TypeInfo) (z : Value) (bytes : Nat) (ht : P.underlying t = some (.slice e)) (hi : P.info? e = some i) (hz : i.zero = some z)
    (hsize : i.size = 1) (hby : i.bytes = bytes) (hzs : z.cells.size = 1) (hb8 : bytes ≤ 8) (v : Value) (n : Nat) (L : List Int) (y : Int) (hs : a.eval s = v) (hown : wr.ownsRow base e 1 v n (valsK k L)) (hx : a.eval x = .slice (some ⟨wr.heap.size, 0, none⟩) 1 1)
    (hn : n ≤ 100000) (hbase : base ≤ wr.heap.size) (h : ∀ v' w', Grew k base e n L y wr v v' w' → wpList P ops Q rest (a.put o.dst v') w') : wpList P ops Q (o :: rest) a (wr.alloc (.cells #[.int k y] e)) := by
  have hsz : (wr.alloc (.cells #[.int k y] e)).heap.size = wr.heap.size + 1 := by rw [World.size_alloc]
  have hge : ∀ q, v.ownBlock = some q → base ≤ q := fun q hq => (hown.lt q hq).1
  have hlt : ∀ q, v.ownBlock = some q → q < wr.heap.size := fun q hq => (hown.lt q hq).2
  refine wpList_append_own_at _ hgd s x t ho base e i z 1 bytes ht hi hz hsize hby hzs (by decide) v n (valsK k L) hs (own_alloc hown _) ⟨wr.heap.size, 0, none⟩ 1 1 [.int k y] hx rfl (cell_one_new _ _ _) (one_oneK k y) (by unfold maxLen; omega) (by have : (n + 1) * bytes ≤ (n + 1) * 8 := Nat.mul_le_mul_left _ hb8; omega) (by omega) ?_
  intro v' w' hown' hgrow _ _
  rw [moreK] at hown'
  have hs2 := hgrow.size
  exact h v' w' ⟨hown', fun B u hb hB => (hb.alloc (Nat.le_trans hB hbase) _).grown hgrow (by omega) (fun q hq => Nat.le_trans hB (hge q hq)), fun q b hq hne => by
    have hq2 := (Array.getElem?_eq_some_iff.1 hq).1
    rw [hgrow.block q (by omega) (fun e => hne (by rw [e]))]
    exact (Go.heap_alloc_old _ _ hq2).trans hq, by omega⟩
end Go.Proofs.YtpkolmmahoopcaaGreatDoor
/- DERIVED. strings.Builder's WriteString at this program, rules.write, and the contract of rules.Text at any table. -/
namespace Go.Proofs.YtpkolmmahoopcaaGreatDoor.Rul
section
open Go.RowKit
theorem infoBu : (Tryz.prog.info? 57).map (·.size) = some 2 := by kernel_rfl
theorem liesBu : liesAt Tryz.prog Tryz.prog.depth 57 (2 / Tryz.prog.cellsOf 57) 0 57 1 = true := by kernel_rfl
set_option maxHeartbeats 1000000 in
theorem check_used (b : Nat) (w : World) (h0 : w.cell? ⟨b, 0, none⟩ = some (.pointer (some ⟨b, 0, none⟩))) :
    Calls Tryz.prog 57 #[.pointer (some ⟨b, 0, none⟩)] w fun e w' => e = .returned (.tuple #[]) ∧ w' = w := by
  obtain ⟨j, hj, _⟩ := Option.map_eq_some_iff.1 infoBu
  have hne := fun w : World => Lib.run_neq_ptr_same (P := Tryz.prog) w ⟨b, 0, none⟩ Tryz.underlying54 hj
  go_enter Tryz.func57, Tryz.ntmps57
  go_wp2
  go_end0
  exact ⟨rfl, rfl⟩
set_option maxRecDepth 100000 in
set_option maxHeartbeats 1000000 in
theorem check_fresh (b : Nat) (w : World) (h0 : w.cell? ⟨b, 0, none⟩ = some (.pointer none)) (hsh : w.shape? b = some (57, 2)) (hfz : w.frozen? ⟨b, 0, none⟩ = false) :
    Calls Tryz.prog 57 #[.pointer (some ⟨b, 0, none⟩)] w fun e w' => e = .returned (.tuple #[]) ∧ w' = w.setCell ⟨b, 0, none⟩ (.pointer (some ⟨b, 0, none⟩)) := by
  obtain ⟨j, hj, hjs⟩ := Option.map_eq_some_iff.1 infoBu
  go_enter Tryz.func57, Tryz.ntmps57
  go_wp2
  rw [Lib.run_to_unsafe w ⟨b, 0, none⟩ Tryz.underlying54 Tryz.underlying96 hj (by rw [hjs]; decide) hsh (Nat.zero_lt_succ 1)]
  simp only [Result.andThen]
  rw [Oper.upon_value]
  go_wp2
  rw [run_callFunc_extern Tryz.func77 (by kernel_rfl) (by kernel_rfl) (by kernel_rfl) (e := Extern.AbiNoEscape.same) (by kernel_rfl)]
  rw [Lib.run_noEscape]
  simp only [Result.andThen]
  rw [Oper.upon_value]
  go_wp2
  rw [Lib.run_from_unsafe w ⟨b, 0, none⟩ Tryz.underlying96 Tryz.underlying54 hj hsh liesBu]
  simp only [Result.andThen]
  rw [Oper.upon_value]
  go_wp2
  go_end0
  exact ⟨rfl, rfl⟩
/-- rows of other types stay. -/
def Stays (w w' : World) : Prop := ∀ (k : Nat) (C : Array Value) (T : TypeId) (fr : Nat × Nat), w.heap[k]? = some (.cells C T fr) → T ≠ 5 → T ≠ 57 → w'.heap[k]? = some (.cells C T fr)
theorem Stays.trans {a b c : World} (h : Stays a b) (k : Stays b c) : Stays a c := fun i C T fr hc h1 h2 => k i C T fr (h i C T fr hc h1 h2) h1 h2
theorem Stays.setB {w : World} {b j : Nat} {cs : Array Value} {fr : Nat × Nat} (hb : w.heap[b]? = some (.cells cs 57 fr)) (v : Value) : Stays w (w.setCell ⟨b, j, none⟩ v) := fun i C T fr' hc _ h2 => by
  have hne : i ≠ b := fun e => by
    rw [e, hb] at hc
    cases hc
    exact h2 rfl
  exact (Below.heap_setCell _ _ _ _ hne).trans hc
abbrev IsB (B b : Nat) (bs : List Value) (w : World) : Prop := Lib.IsBuilder 57 5 B b bs w
theorem check_any (B b : Nat) (bs : List Value) (w : World) (h : IsB B b bs w) :
    Calls Tryz.prog 57 #[.pointer (some ⟨b, 0, none⟩)] w fun e w' => e = .returned (.tuple #[]) ∧ (Lib.BuilderAt 57 5 B b (.pointer (some ⟨b, 0, none⟩)) bs w' ∧ Below B w w' ∧ Stays w w') := by
  rcases h with h | h
  · refine (check_fresh b w h.cell0 h.shape h.frozen0).mono ?_
    rintro e w' ⟨rfl, rfl⟩
    obtain ⟨_, v, hb, _⟩ := id h
    exact ⟨rfl, h.used _, (Below.refl B w).setCell (p := ⟨b, 0, none⟩) h.1 _, .setB hb _⟩
  · refine (check_used b w h.cell0).mono ?_
    rintro e w' ⟨rfl, rfl⟩
    exact ⟨rfl, h, Below.refl B _, fun _ _ _ _ hc _ _ => hc⟩
theorem info8z : (Tryz.prog.info? 5).map (fun i => (i.zero, i.size, i.bytes)) = some (some (.int .u8 0), 1, 1) := by kernel_rfl
set_option maxHeartbeats 2000000 in
theorem writes_any (B b : Nat) (bs : List Value) (s : ByteArray) (w : World) (h : IsB B b bs w) (hlen : bs.length + s.size ≤ 1000000) (hBw : B ≤ w.heap.size) :
    Calls Tryz.prog 43 #[.pointer (some ⟨b, 0, none⟩), .string s] w fun e w' => e = .returned (.tuple #[.int .i64 s.size, .nilIface]) ∧ (IsB B b (bs ++ Lib.strCells s) w' ∧ Below B w w' ∧ Stays w w') := by
  obtain ⟨i0, hi, hz0, hz1, hz2⟩ := info_parts info8z
  go_enter Tryz.func43, Tryz.ntmps43
  go_wp2_with (go_at_call 57; refine (check_any B b bs _ h).mono ?_)
  rintro e w1 ⟨rfl, h1, hb1, hst⟩
  obtain ⟨hB, v, hbk, hown, hne⟩ := h1
  have c0 : w1.cell? ⟨b, 0, none⟩ = some (.pointer (some ⟨b, 0, none⟩)) := by rw [Lib.cell_of_heap hbk]; rfl
  have c1 : w1.cell? ⟨b, 1, none⟩ = some v := by rw [Lib.cell_of_heap hbk]; rfl
  go_wp2_with (at_builtin; refine Lib.wpList_append_own_string _ rfl _ _ 55 9 rfl B 5 i0 Tryz.underlying55 Tryz.underlying9 hi hz0 hz1 hz2 _ _ _ rfl hown s rfl ?c3 ?c4 ?c5 ?_)
  case c3 => unfold maxLen; omega
  case c4 => omega
  case c5 => have := hb1.size; omega
  intro v' w2 hown' hgrow _
  have hlt : b < w1.heap.size := (Array.getElem?_eq_some_iff.1 hbk).1
  have hb2 : w2.heap[b]? = some (.cells #[.pointer (some ⟨b, 0, none⟩), v] 57 (0, 0)) := by
    rw [hgrow.block b hlt (fun e => hne e.symm)]
    exact hbk
  have d0 : w2.cell? ⟨b, 0, none⟩ = some (.pointer (some ⟨b, 0, none⟩)) := by rw [Lib.cell_of_heap hb2]; rfl
  have d1 : w2.cell? ⟨b, 1, none⟩ = some v := by rw [Lib.cell_of_heap hb2]; rfl
  have f1 : w2.frozen? ⟨b, 1, none⟩ = false := Lib.frozen_of_heap hb2 1
  obtain ⟨ao, n', cap, rfl⟩ : ∃ ao n' cap, v' = .slice ao n' cap := by
    rcases hown'.2 with ⟨hv, _⟩ | ⟨g, cap, cur, hv, _⟩
    · exact ⟨_, _, _, hv⟩
    · exact ⟨_, _, _, hv⟩
  go_wp2
  go_ret2
  refine ⟨rfl, .inr ?_, ?_, ?_⟩
  · exact Lib.BuilderAt.put (T := 57) (e := 5) hB hb2 (bs' := bs ++ Lib.strCells s) (by simpa [Lib.strCells_length] using hown') (by decide)
  · exact (hb1.grown hgrow (by have := hb1.size; omega) (fun k hk => (hown.lt k hk).1)).setCell (p := ⟨b, 1, none⟩) hB _
  · refine hst.trans (Stays.trans (b := w2) (fun i C T fr hc h1 _ => ?_) (.setB hb2 _))
    exact (hgrow.block i (Array.getElem?_eq_some_iff.1 hc).1 (fun e => Lib.ownBlock_ne hown hc h1 e.symm)).trans hc
/-- the texts one behind the other. -/
def catS (ss : List ByteArray) : List Value := ss.flatMap Lib.strCells
theorem catS_next (ss : List ByteArray) (s : ByteArray) : catS (ss ++ [s]) = catS ss ++ Lib.strCells s := by simp [catS]
set_option maxHeartbeats 2000000 in
theorem write_any (B b g : Nat) (bs : List Value) (ss : List ByteArray) (n c : Nat) (fr : Nat × Nat) (w : World) (hn : ss.length = n) (hR : w.heap[g]? = some (.cells (ss.map Value.string).toArray 9 fr)) (h : IsB B b bs w) (hlen : bs.length + (catS ss).length ≤ 900000) (hBw : B ≤ w.heap.size) (hn9 : n ≤ 1000) :
    Calls Tryz.prog 27 #[.pointer (some ⟨b, 0, none⟩), .slice (some ⟨g, 0, none⟩) n c] w fun e w' => e = .returned (.tuple #[]) ∧ IsB B b (bs ++ catS ss) w' ∧ Below B w w' ∧ Stays w w' := by
  have Hn := Lib.hid hn
  have HR := Lib.hid hR
  have H0 := Lib.hid h
  have Hlen := Lib.hid hlen
  have HBw := Lib.hid hBw
  clear hn hR h hlen hBw
  go_enter Tryz.func27, Tryz.ntmps27
  go_wp2
  go_loopw [8] (fun v wr => ∃ i : Nat, i ≤ n ∧ v = .int .i64 i ∧ Hid (IsB B b (bs ++ catS (ss.take i)) wr ∧ Below B w wr ∧ Stays w wr)) (fun v _ => n - (intOf v).toNat)
  case atStart => exact ⟨0, Nat.zero_le _, rfl, by rw [List.take_zero]; simpa [catS] using H0.out, Below.refl _ _, fun _ _ _ _ hc _ _ => hc⟩
  case round =>
    obtain ⟨i, hi, rfl, hr⟩ := hrel
    clear H0
    by_cases hlt : i < n
    · have hltI : (i : Int) < (n : Int) := by omega
      obtain ⟨s, hs⟩ : ∃ s, ss[i]? = some s := ⟨_, List.getElem?_eq_getElem (by rw [Hn.out]; exact hlt)⟩
      have hcr : wr.cell? ⟨g, i, none⟩ = some (.string s) := by
        rw [cell_row (hr.out.2.2 g _ _ _ HR.out (by decide) (by decide))]
        simp [hs]
      have ht : ss.take (i + 1) = ss.take i ++ [s] := by
        rw [List.take_add_one, hs]; rfl
      have hle : (catS (ss.take (i + 1))).length ≤ (catS ss).length := by
        have e : catS ss = catS (ss.take (i + 1)) ++ catS (ss.drop (i + 1)) := by unfold catS; rw [← List.flatMap_append, List.take_append_drop]
        rw [e, List.length_append]; omega
      have hw := writes_any B b (bs ++ catS (ss.take i)) s wr hr.out.1 (by
        have h1 := Hlen.out
        rw [ht, catS_next, List.length_append, Lib.strCells_length] at hle
        rw [List.length_append]
        omega) (Nat.le_trans HBw.out hr.out.2.1.size)
      rw [List.append_assoc, ← catS_next, ← ht] at hw
      have Hw := Lib.hid hw
      clear hw ht hle
      go_wp2_with (go_at_call 43; refine Hw.out.mono ?_; rintro e w2 ⟨rfl, hb2, hl2, hs2⟩; have Hb2 := Lib.hid hb2; have Hl2 := Lib.hid hl2; have Hs2 := Lib.hid hs2; clear hb2 hl2 hs2)
      exact ⟨⟨i + 1, by omega, by go_num, Hb2.out, hr.out.2.1.trans Hl2.out, hr.out.2.2.trans Hs2.out⟩, by simp [intOf]; omega⟩
    · have hltI : ¬ (i : Int) < (n : Int) := by omega
      obtain rfl : i = n := by omega
      go_wp2
      go_end0
      have h1 := hr.out.1
      rw [List.take_of_length_le (by rw [Hn.out]; exact Nat.le_refl _)] at h1
      exact ⟨rfl, h1, hr.out.2⟩
theorem string_any (B b : Nat) (l : List UInt8) (w : World) (h : IsB B b (Lib.byteCells l) w) (hBw : B ≤ w.heap.size) :
    Calls Tryz.prog 30 #[.pointer (some ⟨b, 0, none⟩)] w fun e w' => e = .returned (.string ⟨l.toArray⟩) ∧ Below B w w' := Tryz.Builder_String_any B b l w h hBw
end
section
open Go.RowKit Lab Pth Dig Str
attribute [local go_sem ↓ high] loadAtLb
theorem digC_hexC (m : Nat) : digC m = hexC m := rfl
theorem digL_hexF (k n : Nat) : digL 16 k n = hexF k n := by
  induction k generalizing n with
  | zero => rfl
  | succ k ih => rw [digL, hexF, ih]; rfl
theorem digL_decL : ∀ i : Fin 16, digL 10 1 i.val = decL i.val := by decide
theorem labT_valid (lv cp : Nat) (h : lv < 16) : strOfNums (labT (lv : Int) cp) = textB lv cp := by
  have h1 : digL 10 1 lv = decL lv := digL_decL ⟨lv, h⟩
  rw [labT, if_pos (by omega), textB, hexL, ← str_app, ← str_app, digL_hexF, Int.toNat_natCast, h1]
  rfl
theorem dec_digits : ∀ (k n : Nat), n < 10 ^ (k + 1) → (strOfNums (digL 10 k n)).data.toList = Lib.decDigits n := by
  have one : ∀ n, n < 10 → (strOfNums [digC n]).data.toList = [UInt8.ofNat (48 + n)] := by
    intro n h
    have : ∀ i : Fin 10, (strOfNums [digC i.val]).data.toList = [UInt8.ofNat (48 + i.val)] := by decide
    exact this ⟨n, h⟩
  intro k
  induction k with
  | zero =>
    intro n h
    have h : n < 10 := by simpa using h
    rw [digL, Nat.mod_eq_of_lt h, Lib.decDigits, dif_pos h]
    exact one n h
  | succ k ih =>
    intro n h
    rw [digL, Lib.decDigits]
    by_cases hn : n < 10
    · rw [if_pos hn, dif_pos hn, Nat.mod_eq_of_lt hn]
      exact one n hn
    · rw [if_neg hn, dif_neg hn, ← str_app, ByteArray.data_append, Array.toList_append, one _ (Nat.mod_lt _ (by decide)), ih (n / 10) (by rw [Nat.pow_succ] at h; omega)]
theorem itoa_num (v : Int) (h1 : -1000000000 < v) (h2 : v < 1000000000) : (⟨(Lib.itoa v).toArray⟩ : ByteArray) = strOfNums (numL v) := by
  unfold Lib.itoa numL
  apply ByteArray.ext
  apply Array.toList_inj.1
  by_cases h : v < 0
  · rw [if_pos h, if_pos h, show (45 :: digL 10 8 (-v).toNat : List Int) = [45] ++ digL 10 8 (-v).toNat from rfl, ← str_app, ByteArray.data_append, Array.toList_append, dec_digits 8 _ (by show _ < 1000000000; omega)]
    rw [show (-v).toNat = v.natAbs by omega]
    rfl
  · rw [if_neg h, if_neg h, dec_digits 8 _ (by show _ < 1000000000; omega)]
/-- the table of strconv's powers of ten. -/
def Laid10 (w : World) : Prop := Lib.TabIs Tryz.prog w "internal/strconv.uint64pow10" .u64 Lib.pow10Tab
theorem g10 : Tryz.prog.globalNamed "internal/strconv.uint64pow10" = some 0 := by kernel_rfl
theorem Laid10.below {w w' : World} (h : Laid10 w) (hb : Below w.heap.size w w') : Laid10 w' := by
  unfold Laid10 Lib.TabIs World.var? at h ⊢
  rw [g10] at h ⊢
  simp only [Option.bind_some] at h ⊢
  have hlt : 0 < w.heap.size := by
    rcases Nat.lt_or_ge 0 w.heap.size with h' | h'
    · exact h'
    · rw [Array.getElem?_eq_none h'] at h; cases h
  rw [hb.block _ hlt]
  exact h
theorem itoa_v (v : Int) (h1 : -1000000000 < v) (h2 : v < 1000000000) (w : World) (hL : Laid10 w) :
    Calls Tryz.prog 28 #[.int .i64 v] w fun e w' => e = .returned (.string (strOfNums (numL v))) ∧ Below w.heap.size w w' := by
  refine (Tryz.strconv_Itoa v (by omega) (by omega) w hL).mono ?_
  rintro e w' ⟨rfl, k, os, rfl⟩
  exact ⟨by rw [itoa_num v h1 h2], rfl, rfl, rfl, by simp [Go.Sort.grow], fun k hk => by simp [Go.Sort.grow, Array.getElem?_append, hk]⟩
set_option maxHeartbeats 1000000 in
/-- label.Text at any label. -/
theorem ltext_any (a : Int) (c : Nat) (hc : c < 18446744073709551616) (w : World) (hL : Lab.Laid w) :
    Calls Tryz.prog 29 #[.agg #[.int .i64 a, .int .u64 (c : Nat)]] w fun e w' => e = .returned (.string (strOfNums (labT a c))) ∧ Below w.heap.size w w' := by
  by_cases h : 0 ≤ a ∧ a ≤ 15
  · obtain ⟨n, rfl⟩ := Int.eq_ofNat_of_zero_le h.1
    rw [labT_valid n c (by omega)]
    exact text_any n c (by omega) hc w hL
  · have hT : strOfNums (labT a c) = ⟨#[63]⟩ := by rw [labT, if_neg h]; rfl
    rw [hT]
    obtain ⟨w1, hw1⟩ : ∃ w1, w1 = w.alloc (.cells #[.int .i64 a, .int .u64 (c : Nat)] 34) := ⟨_, rfl⟩
    have h1 : w1.heap[w.heap.size]? = some (.cells #[.int .i64 a, .int .u64 (c : Nat)] 34 (0, 0)) := by rw [hw1]; exact Go.heap_alloc_new w _
    have low1 : Below w.heap.size w w1 := by rw [hw1]; exact (Below.refl _ _).alloc (Nat.le_refl _) _
    have Hw1 := Lib.hid hw1
    have Hlow1 := Lib.hid low1
    have Hc : Hid (Lab.chk a = 2) := by show _ = _; unfold Lab.chk; rw [if_neg (by omega)]
    have c0 : w1.cell? ⟨w.heap.size, 0, none⟩ = some (.int .i64 a) := cell_row h1 0
    have c1 : w1.cell? ⟨w.heap.size, 1, none⟩ = some (.int .u64 (c : Nat)) := cell_row h1 1
    have cL := loadLb_eq (w := w1) (b := w.heap.size) (o := 0) (a := a) (c := c) (fun j u hu => by rw [Nat.zero_add, cell_row h1]; simpa using hu)
    clear hw1 h1 low1 hL h hT
    go_enter Tryz.func29, Tryz.ntmps29
    go_upto_region 1 with (fail)
    rw [← Hw1.out]
    go_wp2_with (go_at_call 19; refine (Lab.check_any _ _ _).mono ?_; rintro e w2 ⟨rfl, low2⟩; have Low2 := Lib.hid low2; clear low2; rw [Hc.out])
    go_ret
    exact ⟨rfl, Hlow1.out.trans (Low2.out.mono Hlow1.out.size)⟩
/-- a line's parts. -/
def lineR (r : Rl) : List ByteArray := [⟨#[10]⟩, strOfNums (labT r.a r.c), ⟨#[32]⟩, r.p]
def partsR (v : Int) (rs : List Rl) : List ByteArray := [⟨#[118]⟩, strOfNums (numL v)] ++ rs.flatMap lineR
theorem parts_next (v : Int) (rs : List Rl) (i : Nat) (r : Rl) (h : rs[i]? = some r) : partsR v (rs.take (i + 1)) = partsR v (rs.take i) ++ lineR r := by
  rw [List.take_add_one, h]
  simp [partsR]
theorem catS_app (a b : List ByteArray) : catS (a ++ b) = catS a ++ catS b := by simp [catS]
def ValidR (r : Rl) : Prop := r.c < 18446744073709551616 ∧ r.p.size ≤ 1000
theorem line_len {r : Rl} (h : ValidR r) : (catS (lineR r)).length ≤ 1022 := by
  have h2 := labT_le r.a r.c
  have h3 := h.2
  simp only [catS, lineR, List.flatMap_cons, List.flatMap_nil, List.length_append, Lib.strCells_length, List.length_nil, str_len]
  have e1 : (⟨#[10]⟩ : ByteArray).size = 1 := rfl
  have e2 : (⟨#[32]⟩ : ByteArray).size = 1 := rfl
  omega
theorem parts_len {v : Int} {rs : List Rl} (h : ∀ r ∈ rs, ValidR r) : (catS (partsR v rs)).length ≤ 11 + rs.length * 1022 := by
  have key : ∀ rs : List Rl, (∀ r ∈ rs, ValidR r) → (catS (rs.flatMap lineR)).length ≤ rs.length * 1022 := by
    intro rs
    induction rs with
    | nil => intro _; simp [catS]
    | cons r t ih =>
      intro h
      have h1 := line_len (h r (by simp))
      have h2 := ih (fun x hx => h x (by simp [hx]))
      rw [List.flatMap_cons, catS_app, List.length_append, List.length_cons]
      omega
  have := key rs h
  unfold partsR
  rw [catS_app, List.length_append]
  have e : (catS [⟨#[118]⟩, strOfNums (numL v)]).length = 1 + (numL v).length := by
    simp only [catS, List.flatMap_cons, List.flatMap_nil, List.length_append, Lib.strCells_length, List.length_nil, str_len]
    rfl
  have := numL_le v
  omega
theorem isB_later {B b : Nat} {bs : List Value} {w w' : World} (h : IsB B b bs w) (hb : Below w.heap.size w w') : IsB B b bs w' := by
  have key : ∀ p, Lib.BuilderAt 57 5 B b p bs w → Lib.BuilderAt 57 5 B b p bs w' := by
    rintro p ⟨h1, v, h2, h3, h4⟩
    exact ⟨h1, v, (hb.block _ (Array.getElem?_eq_some_iff.1 h2).1).trans h2, own_stays h3 hb, h4⟩
  exact h.imp (key _) (key _)
theorem strCells_bytes (s : ByteArray) : Lib.strCells s = Lib.byteCells s.data.toList := by
  simp [Lib.strCells, Lib.byteCells]
theorem catS_bytes (ss : List ByteArray) : ∃ l : List UInt8, Lib.byteCells l = catS ss := by
  refine ⟨ss.flatMap (·.data.toList), ?_⟩
  induction ss with
  | nil => rfl
  | cons s t ih =>
    rw [List.flatMap_cons, catS, List.flatMap_cons, strCells_bytes]
    have : Lib.byteCells (s.data.toList ++ t.flatMap (·.data.toList)) = Lib.byteCells s.data.toList ++ Lib.byteCells (t.flatMap (·.data.toList)) := by simp [Lib.byteCells]
    rw [this, ih]
    rfl
theorem byteCells_inj : ∀ {a b : List UInt8}, Lib.byteCells a = Lib.byteCells b → a = b := by
  intro a
  induction a with
  | nil =>
    intro b h
    cases b with
    | nil => rfl
    | cons x y => simp [Lib.byteCells] at h
  | cons x t ih =>
    intro b h
    cases b with
    | nil => simp [Lib.byteCells] at h
    | cons y u =>
      simp only [Lib.byteCells, List.map_cons, List.cons.injEq, Value.int.injEq, true_and] at h
      obtain ⟨h1, h2⟩ := h
      have e : x = y := UInt8.toNat_inj.1 (by omega)
      rw [e, ih (b := u) (by simpa [Lib.byteCells] using h2)]
theorem strCells_app (a b : ByteArray) : Lib.strCells (a ++ b) = Lib.strCells a ++ Lib.strCells b := by
  simp [Lib.strCells, ByteArray.data_append]
theorem textR_cells (v : Int) (rs : List Rl) : Lib.strCells (textR v rs) = catS (partsR v rs) := by
  have key : ∀ (rs : List Rl) (s : ByteArray), Lib.strCells (rs.foldl lineB s) = Lib.strCells s ++ catS (rs.flatMap lineR) := by
    intro rs
    induction rs with
    | nil => intro s; simp [catS]
    | cons r t ih =>
      intro s
      rw [List.foldl_cons, ih, List.flatMap_cons, catS_app, lineB]
      simp only [strCells_app, catS, lineR, List.flatMap_cons, List.flatMap_nil, List.append_nil, List.append_assoc]
  rw [textR, key, strCells_app, partsR, catS_app]
  simp [catS]
theorem text_of {v : Int} {rs : List Rl} {l : List UInt8} (h : Lib.byteCells l = catS (partsR v rs)) : (⟨l.toArray⟩ : ByteArray) = textR v rs := by
  rw [← textR_cells, strCells_bytes] at h
  rw [byteCells_inj h]
set_option maxRecDepth 100000 in
set_option maxHeartbeats 4000000 in
theorem text_all (v : Int) (A : Option Addr) (n c : Nat) (rs : List Rl) (w : World) (hn : rs.length = n) (hR : Ruls w A c rs) (hv : ∀ r ∈ rs, ValidR r) (hn9 : n ≤ 100) (hv1 : -1000000000 < v) (hv2 : v < 1000000000) (hL : Lab.Laid w) (hL10 : Laid10 w) :
    Calls Tryz.prog 14 #[.agg (tabV v A n c)] w fun e w' => e = .returned (.string (textR v rs)) ∧ Below w.heap.size w w' := by
  have Hn := Lib.hid hn
  have HR := Lib.hid hR
  have HV := Lib.hid hv
  have HL := Lib.hid hL
  have h2 := two_new w (.cells (tabV v A n c) 24) (.cells #[.pointer none, .slice none 0 0] 57)
  have k2 : Below w.heap.size w ((w.alloc (.cells (tabV v A n c) 24)).alloc (.cells #[.pointer none, .slice none 0 0] 57)) := ((Below.refl _ _).alloc (Nat.le_refl _) _).alloc (by rw [World.size_alloc]; omega) _
  obtain ⟨W2, hW2⟩ : ∃ W2, W2 = (w.alloc (.cells (tabV v A n c) 24)).alloc (.cells #[.pointer none, .slice none 0 0] 57) := ⟨_, rfl⟩
  rw [← hW2] at h2 k2
  have HW2 : Hid ((w.alloc (.cells (tabV v A n c) 24)).alloc (.cells #[.pointer none, .slice none 0 0] 57) = W2) := hW2.symm
  have hbu : IsB w.heap.size (w.heap.size + 1) [] W2 := .inl ⟨by omega, .slice none 0 0, h2.2, World.ownsRow_nil _ _ _ _, by simp [Value.ownBlock]⟩
  have HBu := Lib.hid hbu
  have H1 := Lib.hid h2.1
  have K2 := Lib.hid k2
  have c0 : W2.cell? ⟨w.heap.size, 0, none⟩ = some (.int .i64 v) := cell_row h2.1 0
  clear hn hR hv hL h2 k2 hW2 hbu
  go_enter Tryz.func14, Tryz.ntmps14
  go_upto_region 2 with fail
  rw [HW2.out]
  clear HW2
  have Hitoa := Lib.hid (itoa_v v hv1 hv2 W2 (hL10.below (K2.out.mono (Nat.le_refl _))))
  have Hw0 : Hid (∀ wi, Below W2.heap.size W2 wi → Calls Tryz.prog 27 #[.pointer (some ⟨w.heap.size + 1, 0, none⟩), .slice (some ⟨wi.heap.size, 0, none⟩) 2 2] (wi.alloc (.cells #[.string ⟨#[118]⟩, .string (strOfNums (numL v))] 9)) fun e w' => e = .returned (.tuple #[]) ∧ IsB w.heap.size (w.heap.size + 1) (catS (partsR v (rs.take 0))) w' ∧ Below w.heap.size w w' ∧ w'.heap[w.heap.size]? = some (.cells (tabV v A n c) 24 (0, 0))) := fun wi hi => by
    have lA : Below wi.heap.size wi (wi.alloc (.cells #[.string ⟨#[118]⟩, .string (strOfNums (numL v))] 9)) := (Below.refl _ _).alloc (Nat.le_refl _) _
    have h9 : Below W2.heap.size W2 (wi.alloc (.cells #[.string ⟨#[118]⟩, .string (strOfNums (numL v))] 9)) := hi.trans (lA.mono hi.size)
    refine (write_any w.heap.size (w.heap.size + 1) wi.heap.size [] [⟨#[118]⟩, strOfNums (numL v)] 2 2 (0, 0) _ rfl (Go.heap_alloc_new wi _) (isB_later HBu.out h9) ?_ (Nat.le_trans K2.out.size h9.size) (by decide)).mono ?_
    · have := numL_le v
      simp only [catS, List.flatMap_cons, List.flatMap_nil, List.length_append, Lib.strCells_length, List.length_nil, str_len]
      have e1 : (⟨#[118]⟩ : ByteArray).size = 1 := rfl
      omega
    · rintro e w' ⟨rfl, hb, hl, hs⟩
      refine ⟨rfl, ?_, (K2.out.trans (h9.mono K2.out.size)).trans hl, hs _ _ _ _ ((h9.block _ (Array.getElem?_eq_some_iff.1 H1.out).1).trans H1.out) (by decide) (by decide)⟩
      rw [List.take_zero]
      exact hb
  clear hL10 hv1 hv2
  obtain ⟨sv, hsv⟩ : ∃ sv, sv = strOfNums (numL v) := ⟨_, rfl⟩
  rw [← hsv] at Hitoa Hw0
  clear hsv
  go_upto_region 3 with (first
    | (go_at_call 28; refine Hitoa.out.mono ?_; rintro e wi ⟨rfl, lowi⟩; have Li := Lib.hid lowi; clear lowi)
    | (go_at_call 27; refine (Hw0.out _ Li.out).mono ?_; rintro e w3 ⟨rfl, hb3, hl3, hs3⟩; have H13 := Lib.hid hs3; have B3 := Lib.hid hb3; have Low3 := Lib.hid hl3; clear hb3 hl3 hs3))
  have c1 : w3.cell? ⟨w.heap.size, 1, none⟩ = some (.slice A n c) := cell_row H13.out 1
  clear c0
  go_wp2
  clear c1
  go_loopw [14] (fun i wr => ∃ k : Nat, k ≤ n ∧ i = .int .i64 k ∧ Hid (IsB w.heap.size (w.heap.size + 1) (catS (partsR v (rs.take k))) wr) ∧ Hid (Below w.heap.size w wr)) (fun i _ => n - (intOf i).toNat)
  case atStart => exact ⟨0, by omega, rfl, B3.out, Low3.out⟩
  case round =>
    obtain ⟨k, hk, rfl, hB, hlow⟩ := hrel
    clear B3 Low3
    by_cases hlt : k < n
    · have hltI : (k : Int) < n := by omega
      obtain ⟨r, hr⟩ : ∃ r, rs[k]? = some r := ⟨_, List.getElem?_eq_getElem (by have := Hn.out; omega)⟩
      have hval := HV.out r (List.mem_of_getElem? hr)
      have hparts := parts_next v rs k r hr
      obtain ⟨b, off, hA, hb, hrange⟩ := HR.out.at hr
      have Hr : Hid (wr.rangeAt b (off + k * 3) (rlc r).toList) := fun j u hu => (hlow.out.cell (p := ⟨b, off + k * 3 + j, none⟩) hb).trans (hrange j u hu)
      have hcap1 : n ≤ c := by have := HR.out.1; have := Hn.out; omega
      have hplen : (catS (partsR v (rs.take (k + 1)))).length ≤ 150000 := by
        have h1 := parts_len (v := v) (rs := rs.take (k + 1)) (fun x hx => HV.out x (List.mem_of_mem_take hx))
        rw [List.length_take] at h1
        have := Hn.out
        omega
      rw [hparts, catS_app] at hplen
      subst hA
      have Hparts := Lib.hid hparts
      have Hplen := Lib.hid hplen
      have Hval := Lib.hid hval
      clear hr hrange hb hparts hplen hval
      go_upto_region 6 with (first
        | (with_reducible refine wpList_load_mid rfl 44 (.tmp 16) rfl b (off + k * 3) rfl (rlc r).toList _ Hr.out Tryz.underlying44 rfl infoR2 ?_)
        | (refine wpList_store_row rfl 44 (.tmp 5) (.tmp 17) rfl wr.heap.size (rlc r) rfl rfl 44 _ (Go.heap_alloc_new wr _) infoR rfl (rlc_one _) ?_; rw [World.setRow_alloc_new]))
      obtain ⟨w4, hw4⟩ : ∃ w4, w4 = wr.alloc (.cells (rlc r) 44) := ⟨_, rfl⟩
      have h4 : w4.heap[wr.heap.size]? = some (.cells (rlc r) 44 (0, 0)) := by rw [hw4]; exact Go.heap_alloc_new wr _
      have l4 : Below wr.heap.size wr w4 := by rw [hw4]; exact (Below.refl _ _).alloc (Nat.le_refl _) _
      rw [← hw4]
      clear hw4
      obtain ⟨bx, hbx⟩ : ∃ bx, bx = wr.heap.size := ⟨_, rfl⟩
      rw [← hbx] at h4 ⊢
      have d4 : Below w4.heap.size w4 w4.drew := (Below.refl _ _).drew
      have B4 := Lib.hid (isB_later (isB_later hB.out l4) d4)
      have Low4 := Lib.hid ((hlow.out.trans (l4.mono hlow.out.size)).trans (d4.mono (Nat.le_trans hlow.out.size l4.size)))
      have h4d : w4.drew.heap[bx]? = some (.cells (rlc r) 44 (0, 0)) := h4
      have H4 := Lib.hid h4d
      have cS4 := (rule_row h4d).1
      have cL4 := loadLb_eq (rule_row h4d).2
      obtain ⟨rp, ra, rc⟩ := r
      have Htx := Lib.hid (ltext_any ra rc Hval.out.1 w4.drew (HL.out.below (Low4.out.mono (Nat.le_refl _))))
      obtain ⟨sx, hsx⟩ : ∃ sx, sx = strOfNums (labT ra rc) := ⟨_, rfl⟩
      have hpl := Hplen.out
      have hpp := Hparts.out
      unfold lineR at hpl hpp
      simp only at hpl hpp
      rw [← hsx] at Htx hpl hpp
      clear hsx Hplen Hparts
      have Hplen := Lib.hid hpl
      have Hparts := Lib.hid hpp
      clear hpl hpp
      clear l4 d4 h4 h4d hbx Hr
      have Hfin : Hid (∀ w5, Below w4.drew.heap.size w4.drew w5 → Calls Tryz.prog 27 #[.pointer (some ⟨w.heap.size + 1, 0, none⟩), .slice (some ⟨w5.heap.size, 0, none⟩) 4 4] (w5.alloc (.cells #[.string ⟨#[10]⟩, .string (sx), .string ⟨#[32]⟩, .string rp] 9)) fun e w' => e = .returned (.tuple #[]) ∧ IsB w.heap.size (w.heap.size + 1) (catS (partsR v (rs.take (k + 1)))) w' ∧ Below w.heap.size w w') := fun w5 h5 => by
        have lA : Below w5.heap.size w5 (w5.alloc (.cells #[.string ⟨#[10]⟩, .string (sx), .string ⟨#[32]⟩, .string rp] 9)) := (Below.refl _ _).alloc (Nat.le_refl _) _
        have hlow5 := Low4.out.trans (h5.mono Low4.out.size)
        refine (write_any w.heap.size (w.heap.size + 1) w5.heap.size (catS (partsR v (rs.take k))) [⟨#[10]⟩, sx, ⟨#[32]⟩, rp] 4 4 (0, 0) _ rfl (Go.heap_alloc_new w5 _) (isB_later (isB_later B4.out h5) lA) ?_ (Nat.le_trans hlow5.size lA.size) (by decide)).mono ?_
        · have := Hplen.out
          rw [List.length_append] at this
          exact Nat.le_trans this (by decide)
        · rintro e w' ⟨rfl, hb, hl, _⟩
          rw [Hparts.out, catS_app]
          exact ⟨rfl, hb, (hlow5.trans (lA.mono hlow5.size)).trans hl⟩
      go_region_with (first
        | (go_at_call 29; refine Htx.out.mono ?_; rintro e w5 ⟨rfl, hl5⟩; have cS5 := (rule_row ((hl5.block _ (Array.getElem?_eq_some_iff.1 H4.out).1).trans H4.out)).1; have L5 := Lib.hid hl5; clear hl5)
        | (go_at_call 27; refine (Hfin.out _ L5.out).mono ?_; rintro e w6 ⟨rfl, hb6, hl6⟩; have B6 := Lib.hid hb6; have L6 := Lib.hid hl6; clear hb6 hl6))
      all_goals
        go_wp2
        exact ⟨⟨k + 1, by omega, by go_num, B6.out, L6.out⟩, by simp [intOf]; omega⟩
    · have hltI : ¬ (k : Int) < n := by omega
      obtain rfl : k = n := by omega
      have hb := hB.out
      rw [List.take_of_length_le (by rw [Hn.out]; exact Nat.le_refl _)] at hb
      obtain ⟨l, hl⟩ := catS_bytes (partsR v rs)
      rw [← hl] at hb
      have Hstr := Lib.hid (string_any _ _ l wr hb hlow.out.size)
      rw [text_of hl] at Hstr
      clear hb hl
      go_wp2_with (go_at_call 30; refine Hstr.out.mono ?_; rintro e w7 ⟨rfl, hl7⟩; have L7 := Lib.hid hl7; clear hl7)
      go_ret
      exact ⟨rfl, hlow.out.trans L7.out⟩
end
end Go.Proofs.YtpkolmmahoopcaaGreatDoor.Rul
