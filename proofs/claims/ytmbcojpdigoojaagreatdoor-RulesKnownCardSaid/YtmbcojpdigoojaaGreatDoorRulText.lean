/- DERIVED. strings.Builder's WriteString at this program, rules.write, and the contract of rules.Text at a table of valid labels. -/
import Derived.Test.YtmbcojpdigoojaaGreatDoorRulRows
import Derived.Test.YtmbcojpdigoojaaGreatDoorShelf
import Derived.Lib.Builder
import Derived.Lib.AppendStr
import Derived.Test.YtmbcojpdigoojaaGreatDoorRulFind
import Derived.Test.YtmbcojpdigoojaaGreatDoorLabText
import Derived.Test.YtmbcojpdigoojaaGreatDoorOwn
namespace Go.Proofs.YtmbcojpdigoojaaGreatDoor.Rul
section
open Go.RowKit
theorem infoBu : (Tryz.prog.info? 59).map (·.size) = some 2 := by kernel_rfl
theorem liesBu : liesAt Tryz.prog Tryz.prog.depth 59 (2 / Tryz.prog.cellsOf 59) 0 59 1 = true := by kernel_rfl
set_option maxHeartbeats 1000000 in
theorem check_used (b : Nat) (w : World) (h0 : w.cell? ⟨b, 0, none⟩ = some (.pointer (some ⟨b, 0, none⟩))) :
    Calls Tryz.prog 65 #[.pointer (some ⟨b, 0, none⟩)] w fun e w' => e = .returned (.tuple #[]) ∧ w' = w := by
  obtain ⟨j, hj, _⟩ := Option.map_eq_some_iff.1 infoBu
  have hne := fun w : World => Lib.run_neq_ptr_same (P := Tryz.prog) w ⟨b, 0, none⟩ Tryz.underlying56 hj
  go_enter Tryz.func65, Tryz.ntmps65
  go_wp2
  go_end0
  exact ⟨rfl, rfl⟩
set_option maxRecDepth 100000 in
set_option maxHeartbeats 1000000 in
theorem check_fresh (b : Nat) (w : World) (h0 : w.cell? ⟨b, 0, none⟩ = some (.pointer none)) (hsh : w.shape? b = some (59, 2)) (hfz : w.frozen? ⟨b, 0, none⟩ = false) :
    Calls Tryz.prog 65 #[.pointer (some ⟨b, 0, none⟩)] w fun e w' => e = .returned (.tuple #[]) ∧ w' = w.setCell ⟨b, 0, none⟩ (.pointer (some ⟨b, 0, none⟩)) := by
  obtain ⟨j, hj, hjs⟩ := Option.map_eq_some_iff.1 infoBu
  go_enter Tryz.func65, Tryz.ntmps65
  go_wp2
  rw [Lib.run_to_unsafe w ⟨b, 0, none⟩ Tryz.underlying56 Tryz.underlying109 hj (by rw [hjs]; decide) hsh (Nat.zero_lt_succ 1)]
  simp only [Result.andThen]
  rw [Oper.upon_value]
  go_wp2
  rw [run_callFunc_extern Tryz.func94 (by kernel_rfl) (by kernel_rfl) (by kernel_rfl) (e := Extern.AbiNoEscape.same) (by kernel_rfl)]
  rw [Lib.run_noEscape]
  simp only [Result.andThen]
  rw [Oper.upon_value]
  go_wp2
  rw [Lib.run_from_unsafe w ⟨b, 0, none⟩ Tryz.underlying109 Tryz.underlying56 hj hsh liesBu]
  simp only [Result.andThen]
  rw [Oper.upon_value]
  go_wp2
  go_end0
  exact ⟨rfl, rfl⟩
/-- rows of other types stay. -/
def Stays (w w' : World) : Prop := ∀ (k : Nat) (C : Array Value) (T : TypeId) (fr : Nat × Nat), w.heap[k]? = some (.cells C T fr) → T ≠ 5 → T ≠ 59 → w'.heap[k]? = some (.cells C T fr)
theorem Stays.trans {a b c : World} (h : Stays a b) (k : Stays b c) : Stays a c := fun i C T fr hc h1 h2 => k i C T fr (h i C T fr hc h1 h2) h1 h2
theorem Stays.setB {w : World} {b j : Nat} {cs : Array Value} {fr : Nat × Nat} (hb : w.heap[b]? = some (.cells cs 59 fr)) (v : Value) : Stays w (w.setCell ⟨b, j, none⟩ v) := fun i C T fr' hc _ h2 => by
  have hne : i ≠ b := fun e => by
    rw [e, hb] at hc
    cases hc
    exact h2 rfl
  exact (Below.heap_setCell _ _ _ _ hne).trans hc
abbrev IsB (B b : Nat) (bs : List Value) (w : World) : Prop := Lib.IsBuilder 59 5 B b bs w
theorem check_any (B b : Nat) (bs : List Value) (w : World) (h : IsB B b bs w) :
    Calls Tryz.prog 65 #[.pointer (some ⟨b, 0, none⟩)] w fun e w' => e = .returned (.tuple #[]) ∧ (Lib.BuilderAt 59 5 B b (.pointer (some ⟨b, 0, none⟩)) bs w' ∧ Below B w w' ∧ Stays w w') := by
  rcases h with h | h
  · refine (check_fresh b w h.cell0 h.shape h.frozen0).mono ?_
    rintro e w' ⟨rfl, rfl⟩
    obtain ⟨_, v, hb, _⟩ := id h
    exact ⟨rfl, h.used _, (Below.refl B w).setCell (p := ⟨b, 0, none⟩) h.1 _, .setB hb _⟩
  · refine (check_used b w h.cell0).mono ?_
    rintro e w' ⟨rfl, rfl⟩
    exact ⟨rfl, h, Below.refl B _, fun _ _ _ _ hc _ _ => hc⟩
theorem info8z : (Tryz.prog.info? 5).map (fun i => (i.zero, i.size, i.bytes)) = some (some (.int .u8 0), 1, 1) := by kernel_rfl
set_option maxHeartbeats 2000000 in
theorem writes_any (B b : Nat) (bs : List Value) (s : ByteArray) (w : World) (h : IsB B b bs w) (hlen : bs.length + s.size ≤ 1000000) (hBw : B ≤ w.heap.size) :
    Calls Tryz.prog 49 #[.pointer (some ⟨b, 0, none⟩), .string s] w fun e w' => e = .returned (.tuple #[.int .i64 s.size, .nilIface]) ∧ (IsB B b (bs ++ Lib.strCells s) w' ∧ Below B w w' ∧ Stays w w') := by
  obtain ⟨i0, hi, hz0, hz1, hz2⟩ := info_parts info8z
  go_enter Tryz.func49, Tryz.ntmps49
  go_wp2_with (go_at_call 65; refine (check_any B b bs _ h).mono ?_)
  rintro e w1 ⟨rfl, h1, hb1, hst⟩
  obtain ⟨hB, v, hbk, hown, hne⟩ := h1
  have c0 : w1.cell? ⟨b, 0, none⟩ = some (.pointer (some ⟨b, 0, none⟩)) := by rw [Lib.cell_of_heap hbk]; rfl
  have c1 : w1.cell? ⟨b, 1, none⟩ = some v := by rw [Lib.cell_of_heap hbk]; rfl
  go_wp2_with (at_builtin; refine Lib.wpList_append_own_string _ rfl _ _ 57 9 rfl B 5 i0 Tryz.underlying57 Tryz.underlying9 hi hz0 hz1 hz2 _ _ _ rfl hown s rfl ?c3 ?c4 ?c5 ?_)
  case c3 => unfold maxLen; omega
  case c4 => omega
  case c5 => have := hb1.size; omega
  intro v' w2 hown' hgrow _
  have hlt : b < w1.heap.size := (Array.getElem?_eq_some_iff.1 hbk).1
  have hb2 : w2.heap[b]? = some (.cells #[.pointer (some ⟨b, 0, none⟩), v] 59 (0, 0)) := by
    rw [hgrow.block b hlt (fun e => hne e.symm)]
    exact hbk
  have d0 : w2.cell? ⟨b, 0, none⟩ = some (.pointer (some ⟨b, 0, none⟩)) := by rw [Lib.cell_of_heap hb2]; rfl
  have d1 : w2.cell? ⟨b, 1, none⟩ = some v := by rw [Lib.cell_of_heap hb2]; rfl
  have f1 : w2.frozen? ⟨b, 1, none⟩ = false := Lib.frozen_of_heap hb2 1
  obtain ⟨ao, n', cap, rfl⟩ : ∃ ao n' cap, v' = .slice ao n' cap := by
    rcases hown'.2 with ⟨hv, _⟩ | ⟨g, cap, cur, hv, _⟩
    · exact ⟨_, _, _, hv⟩
    · exact ⟨_, _, _, hv⟩
  go_wp2
  go_ret2
  refine ⟨rfl, .inr ?_, ?_, ?_⟩
  · exact Lib.BuilderAt.put (T := 59) (e := 5) hB hb2 (bs' := bs ++ Lib.strCells s) (by simpa [Lib.strCells_length] using hown') (by decide)
  · exact (hb1.grown hgrow (by have := hb1.size; omega) (fun k hk => (hown.lt k hk).1)).setCell (p := ⟨b, 1, none⟩) hB _
  · refine hst.trans (Stays.trans (b := w2) (fun i C T fr hc h1 _ => ?_) (.setB hb2 _))
    exact (hgrow.block i (Array.getElem?_eq_some_iff.1 hc).1 (fun e => Lib.ownBlock_ne hown hc h1 e.symm)).trans hc
/-- the texts one behind the other. -/
def catS (ss : List ByteArray) : List Value := ss.flatMap Lib.strCells
theorem catS_next (ss : List ByteArray) (s : ByteArray) : catS (ss ++ [s]) = catS ss ++ Lib.strCells s := by simp [catS]
set_option maxHeartbeats 2000000 in
theorem write_any (B b g : Nat) (bs : List Value) (ss : List ByteArray) (n c : Nat) (fr : Nat × Nat) (w : World) (hn : ss.length = n) (hR : w.heap[g]? = some (.cells (ss.map Value.string).toArray 9 fr)) (h : IsB B b bs w) (hlen : bs.length + (catS ss).length ≤ 900000) (hBw : B ≤ w.heap.size) (hn9 : n ≤ 1000) :
    Calls Tryz.prog 29 #[.pointer (some ⟨b, 0, none⟩), .slice (some ⟨g, 0, none⟩) n c] w fun e w' => e = .returned (.tuple #[]) ∧ IsB B b (bs ++ catS ss) w' ∧ Below B w w' ∧ Stays w w' := by
  have Hn := Lib.hid hn
  have HR := Lib.hid hR
  have H0 := Lib.hid h
  have Hlen := Lib.hid hlen
  have HBw := Lib.hid hBw
  clear hn hR h hlen hBw
  go_enter Tryz.func29, Tryz.ntmps29
  go_wp2
  go_loopw [8] (fun v wr => ∃ i : Nat, i ≤ n ∧ v = .int .i64 i ∧ Hid (IsB B b (bs ++ catS (ss.take i)) wr ∧ Below B w wr ∧ Stays w wr)) (fun v _ => n - (intOf v).toNat)
  case atStart => exact ⟨0, Nat.zero_le _, rfl, by rw [List.take_zero]; simpa [catS] using H0.out, Below.refl _ _, fun _ _ _ _ hc _ _ => hc⟩
  case round =>
    obtain ⟨i, hi, rfl, hr⟩ := hrel
    clear H0
    by_cases hlt : i < n
    · have hltI : (i : Int) < (n : Int) := by omega
      obtain ⟨s, hs⟩ : ∃ s, ss[i]? = some s := ⟨_, List.getElem?_eq_getElem (by rw [Hn.out]; exact hlt)⟩
      have hcr : wr.cell? ⟨g, i, none⟩ = some (.string s) := by
        rw [cell_row (hr.out.2.2 g _ _ _ HR.out (by decide) (by decide))]
        simp [hs]
      have ht : ss.take (i + 1) = ss.take i ++ [s] := by
        rw [List.take_add_one, hs]; rfl
      have hle : (catS (ss.take (i + 1))).length ≤ (catS ss).length := by
        have e : catS ss = catS (ss.take (i + 1)) ++ catS (ss.drop (i + 1)) := by unfold catS; rw [← List.flatMap_append, List.take_append_drop]
        rw [e, List.length_append]; omega
      have hw := writes_any B b (bs ++ catS (ss.take i)) s wr hr.out.1 (by
        have h1 := Hlen.out
        rw [ht, catS_next, List.length_append, Lib.strCells_length] at hle
        rw [List.length_append]
        omega) (Nat.le_trans HBw.out hr.out.2.1.size)
      rw [List.append_assoc, ← catS_next, ← ht] at hw
      have Hw := Lib.hid hw
      clear hw ht hle
      go_wp2_with (go_at_call 49; refine Hw.out.mono ?_; rintro e w2 ⟨rfl, hb2, hl2, hs2⟩; have Hb2 := Lib.hid hb2; have Hl2 := Lib.hid hl2; have Hs2 := Lib.hid hs2; clear hb2 hl2 hs2)
      exact ⟨⟨i + 1, by omega, by go_num, Hb2.out, hr.out.2.1.trans Hl2.out, hr.out.2.2.trans Hs2.out⟩, by simp [intOf]; omega⟩
    · have hltI : ¬ (i : Int) < (n : Int) := by omega
      obtain rfl : i = n := by omega
      go_wp2
      go_end0
      have h1 := hr.out.1
      rw [List.take_of_length_le (by rw [Hn.out]; exact Nat.le_refl _)] at h1
      exact ⟨rfl, h1, hr.out.2⟩
theorem string_any (B b : Nat) (l : List UInt8) (w : World) (h : IsB B b (Lib.byteCells l) w) (hBw : B ≤ w.heap.size) :
    Calls Tryz.prog 32 #[.pointer (some ⟨b, 0, none⟩)] w fun e w' => e = .returned (.string ⟨l.toArray⟩) ∧ Below B w w' := Tryz.Builder_String_any B b l w h hBw
end
section
open Go.RowKit Lab Pth
attribute [local go_sem ↓ high] loadAtLb
/-- a line's parts. -/
def lineR (r : Rl) : List ByteArray := [⟨#[10]⟩, textB r.a.toNat r.c, ⟨#[32]⟩, r.p]
def partsR (rs : List Rl) : List ByteArray := [⟨#[118]⟩, ⟨#[51]⟩] ++ rs.flatMap lineR
theorem parts_next (rs : List Rl) (i : Nat) (r : Rl) (h : rs[i]? = some r) : partsR (rs.take (i + 1)) = partsR (rs.take i) ++ lineR r := by
  rw [List.take_add_one, h]
  simp [partsR]
theorem catS_app (a b : List ByteArray) : catS (a ++ b) = catS a ++ catS b := by simp [catS]
def ValidR (r : Rl) : Prop := 0 ≤ r.a ∧ r.a < 16 ∧ r.c < 18446744073709551616 ∧ r.p.size ≤ 1000
theorem line_len {r : Rl} (h : ValidR r) : (catS (lineR r)).length ≤ 1021 := by
  have h1 := text_small r.a.toNat r.c
  have h2 : (textB r.a.toNat r.c).size ≤ 19 := by
    unfold textB
    rw [ByteArray.size_append, ByteArray.size_append]
    have : (⟨#[58]⟩ : ByteArray).size = 1 := rfl
    omega
  have h3 := h.2.2.2
  simp only [catS, lineR, List.flatMap_cons, List.flatMap_nil, List.length_append, Lib.strCells_length, List.length_nil]
  have e1 : (⟨#[10]⟩ : ByteArray).size = 1 := rfl
  have e2 : (⟨#[32]⟩ : ByteArray).size = 1 := rfl
  omega
theorem parts_len {rs : List Rl} (h : ∀ r ∈ rs, ValidR r) : (catS (partsR rs)).length ≤ 2 + rs.length * 1021 := by
  have key : ∀ rs : List Rl, (∀ r ∈ rs, ValidR r) → (catS (rs.flatMap lineR)).length ≤ rs.length * 1021 := by
    intro rs
    induction rs with
    | nil => intro _; simp [catS]
    | cons r t ih =>
      intro h
      have h1 := line_len (h r (by simp))
      have h2 := ih (fun x hx => h x (by simp [hx]))
      rw [List.flatMap_cons, catS_app, List.length_append, List.length_cons]
      omega
  have := key rs h
  unfold partsR
  rw [catS_app, List.length_append]
  have e : (catS [⟨#[118]⟩, ⟨#[51]⟩]).length = 2 := rfl
  omega
theorem isB_later {B b : Nat} {bs : List Value} {w w' : World} (h : IsB B b bs w) (hb : Below w.heap.size w w') : IsB B b bs w' := by
  have key : ∀ p, Lib.BuilderAt 59 5 B b p bs w → Lib.BuilderAt 59 5 B b p bs w' := by
    rintro p ⟨h1, v, h2, h3, h4⟩
    exact ⟨h1, v, (hb.block _ (Array.getElem?_eq_some_iff.1 h2).1).trans h2, own_stays h3 hb, h4⟩
  exact h.imp (key _) (key _)
theorem strCells_bytes (s : ByteArray) : Lib.strCells s = Lib.byteCells s.data.toList := by
  simp [Lib.strCells, Lib.byteCells]
theorem catS_bytes (ss : List ByteArray) : ∃ l : List UInt8, Lib.byteCells l = catS ss := by
  refine ⟨ss.flatMap (·.data.toList), ?_⟩
  induction ss with
  | nil => rfl
  | cons s t ih =>
    rw [List.flatMap_cons, catS, List.flatMap_cons, strCells_bytes]
    have : Lib.byteCells (s.data.toList ++ t.flatMap (·.data.toList)) = Lib.byteCells s.data.toList ++ Lib.byteCells (t.flatMap (·.data.toList)) := by simp [Lib.byteCells]
    rw [this, ih]
    rfl
set_option maxRecDepth 100000 in
set_option maxHeartbeats 4000000 in
theorem text_any3 (A : Option Addr) (n c : Nat) (rs : List Rl) (w : World) (hn : rs.length = n) (hR : Ruls w A c rs) (hv : ∀ r ∈ rs, ValidR r) (hn9 : n ≤ 32) (hL : Lab.Laid w) :
    Calls Tryz.prog 15 #[.agg (tabV 3 A n c)] w fun e w' => (∃ l : List UInt8, Lib.byteCells l = catS (partsR rs) ∧ e = .returned (.string ⟨l.toArray⟩)) ∧ Below w.heap.size w w' := by
  have Hn := Lib.hid hn
  have HR := Lib.hid hR
  have HV := Lib.hid hv
  have HL := Lib.hid hL
  have h2 := two_new w (.cells (tabV 3 A n c) 24) (.cells #[.pointer none, .slice none 0 0] 59)
  have k2 : Below w.heap.size w ((w.alloc (.cells (tabV 3 A n c) 24)).alloc (.cells #[.pointer none, .slice none 0 0] 59)) := ((Below.refl _ _).alloc (Nat.le_refl _) _).alloc (by rw [World.size_alloc]; omega) _
  obtain ⟨W2, hW2⟩ : ∃ W2, W2 = (w.alloc (.cells (tabV 3 A n c) 24)).alloc (.cells #[.pointer none, .slice none 0 0] 59) := ⟨_, rfl⟩
  rw [← hW2] at h2 k2
  have HW2 : Hid ((w.alloc (.cells (tabV 3 A n c) 24)).alloc (.cells #[.pointer none, .slice none 0 0] 59) = W2) := hW2.symm
  have hbu : IsB w.heap.size (w.heap.size + 1) [] W2 := .inl ⟨by omega, .slice none 0 0, h2.2, World.ownsRow_nil _ _ _ _, by simp [Value.ownBlock]⟩
  have HBu := Lib.hid hbu
  have H1 := Lib.hid h2.1
  have K2 := Lib.hid k2
  have c0 : W2.cell? ⟨w.heap.size, 0, none⟩ = some (.int .i64 3) := cell_row h2.1 0
  clear hn hR hv hL h2 k2 hW2 hbu
  go_enter Tryz.func15, Tryz.ntmps15
  go_upto_region 2 with fail
  rw [HW2.out]
  clear HW2
  have lA : Below W2.heap.size W2 (W2.alloc (.cells #[.string ⟨#[118]⟩, .string ⟨#[51]⟩] 9)) := (Below.refl _ _).alloc (Nat.le_refl _) _
  have hw0 := write_any w.heap.size (w.heap.size + 1) W2.heap.size [] [⟨#[118]⟩, ⟨#[51]⟩] 2 2 (0, 0) (W2.alloc (.cells #[.string ⟨#[118]⟩, .string ⟨#[51]⟩] 9)) rfl (Go.heap_alloc_new W2 _) (isB_later HBu.out lA) (by decide) (Nat.le_trans K2.out.size lA.size) (by decide)
  have h1A := (lA.block _ (Array.getElem?_eq_some_iff.1 H1.out).1).trans H1.out
  have Hw0 := Lib.hid hw0
  have H1A := Lib.hid h1A
  have KA := Lib.hid (K2.out.trans (lA.mono K2.out.size))
  clear lA hw0 h1A
  go_upto_region 3 with (first
    | (go_at_call 30; refine (itoa_3 _).mono ?_; rintro e w' ⟨rfl, rfl⟩)
    | (go_at_call 29; refine Hw0.out.mono ?_; rintro e w3 ⟨rfl, hb3, hl3, hs3⟩; have H13 := Lib.hid (hs3 _ _ _ _ H1A.out (by decide) (by decide)); have B3 := Lib.hid hb3; have Low3 := Lib.hid (K2.out.trans ((Below.refl _ _).alloc (Nat.le_refl _) _ |>.mono K2.out.size) |>.trans hl3); clear hb3 hl3 hs3))
  have c1 : w3.cell? ⟨w.heap.size, 1, none⟩ = some (.slice A n c) := cell_row H13.out 1
  clear c0
  go_wp2
  clear c1
  go_loopw [14] (fun i wr => ∃ k : Nat, k ≤ n ∧ i = .int .i64 k ∧ Hid (IsB w.heap.size (w.heap.size + 1) (catS (partsR (rs.take k))) wr) ∧ Hid (Below w.heap.size w wr)) (fun i _ => n - (intOf i).toNat)
  case atStart => exact ⟨0, by omega, rfl, by rw [List.take_zero]; exact B3.out, Low3.out⟩
  case round =>
    obtain ⟨k, hk, rfl, hB, hlow⟩ := hrel
    clear B3 Low3
    by_cases hlt : k < n
    · have hltI : (k : Int) < n := by omega
      obtain ⟨r, hr⟩ : ∃ r, rs[k]? = some r := ⟨_, List.getElem?_eq_getElem (by have := Hn.out; omega)⟩
      have hval := HV.out r (List.mem_of_getElem? hr)
      have hparts := parts_next rs k r hr
      obtain ⟨b, off, hA, hb, hrange⟩ := HR.out.at hr
      have Hr : Hid (wr.rangeAt b (off + k * 3) (rlc r).toList) := fun j u hu => (hlow.out.cell (p := ⟨b, off + k * 3 + j, none⟩) hb).trans (hrange j u hu)
      have hcap1 : n ≤ c := by have := HR.out.1; have := Hn.out; omega
      have hplen : (catS (partsR (rs.take (k + 1)))).length ≤ 40000 := by
        have h1 := parts_len (rs := rs.take (k + 1)) (fun x hx => HV.out x (List.mem_of_mem_take hx))
        rw [List.length_take] at h1
        have := Hn.out
        omega
      rw [hparts, catS_app] at hplen
      subst hA
      have Hparts := Lib.hid hparts
      have Hplen := Lib.hid hplen
      have Hval := Lib.hid hval
      clear hr hrange hb hparts hplen hval
      go_upto_region 6 with (first
        | (with_reducible refine wpList_load_mid rfl 48 (.tmp 16) rfl b (off + k * 3) rfl (rlc r).toList _ Hr.out Tryz.underlying48 rfl infoR2 ?_)
        | (refine wpList_store_row rfl 48 (.tmp 5) (.tmp 17) rfl wr.heap.size (rlc r) rfl rfl 48 _ (Go.heap_alloc_new wr _) infoR rfl (rlc_one _) ?_; rw [World.setRow_alloc_new]))
      obtain ⟨w4, hw4⟩ : ∃ w4, w4 = wr.alloc (.cells (rlc r) 48) := ⟨_, rfl⟩
      have h4 : w4.heap[wr.heap.size]? = some (.cells (rlc r) 48 (0, 0)) := by rw [hw4]; exact Go.heap_alloc_new wr _
      have l4 : Below wr.heap.size wr w4 := by rw [hw4]; exact (Below.refl _ _).alloc (Nat.le_refl _) _
      rw [← hw4]
      clear hw4
      obtain ⟨bx, hbx⟩ : ∃ bx, bx = wr.heap.size := ⟨_, rfl⟩
      rw [← hbx] at h4 ⊢
      have d4 : Below w4.heap.size w4 w4.drew := (Below.refl _ _).drew
      have B4 := Lib.hid (isB_later (isB_later hB.out l4) d4)
      have Low4 := Lib.hid ((hlow.out.trans (l4.mono hlow.out.size)).trans (d4.mono (Nat.le_trans hlow.out.size l4.size)))
      have h4d : w4.drew.heap[bx]? = some (.cells (rlc r) 48 (0, 0)) := h4
      have H4 := Lib.hid h4d
      have cS4 := (rule_row h4d).1
      have cL4 := loadLb_eq (rule_row h4d).2
      obtain ⟨rp, ra, rc⟩ := r
      obtain ⟨lv, hlv⟩ : ∃ lv : Nat, ra = (lv : Int) := Int.eq_ofNat_of_zero_le Hval.out.1
      subst hlv
      have Htx := Lib.hid (text_any lv rc (by have := Hval.out.2.1; simp only at this; omega) Hval.out.2.2.1 w4.drew (HL.out.below (Low4.out.mono (Nat.le_refl _))))
      clear l4 d4 h4 h4d hbx Hr
      have Hfin : Hid (∀ w5, Below w4.drew.heap.size w4.drew w5 → Calls Tryz.prog 29 #[.pointer (some ⟨w.heap.size + 1, 0, none⟩), .slice (some ⟨w5.heap.size, 0, none⟩) 4 4] (w5.alloc (.cells #[.string ⟨#[10]⟩, .string (textB lv rc), .string ⟨#[32]⟩, .string rp] 9)) fun e w' => e = .returned (.tuple #[]) ∧ IsB w.heap.size (w.heap.size + 1) (catS (partsR (rs.take (k + 1)))) w' ∧ Below w.heap.size w w') := fun w5 h5 => by
        have lA : Below w5.heap.size w5 (w5.alloc (.cells #[.string ⟨#[10]⟩, .string (textB lv rc), .string ⟨#[32]⟩, .string rp] 9)) := (Below.refl _ _).alloc (Nat.le_refl _) _
        have hlow5 := Low4.out.trans (h5.mono Low4.out.size)
        refine (write_any w.heap.size (w.heap.size + 1) w5.heap.size (catS (partsR (rs.take k))) [⟨#[10]⟩, textB lv rc, ⟨#[32]⟩, rp] 4 4 (0, 0) _ rfl (Go.heap_alloc_new w5 _) (isB_later (isB_later B4.out h5) lA) ?_ (Nat.le_trans hlow5.size lA.size) (by decide)).mono ?_
        · have := Hplen.out
          rw [List.length_append] at this
          exact Nat.le_trans this (by decide)
        · rintro e w' ⟨rfl, hb, hl, _⟩
          rw [Hparts.out, catS_app]
          exact ⟨rfl, hb, (hlow5.trans (lA.mono hlow5.size)).trans hl⟩
      go_region_with (first
        | (go_at_call 31; refine Htx.out.mono ?_; rintro e w5 ⟨rfl, hl5⟩; have cS5 := (rule_row ((hl5.block _ (Array.getElem?_eq_some_iff.1 H4.out).1).trans H4.out)).1; have L5 := Lib.hid hl5; clear hl5)
        | (go_at_call 29; refine (Hfin.out _ L5.out).mono ?_; rintro e w6 ⟨rfl, hb6, hl6⟩; have B6 := Lib.hid hb6; have L6 := Lib.hid hl6; clear hb6 hl6))
      all_goals
        go_wp2
        exact ⟨⟨k + 1, by omega, by go_num, B6.out, L6.out⟩, by simp [intOf]; omega⟩
    · have hltI : ¬ (k : Int) < n := by omega
      obtain rfl : k = n := by omega
      have hb := hB.out
      rw [List.take_of_length_le (by rw [Hn.out]; exact Nat.le_refl _)] at hb
      obtain ⟨l, hl⟩ := catS_bytes (partsR rs)
      rw [← hl] at hb
      have Hstr := Lib.hid (string_any _ _ l wr hb hlow.out.size)
      have Hl := Lib.hid hl
      clear hb hl
      go_wp2_with (go_at_call 32; refine Hstr.out.mono ?_; rintro e w7 ⟨rfl, hl7⟩; have L7 := Lib.hid hl7; clear hl7)
      go_ret
      exact ⟨⟨l, Hl.out, rfl⟩, hlow.out.trans L7.out⟩
end
end Go.Proofs.YtmbcojpdigoojaaGreatDoor.Rul
