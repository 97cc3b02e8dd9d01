/- DERIVED. Texts of ours, merged: XRef2Parts XRef2Derive XRef2Keys XRefSealTag. -/
import Derived.Test.YtgkmbamoffolgaaDoorMseal21
import Derived.Test.YtgkmbamoffolgaaDoorMseal5
import Derived.Lib.ConvBytes
import Derived.Test.YtgkmbamoffolgaaDoorMseal18
/- DERIVED. Rows of slices of bytes that a call makes by append. -/
namespace Go.Proofs.YtgkmbamoffolgaaDoor
open Go.RowKit
theorem infoSl : (Tryd.prog.info? 24).map (fun i => (i.zero, i.size, i.bytes)) = some (some (.slice none 0 0), 1, 24) := by kernel_rfl
def valP (ps : List Part) : List Value := ps.map Part.val
theorem valP_length (ps : List Part) : (valP ps).length = ps.length := by simp [valP]
theorem valP_one (ps : List Part) : ∀ u ∈ valP ps, u.oneCell' = true := by
  intro u hu
  simp only [valP, List.mem_map] at hu
  obtain ⟨x, _, rfl⟩ := hu
  rfl
/-- a row of the call's own, one or more slices longer. -/
structure GrewP (base n : Nat) (L : List Part) (wr : World) (v v' : Value) (w' : World) : Prop where
  own : w'.ownsRow base 24 1 v' n (valP L)
  low : ∀ B u, Below B u wr → B ≤ base → Below B u w'
  keep : ∀ q b, wr.heap[q]? = some b → v.ownBlock ≠ some q → w'.heap[q]? = some b
  size : wr.heap.size ≤ w'.heap.size
set_option maxRecDepth 100000 in
theorem wpList_append_part {wr : World} {ops : Array Oper} {rest : List Oper} {o : Oper} {a : Act} {Q : Exit → Act → World → Prop} (hgd : o.guard = none) (s x : Operand)
    (ho : o.op = .call { callee := .builtin .append, args := #[s, x], argTypes := #[48, 48] }) (base : Nat) (v : Value) (n : Nat) (L : List Part) (p : Part) (hs : a.eval s = v) (hown : wr.ownsRow base 24 1 v n (valP L)) (y : Value) (hy : y = p.val) (hx : a.eval x = .slice (some ⟨wr.heap.size, 0, none⟩) 1 1)
    (hn : n ≤ 100000) (hbase : base ≤ wr.heap.size) (h : ∀ v' w', GrewP base (n + 1) (L ++ [p]) wr v v' w' → wpList Tryd.prog ops Q rest (a.put o.dst v') w') : wpList Tryd.prog ops Q (o :: rest) a (wr.alloc (.cells #[y] 24)) := by
  obtain ⟨i, hi, hz, hsize, hby⟩ := partsK infoSl
  have hsz : (wr.alloc (.cells #[y] 24)).heap.size = wr.heap.size + 1 := by rw [World.size_alloc]
  have hge : ∀ q, v.ownBlock = some q → base ≤ q := fun q hq => (hown.lt q hq).1
  have hlt : ∀ q, v.ownBlock = some q → q < wr.heap.size := fun q hq => (hown.lt q hq).2
  subst hy
  refine wpList_append_own_at _ hgd s x 48 ho base 24 i (.slice none 0 0) 1 24 Tryd.underlying48 hi hz hsize hby rfl (by decide) v n (valP L) hs (own_alloc hown _) ⟨wr.heap.size, 0, none⟩ 1 1 [p.val] hx rfl (cell_one_new _ _ _) (valP_one [p]) (by unfold maxLen; omega) (by omega) (by omega) ?_
  intro v' w' hown' hgrow _ _
  rw [show valP L ++ [p.val] = valP (L ++ [p]) by simp [valP]] at hown'
  have hs2 := hgrow.size
  exact h v' w' ⟨hown', fun B u hb hB => (hb.alloc (Nat.le_trans hB hbase) _).grown hgrow (by omega) (fun q hq => Nat.le_trans hB (hge q hq)), fun q b hq hne => by
    have hq2 := (Array.getElem?_eq_some_iff.1 hq).1
    rw [hgrow.block q (by omega) (fun e => hne (by rw [e]))]
    exact (Go.heap_alloc_old _ _ hq2).trans hq, by omega⟩
set_option maxRecDepth 100000 in
theorem wpList_append_parts {wr wb : World} {ops : Array Oper} {rest : List Oper} {o : Oper} {a : Act} {Q : Exit → Act → World → Prop} (hgd : o.guard = none) (s x : Operand)
    (ho : o.op = .call { callee := .builtin .append, args := #[s, x], argTypes := #[48, 48] }) (base : Nat) (v : Value) (n : Nat) (L : List Part) (hs : a.eval s = v) (hown : wr.ownsRow base 24 1 v n (valP L))
    (Ap : Option Addr) (m cp : Nat) (ps : List Part) (hx : a.eval x = .slice Ap m cp) (hm : ps.length = m) (hc : Ap = none → cp = 0) (hP : PartsAt wb Ap ps) (hwb : Below wb.heap.size wb wr)
    (hn : n + m ≤ 100000) (hbase : base ≤ wr.heap.size) (h : ∀ v' w', GrewP base (n + m) (L ++ ps) wr v v' w' → wpList Tryd.prog ops Q rest (a.put o.dst v') w') : wpList Tryd.prog ops Q (o :: rest) a wr := by
  obtain ⟨i, hi, hz, hsize, hby⟩ := partsK infoSl
  have hge : ∀ q, v.ownBlock = some q → base ≤ q := fun q hq => (hown.lt q hq).1
  cases Ap with
  | none =>
    have hm0 : m = 0 := by
      by_cases h0 : 0 < ps.length
      · obtain ⟨g, off, he, _⟩ := hP.row 0 h0
        cases he
      · omega
    have hc0 := hc rfl
    subst hm0 hc0
    obtain rfl : ps = [] := List.eq_nil_of_length_eq_zero hm
    refine wpList_append_own_none hgd s x 48 ho base 24 i 1 Tryd.underlying48 hi v n (valP L) hs hown hx ?_
    exact h v wr ⟨by rw [List.append_nil]; exact hown, fun _ _ h _ => h, fun _ _ h _ => h, Nat.le_refl _⟩
  | some ad =>
    refine wpList_append_own_at _ hgd s x 48 ho base 24 i (.slice none 0 0) 1 24 Tryd.underlying48 hi hz hsize hby rfl (by decide) v n (valP L) hs hown ad m cp (valP ps) hx (by rw [valP_length, hm]; omega) ?_ (valP_one ps) (by unfold maxLen; omega) (by omega) hbase ?_
    · intro j u hu
      have hj : j < ps.length := by have := (List.getElem?_eq_some_iff.1 hu).1; rwa [valP_length] at this
      obtain ⟨g, off, he, hg, hcell⟩ := hP.row j hj
      injection he with he
      rw [he, Addr.add_mid, hwb.cell (p := ⟨g, off + j, none⟩) hg, hcell]
      simp [valP, hj] at hu
      rw [hu]
    · intro v' w' hown' hgrow _ _
      rw [show valP L ++ valP ps = valP (L ++ ps) by simp [valP]] at hown'
      exact h v' w' ⟨hown', fun B u hb hB => hb.grown hgrow (by omega) (fun q hq => Nat.le_trans hB (hge q hq)), fun q b hq hne => by
        rw [hgrow.block q (Array.getElem?_eq_some_iff.1 hq).1 (fun e => hne (by rw [e]))]; exact hq, hgrow.size⟩
/-- the cells of such a row. -/
theorem own_parts {w : World} {base n : Nat} {v : Value} {L : List Part} (h : w.ownsRow base 24 1 v n (valP L)) (hl : L.length = n) (h0 : 0 < n) : ∃ g c, v = .slice (some ⟨g, 0, none⟩) n c ∧ n ≤ c ∧ base ≤ g ∧ g < w.heap.size ∧ ∀ j (hj : j < L.length), w.cell? ⟨g, j, none⟩ = some L[j].val := by
  obtain ⟨_, h⟩ := h
  rcases h with ⟨_, h⟩ | ⟨g, cap, cur, hv, hb, hh, hcap, _, hs, ht⟩
  · omega
  · refine ⟨g, cap, hv, hcap, hb, (Array.getElem?_eq_some_iff.1 hh).1, fun j hj => ?_⟩
    rw [cell_row hh]
    have h2 : cur[j]? = cur.toList[j]? := by simp
    have h3 : (cur.toList.take (n * 1))[j]? = cur.toList[j]? := by rw [List.getElem?_take, if_pos (by omega)]
    rw [h2, ← h3, ht]
    simp [valP, hj]
theorem byt_len4 (w : World) (n : Nat) (a b c d : Int) (h : [a, b, c, d] = lenL n) : Byt (w.alloc (.cells #[.int .u8 a, .int .u8 b, .int .u8 c, .int .u8 d] 5)) (some ⟨w.heap.size, 0, none⟩) 4 (lenL n) := h ▸ byt_four w a b c d
/-- the parts, one behind the other. -/
def flatM (ps : List Part) : List Int := ps.flatMap fun p => partL p.M
theorem flatM_next (ps : List Part) (j : Nat) (h : j < ps.length) : flatM (ps.take (j + 1)) = flatM (ps.take j) ++ (lenL ps[j].M.length ++ ps[j].M) := by
  unfold flatM
  rw [List.take_succ_eq_append_getElem h, List.flatMap_append]
  simp [partL]
theorem flatM_le (ps : List Part) (j : Nat) : (flatM (ps.take j)).length ≤ (flatM ps).length := by
  have : flatM ps = flatM (ps.take j) ++ flatM (ps.drop j) := by
    unfold flatM
    rw [← List.flatMap_append, List.take_append_drop]
  rw [this, List.length_append]
  omega
theorem canon_flat (s : List Int) (p : Part) (ps : List Part) (h : p.M = s) : flatM (p :: ps) = canonL s ps := by
  unfold flatM canonL
  rw [List.flatMap_cons, h]
theorem flatM_pos (ps : List Part) : ps.length ≤ (flatM ps).length := by
  unfold flatM
  induction ps with
  | nil => simp
  | cons p ps ih => rw [List.flatMap_cons, List.length_append, partL_length, List.length_cons]; omega
attribute [irreducible] flatM
end Go.Proofs.YtgkmbamoffolgaaDoor
/- DERIVED. The contracts of the reference's Canon and Derive of layer 2. -/
namespace Go.Proofs.YtgkmbamoffolgaaDoor
open Go.RowKit
set_option maxRecDepth 100000 in
set_option maxHeartbeats 2000000 in
theorem rcanon_any (s : ByteArray) (Ap : Option Addr) (cp m : Nat) (ps : List Part) (wb w : World) (hm : ps.length = m) (hc : Ap = none → cp = 0) (hP : PartsAt wb Ap ps) (hwb : Below wb.heap.size wb w) (hT : (canonL (bytesOf s) ps).length ≤ 40000) :
    Calls Tryd.prog 54 #[.string s, .slice Ap m cp] w fun e w' => ∃ A c, e = .returned (.slice A (canonL (bytesOf s) ps).length c) ∧ Byt w' A c (canonL (bytesOf s) ps) ∧ Below w.heap.size w w' := by
  have hm4 : m ≤ 40000 := by
    have h1 := flatM_pos (⟨none, 0, bytesOf s⟩ :: ps)
    rw [canon_flat (bytesOf s) ⟨none, 0, bytesOf s⟩ ps rfl, List.length_cons] at h1
    omega
  have kc := Lib.run_convert_string_bytes (P := Tryd.prog) w 9 24 5 s Tryd.underlying9 Tryd.underlying24 Tryd.underlying5
  obtain ⟨c0, hc0⟩ : ∃ c, c = grownCap w s.size 0 5 := ⟨_, rfl⟩
  have hbs := byt_string w s
  have low0 := below_string w s
  rw [← hc0] at kc hbs
  obtain ⟨w1, hw1⟩ : ∃ w1, w1 = Lib.bytesWorld w 5 s := ⟨_, rfl⟩
  rw [← hw1] at kc hbs low0
  obtain ⟨p0, hp0⟩ : ∃ p0 : Part, p0 = ⟨some ⟨w.heap.size, 0, none⟩, c0, bytesOf s⟩ := ⟨_, rfl⟩
  have hv0 : Value.slice (some ⟨w.heap.size, 0, none⟩) s.size c0 = p0.val := by rw [hp0]; simp [Part.val, bytesOf_length]
  have hb0 : Byt w1 p0.A p0.c p0.M ∧ InB p0.M := by rw [hp0]; exact ⟨hbs, bytesOf_in s⟩
  have hcan : flatM (p0 :: ps) = canonL (bytesOf s) ps := canon_flat _ _ _ (by rw [hp0])
  obtain ⟨qs, hqs⟩ : ∃ qs, qs = [p0] ++ ps := ⟨_, rfl⟩
  have hql : qs.length = 1 + m := by rw [hqs]; simp [hm]; omega
  have hqb : ∀ j (hj : j < qs.length), Byt w1 qs[j].A qs[j].c qs[j].M := by
    intro j hj
    subst hqs
    cases j with
    | zero => exact hb0.1
    | succ j =>
      have hj' : j < ps.length := by simp at hj; omega
      have h := (hP.byt j hj').1
      exact h.below (hwb.trans (low0.mono hwb.size)) (Nat.le_refl _)
  have hcan2 : flatM qs = canonL (bytesOf s) ps := by rw [hqs]; exact hcan
  obtain ⟨Q, hQ⟩ : ∃ Q, Q = canonL (bytesOf s) ps := ⟨_, rfl⟩
  rw [← hQ] at hcan2 hT ⊢
  have Hm := Lib.hid hm
  have HC := Lib.hid hc
  have HP := Lib.hid hP
  have Hwb := Lib.hid hwb
  have HT := Lib.hid hT
  have Hv0 := Lib.hid hv0
  have Hqs := Lib.hid hqs
  have Hql := Lib.hid hql
  have Hqb := Lib.hid hqb
  have Hcan := Lib.hid hcan2
  have Low0 := Lib.hid low0
  clear hQ hm hc hP hwb hT hc0 hbs low0 hw1 hp0 hv0 hb0 hcan hqs hql hqb hcan2
  go_enter Tryd.func54, Tryd.ntmps54
  go_wp2_with (first
    | (at_builtin; refine wpList_append_part (wr := w1) rfl (.tmp 9) (.tmp 12) rfl w1.heap.size _ 0 [] p0 rfl (World.ownsRow_nil _ _ _ _) _ Hv0.out rfl (by decide) (Nat.le_refl _) ?_; intro v2 w2 hgr2; have Hgr2 := Lib.hid hgr2; have Low2 := Lib.hid (hgr2.low w1.heap.size w1 (Below.refl _ _) (Nat.le_refl _)); clear hgr2)
    | (at_builtin; refine wpList_append_parts (wr := w2) rfl (.tmp 14) (.tmp 15) rfl w1.heap.size v2 1 ([] ++ [p0]) rfl Hgr2.out.own Ap m cp ps rfl Hm.out HC.out HP.out (Hwb.out.trans ((Low0.out.trans (Low2.out.mono Low0.out.size)).mono Hwb.out.size)) (by omega) Low2.out.size ?_; intro v3 w3 hgr3; have hown3 := hgr3.own; rw [List.nil_append, ← Hqs.out] at hown3; have Low3 := Lib.hid (hgr3.low _ _ Low2.out (Nat.le_refl _)); obtain ⟨ga, ca, hv3, _, hga, hga2, hcells⟩ := own_parts hown3 Hql.out (by omega); subst hv3; have Hcells := Lib.hid hcells; clear hgr3 hown3 hcells))
  have hqb3 : ∀ j (hj : j < qs.length), Byt w3 qs[j].A qs[j].c qs[j].M := fun j hj => (Hqb.out j hj).below Low3.out (Nat.le_refl _)
  have Hqb3 := Lib.hid hqb3
  have Loww := Lib.hid (Low0.out.trans (Low3.out.mono Low0.out.size))
  clear hqb3 Hgr2 Low2 Hqb HP HC Hwb Hqs Hv0
  go_wp2
  go_loopw [6, 7] (fun v i wr => ∃ j : Nat, j ≤ 1 + m ∧ i = .int .i64 j ∧ Hid (wr.ownsRow w3.heap.size 5 1 v (flatM (qs.take j)).length (vals (flatM (qs.take j))) ∧ Below w3.heap.size w3 wr)) (fun _ i _ => 1 + m - (intOf i).toNat)
  case atStart => exact ⟨0, by omega, rfl, by { have h : flatM (qs.take 0) = [] := (by rw [List.take_zero]; unfold flatM; rfl); rw [h]; exact World.ownsRow_nil _ _ _ _ }, Below.refl _ _⟩
  case round =>
    obtain ⟨j, hj, rfl, hr⟩ := hrel
    by_cases hlt : j < 1 + m
    · have hltI : (j : Int) < 1 + m := by omega
      have hltI2 : (j : Int) < ((1 + m : Nat) : Int) := by omega
      have hjq : j < qs.length := by rw [Hql.out]; exact hlt
      obtain ⟨q, hq⟩ : ∃ q, q = qs[j] := ⟨_, rfl⟩
      have hcell := Hcells.out j hjq
      have hbq := Hqb3.out j hjq
      have hnext := flatM_next qs j hjq
      have hle := flatM_le qs (j + 1)
      rw [Hcan.out] at hle
      rw [← hq] at hcell hbq hnext
      obtain ⟨qA, qc, qM⟩ := q
      obtain ⟨nn, hnn⟩ : ∃ nn, qM.length = nn := ⟨_, rfl⟩
      have hval : (Part.mk qA qc qM).val = .slice qA nn qc := by simp [Part.val, hnn]
      rw [hval] at hcell
      have cc : wr.cell? ⟨ga, j, none⟩ = some (.slice qA nn qc) := (hr.out.2.cell (p := ⟨ga, j, none⟩) hga2).trans hcell
      obtain ⟨C, hC⟩ : ∃ C, C = flatM (qs.take j) := ⟨_, rfl⟩
      have own' := hr.out.1
      rw [← hC] at own' hnext
      simp only at hnext hbq
      have hlen : C.length + (4 + nn) ≤ 40000 := by
        have h2 : (flatM (qs.take (j + 1))).length = C.length + (4 + nn) := by rw [hnext, List.length_append, List.length_append, show (lenL qM.length).length = 4 from rfl, hnn]
        have h3 := HT.out
        omega
      obtain ⟨cl, hcl⟩ : ∃ cl, C.length = cl := ⟨_, rfl⟩
      rw [hcl] at own' hlen
      rw [hnn] at hnext
      have Own' := Lib.hid own'
      have Hbq := Lib.hid hbq
      have Hnext := Lib.hid hnext
      have Hnn := Lib.hid hnn
      have Hcl := Lib.hid hcl
      have HlenL : Hid ((lenL nn).length = 4) := rfl
      have hnI : (nn : Int) ≤ 40000 := by omega
      clear own' hbq hnext hq hcell hval hC hnn hcl hle
      go_wp2_with (first
        | (at_builtin; refine lawAnybody.wpList_append_byt rfl (.tmp 28) (.tmp 43) rfl w3.heap.size _ cl C rfl (own_alloc Own'.out _) (some ⟨wr.heap.size, 0, none⟩) 4 4 (lenL nn) rfl HlenL.out (byt_len4 wr nn _ _ _ _ (by simp only [lenL, List.cons.injEq, and_true]; omega)) (by omega) (by have := hr.out.2.size; rw [World.size_alloc]; omega) ?_; intro v5 w5 hown5 hlow5 _; have Own5 := Lib.hid hown5; have Low5 := Lib.hid (hlow5 _ _ (hr.out.2.alloc hr.out.2.size _) (Nat.le_refl _)); have cc5 : w5.cell? ⟨ga, j, none⟩ = some (.slice qA nn qc) := (Low5.out.cell (p := ⟨ga, j, none⟩) hga2).trans (by have h := Hcells.out j hjq; exact (hr.out.2.cell (p := ⟨ga, j, none⟩) hga2).symm.trans cc); clear hown5 hlow5)
        | (at_builtin; refine lawAnybody.wpList_append_byt rfl (.tmp 45) (.tmp 49) rfl w3.heap.size v5 (cl + 4) (C ++ lenL nn) rfl Own5.out qA nn qc qM rfl Hnn.out (Hbq.out.below Low5.out (Nat.le_refl _)) (by omega) Low5.out.size ?_; intro v6 w6 hown6 hlow6 _; have Own6 := Lib.hid hown6; have Low6 := Lib.hid (hlow6 _ _ Low5.out (Nat.le_refl _)); clear hown6 hlow6))
      go_roundw
      case rel => exact ⟨j + 1, by omega, by go_num, by { have h := Own6.out; rw [List.append_assoc] at h; rw [Hnext.out]; have e : (C ++ (lenL nn ++ qM)).length = cl + 4 + nn := (by simp [Hcl.out, Hnn.out, lenL]; omega); rw [e]; exact ⟨h, Low6.out⟩ }⟩
      case measure => simp [intOf]; omega
    · have hge : ¬ (j : Int) < 1 + m := by omega
      have hge2 : ¬ (j : Int) < ((1 + m : Nat) : Int) := by omega
      have ej : j = 1 + m := by omega
      have own := hr.out.1
      rw [ej, List.take_of_length_le (Nat.le_of_eq Hql.out), Hcan.out] at own
      have hq : ∃ A2 c2, _ = Value.slice A2 Q.length c2 ∧ Byt wr A2 c2 Q := own_bytK own rfl
      obtain ⟨A2, c2, rfl, hbyt⟩ := hq
      have Hbyt := Lib.hid hbyt
      have Low9 := Lib.hid (Loww.out.trans (hr.out.2.mono Loww.out.size))
      clear own hr hbyt ej
      go_wp2
      go_ret
      exact ⟨A2, c2, rfl, Hbyt.out, Low9.out⟩
end Go.Proofs.YtgkmbamoffolgaaDoor
/- DERIVED. The contract of the reference's Derive of layer 2; parts in a row of the call's own. -/
namespace Go.Proofs.YtgkmbamoffolgaaDoor
open Go.RowKit
theorem PartsAt.later {w w' : World} {Ap : Option Addr} {ps : List Part} (h : PartsAt w Ap ps) (hb : Below w.heap.size w w') : PartsAt w' Ap ps :=
  ⟨fun j hj => by
    obtain ⟨g, off, e, hg, hc⟩ := h.row j hj
    exact ⟨g, off, e, Nat.lt_of_lt_of_le hg hb.size, (hb.cell (p := ⟨g, off + j, none⟩) hg).trans hc⟩, fun j hj => ⟨(h.byt j hj).1.below hb (Nat.le_refl _), (h.byt j hj).2⟩⟩
theorem parts_of_own {w : World} {base n : Nat} {v : Value} {L : List Part} (h : w.ownsRow base 24 1 v n (valP L)) (hl : L.length = n) (hb : ∀ j (hj : j < L.length), Byt w L[j].A L[j].c L[j].M ∧ InB L[j].M) : ∃ A c, v = .slice A n c ∧ (A = none → c = 0) ∧ PartsAt w A L := by
  by_cases h0 : 0 < n
  · obtain ⟨g, c, hv, _, _, hg, hc⟩ := own_parts h hl h0
    exact ⟨_, c, hv, (fun h => by cases h), fun j hj => ⟨g, 0, rfl, hg, by rw [Nat.zero_add]; exact hc j hj⟩, hb⟩
  · obtain rfl : n = 0 := by omega
    obtain rfl : L = [] := List.eq_nil_of_length_eq_zero hl
    obtain ⟨_, h⟩ := h
    rcases h with ⟨h, _⟩ | ⟨g, cap, cur, hv, _⟩
    · exact ⟨none, 0, h, fun _ => rfl, fun j hj => absurd hj (Nat.not_lt_zero _), fun j hj => absurd hj (Nat.not_lt_zero _)⟩
    · exact ⟨_, cap, hv, (fun h => by cases h), fun j hj => absurd hj (Nat.not_lt_zero _), fun j hj => absurd hj (Nat.not_lt_zero _)⟩
set_option maxRecDepth 100000 in
set_option maxHeartbeats 2000000 in
theorem rderive_any (k : List Int) (s : ByteArray) (Ap : Option Addr) (cp m : Nat) (ps : List Part) (w : World) (hk : k.length = 32) (hb : InB k) (hm : ps.length = m) (hc : Ap = none → cp = 0) (hP : PartsAt w Ap ps) (hT : (canonL (bytesOf s) ps).length ≤ 40000) :
    Calls Tryd.prog 42 #[.agg (u8s k), .string s, .slice Ap m cp] w fun e w' => e = .returned (.agg (u8s (hmacL k (canonL (bytesOf s) ps)))) ∧ Below w.heap.size w w' := by
  obtain ⟨i8, hi8, hz80, hz81, hz82⟩ := partsK info8k
  have gi := Lib.hid hi8
  have gz0 := Lib.hid hz80
  have gz1 := Lib.hid hz81
  have gz2 := Lib.hid hz82
  have hcan : ∀ W : World, Below w.heap.size w W → Calls Tryd.prog 54 #[.string s, .slice Ap m cp] W fun e w' => ∃ A c, e = .returned (.slice A (canonL (bytesOf s) ps).length c) ∧ Byt w' A c (canonL (bytesOf s) ps) ∧ Below W.heap.size W w' :=
    fun W hbw => rcanon_any s Ap cp m ps w W hm hc hP hbw hT
  have hQin : InB (canonL (bytesOf s) ps) := canonL_in (bytesOf_in s) hP.byt
  obtain ⟨Q, hQ⟩ : ∃ Q, Q = canonL (bytesOf s) ps := ⟨_, rfl⟩
  rw [← hQ] at hcan hQin hT ⊢
  obtain ⟨Y, hY⟩ : ∃ Y, Y = hmacL k Q := ⟨_, rfl⟩
  have hY32 : Y.length = 32 := by rw [hY, hmacL_length]
  rw [← hY]
  have h2 := two_new w (.cells (u8s k) 23) (.cells zero32 23)
  obtain ⟨W2, hW2⟩ : ∃ W2, W2 = (w.alloc (.cells (u8s k) 23)).alloc (.cells zero32 23) := ⟨_, rfl⟩
  have l2 : Below w.heap.size w W2 := by rw [hW2]; exact ((Below.refl _ _).alloc (Nat.le_refl _) _).alloc (by simp) _
  have s2 : W2.heap.size = w.heap.size + 2 := by rw [hW2]; simp
  rw [← hW2] at h2
  have HW2 : Hid ((w.alloc (.cells (u8s k) 23)).alloc (.cells #[.int .u8 0, .int .u8 0, .int .u8 0, .int .u8 0, .int .u8 0, .int .u8 0, .int .u8 0, .int .u8 0, .int .u8 0, .int .u8 0, .int .u8 0, .int .u8 0, .int .u8 0, .int .u8 0, .int .u8 0, .int .u8 0, .int .u8 0, .int .u8 0, .int .u8 0, .int .u8 0, .int .u8 0, .int .u8 0, .int .u8 0, .int .u8 0, .int .u8 0, .int .u8 0, .int .u8 0, .int .u8 0, .int .u8 0, .int .u8 0, .int .u8 0, .int .u8 0] 23) = W2) := hW2.symm
  have Hk := Lib.hid hk
  have Hb := Lib.hid hb
  have Hcan := Lib.hid hcan
  have HQin := Lib.hid hQin
  have HT := Lib.hid hT
  have HY := Lib.hid hY
  have HY32 := Lib.hid hY32
  have H2 := Lib.hid h2
  have L2 := Lib.hid l2
  have S2 := Lib.hid s2
  have HYi : Hid ((Tryd.prog.info? 23).map (·.size) = some (u8s Y).size) := by show _ = _; rw [u8s_size, hY32]; exact info35
  clear hi8 hz80 hz81 hz82 hk hb hm hc hP hcan hQin hT hQ hY hY32 h2 hW2 l2 s2
  go_enter Tryd.func42, Tryd.ntmps42
  go_upto_region 1 with fail
  rw [HW2.out]
  go_wp2
  go_loopw [7, 8] (fun v i wr => ∃ j : Nat, j ≤ 32 ∧ i = .int .i64 j ∧ Hid (wr.ownsRow W2.heap.size 5 1 v j (valsK .u8 (k.take j)) ∧ Below W2.heap.size W2 wr)) (fun _ i _ => 32 - (intOf i).toNat)
  case atStart => exact ⟨0, by omega, rfl, World.ownsRow_nil _ _ _ _, Below.refl _ _⟩
  case round =>
    obtain ⟨j, hj, rfl, hr⟩ := hrel
    by_cases hlt : j < 32
    · have hltI : (j : Int) < 32 := by omega
      obtain ⟨x, hx⟩ : ∃ x, x = k.getD j 0 := ⟨_, rfl⟩
      have cell : wr.cell? ⟨w.heap.size, j, none⟩ = some (.int .u8 x) := by rw [hx]; exact row8_cell ((hr.out.2.block _ (by rw [S2.out]; omega)).trans H2.out.1) j (by rw [Hk.out]; exact hlt)
      have hmore : k.take j ++ [x] = k.take (j + 1) := by rw [hx]; exact take_getD (by rw [Hk.out]; exact hlt)
      have Hmore := Lib.hid hmore
      clear hx hmore
      go_wp2_with (at_builtin; refine wpList_append_mine rfl (.tmp 13) (.tmp 17) 24 rfl W2.heap.size 5 i8 (.int .u8 0) 1 Tryd.underlying24 gi.out gz0.out gz1.out gz2.out rfl (by decide) _ j (k.take j) x rfl hr.out.1 rfl (by omega) hr.out.2.size ?_; intro v' w' hgr; have Hgr := Lib.hid hgr; clear hgr)
      go_roundw
      case rel => exact ⟨j + 1, by omega, by go_num, by rw [← Hmore.out]; exact ⟨Hgr.out.own, Hgr.out.low _ _ hr.out.2 (Nat.le_refl _)⟩⟩
      case measure => simp [intOf]; omega
    · have hge : ¬ (j : Int) < 32 := by omega
      have e32 : j = 32 := by omega
      have own := hr.out.1
      rw [e32, List.take_of_length_le (Nat.le_of_eq Hk.out)] at own
      obtain ⟨gK, cK, rfl, hcK, _, hrowK⟩ := own_rowK own Hk.out (by decide)
      have BytK := Lib.hid (hrowK.byt (c := cK) (by rw [Hk.out]; exact hcK))
      have LowK := Lib.hid (L2.out.trans (hr.out.2.mono L2.out.size))
      have LowZ := Lib.hid hr.out.2
      obtain ⟨w8, hw8⟩ : ∃ w8, w8 = wr := ⟨_, rfl⟩
      subst hw8
      clear own hr e32 hj hlt hrowK
      go_wp2_with (first
        | (go_at_call 54; refine (Hcan.out _ LowK.out).mono ?_; rintro e w5 ⟨A5, c5, rfl, byt5, low5⟩; have Byt5 := Lib.hid byt5; have BytK5 := Lib.hid (BytK.out.below low5 (Nat.le_refl _)); have Low5 := Lib.hid (LowZ.out.trans (low5.mono LowZ.out.size)); clear byt5 low5)
        | (go_at_call 43; refine (rhmac_any k Q (some ⟨gK, 0, none⟩) A5 cK 32 c5 Q.length w5 Hk.out rfl Hb.out HQin.out BytK5.out Byt5.out (by decide) HT.out).mono ?_; rintro e w6 ⟨rfl, low6⟩; rw [← HY.out]; have Low6 := Lib.hid (Low5.out.trans (low6.mono Low5.out.size)); have Hz := Lib.hid ((Low6.out.block _ (by rw [S2.out]; omega)).trans H2.out.2); clear low6)
        | (refine wpList_store_row rfl 23 (.tmp 6) (.tmp 23) rfl (w.heap.size + 1) (u8s Y) rfl rfl 23 _ Hz.out HYi.out (by rw [u8s_size, HY32.out]; rfl) (u8s_one _) ?_))
      exact bodyPost_ret (v := .agg (u8s Y)) (results_cell_row rfl _ _ (w.heap.size + 1) 23 _ (0, 0) _ rfl (setRow_heap w6 _ _ _ _ _ Hz.out) Tryd.underlying23 rfl HYi.out) rfl ⟨rfl, below_setRow (L2.out.trans (Low6.out.mono L2.out.size)) (by omega) _⟩
end Go.Proofs.YtgkmbamoffolgaaDoor
/- DERIVED. The document's answer of layer 11: Tag. -/
namespace Go.Proofs.YtgkmbamoffolgaaDoor.Seal
open Go.RowKit
theorem rkey_call (k C nm : List Int) (s : ByteArray) (hs : bytesOf s = nm) (A : Option Addr) (n c g : Nat) (w : World) (hk : k.length = 32) (hb : InB k) (hC : C.length = n) (hCb : InB C) (hn : n ≤ 1000) (hs2 : nm.length ≤ 100) (hB : Byt w A c C) (hg : w.cell? ⟨g, 0, none⟩ = some (.slice A n c)) :
    Calls Tryd.prog 42 #[.agg (u8s k), .string s, .slice (some ⟨g, 0, none⟩) 1 1] w fun e w' => e = .returned (.agg (u8s (keyL k nm C))) ∧ Below w.heap.size w w' := by
  subst hs hC
  have e : canonL (bytesOf s) [⟨A, c, C⟩] = partL (bytesOf s) ++ partL C := by simp [canonL]
  have h := rderive_any k s (some ⟨g, 0, none⟩) 1 1 [⟨A, c, C⟩] w hk hb rfl (fun h => by cases h) (partsAt_one hg hB hCb) (by rw [e, List.length_append, partL_length, partL_length]; omega)
  rw [e] at h
  exact h
theorem own_app {B n m : Nat} {L M : List Int} {v : Value} {w : World} (hL : L.length = n) (hM : M.length = m) (h : w.ownsRow B 5 1 v (n + m) (vals (L ++ M))) : OwnB B (L ++ M) v w := by
  subst hL hM
  unfold OwnB
  rw [List.length_append]
  exact h
theorem take_more {L : List Int} {i : Nat} (h : i < L.length) : L.take i ++ [L.getD i 0] = L.take (i + 1) := by
  have e : L.getD i 0 = L[i] := by simp [List.getD_eq_getElem?_getD, h]
  rw [e, List.take_succ_eq_append_getElem h]
set_option maxRecDepth 100000 in
set_option maxHeartbeats 4000000 in
theorem rtag_any (k C L : List Int) (pos ep : Nat) (A A2 : Option Addr) (n c m c2 : Nat) (w : World) (hk : k.length = 32) (hb : InB k) (hC : C.length = n) (hCb : InB C) (hn : n ≤ 1000) (hL : L.length = m) (hLb : InB L) (hm : m ≤ 20000) (hp : pos < 18446744073709551616 ∧ ep < 4294967296) (hB1 : Byt w A c C) (hB2 : Byt w A2 c2 L) :
    Calls Tryd.prog 29 #[.agg (u8s k), .slice A n c, .int .u64 (pos : Nat), .int .u32 (ep : Nat), .slice A2 m c2] w fun e w' => e = .returned (.agg (u8s (tagL k C pos ep L))) ∧ Below w.heap.size w w' := by
  obtain ⟨KK, hKK⟩ : ∃ KK, KK = keyL k tagName C := ⟨_, rfl⟩
  obtain ⟨TT, hTT⟩ : ∃ TT, TT = tagL k C pos ep L := ⟨_, rfl⟩
  obtain ⟨G1, hG1⟩ : ∃ G1, G1 = numL n 4 ++ C := ⟨_, rfl⟩
  obtain ⟨G2, hG2⟩ : ∃ G2, G2 = G1 ++ numL pos 8 := ⟨_, rfl⟩
  obtain ⟨G3, hG3⟩ : ∃ G3, G3 = G2 ++ numL ep 4 := ⟨_, rfl⟩
  obtain ⟨G4, hG4⟩ : ∃ G4, G4 = G3 ++ L := ⟨_, rfl⟩
  rw [← hTT]
  have hT4 : G4 = taggedL C pos ep L := by rw [hG4, hG3, hG2, hG1, taggedL, hC]
  have HTT : Hid (TT = hmacL KK G4) := by show _ = _; rw [hTT, hKK, hT4]; rfl
  have hT32 : TT.length = 32 := by rw [hTT]; exact hmacL_length _ _
  have HKe := Lib.hid hKK
  have HG1 : Hid (numL n 4 ++ C = G1) := hG1.symm
  have HG2 : Hid (G1 ++ numL pos 8 = G2) := hG2.symm
  have HG3 : Hid (G2 ++ numL ep 4 = G3) := hG3.symm
  have HG4 : Hid (G3 ++ L = G4) := hG4.symm
  have HGl : Hid (G1.length ≤ 2000 ∧ G2.length ≤ 2000 ∧ G3.length ≤ 2000 ∧ G4.length ≤ 22000) := by
    have h1 : G1.length = 4 + n := by rw [hG1, List.length_append, numL_length, hC]
    have h2 : G2.length = 12 + n := by rw [hG2, List.length_append, numL_length, h1]; omega
    have h3 : G3.length = 16 + n := by rw [hG3, List.length_append, numL_length, h2]; omega
    have h4 : G4.length = 16 + n + m := by rw [hG4, List.length_append, h3, hL]
    exact ⟨by omega, by omega, by omega, by omega⟩
  have HGi : Hid (InB G4) := by rw [hT4]; exact taggedL_in hCb hLb
  have HKN : Hid (KK.length = 32 ∧ InB KK) := ⟨by rw [hKK]; exact keyL_length _ _ _, by rw [hKK]; exact keyL_in _ _ _⟩
  have Hk : Hid (k.length = 32 ∧ InB k) := ⟨hk, hb⟩
  have HCC : Hid (C.length = n ∧ InB C ∧ n ≤ 1000) := ⟨hC, hCb, hn⟩
  have HL2 : Hid (L.length = m ∧ m ≤ 20000) := ⟨hL, hm⟩
  have HpE := Lib.hid hp
  have HB1 := Lib.hid hB1
  have HB2 := Lib.hid hB2
  have HsT : Hid ((Tryd.prog.info? 23).map (·.size) = some (u8s TT).size) := by show _ = _; rw [u8s_size, hT32]; exact infoH
  have HsK0 : Hid ((Tryd.prog.info? 23).map (·.size) = some (u8s k).size) := by show _ = _; rw [u8s_size, hk]; exact infoH
  have HzT : Hid ((u8s (zeros 32)).size = (u8s TT).size) := by show _ = _; rw [u8s_size, u8s_size, hT32]; rfl
  have hnI : (n : Int) ≤ 1000 := by omega
  clear hKK hTT hG1 hG2 hG3 hG4 hT4 hT32 hk hb hC hCb hL hLb hB1 hB2 hp hn hm
  go_enter Tryd.func29, Tryd.ntmps29
  go_upto_region 2 with (first
    | (go_at_call 42; refine (rkey_call k C tagName _ rfl A n c (w.heap.size + 1 + 1) _ Hk.out.1 Hk.out.2 HCC.out.1 HCC.out.2.1 HCC.out.2.2 (by decide) (HB1.out.below (low3 w _ _ _) (Nat.le_refl _)) (cell_row (three_new w _ _ _).2.2 0)).mono ?_; rintro e w2 ⟨rfl, hb2⟩; rw [← HKe.out]; have Hb2 := Lib.hid hb2; clear hb2)
    | (refine wpList_store_new rfl (.tmp 11) (.tmp 18) rfl KK HKN.out.1 _ (by rfl) (by rfl) (by rfl) ?_; intro w3 hr3 hb3; have HKK := Lib.hid hr3; have Hb3 := Lib.hid hb3; clear hr3 hb3)
    | (refine wpList_load_row rfl 23 (.tmp 5) rfl w.heap.size rfl 23 (u8s k) (0, 0) _ (two_new w _ _).1 Tryd.underlying23 rfl HsK0.out ?_))
  have h3 := Hb2.out.size
  rw [World.size_alloc, World.size_alloc, World.size_alloc] at h3
  have hlow2 : Below w.heap.size w w2 := (low3 w _ _ _).trans (Hb2.out.mono (by rw [World.size_alloc, World.size_alloc, World.size_alloc]; omega))
  have HLow := Lib.hid (hlow2.trans (Hb3.out.mono hlow2.size))
  have HZ : Hid (w3.heap[w.heap.size + 1]? = some (.cells (u8s (zeros 32)) 23 (0, 0))) := (Hb3.out.block _ (by omega)).trans ((Hb2.out.block _ (by rw [World.size_alloc, World.size_alloc, World.size_alloc]; omega)).trans (three_new w _ _ _).2.1)
  have hgk : w2.heap.size < w3.heap.size := (Array.getElem?_eq_some_iff.1 HKK.out).1
  clear Hb2 Hb3 h3 hlow2
  go_upto_region 4 with (fail)
  go_loopw [12, 13] (fun v x wr => ∃ i : Nat, i ≤ 32 ∧ x = .int .i64 i ∧ Hid (OwnB w3.heap.size (KK.take i) v wr) ∧ Hid (Below w3.heap.size w3 wr)) (fun _ x _ => 32 - (intOf x).toNat)
  case atStart => exact ⟨0, Nat.zero_le _, rfl, World.ownsRow_nil w3 w3.heap.size 5 1, Below.refl _ _⟩
  case round =>
    obtain ⟨i, hi, rfl, own, low⟩ := hrel
    by_cases hlt : i < 32
    · have hltI : (i : Int) < 32 := by omega
      have hrow := (low.out.block _ hgk).trans HKK.out
      have hc := row8_cell hrow i (by rw [HKN.out.1]; exact hlt)
      have htm := take_more (L := KK) (i := i) (by rw [HKN.out.1]; exact hlt)
      obtain ⟨y, hy⟩ : ∃ y, y = KK.getD i 0 := ⟨_, rfl⟩
      rw [← hy] at hc htm
      have hKl : (KK.take i).length = i := by rw [List.length_take, HKN.out.1]; omega
      have Htm := Lib.hid htm
      have HKl := Lib.hid hKl
      have hsz := low.out.size
      clear hrow htm hy hKl
      go_wp2_with (at_builtin; refine wpList_append_any rfl (.tmp 23) (.tmp 27) rfl w3.heap.size _ (KK.take i).length (KK.take i) rfl (OwnB.later own.out ((Below.refl _ _).alloc (Nat.le_refl _) _)) (some ⟨wr.heap.size, 0, none⟩) 1 1 [y] rfl rfl (byt_rowF (l := [y]) (Go.heap_alloc_new wr _) rfl) (by rw [HKl.out]; omega) (by rw [World.size_alloc]; omega) ?_; intro v4 w4 own4 low4; have Own4 := Lib.hid (Htm.out ▸ own_app rfl rfl own4); have Low4 := Lib.hid (low4 _ _ (low.out.alloc hsz _) (Nat.le_refl _)); clear own4 low4)
      exact ⟨⟨i + 1, by omega, rfl, Own4.out, Low4.out⟩, by simp [intOf]; omega⟩
    · obtain rfl : i = 32 := by omega
      have hK := own.out
      rw [List.take_of_length_le (by rw [HKN.out.1]; exact Nat.le_refl _)] at hK
      obtain ⟨AK, cK, rfl, bK⟩ := hK.sl
      rw [HKN.out.1]
      have BK := Lib.hid bK
      have HLr := Lib.hid (HLow.out.trans (low.out.mono HLow.out.size))
      have HZr := Lib.hid ((low.out.block _ (Array.getElem?_eq_some_iff.1 HZ.out).1).trans HZ.out)
      have hltI : ¬ ((32 : Nat) : Int) < 32 := by omega
      clear hK bK own low HZ HKK hgk HLow hlt hi
      go_upto_region 8 with (go_at_call 27; refine (rnumber_any n 4 (by decide) (by omega) _).mono ?_; rintro e w4 ⟨v4, rfl, ho4, hb4⟩; have Ho4 := Lib.hid ho4; have Hb4 := Lib.hid hb4; clear ho4 hb4)
      go_upto_region 9 with (at_builtin; refine wpList_append_any rfl (.tmp 33) (.tmp 34) rfl wr.heap.size _ (numL n 4).length (numL n 4) rfl Ho4.out A n c C rfl HCC.out.1 (HB1.out.below (HLr.out.trans (Hb4.out.mono HLr.out.size)) (Nat.le_refl _)) (by rw [numL_length]; omega) Hb4.out.size ?_; intro v5 w5 own5 low5; have Ho5 := Lib.hid (HG1.out ▸ own_app rfl HCC.out.1 own5); have Hb5 := Lib.hid (low5 _ _ Hb4.out (Nat.le_refl _)); clear own5 low5)
      clear Ho4 Hb4
      go_upto_region 10 with (first
        | (go_at_call 27; refine (rnumber_any pos 8 (by decide) HpE.out.1 _).mono ?_; rintro e w6 ⟨v6, rfl, ho6, hb6⟩; obtain ⟨A6, c6, rfl, b6⟩ := ho6.sl; rw [numL_length]; have B6 := Lib.hid b6; have Ho6 := Lib.hid (Ho5.out.later hb6); have Hb6 := Lib.hid (Hb5.out.trans (hb6.mono Hb5.out.size)); clear ho6 hb6 b6)
        | (at_builtin; refine wpList_append_any rfl (.tmp 36) (.tmp 38) rfl wr.heap.size _ G1.length G1 rfl Ho6.out A6 8 c6 (numL pos 8) rfl (numL_length pos 8) B6.out (by have := HGl.out.1; omega) Hb6.out.size ?_; intro v7 w7 own7 low7; have Ho7 := Lib.hid (HG2.out ▸ own_app rfl (numL_length pos 8) own7); have Hb7 := Lib.hid (low7 _ _ Hb6.out (Nat.le_refl _)); clear own7 low7))
      clear Ho5 Hb5 Ho6 Hb6 B6
      have heI : (ep : Int) < 4294967296 := by have := HpE.out.2; omega
      have hwe : IntKind.u64.wrap (ep : Int) = ep := by simp [IntKind.wrap, IntKind.bits, IntKind.signed]; omega
      go_upto_region 11 with (first
        | (go_at_call 27; refine (rnumber_any ep 4 (by decide) (by omega) _).mono ?_; rintro e w8 ⟨v8, rfl, ho8, hb8⟩; obtain ⟨A8, c8, rfl, b8⟩ := ho8.sl; rw [numL_length]; have B8 := Lib.hid b8; have Ho8 := Lib.hid (Ho7.out.later hb8); have Hb8 := Lib.hid (Hb7.out.trans (hb8.mono Hb7.out.size)); clear ho8 hb8 b8)
        | (at_builtin; refine wpList_append_any rfl (.tmp 40) (.tmp 43) rfl wr.heap.size _ G2.length G2 rfl Ho8.out A8 4 c8 (numL ep 4) rfl (numL_length ep 4) B8.out (by have := HGl.out.2.1; omega) Hb8.out.size ?_; intro v9 w9 own9 low9; have Ho9 := Lib.hid (HG3.out ▸ own_app rfl (numL_length ep 4) own9); have Hb9 := Lib.hid (low9 _ _ Hb8.out (Nat.le_refl _)); clear own9 low9))
      clear Ho7 Hb7 Ho8 Hb8 B8 heI hwe
      go_wp2_with (first
        | (at_builtin; refine wpList_append_any rfl (.tmp 46) (.tmp 47) rfl wr.heap.size _ G3.length G3 rfl Ho9.out A2 m c2 L rfl HL2.out.1 (HB2.out.below (HLr.out.trans (Hb9.out.mono HLr.out.size)) (Nat.le_refl _)) (by have := HGl.out.2.2.1; have := HL2.out.2; omega) Hb9.out.size ?_; intro v10 w10 own10 low10; obtain ⟨A10, c10, rfl, b10⟩ := OwnB.sl (HG4.out ▸ own_app rfl HL2.out.1 own10); have B10 := Lib.hid b10; have Hb10 := Lib.hid (low10 _ _ Hb9.out (Nat.le_refl _)); clear own10 low10 b10)
        | (go_at_call 43; refine (rhmac_any KK G4 AK A10 cK 32 c10 G4.length w10 HKN.out.1 rfl HKN.out.2 HGi.out (BK.out.below Hb10.out (Nat.le_refl _)) B10.out (by decide) (by have := HGl.out.2.2.2; omega)).mono ?_; rintro e w11 ⟨rfl, hb11⟩; rw [← HTT.out]; have Hb11 := Lib.hid (Hb10.out.trans (hb11.mono Hb10.out.size)); clear hb11)
        | (refine wpList_store_row rfl 23 (.tmp 10) (.tmp 49) rfl (w.heap.size + 1) (u8s TT) (by rfl) (by rfl) 23 _ ((Hb11.out.block _ (Array.getElem?_eq_some_iff.1 HZr.out).1).trans HZr.out) HsT.out HzT.out (u8s_one TT) ?_))
      exact bodyPost_ret (v := .agg (u8s TT)) (results_cell_row rfl _ _ (w.heap.size + 1) 23 _ (0, 0) _ rfl (setRow_heap _ _ _ _ _ _ ((Hb11.out.block _ (Array.getElem?_eq_some_iff.1 HZr.out).1).trans HZr.out)) Tryd.underlying23 rfl HsT.out) rfl ⟨rfl, below_setRow (HLr.out.trans (Hb11.out.mono HLr.out.size)) (by omega) _⟩
end Go.Proofs.YtgkmbamoffolgaaDoor.Seal
