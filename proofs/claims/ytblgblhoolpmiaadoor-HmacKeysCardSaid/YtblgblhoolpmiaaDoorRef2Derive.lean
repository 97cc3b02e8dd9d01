/- DERIVED. The contracts of the reference's Canon and Derive of layer 2. -/
import Derived.Test.YtblgblhoolpmiaaDoorRef2Parts
import Derived.Lib.ConvBytes
namespace Go.Proofs.YtblgblhoolpmiaaDoor
open Go.RowKit
set_option maxRecDepth 100000 in
set_option maxHeartbeats 2000000 in
theorem rcanon_any (s : ByteArray) (Ap : Option Addr) (cp m : Nat) (ps : List Part) (wb w : World) (hm : ps.length = m) (hc : Ap = none → cp = 0) (hP : PartsAt wb Ap ps) (hwb : Below wb.heap.size wb w) (hT : (canonL (bytesOf s) ps).length ≤ 40000) :
    Calls Tryd.prog 44 #[.string s, .slice Ap m cp] w fun e w' => ∃ A c, e = .returned (.slice A (canonL (bytesOf s) ps).length c) ∧ Byt w' A c (canonL (bytesOf s) ps) ∧ Below w.heap.size w w' := by
  have hm4 : m ≤ 40000 := by
    have h1 := flatM_pos (⟨none, 0, bytesOf s⟩ :: ps)
    rw [canon_flat (bytesOf s) ⟨none, 0, bytesOf s⟩ ps rfl, List.length_cons] at h1
    omega
  have kc := Lib.run_convert_string_bytes (P := Tryd.prog) w 9 26 5 s Tryd.underlying9 Tryd.underlying26 Tryd.underlying5
  obtain ⟨c0, hc0⟩ : ∃ c, c = grownCap w s.size 0 5 := ⟨_, rfl⟩
  have hbs := byt_string w s
  have low0 := below_string w s
  rw [← hc0] at kc hbs
  obtain ⟨w1, hw1⟩ : ∃ w1, w1 = Lib.bytesWorld w 5 s := ⟨_, rfl⟩
  rw [← hw1] at kc hbs low0
  obtain ⟨p0, hp0⟩ : ∃ p0 : Part, p0 = ⟨some ⟨w.heap.size, 0, none⟩, c0, bytesOf s⟩ := ⟨_, rfl⟩
  have hv0 : Value.slice (some ⟨w.heap.size, 0, none⟩) s.size c0 = p0.val := by rw [hp0]; simp [Part.val, bytesOf_length]
  have hb0 : Byt w1 p0.A p0.c p0.M ∧ InB p0.M := by rw [hp0]; exact ⟨hbs, bytesOf_in s⟩
  have hcan : flatM (p0 :: ps) = canonL (bytesOf s) ps := canon_flat _ _ _ (by rw [hp0])
  obtain ⟨qs, hqs⟩ : ∃ qs, qs = [p0] ++ ps := ⟨_, rfl⟩
  have hql : qs.length = 1 + m := by rw [hqs]; simp [hm]; omega
  have hqb : ∀ j (hj : j < qs.length), Byt w1 qs[j].A qs[j].c qs[j].M := by
    intro j hj
    subst hqs
    cases j with
    | zero => exact hb0.1
    | succ j =>
      have hj' : j < ps.length := by simp at hj; omega
      have h := (hP.byt j hj').1
      exact h.below (hwb.trans (low0.mono hwb.size)) (Nat.le_refl _)
  have hcan2 : flatM qs = canonL (bytesOf s) ps := by rw [hqs]; exact hcan
  obtain ⟨Q, hQ⟩ : ∃ Q, Q = canonL (bytesOf s) ps := ⟨_, rfl⟩
  rw [← hQ] at hcan2 hT ⊢
  have Hm := Lib.hid hm
  have HC := Lib.hid hc
  have HP := Lib.hid hP
  have Hwb := Lib.hid hwb
  have HT := Lib.hid hT
  have Hv0 := Lib.hid hv0
  have Hqs := Lib.hid hqs
  have Hql := Lib.hid hql
  have Hqb := Lib.hid hqb
  have Hcan := Lib.hid hcan2
  have Low0 := Lib.hid low0
  clear hQ hm hc hP hwb hT hc0 hbs low0 hw1 hp0 hv0 hb0 hcan hqs hql hqb hcan2
  go_enter Tryd.func44, Tryd.ntmps44
  go_wp2_with (first
    | (at_builtin; refine wpList_append_part (wr := w1) rfl (.tmp 9) (.tmp 12) rfl w1.heap.size _ 0 [] p0 rfl (World.ownsRow_nil _ _ _ _) _ Hv0.out rfl (by decide) (Nat.le_refl _) ?_; intro v2 w2 hgr2; have Hgr2 := Lib.hid hgr2; have Low2 := Lib.hid (hgr2.low w1.heap.size w1 (Below.refl _ _) (Nat.le_refl _)); clear hgr2)
    | (at_builtin; refine wpList_append_parts (wr := w2) rfl (.tmp 14) (.tmp 15) rfl w1.heap.size v2 1 ([] ++ [p0]) rfl Hgr2.out.own Ap m cp ps rfl Hm.out HC.out HP.out (Hwb.out.trans ((Low0.out.trans (Low2.out.mono Low0.out.size)).mono Hwb.out.size)) (by omega) Low2.out.size ?_; intro v3 w3 hgr3; have hown3 := hgr3.own; rw [List.nil_append, ← Hqs.out] at hown3; have Low3 := Lib.hid (hgr3.low _ _ Low2.out (Nat.le_refl _)); obtain ⟨ga, ca, hv3, _, hga, hga2, hcells⟩ := own_parts hown3 Hql.out (by omega); subst hv3; have Hcells := Lib.hid hcells; clear hgr3 hown3 hcells))
  have hqb3 : ∀ j (hj : j < qs.length), Byt w3 qs[j].A qs[j].c qs[j].M := fun j hj => (Hqb.out j hj).below Low3.out (Nat.le_refl _)
  have Hqb3 := Lib.hid hqb3
  have Loww := Lib.hid (Low0.out.trans (Low3.out.mono Low0.out.size))
  clear hqb3 Hgr2 Low2 Hqb HP HC Hwb Hqs Hv0
  go_wp2
  go_loopw [6, 7] (fun v i wr => ∃ j : Nat, j ≤ 1 + m ∧ i = .int .i64 j ∧ Hid (wr.ownsRow w3.heap.size 5 1 v (flatM (qs.take j)).length (vals (flatM (qs.take j))) ∧ Below w3.heap.size w3 wr)) (fun _ i _ => 1 + m - (intOf i).toNat)
  case atStart => exact ⟨0, by omega, rfl, by { have h : flatM (qs.take 0) = [] := (by rw [List.take_zero]; unfold flatM; rfl); rw [h]; exact World.ownsRow_nil _ _ _ _ }, Below.refl _ _⟩
  case round =>
    obtain ⟨j, hj, rfl, hr⟩ := hrel
    by_cases hlt : j < 1 + m
    · have hltI : (j : Int) < 1 + m := by omega
      have hltI2 : (j : Int) < ((1 + m : Nat) : Int) := by omega
      have hjq : j < qs.length := by rw [Hql.out]; exact hlt
      obtain ⟨q, hq⟩ : ∃ q, q = qs[j] := ⟨_, rfl⟩
      have hcell := Hcells.out j hjq
      have hbq := Hqb3.out j hjq
      have hnext := flatM_next qs j hjq
      have hle := flatM_le qs (j + 1)
      rw [Hcan.out] at hle
      rw [← hq] at hcell hbq hnext
      obtain ⟨qA, qc, qM⟩ := q
      obtain ⟨nn, hnn⟩ : ∃ nn, qM.length = nn := ⟨_, rfl⟩
      have hval : (Part.mk qA qc qM).val = .slice qA nn qc := by simp [Part.val, hnn]
      rw [hval] at hcell
      have cc : wr.cell? ⟨ga, j, none⟩ = some (.slice qA nn qc) := (hr.out.2.cell (p := ⟨ga, j, none⟩) hga2).trans hcell
      obtain ⟨C, hC⟩ : ∃ C, C = flatM (qs.take j) := ⟨_, rfl⟩
      have own' := hr.out.1
      rw [← hC] at own' hnext
      simp only at hnext hbq
      have hlen : C.length + (4 + nn) ≤ 40000 := by
        have h2 : (flatM (qs.take (j + 1))).length = C.length + (4 + nn) := by rw [hnext, List.length_append, List.length_append, show (lenL qM.length).length = 4 from rfl, hnn]
        have h3 := HT.out
        omega
      obtain ⟨cl, hcl⟩ : ∃ cl, C.length = cl := ⟨_, rfl⟩
      rw [hcl] at own' hlen
      rw [hnn] at hnext
      have Own' := Lib.hid own'
      have Hbq := Lib.hid hbq
      have Hnext := Lib.hid hnext
      have Hnn := Lib.hid hnn
      have Hcl := Lib.hid hcl
      have HlenL : Hid ((lenL nn).length = 4) := rfl
      have hnI : (nn : Int) ≤ 40000 := by omega
      clear own' hbq hnext hq hcell hval hC hnn hcl hle
      go_wp2_with (first
        | (at_builtin; refine lawAnybody.wpList_append_byt rfl (.tmp 28) (.tmp 43) rfl w3.heap.size _ cl C rfl (own_alloc Own'.out _) (some ⟨wr.heap.size, 0, none⟩) 4 4 (lenL nn) rfl HlenL.out (byt_len4 wr nn _ _ _ _ (by simp only [lenL, List.cons.injEq, and_true]; omega)) (by omega) (by have := hr.out.2.size; rw [World.size_alloc]; omega) ?_; intro v5 w5 hown5 hlow5 _; have Own5 := Lib.hid hown5; have Low5 := Lib.hid (hlow5 _ _ (hr.out.2.alloc hr.out.2.size _) (Nat.le_refl _)); have cc5 : w5.cell? ⟨ga, j, none⟩ = some (.slice qA nn qc) := (Low5.out.cell (p := ⟨ga, j, none⟩) hga2).trans (by have h := Hcells.out j hjq; exact (hr.out.2.cell (p := ⟨ga, j, none⟩) hga2).symm.trans cc); clear hown5 hlow5)
        | (at_builtin; refine lawAnybody.wpList_append_byt rfl (.tmp 45) (.tmp 49) rfl w3.heap.size v5 (cl + 4) (C ++ lenL nn) rfl Own5.out qA nn qc qM rfl Hnn.out (Hbq.out.below Low5.out (Nat.le_refl _)) (by omega) Low5.out.size ?_; intro v6 w6 hown6 hlow6 _; have Own6 := Lib.hid hown6; have Low6 := Lib.hid (hlow6 _ _ Low5.out (Nat.le_refl _)); clear hown6 hlow6))
      go_roundw
      case rel => exact ⟨j + 1, by omega, by go_num, by { have h := Own6.out; rw [List.append_assoc] at h; rw [Hnext.out]; have e : (C ++ (lenL nn ++ qM)).length = cl + 4 + nn := (by simp [Hcl.out, Hnn.out, lenL]; omega); rw [e]; exact ⟨h, Low6.out⟩ }⟩
      case measure => simp [intOf]; omega
    · have hge : ¬ (j : Int) < 1 + m := by omega
      have hge2 : ¬ (j : Int) < ((1 + m : Nat) : Int) := by omega
      have ej : j = 1 + m := by omega
      have own := hr.out.1
      rw [ej, List.take_of_length_le (Nat.le_of_eq Hql.out), Hcan.out] at own
      have hq : ∃ A2 c2, _ = Value.slice A2 Q.length c2 ∧ Byt wr A2 c2 Q := own_bytK own rfl
      obtain ⟨A2, c2, rfl, hbyt⟩ := hq
      have Hbyt := Lib.hid hbyt
      have Low9 := Lib.hid (Loww.out.trans (hr.out.2.mono Loww.out.size))
      clear own hr hbyt ej
      go_wp2
      go_ret
      exact ⟨A2, c2, rfl, Hbyt.out, Low9.out⟩
end Go.Proofs.YtblgblhoolpmiaaDoor
