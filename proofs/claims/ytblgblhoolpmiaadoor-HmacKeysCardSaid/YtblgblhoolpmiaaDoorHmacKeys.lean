/- DERIVED. The walk of the law HmacKeys. Written by mkkeys.py. -/
import Derived.Test.YtblgblhoolpmiaaDoorRef2Keys
import Derived.Test.YtblgblhoolpmiaaDoorHmacKeep
import Derived.Test.YtblgblhoolpmiaaDoorHmacWorks
import Derived.Test.YtblgblhoolpmiaaDoorSlUntil
namespace Go.Proofs.YtblgblhoolpmiaaDoor.lawKeys
open Go.RowKit
/-- a part, cut to 600 bytes. -/
def cutP (p : Part) : Part := ⟨p.A, p.c, p.M.take 600⟩
theorem flatM_small : ∀ (qs : List Part), (∀ q ∈ qs, q.M.length ≤ 600) → (flatM qs).length ≤ 604 * qs.length := by
  intro qs
  unfold flatM
  induction qs with
  | nil => intro _; simp
  | cons q qs ih =>
    intro h
    have h1 := h q (List.mem_cons_self ..)
    have h2 := ih (fun x hx => h x (List.mem_cons_of_mem _ hx))
    rw [List.flatMap_cons, List.length_append, partL_length, List.length_cons]
    omega
theorem canon_small (nm : ByteArray) (qs : List Part) (h1 : nm.size ≤ 600) (h2 : qs.length ≤ 6) (h3 : ∀ q ∈ qs, q.M.length ≤ 600) : (canonL (bytesOf nm) qs).length ≤ 40000 := by
  have h := flatM_small (⟨none, 0, bytesOf nm⟩ :: qs) (fun q hq => by
    rcases List.mem_cons.1 hq with rfl | hq
    · rw [bytesOf_length]; exact h1
    · exact h3 q hq)
  rw [canon_flat (bytesOf nm) ⟨none, 0, bytesOf nm⟩ qs rfl, List.length_cons] at h
  omega
set_option maxRecDepth 100000 in
set_option maxHeartbeats 4000000 in
theorem keys_short (k : List Int) (nm : ByteArray) (Ap : Option Addr) (cp m : Nat) (ps : List Part) (w : World) (hk : k.length = 32) (hkb : InB k) (hs : nm.size ≤ 600) (hm : ps.length = m) (hmx : m ≤ 9223372036854775807) (hP : PartsAt w Ap ps) (hL : Laid w) :
    Calls Tryd.prog 7 #[.agg (u8s k), .string nm, .slice Ap m cp] w fun e' w' => e' = .returned (.bool true) ∧ Below w.heap.size w w' := by
  obtain ⟨qs, hqs⟩ : ∃ qs, qs = (ps.take 6).map cutP := ⟨_, rfl⟩
  obtain ⟨kq, hkq⟩ : ∃ kq, kq = min m 6 := ⟨_, rfl⟩
  have hkm : kq ≤ m := by omega
  have hk6 : kq ≤ 6 := by omega
  have hkx : kq = m ∨ kq = 6 := by omega
  have hql : qs.length = kq := by rw [hqs, hkq]; simp [hm, Nat.min_comm]
  have hq : ∀ j (h1 : j < ps.length) (h2 : j < qs.length), qs[j] = cutP ps[j] := by intro j h1 h2; subst hqs; simp
  have hqb : ∀ i (hi : i < qs.length), Byt w qs[i].A qs[i].c qs[i].M ∧ InB qs[i].M := by
    intro i hi
    have h1 : i < ps.length := by omega
    rw [hq i h1 hi]
    exact ⟨byt_take (hP.byt i h1).1 _, (hP.byt i h1).2.take _⟩
  have hT : (canonL (bytesOf nm) qs).length ≤ 40000 := canon_small nm qs hs (by omega) (fun q hq' => by rw [hqs] at hq'; obtain ⟨p, _, rfl⟩ := List.mem_map.1 hq'; simp [cutP]; omega)
  obtain ⟨S, hS⟩ : ∃ S, S = hmacL k (canonL (bytesOf nm) qs) := ⟨_, rfl⟩
  have hS32 : S.length = 32 := by rw [hS, hmacL_length]
  have HKi : Hid ((Tryd.prog.info? 35).map (·.size) = some (u8s k).size) := by show _ = _; rw [u8s_size, hk]; exact info35
  obtain ⟨W1, hW1⟩ : ∃ W1, W1 = w.alloc (.cells (u8s k) 35) := ⟨_, rfl⟩
  have HW1 := Lib.hid hW1.symm
  have L0 : Hid (Below w.heap.size w W1) := by show Below _ _ _; rw [hW1]; exact (Below.refl _ _).alloc (Nat.le_refl _) _
  have R1 : Hid (W1.heap[w.heap.size]? = some (.cells (u8s k) 35 (0, 0))) := by show _ = _; rw [hW1]; exact Go.heap_alloc_new w _
  have Sz1 : Hid (W1.heap.size = w.heap.size + 1) := by show _ = _; rw [hW1, World.size_alloc]
  have hsI : (nm.size : Int) ≤ 600 := by omega
  have Hk := Lib.hid hk
  have Hkb := Lib.hid hkb
  have Hm := Lib.hid hm
  have HP := Lib.hid hP
  have HL := Lib.hid hL
  have Hsz := Lib.hid hL.sz
  have Hql := Lib.hid hql
  have Hq := Lib.hid hq
  have Hqb := Lib.hid hqb
  have HT := Lib.hid hT
  have HS := Lib.hid hS
  have HS32 := Lib.hid hS32
  clear hqs hkq hk hkb hm hP hL hql hq hqb hT hS hS32 hW1 hs
  go_enter Tryd.func7, Tryd.ntmps7
  go_upto_region 2 with fail
  rw [HW1.out]
  go_wp2
  go_loopw [7, 8] (fun v i wr => ∃ j : Nat, j ≤ kq ∧ i = .int .i64 j ∧ Hid (wr.ownsRow W1.heap.size 26 1 v j (valP (qs.take j)) ∧ Below W1.heap.size W1 wr)) (fun _ i _ => kq - (intOf i).toNat)
  case atStart => exact ⟨0, by omega, rfl, World.ownsRow_nil _ _ _ _, Below.refl _ _⟩
  case round =>
    obtain ⟨j, hj, rfl, hr⟩ := hrel
    by_cases hlt : j < kq
    · have h1 : (j : Int) < m := by omega
      have h2 : (j : Int) < 6 := by omega
      have hjp : j < ps.length := by rw [Hm.out]; omega
      have hjq : j < qs.length := by rw [Hql.out]; exact hlt
      obtain ⟨g, off, hA, hg, hcell⟩ := HP.out.row j hjp
      have hb := (HP.out.byt j hjp).1
      have hqj := Hq.out j hjp hjq
      obtain ⟨p, hp⟩ : ∃ p, p = ps[j] := ⟨_, rfl⟩
      rw [← hp] at hcell hb hqj
      obtain ⟨pA, pc, pM⟩ := p
      obtain ⟨nn, hnn⟩ : ∃ nn, pM.length = nn := ⟨_, rfl⟩
      have hval : (Part.mk pA pc pM).val = .slice pA nn pc := by simp [Part.val, hnn]
      rw [hval] at hcell
      have hbc := hb.1
      simp only [hnn] at hbc
      have cc : wr.cell? ⟨g, off + j, none⟩ = some (.slice pA nn pc) := ((L0.out.trans (hr.out.2.mono L0.out.size)).cell (p := ⟨g, off + j, none⟩) hg).trans hcell
      have hcut := cut_any pA pc nn wr hbc
      obtain ⟨q, hqq⟩ : ∃ q, q = qs[j] := ⟨_, rfl⟩
      rw [← hqq] at hqj
      have hqv : Value.slice pA (min nn 600) pc = q.val := by rw [hqj]; simp [cutP, Part.val, hnn, Nat.min_comm]
      have hmore : qs.take j ++ [q] = qs.take (j + 1) := by rw [hqq]; exact (List.take_succ_eq_append_getElem hjq).symm
      have Hcut := Lib.hid hcut
      have Hqv := Lib.hid hqv
      have Hmore := Lib.hid hmore
      subst hA
      clear hcell hb hqj hp hval hbc hcut hqq hqv hmore hnn
      go_wp2_with (first
        | (go_at_call 19; refine Hcut.out.mono ?_; rintro e w' ⟨rfl, rfl⟩)
        | (at_builtin; refine wpList_append_part (wr := wr) rfl (.tmp 24) (.tmp 30) rfl W1.heap.size u7 j (qs.take j) q rfl hr.out.1 _ Hqv.out rfl (by omega) hr.out.2.size ?_; intro v' w' hgr; have Hgr := Lib.hid hgr; clear hgr))
      go_roundw
      case rel => exact ⟨j + 1, by omega, by go_num, by rw [← Hmore.out]; exact ⟨Hgr.out.own, Hgr.out.low _ _ hr.out.2 (Nat.le_refl _)⟩⟩
      case measure => simp [intOf]; omega
    · have ej : j = kq := by omega
      have own := hr.out.1
      rw [ej, List.take_of_length_le (Nat.le_of_eq Hql.out)] at own
      have hqb9 : ∀ i (hi : i < qs.length), Byt wr qs[i].A qs[i].c qs[i].M ∧ InB qs[i].M := fun i hi => ⟨(Hqb.out i hi).1.below (L0.out.trans (hr.out.2.mono L0.out.size)) (Nat.le_refl _), (Hqb.out i hi).2⟩
      obtain ⟨Aq, cq, rfl, hcq, hp9⟩ := parts_of_own own Hql.out hqb9
      have HP9 := Lib.hid hp9
      have Hcq := Lib.hid hcq
      have Lw9 := Lib.hid (L0.out.trans (hr.out.2.mono L0.out.size))
      have RK := Lib.hid ((hr.out.2.block _ (by rw [Sz1.out]; omega)).trans R1.out)
      have Hx6 : Hid (j < m → ¬ (j : Int) < 6) := by show j < m → ¬ (j : Int) < 6; omega
      clear own hr hqb9 hcq hp9 hlt hj ej
      obtain ⟨w9, hw9⟩ : ∃ w9, w9 = wr := ⟨_, rfl⟩
      subst hw9
      by_cases hjm : j < m
      · have h1 : (j : Int) < m := by omega
        have h2 := Hx6.out hjm
        go_upto_region 7 with fail
        have apx : apartB [32, 33, 34, 35, 36, 37, 38, 39, 40, 41, 42, 43, 6] = true := by decide
        refine wp_region_any (by kernel_rfl) ?_
        change wpAny _ _ _ _ _ _ _ (World.drew _)
        refine wpAny_inv (fun ll aa wx => Hid (ll.size = 13 ∧ Below w9.heap.size w9 wx) ∧ ∃ (z : Nat → Value), Hid (aa = ⟨#[.agg (u8s k), .string nm, .slice Ap m cp, .pointer (some ⟨w.heap.size, 0, none⟩), undef, undef, z 6, .slice Aq kq cq, .int .i64 (j : Nat), .string nm, .string nm, .int .i64 (nm.size : Nat), .int .i64 (nm.size : Nat), .string nm, .int .i64 (j : Nat), .slice Ap m cp, .int .i64 (m : Nat), .bool true, .bool true, .int .i64 (j : Nat), .bool false, .bool false, u22, u23, u24, u25, u26, u27, u28, u29, u30, u31, z 32, z 33, z 34, z 35, z 36, z 37, z 38, z 39, z 40, z 41, z 42, z 43], []⟩) ∧ Holding [32, 33, 34, 35, 36, 37, 38, 39, 40, 41, 42, 43, 6] [some (.agg (u8s k)), some (.string nm), some (.slice Aq kq cq), some (.agg (u8s S)), some (.agg (u8s k)), some (.string nm), some (.slice Aq kq cq), some (.agg (u8s S)), some (.bool true), some (.bool true), some (.bool true), some (.bool true), some (.bool true)] ll z) ?_ (by kernel_rfl) ?_ ?_ _ _ _ _ (unlisted_none _) ?_
        · rintro ll aa wx ⟨hI, _⟩
          exact hI.out.1
        · rintro ll aa wx ⟨hI, z, ha, hz⟩ hall
          have hx := Lib.hid hI.out.2
          have e0 : z 32 = .agg (u8s k) := hz 0 _ (hall 0 (by decide)) rfl
          have e1 : z 33 = .string nm := hz 1 _ (hall 1 (by decide)) rfl
          have e2 : z 34 = .slice Aq kq cq := hz 2 _ (hall 2 (by decide)) rfl
          have e3 : z 35 = .agg (u8s S) := hz 3 _ (hall 3 (by decide)) rfl
          have e4 : z 36 = .agg (u8s k) := hz 4 _ (hall 4 (by decide)) rfl
          have e5 : z 37 = .string nm := hz 5 _ (hall 5 (by decide)) rfl
          have e6 : z 38 = .slice Aq kq cq := hz 6 _ (hall 6 (by decide)) rfl
          have e7 : z 39 = .agg (u8s S) := hz 7 _ (hall 7 (by decide)) rfl
          have e8 : z 40 = .bool true := hz 8 _ (hall 8 (by decide)) rfl
          have e9 : z 41 = .bool true := hz 9 _ (hall 9 (by decide)) rfl
          have e10 : z 42 = .bool true := hz 10 _ (hall 10 (by decide)) rfl
          have e11 : z 43 = .bool true := hz 11 _ (hall 11 (by decide)) rfl
          have e12 : z 6 = .bool true := hz 12 _ (hall 12 (by decide)) rfl
          clear hall hz hI 
          obtain rfl := ha.out
          clear ha
          clear apx
          have E := Lib.hid e12
          have HX := Lib.hid hx.out
          clear e0 e1 e2 e3 e4 e5 e6 e7 e8 e9 e10 e11 hx e12
          rw [E.out]
          go_wp2
          go_ret
          exact ⟨rfl, Lw9.out.trans (HX.out.mono Lw9.out.size)⟩
        · rintro ll aa wx i ⟨hI, z, ha, hz⟩ hi hu hw
          obtain rfl := ha.out
          have hsz := Lib.hid hI.out.1
          have hx := Lib.hid hI.out.2
          clear ha hI
          have hin : i < 13 := hi
          obtain rfl | rfl | rfl | rfl | rfl | rfl | rfl | rfl | rfl | rfl | rfl | rfl | rfl : i = 0 ∨ i = 1 ∨ i = 2 ∨ i = 3 ∨ i = 4 ∨ i = 5 ∨ i = 6 ∨ i = 7 ∨ i = 8 ∨ i = 9 ∨ i = 10 ∨ i = 11 ∨ i = 12 := by omega
          · have cl := (hx.out.block _ (Array.getElem?_eq_some_iff.1 RK.out).1).trans RK.out
            refine wpOp_plain rfl rfl (wp_load_row 35 (.tmp 3) rfl (w.heap.size) rfl 35 (u8s k) (0, 0) _ cl Tryd.underlying35 rfl HKi.out ?_)
            go_simp
            exact ⟨⟨by simp [hsz.out], hx.out⟩, upd z 32 (.agg (u8s k)), (by unfold Hid; simp [upd]), hz.next apx hsz.out 0 (by decide) _ (fun _ h => Option.some.inj h)⟩
          · refine wpOp_plain rfl rfl ?_
            go_simp
            exact ⟨⟨by simp [hsz.out], hx.out⟩, upd z 33 (.string nm), (by unfold Hid; simp [upd]), hz.next apx hsz.out 1 (by decide) _ (fun _ h => Option.some.inj h)⟩
          · refine wpOp_plain rfl rfl ?_
            go_simp
            exact ⟨⟨by simp [hsz.out], hx.out⟩, upd z 34 (.slice Aq kq cq), (by unfold Hid; simp [upd]), hz.next apx hsz.out 2 (by decide) _ (fun _ h => Option.some.inj h)⟩
          · have e0 : z 32 = .agg (u8s k) := hz 0 _ (hw 0 (by kernel_rfl)) rfl
            have e1 : z 33 = .string nm := hz 1 _ (hw 1 (by kernel_rfl)) rfl
            have e2 : z 34 = .slice Aq kq cq := hz 2 _ (hw 2 (by kernel_rfl)) rfl
            refine wpOp_plain rfl rfl ?_
            go_simp
            go_at_call 24
            refine (derive_any k nm Aq cq kq qs wx Hk.out Hkb.out Hql.out (HP9.out.later hx.out) (HL.out.below (Lw9.out.trans (hx.out.mono Lw9.out.size)) Hsz.out) HT.out).mono ?_
            rintro e' w' ⟨rfl, low⟩
            rw [← HS.out]
            exact ⟨⟨by simp [hsz.out], hx.out.trans (low.mono hx.out.size)⟩, upd z 35 (.agg (u8s S)), (by unfold Hid; simp [upd, e0, e1, e2]), hz.next apx hsz.out 3 (by decide) _ (fun _ h => Option.some.inj h)⟩
          · have cl := (hx.out.block _ (Array.getElem?_eq_some_iff.1 RK.out).1).trans RK.out
            refine wpOp_plain rfl rfl (wp_load_row 35 (.tmp 3) rfl (w.heap.size) rfl 35 (u8s k) (0, 0) _ cl Tryd.underlying35 rfl HKi.out ?_)
            go_simp
            exact ⟨⟨by simp [hsz.out], hx.out⟩, upd z 36 (.agg (u8s k)), (by unfold Hid; simp [upd]), hz.next apx hsz.out 4 (by decide) _ (fun _ h => Option.some.inj h)⟩
          · refine wpOp_plain rfl rfl ?_
            go_simp
            exact ⟨⟨by simp [hsz.out], hx.out⟩, upd z 37 (.string nm), (by unfold Hid; simp [upd]), hz.next apx hsz.out 5 (by decide) _ (fun _ h => Option.some.inj h)⟩
          · refine wpOp_plain rfl rfl ?_
            go_simp
            exact ⟨⟨by simp [hsz.out], hx.out⟩, upd z 38 (.slice Aq kq cq), (by unfold Hid; simp [upd]), hz.next apx hsz.out 6 (by decide) _ (fun _ h => Option.some.inj h)⟩
          · have e4 : z 36 = .agg (u8s k) := hz 4 _ (hw 4 (by kernel_rfl)) rfl
            have e5 : z 37 = .string nm := hz 5 _ (hw 5 (by kernel_rfl)) rfl
            have e6 : z 38 = .slice Aq kq cq := hz 6 _ (hw 6 (by kernel_rfl)) rfl
            refine wpOp_plain rfl rfl ?_
            go_simp
            go_at_call 25
            refine (rderive_any k nm Aq cq kq qs wx Hk.out Hkb.out Hql.out Hcq.out (HP9.out.later hx.out) HT.out).mono ?_
            rintro e' w' ⟨rfl, low⟩
            rw [← HS.out]
            exact ⟨⟨by simp [hsz.out], hx.out.trans (low.mono hx.out.size)⟩, upd z 39 (.agg (u8s S)), (by unfold Hid; simp [upd, e4, e5, e6]), hz.next apx hsz.out 7 (by decide) _ (fun _ h => Option.some.inj h)⟩
          · have e3 : z 35 = .agg (u8s S) := hz 3 _ (hw 3 (by kernel_rfl)) rfl
            have e7 : z 39 = .agg (u8s S) := hz 7 _ (hw 7 (by kernel_rfl)) rfl
            have eq := eql35_same S HS32.out wx
            have eq2 := equal35_same S HS32.out wx
            refine wpOp_plain rfl rfl ?_
            go_simp
            exact ⟨⟨by simp [hsz.out], hx.out⟩, upd z 40 (.bool true), (by unfold Hid; simp [upd, e3, e7]), hz.next apx hsz.out 8 (by decide) _ (fun _ h => Option.some.inj h)⟩
          · have e8 : z 40 = .bool true := hz 8 _ (hw 8 (by kernel_rfl)) rfl
            refine wpOp_plain rfl rfl ?_
            go_simp
            exact ⟨⟨by simp [hsz.out], hx.out⟩, upd z 41 (.bool true), (by unfold Hid; simp [upd, e8]), hz.next apx hsz.out 9 (by decide) _ (fun _ h => Option.some.inj h)⟩
          · have e9 : z 41 = .bool true := hz 9 _ (hw 9 (by kernel_rfl)) rfl
            refine wpOp_want rfl (by simp [Region.wanted, yielded, e9]) ?_
            go_simp
            go_at_call 23
            refine (works_any wx (HL.out.below (Lw9.out.trans (hx.out.mono Lw9.out.size)) Hsz.out)).mono ?_
            rintro e' w' ⟨rfl, low⟩
            exact ⟨⟨by simp [hsz.out], hx.out.trans (low.mono hx.out.size)⟩, upd z 42 (.bool true), (by unfold Hid; simp [upd, e9]), hz.next apx hsz.out 10 (by decide) _ (fun _ h => Option.some.inj h)⟩
          · have e9 : z 41 = .bool true := hz 9 _ (hw 9 (by kernel_rfl)) rfl
            have e10 : z 42 = .bool true := hz 10 _ (hw 10 (by kernel_rfl)) rfl
            refine wpOp_plain rfl rfl ?_
            go_simp
            exact ⟨⟨by simp [hsz.out], hx.out⟩, upd z 43 (.bool true), (by unfold Hid; simp [upd, e9, e10]), hz.next apx hsz.out 11 (by decide) _ (fun _ h => Option.some.inj h)⟩
          · have e11 : z 43 = .bool true := hz 11 _ (hw 11 (by kernel_rfl)) rfl
            refine wpOp_plain rfl rfl ?_
            go_simp
            exact ⟨⟨by simp [hsz.out], hx.out⟩, upd z 6 (.bool true), (by unfold Hid; simp [upd, e11]), hz.next apx hsz.out 12 (by decide) _ (fun _ h => Option.some.inj h)⟩
        · exact ⟨⟨rfl, (Below.refl _ _).drew⟩, fun xx => (#[.agg (u8s k), .string nm, .slice Ap m cp, .pointer (some ⟨w.heap.size, 0, none⟩), undef, undef, .bool false, .slice Aq kq cq, .int .i64 (j : Nat), .string nm, .string nm, .int .i64 (nm.size : Nat), .int .i64 (nm.size : Nat), .string nm, .int .i64 (j : Nat), .slice Ap m cp, .int .i64 (m : Nat), .bool true, .bool true, .int .i64 (j : Nat), .bool false, .bool false, u22, u23, u24, u25, u26, u27, u28, u29, u30, u31, undef, undef, undef, undef, undef, undef, undef, undef, undef, undef, undef, undef] : Array Value).getD xx undef, rfl, Holding.start⟩
      · have h1 : ¬ (j : Int) < m := by omega
        go_upto_region 7 with fail
        have apx : apartB [32, 33, 34, 35, 36, 37, 38, 39, 40, 41, 42, 43, 6] = true := by decide
        refine wp_region_any (by kernel_rfl) ?_
        change wpAny _ _ _ _ _ _ _ (World.drew _)
        refine wpAny_inv (fun ll aa wx => Hid (ll.size = 13 ∧ Below w9.heap.size w9 wx) ∧ ∃ (z : Nat → Value), Hid (aa = ⟨#[.agg (u8s k), .string nm, .slice Ap m cp, .pointer (some ⟨w.heap.size, 0, none⟩), undef, undef, z 6, .slice Aq kq cq, .int .i64 (j : Nat), .string nm, .string nm, .int .i64 (nm.size : Nat), .int .i64 (nm.size : Nat), .string nm, .int .i64 (j : Nat), .slice Ap m cp, .int .i64 (m : Nat), .bool false, .bool false, undef, undef, .bool false, u22, u23, u24, u25, u26, u27, u28, u29, u30, u31, z 32, z 33, z 34, z 35, z 36, z 37, z 38, z 39, z 40, z 41, z 42, z 43], []⟩) ∧ Holding [32, 33, 34, 35, 36, 37, 38, 39, 40, 41, 42, 43, 6] [some (.agg (u8s k)), some (.string nm), some (.slice Aq kq cq), some (.agg (u8s S)), some (.agg (u8s k)), some (.string nm), some (.slice Aq kq cq), some (.agg (u8s S)), some (.bool true), some (.bool true), some (.bool true), some (.bool true), some (.bool true)] ll z) ?_ (by kernel_rfl) ?_ ?_ _ _ _ _ (unlisted_none _) ?_
        · rintro ll aa wx ⟨hI, _⟩
          exact hI.out.1
        · rintro ll aa wx ⟨hI, z, ha, hz⟩ hall
          have hx := Lib.hid hI.out.2
          have e0 : z 32 = .agg (u8s k) := hz 0 _ (hall 0 (by decide)) rfl
          have e1 : z 33 = .string nm := hz 1 _ (hall 1 (by decide)) rfl
          have e2 : z 34 = .slice Aq kq cq := hz 2 _ (hall 2 (by decide)) rfl
          have e3 : z 35 = .agg (u8s S) := hz 3 _ (hall 3 (by decide)) rfl
          have e4 : z 36 = .agg (u8s k) := hz 4 _ (hall 4 (by decide)) rfl
          have e5 : z 37 = .string nm := hz 5 _ (hall 5 (by decide)) rfl
          have e6 : z 38 = .slice Aq kq cq := hz 6 _ (hall 6 (by decide)) rfl
          have e7 : z 39 = .agg (u8s S) := hz 7 _ (hall 7 (by decide)) rfl
          have e8 : z 40 = .bool true := hz 8 _ (hall 8 (by decide)) rfl
          have e9 : z 41 = .bool true := hz 9 _ (hall 9 (by decide)) rfl
          have e10 : z 42 = .bool true := hz 10 _ (hall 10 (by decide)) rfl
          have e11 : z 43 = .bool true := hz 11 _ (hall 11 (by decide)) rfl
          have e12 : z 6 = .bool true := hz 12 _ (hall 12 (by decide)) rfl
          clear hall hz hI 
          obtain rfl := ha.out
          clear ha
          clear apx
          have E := Lib.hid e12
          have HX := Lib.hid hx.out
          clear e0 e1 e2 e3 e4 e5 e6 e7 e8 e9 e10 e11 hx e12
          rw [E.out]
          go_wp2
          go_ret
          exact ⟨rfl, Lw9.out.trans (HX.out.mono Lw9.out.size)⟩
        · rintro ll aa wx i ⟨hI, z, ha, hz⟩ hi hu hw
          obtain rfl := ha.out
          have hsz := Lib.hid hI.out.1
          have hx := Lib.hid hI.out.2
          clear ha hI
          have hin : i < 13 := hi
          obtain rfl | rfl | rfl | rfl | rfl | rfl | rfl | rfl | rfl | rfl | rfl | rfl | rfl : i = 0 ∨ i = 1 ∨ i = 2 ∨ i = 3 ∨ i = 4 ∨ i = 5 ∨ i = 6 ∨ i = 7 ∨ i = 8 ∨ i = 9 ∨ i = 10 ∨ i = 11 ∨ i = 12 := by omega
          · have cl := (hx.out.block _ (Array.getElem?_eq_some_iff.1 RK.out).1).trans RK.out
            refine wpOp_plain rfl rfl (wp_load_row 35 (.tmp 3) rfl (w.heap.size) rfl 35 (u8s k) (0, 0) _ cl Tryd.underlying35 rfl HKi.out ?_)
            go_simp
            exact ⟨⟨by simp [hsz.out], hx.out⟩, upd z 32 (.agg (u8s k)), (by unfold Hid; simp [upd]), hz.next apx hsz.out 0 (by decide) _ (fun _ h => Option.some.inj h)⟩
          · refine wpOp_plain rfl rfl ?_
            go_simp
            exact ⟨⟨by simp [hsz.out], hx.out⟩, upd z 33 (.string nm), (by unfold Hid; simp [upd]), hz.next apx hsz.out 1 (by decide) _ (fun _ h => Option.some.inj h)⟩
          · refine wpOp_plain rfl rfl ?_
            go_simp
            exact ⟨⟨by simp [hsz.out], hx.out⟩, upd z 34 (.slice Aq kq cq), (by unfold Hid; simp [upd]), hz.next apx hsz.out 2 (by decide) _ (fun _ h => Option.some.inj h)⟩
          · have e0 : z 32 = .agg (u8s k) := hz 0 _ (hw 0 (by kernel_rfl)) rfl
            have e1 : z 33 = .string nm := hz 1 _ (hw 1 (by kernel_rfl)) rfl
            have e2 : z 34 = .slice Aq kq cq := hz 2 _ (hw 2 (by kernel_rfl)) rfl
            refine wpOp_plain rfl rfl ?_
            go_simp
            go_at_call 24
            refine (derive_any k nm Aq cq kq qs wx Hk.out Hkb.out Hql.out (HP9.out.later hx.out) (HL.out.below (Lw9.out.trans (hx.out.mono Lw9.out.size)) Hsz.out) HT.out).mono ?_
            rintro e' w' ⟨rfl, low⟩
            rw [← HS.out]
            exact ⟨⟨by simp [hsz.out], hx.out.trans (low.mono hx.out.size)⟩, upd z 35 (.agg (u8s S)), (by unfold Hid; simp [upd, e0, e1, e2]), hz.next apx hsz.out 3 (by decide) _ (fun _ h => Option.some.inj h)⟩
          · have cl := (hx.out.block _ (Array.getElem?_eq_some_iff.1 RK.out).1).trans RK.out
            refine wpOp_plain rfl rfl (wp_load_row 35 (.tmp 3) rfl (w.heap.size) rfl 35 (u8s k) (0, 0) _ cl Tryd.underlying35 rfl HKi.out ?_)
            go_simp
            exact ⟨⟨by simp [hsz.out], hx.out⟩, upd z 36 (.agg (u8s k)), (by unfold Hid; simp [upd]), hz.next apx hsz.out 4 (by decide) _ (fun _ h => Option.some.inj h)⟩
          · refine wpOp_plain rfl rfl ?_
            go_simp
            exact ⟨⟨by simp [hsz.out], hx.out⟩, upd z 37 (.string nm), (by unfold Hid; simp [upd]), hz.next apx hsz.out 5 (by decide) _ (fun _ h => Option.some.inj h)⟩
          · refine wpOp_plain rfl rfl ?_
            go_simp
            exact ⟨⟨by simp [hsz.out], hx.out⟩, upd z 38 (.slice Aq kq cq), (by unfold Hid; simp [upd]), hz.next apx hsz.out 6 (by decide) _ (fun _ h => Option.some.inj h)⟩
          · have e4 : z 36 = .agg (u8s k) := hz 4 _ (hw 4 (by kernel_rfl)) rfl
            have e5 : z 37 = .string nm := hz 5 _ (hw 5 (by kernel_rfl)) rfl
            have e6 : z 38 = .slice Aq kq cq := hz 6 _ (hw 6 (by kernel_rfl)) rfl
            refine wpOp_plain rfl rfl ?_
            go_simp
            go_at_call 25
            refine (rderive_any k nm Aq cq kq qs wx Hk.out Hkb.out Hql.out Hcq.out (HP9.out.later hx.out) HT.out).mono ?_
            rintro e' w' ⟨rfl, low⟩
            rw [← HS.out]
            exact ⟨⟨by simp [hsz.out], hx.out.trans (low.mono hx.out.size)⟩, upd z 39 (.agg (u8s S)), (by unfold Hid; simp [upd, e4, e5, e6]), hz.next apx hsz.out 7 (by decide) _ (fun _ h => Option.some.inj h)⟩
          · have e3 : z 35 = .agg (u8s S) := hz 3 _ (hw 3 (by kernel_rfl)) rfl
            have e7 : z 39 = .agg (u8s S) := hz 7 _ (hw 7 (by kernel_rfl)) rfl
            have eq := eql35_same S HS32.out wx
            have eq2 := equal35_same S HS32.out wx
            refine wpOp_plain rfl rfl ?_
            go_simp
            exact ⟨⟨by simp [hsz.out], hx.out⟩, upd z 40 (.bool true), (by unfold Hid; simp [upd, e3, e7]), hz.next apx hsz.out 8 (by decide) _ (fun _ h => Option.some.inj h)⟩
          · have e8 : z 40 = .bool true := hz 8 _ (hw 8 (by kernel_rfl)) rfl
            refine wpOp_plain rfl rfl ?_
            go_simp
            exact ⟨⟨by simp [hsz.out], hx.out⟩, upd z 41 (.bool true), (by unfold Hid; simp [upd, e8]), hz.next apx hsz.out 9 (by decide) _ (fun _ h => Option.some.inj h)⟩
          · have e9 : z 41 = .bool true := hz 9 _ (hw 9 (by kernel_rfl)) rfl
            refine wpOp_want rfl (by simp [Region.wanted, yielded, e9]) ?_
            go_simp
            go_at_call 23
            refine (works_any wx (HL.out.below (Lw9.out.trans (hx.out.mono Lw9.out.size)) Hsz.out)).mono ?_
            rintro e' w' ⟨rfl, low⟩
            exact ⟨⟨by simp [hsz.out], hx.out.trans (low.mono hx.out.size)⟩, upd z 42 (.bool true), (by unfold Hid; simp [upd, e9]), hz.next apx hsz.out 10 (by decide) _ (fun _ h => Option.some.inj h)⟩
          · have e9 : z 41 = .bool true := hz 9 _ (hw 9 (by kernel_rfl)) rfl
            have e10 : z 42 = .bool true := hz 10 _ (hw 10 (by kernel_rfl)) rfl
            refine wpOp_plain rfl rfl ?_
            go_simp
            exact ⟨⟨by simp [hsz.out], hx.out⟩, upd z 43 (.bool true), (by unfold Hid; simp [upd, e9, e10]), hz.next apx hsz.out 11 (by decide) _ (fun _ h => Option.some.inj h)⟩
          · have e11 : z 43 = .bool true := hz 11 _ (hw 11 (by kernel_rfl)) rfl
            refine wpOp_plain rfl rfl ?_
            go_simp
            exact ⟨⟨by simp [hsz.out], hx.out⟩, upd z 6 (.bool true), (by unfold Hid; simp [upd, e11]), hz.next apx hsz.out 12 (by decide) _ (fun _ h => Option.some.inj h)⟩
        · exact ⟨⟨rfl, (Below.refl _ _).drew⟩, fun xx => (#[.agg (u8s k), .string nm, .slice Ap m cp, .pointer (some ⟨w.heap.size, 0, none⟩), undef, undef, .bool false, .slice Aq kq cq, .int .i64 (j : Nat), .string nm, .string nm, .int .i64 (nm.size : Nat), .int .i64 (nm.size : Nat), .string nm, .int .i64 (j : Nat), .slice Ap m cp, .int .i64 (m : Nat), .bool false, .bool false, undef, undef, .bool false, u22, u23, u24, u25, u26, u27, u28, u29, u30, u31, undef, undef, undef, undef, undef, undef, undef, undef, undef, undef, undef, undef] : Array Value).getD xx undef, rfl, Holding.start⟩
set_option maxRecDepth 100000 in
set_option maxHeartbeats 4000000 in
theorem keys_long (k : List Int) (s nm : ByteArray) (Ap : Option Addr) (cp m : Nat) (ps : List Part) (w : World) (hk : k.length = 32) (hkb : InB k) (hs : 600 < s.size) (hm : ps.length = m) (hmx : m ≤ 9223372036854775807) (hP : PartsAt w Ap ps) (hL : Laid w) (hn : nm = s.extract 0 600) :
    Calls Tryd.prog 7 #[.agg (u8s k), .string s, .slice Ap m cp] w fun e' w' => e' = .returned (.bool true) ∧ Below w.heap.size w w' := by
  obtain ⟨qs, hqs⟩ : ∃ qs, qs = (ps.take 6).map cutP := ⟨_, rfl⟩
  obtain ⟨kq, hkq⟩ : ∃ kq, kq = min m 6 := ⟨_, rfl⟩
  have hkm : kq ≤ m := by omega
  have hk6 : kq ≤ 6 := by omega
  have hkx : kq = m ∨ kq = 6 := by omega
  have hql : qs.length = kq := by rw [hqs, hkq]; simp [hm, Nat.min_comm]
  have hq : ∀ j (h1 : j < ps.length) (h2 : j < qs.length), qs[j] = cutP ps[j] := by intro j h1 h2; subst hqs; simp
  have hqb : ∀ i (hi : i < qs.length), Byt w qs[i].A qs[i].c qs[i].M ∧ InB qs[i].M := by
    intro i hi
    have h1 : i < ps.length := by omega
    rw [hq i h1 hi]
    exact ⟨byt_take (hP.byt i h1).1 _, (hP.byt i h1).2.take _⟩
  have hT : (canonL (bytesOf nm) qs).length ≤ 40000 := canon_small nm qs (by rw [hn, ByteArray.size_extract]; omega) (by omega) (fun q hq' => by rw [hqs] at hq'; obtain ⟨p, _, rfl⟩ := List.mem_map.1 hq'; simp [cutP]; omega)
  obtain ⟨S, hS⟩ : ∃ S, S = hmacL k (canonL (bytesOf nm) qs) := ⟨_, rfl⟩
  have hS32 : S.length = 32 := by rw [hS, hmacL_length]
  have HKi : Hid ((Tryd.prog.info? 35).map (·.size) = some (u8s k).size) := by show _ = _; rw [u8s_size, hk]; exact info35
  obtain ⟨W1, hW1⟩ : ∃ W1, W1 = w.alloc (.cells (u8s k) 35) := ⟨_, rfl⟩
  have HW1 := Lib.hid hW1.symm
  have L0 : Hid (Below w.heap.size w W1) := by show Below _ _ _; rw [hW1]; exact (Below.refl _ _).alloc (Nat.le_refl _) _
  have R1 : Hid (W1.heap[w.heap.size]? = some (.cells (u8s k) 35 (0, 0))) := by show _ = _; rw [hW1]; exact Go.heap_alloc_new w _
  have Sz1 : Hid (W1.heap.size = w.heap.size + 1) := by show _ = _; rw [hW1, World.size_alloc]
  have hsI : (600 : Int) < s.size := by omega
  have Hk := Lib.hid hk
  have Hkb := Lib.hid hkb
  have Hm := Lib.hid hm
  have HP := Lib.hid hP
  have HL := Lib.hid hL
  have Hsz := Lib.hid hL.sz
  have Hql := Lib.hid hql
  have Hq := Lib.hid hq
  have Hqb := Lib.hid hqb
  have HT := Lib.hid hT
  have HS := Lib.hid hS
  have HS32 := Lib.hid hS32
  have Hnm := Lib.hid hn.symm
  clear hqs hkq hk hkb hm hP hL hql hq hqb hT hS hS32 hW1 hs hn
  go_enter Tryd.func7, Tryd.ntmps7
  go_upto_region 2 with fail
  rw [HW1.out, Hnm.out]
  go_wp2
  go_loopw [7, 8] (fun v i wr => ∃ j : Nat, j ≤ kq ∧ i = .int .i64 j ∧ Hid (wr.ownsRow W1.heap.size 26 1 v j (valP (qs.take j)) ∧ Below W1.heap.size W1 wr)) (fun _ i _ => kq - (intOf i).toNat)
  case atStart => exact ⟨0, by omega, rfl, World.ownsRow_nil _ _ _ _, Below.refl _ _⟩
  case round =>
    obtain ⟨j, hj, rfl, hr⟩ := hrel
    by_cases hlt : j < kq
    · have h1 : (j : Int) < m := by omega
      have h2 : (j : Int) < 6 := by omega
      have hjp : j < ps.length := by rw [Hm.out]; omega
      have hjq : j < qs.length := by rw [Hql.out]; exact hlt
      obtain ⟨g, off, hA, hg, hcell⟩ := HP.out.row j hjp
      have hb := (HP.out.byt j hjp).1
      have hqj := Hq.out j hjp hjq
      obtain ⟨p, hp⟩ : ∃ p, p = ps[j] := ⟨_, rfl⟩
      rw [← hp] at hcell hb hqj
      obtain ⟨pA, pc, pM⟩ := p
      obtain ⟨nn, hnn⟩ : ∃ nn, pM.length = nn := ⟨_, rfl⟩
      have hval : (Part.mk pA pc pM).val = .slice pA nn pc := by simp [Part.val, hnn]
      rw [hval] at hcell
      have hbc := hb.1
      simp only [hnn] at hbc
      have cc : wr.cell? ⟨g, off + j, none⟩ = some (.slice pA nn pc) := ((L0.out.trans (hr.out.2.mono L0.out.size)).cell (p := ⟨g, off + j, none⟩) hg).trans hcell
      have hcut := cut_any pA pc nn wr hbc
      obtain ⟨q, hqq⟩ : ∃ q, q = qs[j] := ⟨_, rfl⟩
      rw [← hqq] at hqj
      have hqv : Value.slice pA (min nn 600) pc = q.val := by rw [hqj]; simp [cutP, Part.val, hnn, Nat.min_comm]
      have hmore : qs.take j ++ [q] = qs.take (j + 1) := by rw [hqq]; exact (List.take_succ_eq_append_getElem hjq).symm
      have Hcut := Lib.hid hcut
      have Hqv := Lib.hid hqv
      have Hmore := Lib.hid hmore
      subst hA
      clear hcell hb hqj hp hval hbc hcut hqq hqv hmore hnn
      go_wp2_with (first
        | (go_at_call 19; refine Hcut.out.mono ?_; rintro e w' ⟨rfl, rfl⟩)
        | (at_builtin; refine wpList_append_part (wr := wr) rfl (.tmp 24) (.tmp 30) rfl W1.heap.size u7 j (qs.take j) q rfl hr.out.1 _ Hqv.out rfl (by omega) hr.out.2.size ?_; intro v' w' hgr; have Hgr := Lib.hid hgr; clear hgr))
      go_roundw
      case rel => exact ⟨j + 1, by omega, by go_num, by rw [← Hmore.out]; exact ⟨Hgr.out.own, Hgr.out.low _ _ hr.out.2 (Nat.le_refl _)⟩⟩
      case measure => simp [intOf]; omega
    · have ej : j = kq := by omega
      have own := hr.out.1
      rw [ej, List.take_of_length_le (Nat.le_of_eq Hql.out)] at own
      have hqb9 : ∀ i (hi : i < qs.length), Byt wr qs[i].A qs[i].c qs[i].M ∧ InB qs[i].M := fun i hi => ⟨(Hqb.out i hi).1.below (L0.out.trans (hr.out.2.mono L0.out.size)) (Nat.le_refl _), (Hqb.out i hi).2⟩
      obtain ⟨Aq, cq, rfl, hcq, hp9⟩ := parts_of_own own Hql.out hqb9
      have HP9 := Lib.hid hp9
      have Hcq := Lib.hid hcq
      have Lw9 := Lib.hid (L0.out.trans (hr.out.2.mono L0.out.size))
      have RK := Lib.hid ((hr.out.2.block _ (by rw [Sz1.out]; omega)).trans R1.out)
      have Hx6 : Hid (j < m → ¬ (j : Int) < 6) := by show j < m → ¬ (j : Int) < 6; omega
      clear own hr hqb9 hcq hp9 hlt hj ej
      obtain ⟨w9, hw9⟩ : ∃ w9, w9 = wr := ⟨_, rfl⟩
      subst hw9
      by_cases hjm : j < m
      · have h1 : (j : Int) < m := by omega
        have h2 := Hx6.out hjm
        go_upto_region 7 with fail
        have apx : apartB [32, 33, 34, 35, 36, 37, 38, 39, 40, 41, 42, 43, 6] = true := by decide
        refine wp_region_any (by kernel_rfl) ?_
        change wpAny _ _ _ _ _ _ _ (World.drew _)
        refine wpAny_inv (fun ll aa wx => Hid (ll.size = 13 ∧ Below w9.heap.size w9 wx) ∧ ∃ (z : Nat → Value), Hid (aa = ⟨#[.agg (u8s k), .string nm, .slice Ap m cp, .pointer (some ⟨w.heap.size, 0, none⟩), undef, undef, z 6, .slice Aq kq cq, .int .i64 (j : Nat), .string s, .string s, .int .i64 (s.size : Nat), .int .i64 600, .string nm, .int .i64 (j : Nat), .slice Ap m cp, .int .i64 (m : Nat), .bool true, .bool true, .int .i64 (j : Nat), .bool false, .bool false, u22, u23, u24, u25, u26, u27, u28, u29, u30, u31, z 32, z 33, z 34, z 35, z 36, z 37, z 38, z 39, z 40, z 41, z 42, z 43], []⟩) ∧ Holding [32, 33, 34, 35, 36, 37, 38, 39, 40, 41, 42, 43, 6] [some (.agg (u8s k)), some (.string nm), some (.slice Aq kq cq), some (.agg (u8s S)), some (.agg (u8s k)), some (.string nm), some (.slice Aq kq cq), some (.agg (u8s S)), some (.bool true), some (.bool true), some (.bool true), some (.bool true), some (.bool true)] ll z) ?_ (by kernel_rfl) ?_ ?_ _ _ _ _ (unlisted_none _) ?_
        · rintro ll aa wx ⟨hI, _⟩
          exact hI.out.1
        · rintro ll aa wx ⟨hI, z, ha, hz⟩ hall
          have hx := Lib.hid hI.out.2
          have e0 : z 32 = .agg (u8s k) := hz 0 _ (hall 0 (by decide)) rfl
          have e1 : z 33 = .string nm := hz 1 _ (hall 1 (by decide)) rfl
          have e2 : z 34 = .slice Aq kq cq := hz 2 _ (hall 2 (by decide)) rfl
          have e3 : z 35 = .agg (u8s S) := hz 3 _ (hall 3 (by decide)) rfl
          have e4 : z 36 = .agg (u8s k) := hz 4 _ (hall 4 (by decide)) rfl
          have e5 : z 37 = .string nm := hz 5 _ (hall 5 (by decide)) rfl
          have e6 : z 38 = .slice Aq kq cq := hz 6 _ (hall 6 (by decide)) rfl
          have e7 : z 39 = .agg (u8s S) := hz 7 _ (hall 7 (by decide)) rfl
          have e8 : z 40 = .bool true := hz 8 _ (hall 8 (by decide)) rfl
          have e9 : z 41 = .bool true := hz 9 _ (hall 9 (by decide)) rfl
          have e10 : z 42 = .bool true := hz 10 _ (hall 10 (by decide)) rfl
          have e11 : z 43 = .bool true := hz 11 _ (hall 11 (by decide)) rfl
          have e12 : z 6 = .bool true := hz 12 _ (hall 12 (by decide)) rfl
          clear hall hz hI 
          obtain rfl := ha.out
          clear ha
          clear apx
          have E := Lib.hid e12
          have HX := Lib.hid hx.out
          clear e0 e1 e2 e3 e4 e5 e6 e7 e8 e9 e10 e11 hx e12
          rw [E.out]
          go_wp2
          go_ret
          exact ⟨rfl, Lw9.out.trans (HX.out.mono Lw9.out.size)⟩
        · rintro ll aa wx i ⟨hI, z, ha, hz⟩ hi hu hw
          obtain rfl := ha.out
          have hsz := Lib.hid hI.out.1
          have hx := Lib.hid hI.out.2
          clear ha hI
          have hin : i < 13 := hi
          obtain rfl | rfl | rfl | rfl | rfl | rfl | rfl | rfl | rfl | rfl | rfl | rfl | rfl : i = 0 ∨ i = 1 ∨ i = 2 ∨ i = 3 ∨ i = 4 ∨ i = 5 ∨ i = 6 ∨ i = 7 ∨ i = 8 ∨ i = 9 ∨ i = 10 ∨ i = 11 ∨ i = 12 := by omega
          · have cl := (hx.out.block _ (Array.getElem?_eq_some_iff.1 RK.out).1).trans RK.out
            refine wpOp_plain rfl rfl (wp_load_row 35 (.tmp 3) rfl (w.heap.size) rfl 35 (u8s k) (0, 0) _ cl Tryd.underlying35 rfl HKi.out ?_)
            go_simp
            exact ⟨⟨by simp [hsz.out], hx.out⟩, upd z 32 (.agg (u8s k)), (by unfold Hid; simp [upd]), hz.next apx hsz.out 0 (by decide) _ (fun _ h => Option.some.inj h)⟩
          · refine wpOp_plain rfl rfl ?_
            go_simp
            exact ⟨⟨by simp [hsz.out], hx.out⟩, upd z 33 (.string nm), (by unfold Hid; simp [upd]), hz.next apx hsz.out 1 (by decide) _ (fun _ h => Option.some.inj h)⟩
          · refine wpOp_plain rfl rfl ?_
            go_simp
            exact ⟨⟨by simp [hsz.out], hx.out⟩, upd z 34 (.slice Aq kq cq), (by unfold Hid; simp [upd]), hz.next apx hsz.out 2 (by decide) _ (fun _ h => Option.some.inj h)⟩
          · have e0 : z 32 = .agg (u8s k) := hz 0 _ (hw 0 (by kernel_rfl)) rfl
            have e1 : z 33 = .string nm := hz 1 _ (hw 1 (by kernel_rfl)) rfl
            have e2 : z 34 = .slice Aq kq cq := hz 2 _ (hw 2 (by kernel_rfl)) rfl
            refine wpOp_plain rfl rfl ?_
            go_simp
            go_at_call 24
            refine (derive_any k nm Aq cq kq qs wx Hk.out Hkb.out Hql.out (HP9.out.later hx.out) (HL.out.below (Lw9.out.trans (hx.out.mono Lw9.out.size)) Hsz.out) HT.out).mono ?_
            rintro e' w' ⟨rfl, low⟩
            rw [← HS.out]
            exact ⟨⟨by simp [hsz.out], hx.out.trans (low.mono hx.out.size)⟩, upd z 35 (.agg (u8s S)), (by unfold Hid; simp [upd, e0, e1, e2]), hz.next apx hsz.out 3 (by decide) _ (fun _ h => Option.some.inj h)⟩
          · have cl := (hx.out.block _ (Array.getElem?_eq_some_iff.1 RK.out).1).trans RK.out
            refine wpOp_plain rfl rfl (wp_load_row 35 (.tmp 3) rfl (w.heap.size) rfl 35 (u8s k) (0, 0) _ cl Tryd.underlying35 rfl HKi.out ?_)
            go_simp
            exact ⟨⟨by simp [hsz.out], hx.out⟩, upd z 36 (.agg (u8s k)), (by unfold Hid; simp [upd]), hz.next apx hsz.out 4 (by decide) _ (fun _ h => Option.some.inj h)⟩
          · refine wpOp_plain rfl rfl ?_
            go_simp
            exact ⟨⟨by simp [hsz.out], hx.out⟩, upd z 37 (.string nm), (by unfold Hid; simp [upd]), hz.next apx hsz.out 5 (by decide) _ (fun _ h => Option.some.inj h)⟩
          · refine wpOp_plain rfl rfl ?_
            go_simp
            exact ⟨⟨by simp [hsz.out], hx.out⟩, upd z 38 (.slice Aq kq cq), (by unfold Hid; simp [upd]), hz.next apx hsz.out 6 (by decide) _ (fun _ h => Option.some.inj h)⟩
          · have e4 : z 36 = .agg (u8s k) := hz 4 _ (hw 4 (by kernel_rfl)) rfl
            have e5 : z 37 = .string nm := hz 5 _ (hw 5 (by kernel_rfl)) rfl
            have e6 : z 38 = .slice Aq kq cq := hz 6 _ (hw 6 (by kernel_rfl)) rfl
            refine wpOp_plain rfl rfl ?_
            go_simp
            go_at_call 25
            refine (rderive_any k nm Aq cq kq qs wx Hk.out Hkb.out Hql.out Hcq.out (HP9.out.later hx.out) HT.out).mono ?_
            rintro e' w' ⟨rfl, low⟩
            rw [← HS.out]
            exact ⟨⟨by simp [hsz.out], hx.out.trans (low.mono hx.out.size)⟩, upd z 39 (.agg (u8s S)), (by unfold Hid; simp [upd, e4, e5, e6]), hz.next apx hsz.out 7 (by decide) _ (fun _ h => Option.some.inj h)⟩
          · have e3 : z 35 = .agg (u8s S) := hz 3 _ (hw 3 (by kernel_rfl)) rfl
            have e7 : z 39 = .agg (u8s S) := hz 7 _ (hw 7 (by kernel_rfl)) rfl
            have eq := eql35_same S HS32.out wx
            have eq2 := equal35_same S HS32.out wx
            refine wpOp_plain rfl rfl ?_
            go_simp
            exact ⟨⟨by simp [hsz.out], hx.out⟩, upd z 40 (.bool true), (by unfold Hid; simp [upd, e3, e7]), hz.next apx hsz.out 8 (by decide) _ (fun _ h => Option.some.inj h)⟩
          · have e8 : z 40 = .bool true := hz 8 _ (hw 8 (by kernel_rfl)) rfl
            refine wpOp_plain rfl rfl ?_
            go_simp
            exact ⟨⟨by simp [hsz.out], hx.out⟩, upd z 41 (.bool true), (by unfold Hid; simp [upd, e8]), hz.next apx hsz.out 9 (by decide) _ (fun _ h => Option.some.inj h)⟩
          · have e9 : z 41 = .bool true := hz 9 _ (hw 9 (by kernel_rfl)) rfl
            refine wpOp_want rfl (by simp [Region.wanted, yielded, e9]) ?_
            go_simp
            go_at_call 23
            refine (works_any wx (HL.out.below (Lw9.out.trans (hx.out.mono Lw9.out.size)) Hsz.out)).mono ?_
            rintro e' w' ⟨rfl, low⟩
            exact ⟨⟨by simp [hsz.out], hx.out.trans (low.mono hx.out.size)⟩, upd z 42 (.bool true), (by unfold Hid; simp [upd, e9]), hz.next apx hsz.out 10 (by decide) _ (fun _ h => Option.some.inj h)⟩
          · have e9 : z 41 = .bool true := hz 9 _ (hw 9 (by kernel_rfl)) rfl
            have e10 : z 42 = .bool true := hz 10 _ (hw 10 (by kernel_rfl)) rfl
            refine wpOp_plain rfl rfl ?_
            go_simp
            exact ⟨⟨by simp [hsz.out], hx.out⟩, upd z 43 (.bool true), (by unfold Hid; simp [upd, e9, e10]), hz.next apx hsz.out 11 (by decide) _ (fun _ h => Option.some.inj h)⟩
          · have e11 : z 43 = .bool true := hz 11 _ (hw 11 (by kernel_rfl)) rfl
            refine wpOp_plain rfl rfl ?_
            go_simp
            exact ⟨⟨by simp [hsz.out], hx.out⟩, upd z 6 (.bool true), (by unfold Hid; simp [upd, e11]), hz.next apx hsz.out 12 (by decide) _ (fun _ h => Option.some.inj h)⟩
        · exact ⟨⟨rfl, (Below.refl _ _).drew⟩, fun xx => (#[.agg (u8s k), .string nm, .slice Ap m cp, .pointer (some ⟨w.heap.size, 0, none⟩), undef, undef, .bool false, .slice Aq kq cq, .int .i64 (j : Nat), .string s, .string s, .int .i64 (s.size : Nat), .int .i64 600, .string nm, .int .i64 (j : Nat), .slice Ap m cp, .int .i64 (m : Nat), .bool true, .bool true, .int .i64 (j : Nat), .bool false, .bool false, u22, u23, u24, u25, u26, u27, u28, u29, u30, u31, undef, undef, undef, undef, undef, undef, undef, undef, undef, undef, undef, undef] : Array Value).getD xx undef, rfl, Holding.start⟩
      · have h1 : ¬ (j : Int) < m := by omega
        go_upto_region 7 with fail
        have apx : apartB [32, 33, 34, 35, 36, 37, 38, 39, 40, 41, 42, 43, 6] = true := by decide
        refine wp_region_any (by kernel_rfl) ?_
        change wpAny _ _ _ _ _ _ _ (World.drew _)
        refine wpAny_inv (fun ll aa wx => Hid (ll.size = 13 ∧ Below w9.heap.size w9 wx) ∧ ∃ (z : Nat → Value), Hid (aa = ⟨#[.agg (u8s k), .string nm, .slice Ap m cp, .pointer (some ⟨w.heap.size, 0, none⟩), undef, undef, z 6, .slice Aq kq cq, .int .i64 (j : Nat), .string s, .string s, .int .i64 (s.size : Nat), .int .i64 600, .string nm, .int .i64 (j : Nat), .slice Ap m cp, .int .i64 (m : Nat), .bool false, .bool false, undef, undef, .bool false, u22, u23, u24, u25, u26, u27, u28, u29, u30, u31, z 32, z 33, z 34, z 35, z 36, z 37, z 38, z 39, z 40, z 41, z 42, z 43], []⟩) ∧ Holding [32, 33, 34, 35, 36, 37, 38, 39, 40, 41, 42, 43, 6] [some (.agg (u8s k)), some (.string nm), some (.slice Aq kq cq), some (.agg (u8s S)), some (.agg (u8s k)), some (.string nm), some (.slice Aq kq cq), some (.agg (u8s S)), some (.bool true), some (.bool true), some (.bool true), some (.bool true), some (.bool true)] ll z) ?_ (by kernel_rfl) ?_ ?_ _ _ _ _ (unlisted_none _) ?_
        · rintro ll aa wx ⟨hI, _⟩
          exact hI.out.1
        · rintro ll aa wx ⟨hI, z, ha, hz⟩ hall
          have hx := Lib.hid hI.out.2
          have e0 : z 32 = .agg (u8s k) := hz 0 _ (hall 0 (by decide)) rfl
          have e1 : z 33 = .string nm := hz 1 _ (hall 1 (by decide)) rfl
          have e2 : z 34 = .slice Aq kq cq := hz 2 _ (hall 2 (by decide)) rfl
          have e3 : z 35 = .agg (u8s S) := hz 3 _ (hall 3 (by decide)) rfl
          have e4 : z 36 = .agg (u8s k) := hz 4 _ (hall 4 (by decide)) rfl
          have e5 : z 37 = .string nm := hz 5 _ (hall 5 (by decide)) rfl
          have e6 : z 38 = .slice Aq kq cq := hz 6 _ (hall 6 (by decide)) rfl
          have e7 : z 39 = .agg (u8s S) := hz 7 _ (hall 7 (by decide)) rfl
          have e8 : z 40 = .bool true := hz 8 _ (hall 8 (by decide)) rfl
          have e9 : z 41 = .bool true := hz 9 _ (hall 9 (by decide)) rfl
          have e10 : z 42 = .bool true := hz 10 _ (hall 10 (by decide)) rfl
          have e11 : z 43 = .bool true := hz 11 _ (hall 11 (by decide)) rfl
          have e12 : z 6 = .bool true := hz 12 _ (hall 12 (by decide)) rfl
          clear hall hz hI 
          obtain rfl := ha.out
          clear ha
          clear apx
          have E := Lib.hid e12
          have HX := Lib.hid hx.out
          clear e0 e1 e2 e3 e4 e5 e6 e7 e8 e9 e10 e11 hx e12
          rw [E.out]
          go_wp2
          go_ret
          exact ⟨rfl, Lw9.out.trans (HX.out.mono Lw9.out.size)⟩
        · rintro ll aa wx i ⟨hI, z, ha, hz⟩ hi hu hw
          obtain rfl := ha.out
          have hsz := Lib.hid hI.out.1
          have hx := Lib.hid hI.out.2
          clear ha hI
          have hin : i < 13 := hi
          obtain rfl | rfl | rfl | rfl | rfl | rfl | rfl | rfl | rfl | rfl | rfl | rfl | rfl : i = 0 ∨ i = 1 ∨ i = 2 ∨ i = 3 ∨ i = 4 ∨ i = 5 ∨ i = 6 ∨ i = 7 ∨ i = 8 ∨ i = 9 ∨ i = 10 ∨ i = 11 ∨ i = 12 := by omega
          · have cl := (hx.out.block _ (Array.getElem?_eq_some_iff.1 RK.out).1).trans RK.out
            refine wpOp_plain rfl rfl (wp_load_row 35 (.tmp 3) rfl (w.heap.size) rfl 35 (u8s k) (0, 0) _ cl Tryd.underlying35 rfl HKi.out ?_)
            go_simp
            exact ⟨⟨by simp [hsz.out], hx.out⟩, upd z 32 (.agg (u8s k)), (by unfold Hid; simp [upd]), hz.next apx hsz.out 0 (by decide) _ (fun _ h => Option.some.inj h)⟩
          · refine wpOp_plain rfl rfl ?_
            go_simp
            exact ⟨⟨by simp [hsz.out], hx.out⟩, upd z 33 (.string nm), (by unfold Hid; simp [upd]), hz.next apx hsz.out 1 (by decide) _ (fun _ h => Option.some.inj h)⟩
          · refine wpOp_plain rfl rfl ?_
            go_simp
            exact ⟨⟨by simp [hsz.out], hx.out⟩, upd z 34 (.slice Aq kq cq), (by unfold Hid; simp [upd]), hz.next apx hsz.out 2 (by decide) _ (fun _ h => Option.some.inj h)⟩
          · have e0 : z 32 = .agg (u8s k) := hz 0 _ (hw 0 (by kernel_rfl)) rfl
            have e1 : z 33 = .string nm := hz 1 _ (hw 1 (by kernel_rfl)) rfl
            have e2 : z 34 = .slice Aq kq cq := hz 2 _ (hw 2 (by kernel_rfl)) rfl
            refine wpOp_plain rfl rfl ?_
            go_simp
            go_at_call 24
            refine (derive_any k nm Aq cq kq qs wx Hk.out Hkb.out Hql.out (HP9.out.later hx.out) (HL.out.below (Lw9.out.trans (hx.out.mono Lw9.out.size)) Hsz.out) HT.out).mono ?_
            rintro e' w' ⟨rfl, low⟩
            rw [← HS.out]
            exact ⟨⟨by simp [hsz.out], hx.out.trans (low.mono hx.out.size)⟩, upd z 35 (.agg (u8s S)), (by unfold Hid; simp [upd, e0, e1, e2]), hz.next apx hsz.out 3 (by decide) _ (fun _ h => Option.some.inj h)⟩
          · have cl := (hx.out.block _ (Array.getElem?_eq_some_iff.1 RK.out).1).trans RK.out
            refine wpOp_plain rfl rfl (wp_load_row 35 (.tmp 3) rfl (w.heap.size) rfl 35 (u8s k) (0, 0) _ cl Tryd.underlying35 rfl HKi.out ?_)
            go_simp
            exact ⟨⟨by simp [hsz.out], hx.out⟩, upd z 36 (.agg (u8s k)), (by unfold Hid; simp [upd]), hz.next apx hsz.out 4 (by decide) _ (fun _ h => Option.some.inj h)⟩
          · refine wpOp_plain rfl rfl ?_
            go_simp
            exact ⟨⟨by simp [hsz.out], hx.out⟩, upd z 37 (.string nm), (by unfold Hid; simp [upd]), hz.next apx hsz.out 5 (by decide) _ (fun _ h => Option.some.inj h)⟩
          · refine wpOp_plain rfl rfl ?_
            go_simp
            exact ⟨⟨by simp [hsz.out], hx.out⟩, upd z 38 (.slice Aq kq cq), (by unfold Hid; simp [upd]), hz.next apx hsz.out 6 (by decide) _ (fun _ h => Option.some.inj h)⟩
          · have e4 : z 36 = .agg (u8s k) := hz 4 _ (hw 4 (by kernel_rfl)) rfl
            have e5 : z 37 = .string nm := hz 5 _ (hw 5 (by kernel_rfl)) rfl
            have e6 : z 38 = .slice Aq kq cq := hz 6 _ (hw 6 (by kernel_rfl)) rfl
            refine wpOp_plain rfl rfl ?_
            go_simp
            go_at_call 25
            refine (rderive_any k nm Aq cq kq qs wx Hk.out Hkb.out Hql.out Hcq.out (HP9.out.later hx.out) HT.out).mono ?_
            rintro e' w' ⟨rfl, low⟩
            rw [← HS.out]
            exact ⟨⟨by simp [hsz.out], hx.out.trans (low.mono hx.out.size)⟩, upd z 39 (.agg (u8s S)), (by unfold Hid; simp [upd, e4, e5, e6]), hz.next apx hsz.out 7 (by decide) _ (fun _ h => Option.some.inj h)⟩
          · have e3 : z 35 = .agg (u8s S) := hz 3 _ (hw 3 (by kernel_rfl)) rfl
            have e7 : z 39 = .agg (u8s S) := hz 7 _ (hw 7 (by kernel_rfl)) rfl
            have eq := eql35_same S HS32.out wx
            have eq2 := equal35_same S HS32.out wx
            refine wpOp_plain rfl rfl ?_
            go_simp
            exact ⟨⟨by simp [hsz.out], hx.out⟩, upd z 40 (.bool true), (by unfold Hid; simp [upd, e3, e7]), hz.next apx hsz.out 8 (by decide) _ (fun _ h => Option.some.inj h)⟩
          · have e8 : z 40 = .bool true := hz 8 _ (hw 8 (by kernel_rfl)) rfl
            refine wpOp_plain rfl rfl ?_
            go_simp
            exact ⟨⟨by simp [hsz.out], hx.out⟩, upd z 41 (.bool true), (by unfold Hid; simp [upd, e8]), hz.next apx hsz.out 9 (by decide) _ (fun _ h => Option.some.inj h)⟩
          · have e9 : z 41 = .bool true := hz 9 _ (hw 9 (by kernel_rfl)) rfl
            refine wpOp_want rfl (by simp [Region.wanted, yielded, e9]) ?_
            go_simp
            go_at_call 23
            refine (works_any wx (HL.out.below (Lw9.out.trans (hx.out.mono Lw9.out.size)) Hsz.out)).mono ?_
            rintro e' w' ⟨rfl, low⟩
            exact ⟨⟨by simp [hsz.out], hx.out.trans (low.mono hx.out.size)⟩, upd z 42 (.bool true), (by unfold Hid; simp [upd, e9]), hz.next apx hsz.out 10 (by decide) _ (fun _ h => Option.some.inj h)⟩
          · have e9 : z 41 = .bool true := hz 9 _ (hw 9 (by kernel_rfl)) rfl
            have e10 : z 42 = .bool true := hz 10 _ (hw 10 (by kernel_rfl)) rfl
            refine wpOp_plain rfl rfl ?_
            go_simp
            exact ⟨⟨by simp [hsz.out], hx.out⟩, upd z 43 (.bool true), (by unfold Hid; simp [upd, e9, e10]), hz.next apx hsz.out 11 (by decide) _ (fun _ h => Option.some.inj h)⟩
          · have e11 : z 43 = .bool true := hz 11 _ (hw 11 (by kernel_rfl)) rfl
            refine wpOp_plain rfl rfl ?_
            go_simp
            exact ⟨⟨by simp [hsz.out], hx.out⟩, upd z 6 (.bool true), (by unfold Hid; simp [upd, e11]), hz.next apx hsz.out 12 (by decide) _ (fun _ h => Option.some.inj h)⟩
        · exact ⟨⟨rfl, (Below.refl _ _).drew⟩, fun xx => (#[.agg (u8s k), .string nm, .slice Ap m cp, .pointer (some ⟨w.heap.size, 0, none⟩), undef, undef, .bool false, .slice Aq kq cq, .int .i64 (j : Nat), .string s, .string s, .int .i64 (s.size : Nat), .int .i64 600, .string nm, .int .i64 (j : Nat), .slice Ap m cp, .int .i64 (m : Nat), .bool false, .bool false, undef, undef, .bool false, u22, u23, u24, u25, u26, u27, u28, u29, u30, u31, undef, undef, undef, undef, undef, undef, undef, undef, undef, undef, undef, undef] : Array Value).getD xx undef, rfl, Holding.start⟩
end Go.Proofs.YtblgblhoolpmiaaDoor.lawKeys
