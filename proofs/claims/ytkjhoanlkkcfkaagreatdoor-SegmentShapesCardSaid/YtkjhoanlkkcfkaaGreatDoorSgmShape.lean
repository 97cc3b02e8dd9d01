/- DERIVED. The law's bucket and shape. -/
import Derived.Test.YtkjhoanlkkcfkaaGreatDoorSgmTwin
import Derived.Test.YtkjhoanlkkcfkaaGreatDoorSgmHold
namespace Go.Proofs.YtkjhoanlkkcfkaaGreatDoor.Sgm
open Go.RowKit Dsk Slt Epo
set_option maxRecDepth 100000 in
theorem lbucket_any (m : Nat) (hm : m ≤ 131068) (w : World) : Calls Tryz.prog 24 #[.int .i64 (m : Nat)] w fun e w' => e = .returned (.int .i64 (Seal.bkt m : Nat)) ∧ w = w' := by
  have hmI : (m : Int) ≤ 131068 := by omega
  go_enter Tryz.func24, Tryz.ntmps24
  go_wp2
  go_loop [3] (fun v => ∃ b : Nat, v = .int .i64 b ∧ Hid (Seal.BkI m b)) (fun v => 131072 - (intOf v).toNat)
  case atStart => exact ⟨64, rfl, Seal.BkI.start m⟩
  case round =>
    obtain ⟨b, rfl, hb⟩ := hrel
    have hle := hb.out.le
    have hps := hb.out.pos
    have hbI : (b : Int) ≤ 131072 := by omega
    by_cases hlt : b < m + 4
    · have hltI : (b : Int) < (m : Int) + 4 := by omega
      have hn := Lib.hid (hb.out.next hlt hm)
      have hn2 := hn.out.le
      have hn2I : 2 * (b : Int) ≤ 131072 := by omega
      go_wp2
      go_round
      case rel => exact ⟨2 * b, by go_num, hn⟩
      case measure => simp [intOf]; omega
    · have hltI : ¬ (b : Int) < (m : Int) + 4 := by omega
      have he := Lib.hid (hb.out.end hlt)
      go_wp2
      go_ret
      exact ⟨by rw [← he.out]; rfl, rfl⟩
/-- M is X with zeros where p holds. -/
def ZS (M X : List Int) (p : Nat → Prop) : Prop := M.length = X.length ∧ ∀ j, (p j → M.getD j 0 = 0) ∧ (¬ p j → M.getD j 0 = X.getD j 0)
theorem ZS.start (X : List Int) {p : Nat → Prop} (h : ∀ j, ¬ p j) : ZS X X p := ⟨rfl, fun j => ⟨fun hp => absurd hp (h j), fun _ => rfl⟩⟩
theorem ZS.ext {M X : List Int} {p q : Nat → Prop} (h : ZS M X p) (e : ∀ j, j < X.length → (p j ↔ q j)) : ZS M X q := by
  refine ⟨h.1, fun j => ?_⟩
  by_cases hj : j < X.length
  · rw [← e j hj]; exact h.2 j
  · have h1 : M.getD j 0 = 0 := getD_out _ _ (by rw [h.1]; omega)
    have h2 : X.getD j 0 = 0 := getD_out _ _ (by omega)
    exact ⟨fun _ => h1, fun _ => by rw [h1, h2]⟩
theorem ZS.set {M X : List Int} {p : Nat → Prop} (h : ZS M X p) (k : Nat) (hk : k < X.length) : ZS (M.set k 0) X (fun j => p j ∨ j = k) := by
  refine ⟨by rw [List.length_set]; exact h.1, fun j => ?_⟩
  have e : (M.set k 0).getD j 0 = if k = j then 0 else M.getD j 0 := by
    simp only [List.getD_eq_getElem?_getD, List.getElem?_set]
    by_cases hkj : k = j
    · subst hkj
      simp [h.1, hk]
    · simp [hkj]
  rw [e]
  constructor
  · rintro (hp | rfl)
    · split
      · rfl
      · exact (h.2 j).1 hp
    · rw [if_pos rfl]
  · intro hn
    rw [not_or] at hn
    rw [if_neg (fun e => hn.2 e.symm)]
    exact (h.2 j).2 hn.1
/-- a slice that reads as ints. -/
def RdI (L : List Nat) (v : Value) (w : World) : Prop :=
  ∃ A c, v = .slice A L.length c ∧ L.length ≤ c ∧ (0 < L.length → ∃ g off, A = some ⟨g, off, none⟩ ∧ g < w.heap.size ∧ ∀ j, j < L.length → w.cell? ⟨g, off + j, none⟩ = some (.int .i64 (L.getD j 0 : Nat)))
theorem usd_take (bs : List Nat) (i : Nat) (h : i < bs.length) : usd (bs.take (i + 1)) = usd (bs.take i) + tk (36 + bs.getD i 0) := by
  rw [List.take_succ_eq_append_getElem h, usd_snoc]
  simp [List.getD_eq_getElem?_getD, h]
theorem usd_le (bs : List Nat) (hb : ∀ b ∈ bs, b ≤ 131072) : ∀ i, usd (bs.take i) ≤ 1100 * i := by
  intro i
  induction i with
  | zero => simp [usd]
  | succ i ih =>
    by_cases h : i < bs.length
    · rw [usd_take bs i h]
      have : bs.getD i 0 ≤ 131072 := by
        rw [List.getD_eq_getElem?_getD, List.getElem?_eq_getElem h]
        exact hb _ (List.getElem_mem h)
      have : tk (36 + bs.getD i 0) ≤ 1100 := by unfold tk; omega
      omega
    · rw [List.take_of_length_le (by omega)] at ih ⊢
      omega
theorem row_set {w : World} {g : Nat} {M : List Int} {sp : List Value} (h : w.heap[g]? = some (.cells (vals M ++ sp).toArray 5 (0, 0))) (k : Nat) (hk : k < M.length) (x : Int) : (w.setCell ⟨g, k, none⟩ (.int .u8 x)).heap[g]? = some (.cells (vals (M.set k x) ++ sp).toArray 5 (0, 0)) := by
  rw [heap_setCell_same _ _ _ _ _ _ h]
  congr 2
  apply Array.ext_getElem?
  intro j
  simp [vals, List.map_set, hk, List.set_append_left]
set_option maxRecDepth 100000 in
set_option maxHeartbeats 4000000 in
theorem shape_any {w0 w : World} {K : DK} {D : DS} (h : SD w0 w K D) (bs : List Nat) (v : Value) (hv : RdI bs v w) (hb : ∀ b ∈ bs, b ≤ 131072) (hn : bs.length ≤ 20) (hl : 1024 ≤ D.data.length) (hl2 : D.data.length ≤ 100000) :
    Calls Tryz.prog 25 #[.pointer (some ⟨K.g, 0, none⟩), v] w fun e w' => ∃ M, (∃ A c, e = .returned (.slice A M.length c) ∧ Byt w' A c M) ∧ ZS M D.data (inZ 1024 bs) ∧ Below w.heap.size w w' := by
  obtain ⟨A, c, rfl, _, hk⟩ := hv
  have Hd := Lib.hid (bytes_any h.dsk)
  obtain ⟨q, hq⟩ : ∃ q, q = bs.length := ⟨_, rfl⟩
  obtain ⟨N, hN⟩ : ∃ N, N = D.data.length := ⟨_, rfl⟩
  rw [← hN] at Hd hl hl2
  rw [← hq] at hn ⊢
  have HN := Lib.hid hN
  have Hq := Lib.hid hq
  have Hk := Lib.hid hk
  have Hb := Lib.hid hb
  have Hus := Lib.hid (usd_le bs hb)
  clear hk hq hN hb h
  unfold DK.ptr at Hd
  go_enter Tryz.func25, Tryz.ntmps25
  go_wp2_with (go_at_call 16; refine Hd.out.mono ?_; rintro e w2 ⟨v2, rfl, ho, hb2⟩; obtain ⟨g, sp, rfl, hg, hrow⟩ := own_shape ho HN.out.symm (by omega); have Hb2 := Lib.hid hb2; have Hrow := Lib.hid hrow; have Hg := Lib.hid hg; clear ho hb2 hrow hg)
  go_loopw [6, 7] (fun a i wr => ∃ k : Nat, i = .int .i64 k ∧ k ≤ q ∧ a = .int .i64 ((1024 + usd (bs.take k) * 128 : Nat) : Int) ∧ Hid (∃ M, wr.heap[g]? = some (.cells (vals M ++ sp).toArray 5 (0, 0)) ∧ ZS M D.data (inZ 1024 (bs.take k)) ∧ Below w.heap.size w wr)) (fun _ i _ => q - (intOf i).toNat)
  case atStart => exact ⟨0, rfl, Nat.zero_le _, rfl, D.data, Hrow.out, ZS.start _ (fun j hj => hj), Hb2.out⟩
  case round =>
    obtain ⟨k, rfl, hkq, rfl, HI⟩ := hrel
    clear Hrow Hb2
    have hu := Hus.out k
    obtain ⟨a, ha⟩ : ∃ a, a = 1024 + usd (bs.take k) * 128 := ⟨_, rfl⟩
    rw [← ha]
    have Ha := Lib.hid ha
    have ha9 : a ≤ 10000000 := by omega
    clear ha hu
    by_cases hp : k < q
    · have hpI : (k : Int) < q := by omega
      have hpl : k < bs.length := by rw [← Hq.out]; exact hp
      obtain ⟨gb, off, rfl, hgb, hcell⟩ := Hk.out (by rw [← Hq.out]; omega)
      obtain ⟨b, hbe⟩ : ∃ b, b = bs.getD k 0 := ⟨_, rfl⟩
      have hb9 : b ≤ 131072 := by
        rw [hbe, List.getD_eq_getElem?_getD, List.getElem?_eq_getElem hpl]
        exact Hb.out _ (List.getElem_mem hpl)
      have Hc : Hid (∀ W, Below w.heap.size w W → W.cell? ⟨gb, off + k, none⟩ = some (.int .i64 (b : Nat))) := fun W hW => by rw [hbe]; exact (hW.cell (p := ⟨gb, off + k, none⟩) hgb).trans (hcell k hpl)
      have Hbe := Lib.hid hbe
      clear hcell hbe
      go_wp2
      go_loopw [8] (fun i wx => ∃ m : Nat, i = .int .i64 m ∧ a + 9 ≤ m ∧ m ≤ a + 41 + b ∧ Hid (∃ M, wx.heap[g]? = some (.cells (vals M ++ sp).toArray 5 (0, 0)) ∧ ZS M D.data (fun j => inZ 1024 (bs.take k) j ∨ (a + 9 ≤ j ∧ j < m)) ∧ Below w.heap.size w wx)) (fun i _ => a + 41 + b - (intOf i).toNat)
      case atStart =>
        obtain ⟨M, m1, m2, m3⟩ := HI.out
        exact ⟨a + 9, by go_num, Nat.le_refl _, by omega, M, m1, m2.ext (fun j _ => ⟨.inl, fun h => h.elim id (fun h => by omega)⟩), m3⟩
      case round =>
        obtain ⟨m, rfl, hm1, hm2, HM⟩ := hrel
        clear HI
        obtain ⟨M, m1, m2, m3⟩ := HM.out
        have cb := Hc.out _ m3
        have hml : M.length = N := by rw [m2.1, HN.out]
        by_cases hc1 : m < a + 41 + b
        · have hc1I : (m : Int) < (a : Int) + 5 + 36 + (b : Int) := by omega
          by_cases hc2 : m < N
          · have hc2I : (m : Int) < (N : Int) := by omega
            have hf : wr.frozen? ⟨g, m, none⟩ = false := by simp [World.frozen?, m1]
            have hcl : wr.cell? ⟨g, m, none⟩ = some (.int .u8 (M.getD m 0)) := by
              rw [cell_row m1]
              simp [vals, List.getD_eq_getElem?_getD, hml, hc2, List.getElem?_append]
            have hnx : ∃ M', (wr.setCell ⟨g, m, none⟩ (.int .u8 0)).heap[g]? = some (.cells (vals M' ++ sp).toArray 5 (0, 0)) ∧ ZS M' D.data (fun j => inZ 1024 (bs.take k) j ∨ (a + 9 ≤ j ∧ j < m + 1)) ∧ Below w.heap.size w (wr.setCell ⟨g, m, none⟩ (.int .u8 0)) := by
              refine ⟨M.set m 0, row_set m1 m (by rw [hml]; exact hc2) 0, (m2.set m (by rw [← HN.out]; exact hc2)).ext (fun j _ => ?_), m3.setCell (p := ⟨g, m, none⟩) Hg.out _⟩
              constructor
              · rintro ((h | h) | h)
                · exact .inl h
                · exact .inr (by omega)
                · exact .inr (by omega)
              · rintro (h | h)
                · exact .inl (.inl h)
                · by_cases hjm : j = m
                  · exact .inr hjm
                  · exact .inl (.inr (by omega))
            have Hnx := Lib.hid hnx
            clear HM m1 m2 m3 hnx
            go_wp2
            go_roundw
            case rel => exact ⟨m + 1, by go_num, by omega, by omega, Hnx.out⟩
            case measure => simp [intOf]; omega
          · have hc2I : ¬ (m : Int) < (N : Int) := by omega
            have hnx := Lib.hid (m2.ext (q := inZ 1024 (bs.take (k + 1))) (fun j hj => by
              rw [List.take_succ_eq_append_getElem hpl, inZ_snoc, ← Ha.out]
              have e : bs[k] = b := by rw [Hbe.out, List.getD_eq_getElem?_getD, List.getElem?_eq_getElem hpl]; rfl
              rw [e]
              rw [← HN.out] at hj
              constructor
              · rintro (h | h)
                · exact .inl h
                · exact .inr (by omega)
              · rintro (h | h)
                · exact .inl h
                · exact .inr (by omega)))
            have Hm1 := Lib.hid m1
            have Hm3 := Lib.hid m3
            have Hu := Lib.hid (usd_take bs k hpl)
            clear HM m1 m2 m3
            have hq1 : Int.tdiv (41 + (b : Int) + 127) 128 = ((tk (36 + b) : Nat) : Int) := by rw [Int.tdiv_eq_ediv_of_nonneg (by omega)]; unfold tk; omega
            have hq2 : (41 + (b : Int) + 127) / 128 = ((tk (36 + b) : Nat) : Int) := by unfold tk; omega
            have htk : tk (36 + b) ≤ 1100 := by unfold tk; omega
            have htkI : ((tk (36 + b) : Nat) : Int) ≤ 1100 := by omega
            have Hat : Hid (((1024 + usd (bs.take (k + 1)) * 128 : Nat) : Int) = (a : Int) + ((tk (36 + b) : Nat) : Int) * 128) := by rw [Hid, Hu.out, ← Hbe.out]; have := Ha.out; omega
            obtain ⟨tv, htv⟩ : ∃ tv, tv = tk (36 + b) := ⟨_, rfl⟩
            rw [← htv] at hq1 hq2 htkI Hat
            clear htv htk
            go_wp2
            go_roundw
            case rel => exact ⟨k + 1, by go_num, by omega, by rw [Hat.out], M, Hm1.out, hnx.out, Hm3.out⟩
            case measure => simp [intOf]; omega
        · have hc1I : ¬ (m : Int) < (a : Int) + 5 + 36 + (b : Int) := by omega
          have hnx := Lib.hid (m2.ext (q := inZ 1024 (bs.take (k + 1))) (fun j hj => by
            rw [List.take_succ_eq_append_getElem hpl, inZ_snoc, ← Ha.out]
            have e : bs[k] = b := by rw [Hbe.out, List.getD_eq_getElem?_getD, List.getElem?_eq_getElem hpl]; rfl
            rw [e]
            constructor
            · rintro (h | h)
              · exact .inl h
              · exact .inr (by omega)
            · rintro (h | h)
              · exact .inl h
              · exact .inr (by omega)))
          have Hm1 := Lib.hid m1
          have Hm3 := Lib.hid m3
          have Hu := Lib.hid (usd_take bs k hpl)
          clear HM m1 m2 m3
          have hq1 : Int.tdiv (41 + (b : Int) + 127) 128 = ((tk (36 + b) : Nat) : Int) := by rw [Int.tdiv_eq_ediv_of_nonneg (by omega)]; unfold tk; omega
          have hq2 : (41 + (b : Int) + 127) / 128 = ((tk (36 + b) : Nat) : Int) := by unfold tk; omega
          have htk : tk (36 + b) ≤ 1100 := by unfold tk; omega
          have htkI : ((tk (36 + b) : Nat) : Int) ≤ 1100 := by omega
          have Hat : Hid (((1024 + usd (bs.take (k + 1)) * 128 : Nat) : Int) = (a : Int) + ((tk (36 + b) : Nat) : Int) * 128) := by rw [Hid, Hu.out, ← Hbe.out]; have := Ha.out; omega
          obtain ⟨tv, htv⟩ : ∃ tv, tv = tk (36 + b) := ⟨_, rfl⟩
          rw [← htv] at hq1 hq2 htkI Hat
          clear htv htk
          go_wp2
          go_roundw
          case rel => exact ⟨k + 1, by go_num, by omega, by rw [Hat.out], M, Hm1.out, hnx.out, Hm3.out⟩
          case measure => simp [intOf]; omega
    · have hpI : ¬ (k : Int) < q := by omega
      obtain ⟨M, m1, m2, m3⟩ := HI.out
      rw [List.take_of_length_le (by rw [← Hq.out]; omega)] at m2
      have hml : M.length = N := by rw [m2.1, HN.out]
      have hbyt : Byt wr (some ⟨g, 0, none⟩) (N + sp.length) M := ⟨by omega, (fun h => by cases h), fun _ => ⟨g, 0, rfl, (Array.getElem?_eq_some_iff.1 m1).1, fun j hj => by
        rw [Nat.zero_add, cell_row m1]
        simp [vals, List.getD_eq_getElem?_getD, hj, List.getElem?_append]⟩⟩
      have HR := Lib.hid (And.intro hbyt (And.intro m2 m3))
      have Hml := Lib.hid hml
      clear HI m1 m2 m3 hbyt hml
      go_wp2
      go_ret
      exact ⟨M, ⟨_, _, by rw [Hml.out]; rfl, HR.out.1⟩, HR.out.2⟩
end Go.Proofs.YtkjhoanlkkcfkaaGreatDoor.Sgm
