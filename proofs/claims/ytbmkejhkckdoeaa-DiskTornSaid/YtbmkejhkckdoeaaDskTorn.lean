/- DERIVED. The walk of DiskTorn. -/
import Derived.Test.YtbmkejhkckdoeaaDskWorks
import Derived.Test.YtbmkejhkckdoeaaDskTornMath
import Derived.BigQuiet
namespace Go.Proofs.Ytbmkejhkckdoeaa.Dsk
open Go.RowKit
theorem data_lit {w : World} {A : Option Addr} {C m n : Nat} {L : List Int} (hB : Byt w A C L) (hi : InB L) (hn : L.length = n) (hm : m = min n 1024) : Calls Try.prog 7 #[.agg #[.int .u8 0, .int .i64 0, .int .i64 0, .slice A m C, .bool true, .int .u8 0, .int .u8 0, .int .u8 0, .int .u8 0, .int .u8 0, .int .u8 0, .int .u8 0, .int .u8 0, .int .u8 0, .int .u8 0, .int .u8 0, .int .u8 0, .int .u8 0, .int .u8 0, .int .u8 0, .int .u8 0]] w fun e w' => ∃ v b, e = .returned v ∧ DataQ true w.heap.size v w w' b := by
  have hl : (L.take 1024).length = m := by rw [List.length_take, hn, hm, Nat.min_comm]
  have h := data_any (w := w) ⟨0, 0, 0, A, C, L.take 1024, true, z16⟩ (byt_take hB 1024) (hi.take 1024) (by simp only [hl]; omega)
  have hc : (⟨0, 0, 0, A, C, L.take 1024, true, z16⟩ : Av).c = #[.int .u8 0, .int .i64 0, .int .i64 0, .slice A m C, .bool true, .int .u8 0, .int .u8 0, .int .u8 0, .int .u8 0, .int .u8 0, .int .u8 0, .int .u8 0, .int .u8 0, .int .u8 0, .int .u8 0, .int .u8 0, .int .u8 0, .int .u8 0, .int .u8 0, .int .u8 0, .int .u8 0] := by
    simp only [Av.c, hl]
    rfl
  rw [hc] at h
  exact h
theorem new_20 (w : World) : Calls Try.prog 6 #[.int .i64 20] w fun e w' => ∃ K : DK, e = .returned (.tuple #[.pointer (some ⟨K.g, 0, none⟩), .int .i64 0]) ∧ Dsk w' K (newD 20) ∧ Below w.heap.size w w' ∧ w.heap.size ≤ K.g ∧ w.heap.size ≤ K.h := new_ok 20 w (by decide) (by decide)
theorem av_mask {w : World} {g T : Nat} {fr : Nat × Nat} (x : Av) (h : w.heap[g]? = some (.cells x.c T fr)) : w.rangeAt g 5 (vals x.mask) := fun j v hv => by
  rw [cell_row h, Av.c, List.getElem?_toArray, show 5 + j = j + 5 by omega]
  simpa using hv
theorem rem_nat (t : Int) (m : Nat) (h1 : 1 ≤ m) (h2 : m ≤ 21) : ∃ k : Nat, wrap64 ((IntKind.u64.wrap t).tmod m) = k ∧ k < m := by
  have h0 : 0 ≤ IntKind.u64.wrap t := by rw [IntKind.wrap_u64]; omega
  rw [Int.tmod_eq_emod_of_nonneg h0]
  have h3 := Int.emod_nonneg (IntKind.u64.wrap t) (show (m : Int) ≠ 0 by omega)
  have h4 := Int.emod_lt_of_pos (IntKind.u64.wrap t) (show (0 : Int) < m by omega)
  obtain ⟨r, hr⟩ : ∃ r, r = IntKind.u64.wrap t % (m : Int) := ⟨_, rfl⟩
  rw [← hr] at h3 h4 ⊢
  have hw : wrap64 r = r := by
    have := IntKind.wrap_i64 r
    unfold wrap64
    omega
  exact ⟨r.toNat, by rw [hw]; omega, by omega⟩
set_option maxRecDepth 100000 in
set_option maxHeartbeats 4000000 in
theorem torn_walk (A1 A2 : Option Addr) (n1 c1 n2 c2 : Nat) (L1 L2 : List Int) (x : Av) (hm : x.mask.length = 16) (hmi : InB x.mask) (h1 : L1.length = n1) (h2 : L2.length = n2) (i1 : InB L1) (i2 : InB L2) (m1 : n1 ≤ 9223372036854775807) (m2 : n2 ≤ 9223372036854775807) (w : World) (B1 : Byt w A1 c1 L1) (B2 : Byt w A2 c2 L2)
    (hat : -9223372036854775808 ≤ x.at_ ∧ x.at_ ≤ 9223372036854775807) (hN : -9223372036854775808 ≤ x.n ∧ x.n ≤ 9223372036854775807) :
    Calls Try.prog 3 #[.slice A1 n1 c1, .slice A2 n2 c2, .agg x.c] w fun e w' => e = .returned (.bool true) ∧ Below w.heap.size w w' := by
  have Hi16 : Hid ((Try.prog.info? 23).map (·.size) = some (vals x.mask).length) := by show _ = _; rw [vals_length, hm]; exact info16
  have Hi16b : Hid ((Try.prog.info? 23).map (·.size) = some (vals x.mask).toArray.size) := by show _ = _; rw [List.size_toArray, vals_length, hm]; exact info16
  have Hm := Lib.hid hm
  have Hmi := Lib.hid hmi
  have hc1 : n1 ≤ c1 := by rw [← h1]; exact B1.1
  have hc2 : n2 ≤ c2 := by rw [← h2]; exact B2.1
  have Hn1 : Hid (A1 = none → c1 = 0) := B1.2.1
  have Hn2 : Hid (A2 = none → c2 = 0) := B2.2.1
  have HB1 := Lib.hid B1
  have HB2 := Lib.hid B2
  have HL1 := Lib.hid h1
  have HL2 := Lib.hid h2
  have HI1 := Lib.hid i1
  have HI2 := Lib.hid i2
  have Hat := Lib.hid hat
  have HN := Lib.hid hN
  clear hm hmi B1 B2 h1 h2 i1 i2 hat hN
  go_enter Try.func3, Try.ntmps3
  go_upto_region 1 with (fail)
  have hrow := Go.heap_alloc_new w (.cells x.c 25)
  have hlow : Below w.heap.size w (w.alloc (.cells x.c 25)) := (Below.refl _ _).alloc (Nat.le_refl _) _
  obtain ⟨w1, hw1⟩ : ∃ w1, w1 = w.alloc (.cells x.c 25) := ⟨_, rfl⟩
  have hs1 : w1.heap.size = w.heap.size + 1 := by rw [hw1, World.size_alloc]
  rw [← hw1] at hrow hlow ⊢
  clear hw1
  have HS1 := Lib.hid hs1
  clear hs1
  refine wp_region_lit ?_
  refine wpList_plain rfl (fun K hK => ?_)
  go_simp
  refine hK _ _ ?_
  clear hK
  clear K
  refine wpList_load_mid rfl 23 (.tmp 21) rfl w.heap.size 5 rfl (vals x.mask) _ (av_mask x hrow) Try.underlying23 rfl Hi16.out ?_
  refine wpList_plain rfl (fun K hK => ?_)
  go_simp
  refine hK _ _ ?_
  clear hK
  clear K
  refine wpList_store_row rfl 23 (.tmp 7) (.tmp 22) rfl w1.heap.size (vals x.mask).toArray rfl rfl 23 _ (Go.heap_alloc_new w1 _) Hi16b.out (by show 16 = _; rw [List.size_toArray, vals_length, Hm.out]) (all_oneCell_toArray (vals_one _)) ?_
  rw [World.setRow_alloc_new]
  refine wpList_nil ?_
  go_simp
  have hs1 := HS1.out
  have hrow2 := Go.heap_alloc_new w1 (.cells (vals x.mask).toArray 23)
  have hlow2 := hlow.alloc hlow.size (.cells (vals x.mask).toArray 23)
  have hrow1 := (((Below.refl w1.heap.size w1).alloc (Nat.le_refl _) (.cells (vals x.mask).toArray 23)).block _ (show w.heap.size < w1.heap.size by omega)).trans hrow
  obtain ⟨w2, hw2⟩ : ∃ w2, w2 = w1.alloc (.cells (vals x.mask).toArray 23) := ⟨_, rfl⟩
  have hs2 : w2.heap.size = w.heap.size + 2 := by rw [hw2, World.size_alloc, hs1]
  rw [hs1] at hrow2
  rw [← hw2] at hrow1 hrow2 hlow2 ⊢
  rw [hs1]
  clear hw2 hrow hlow
  have R1 := Lib.hid hrow1
  have R2 := Lib.hid hrow2
  have Low2 := Lib.hid hlow2
  have S2 := Lib.hid hs2
  clear hrow1 hrow2 hlow2 hs2 hs1 HS1
  clear w1
  go_upto_region 3 with (go_at_call 6; refine (new_20 w2).mono ?_; rintro e w3 ⟨K, rfl, hd3, hb3, hg3, hh3⟩; have Hd3 := Lib.hid hd3; have Hb3 := Lib.hid hb3; have Hg3 := Lib.hid hg3; have Hh3 := Lib.hid hh3; clear hd3 hb3 hg3 hh3)
  have HB2a := Lib.hid (HB2.out.below (Low2.out.trans (Hb3.out.mono Low2.out.size)) (Nat.le_refl _))
  go_cut [10] from 27 to 33 (fun s10 wx => ∃ b, DataQ true w3.heap.size s10 w3 wx b)
  case first =>
    by_cases hle : n2 ≤ 1024
    · by_cases hA : A2 = none
      · have hC := Hn2.out hA
        subst hA hC
        obtain rfl : n2 = 0 := by omega
        clear hle
        go_wp2_with (go_at_call 7; refine (data_lit HB2a.out HI2.out HL2.out rfl).mono ?_; rintro e w4 ⟨v4, b, rfl, hq⟩; have Hq := Lib.hid hq; clear hq)
        go_meet
        exact ⟨b, Hq.out⟩
      · obtain ⟨a, rfl⟩ := Option.ne_none_iff_exists'.1 hA
        clear hA
        have hmin : n2 = min n2 1024 := (Nat.min_eq_left hle).symm
        have HM := Lib.hid hmin
        clear hmin
        go_wp2_with (go_at_call 7; refine (data_lit HB2a.out HI2.out HL2.out HM.out).mono ?_; rintro e w4 ⟨v4, b, rfl, hq⟩; have Hq := Lib.hid hq; clear hq)
        go_meet
        exact ⟨b, Hq.out⟩
    · obtain ⟨a, rfl⟩ : ∃ a, A2 = some a := by
        cases A2 with
        | none => have := Hn2.out rfl; omega
        | some a => exact ⟨a, rfl⟩
      have hle' : 1024 < n2 := by omega
      have HM : Hid (1024 = min n2 1024) := (Nat.min_eq_right (by omega)).symm
      clear hle
      go_wp2_with (go_at_call 7; refine (data_lit HB2a.out HI2.out HL2.out HM.out).mono ?_; rintro e w4 ⟨v4, b, rfl, hq⟩; have Hq := Lib.hid hq; clear hq)
      go_meet
      exact ⟨b, Hq.out⟩
  case rest =>
    obtain ⟨b, hqb⟩ := hcut
    have Hqb := Lib.hid hqb
    have Low4 := Lib.hid ((Low2.out.trans (Hb3.out.mono Low2.out.size)).trans (hqb.low.mono (Nat.le_trans Low2.out.size Hb3.out.size)))
    have Hd4 := Lib.hid (Hd3.out.later hqb.low)
    have HB1a := Lib.hid (HB1.out.below Low4.out (Nat.le_refl _))
    clear hqb
    go_upto_region 4 with (fail)
    go_cut [11] from 34 to 40 (fun s11 wx => ∃ b, DataQ true wc.heap.size s11 wc wx b)
    case first =>
      by_cases hle : n1 ≤ 1024
      · by_cases hA : A1 = none
        · have hC := Hn1.out hA
          subst hA hC
          obtain rfl : n1 = 0 := by omega
          clear hle
          go_wp2_with (go_at_call 7; refine (data_lit HB1a.out HI1.out HL1.out rfl).mono ?_; rintro e w5 ⟨v5, b, rfl, hq⟩; have Hq := Lib.hid hq; clear hq)
          go_meet
          exact ⟨b, Hq.out⟩
        · obtain ⟨a, rfl⟩ := Option.ne_none_iff_exists'.1 hA
          clear hA
          have hmin : n1 = min n1 1024 := (Nat.min_eq_left hle).symm
          have HM := Lib.hid hmin
          clear hmin
          go_wp2_with (go_at_call 7; refine (data_lit HB1a.out HI1.out HL1.out HM.out).mono ?_; rintro e w5 ⟨v5, b, rfl, hq⟩; have Hq := Lib.hid hq; clear hq)
          go_meet
          exact ⟨b, Hq.out⟩
      · obtain ⟨a, rfl⟩ : ∃ a, A1 = some a := by
          cases A1 with
          | none => have := Hn1.out rfl; omega
          | some a => exact ⟨a, rfl⟩
        have hle' : 1024 < n1 := by omega
        have HM : Hid (1024 = min n1 1024) := (Nat.min_eq_right (by omega)).symm
        clear hle
        go_wp2_with (go_at_call 7; refine (data_lit HB1a.out HI1.out HL1.out HM.out).mono ?_; rintro e w5 ⟨v5, b, rfl, hq⟩; have Hq := Lib.hid hq; clear hq)
        go_meet
        exact ⟨b, Hq.out⟩
    case rest =>
      obtain ⟨a, hqa⟩ := hcut
      have hb5 : Below w2.heap.size w2 wc := (Hb3.out.trans (Hqb.out.low.mono Hb3.out.size)).trans (hqa.low.mono (Nat.le_trans Hb3.out.size Hqb.out.low.size))
      have hd5 := Hd4.out.later hqa.low
      have hob := own_lower (own_stays Hqb.out.own hqa.low) Hb3.out.size
      have hoa := own_lower hqa.own (Nat.le_trans Hb3.out.size Hqb.out.low.size)
      have hr1 := (hb5.block _ (by rw [S2.out]; omega)).trans R1.out
      have hr2 := (hb5.block _ (by rw [S2.out]; omega)).trans R2.out
      have hlow5 := Low4.out.trans (hqa.low.mono Low4.out.size)
      have hgb : ∀ k ∈ K.bl, w2.heap.size ≤ k := by intro k hk; simp [DK.bl] at hk; have := Hg3.out; have := Hh3.out; omega
      obtain ⟨nb, hnb⟩ : ∃ nb, b.length = nb * 128 := ⟨b.length / 128, by have := Hqb.out.sec rfl; omega⟩
      have hnb8 : nb ≤ 8 := by have := Hqb.out.len; omega
      have hla := hqa.len
      have hia := hqa.inb
      have hib := Hqb.out.inb
      -- the blocks of b and a are none of the disk's
      have hapb : ∀ k, u10.ownBlock = some k → k ∉ K.bl := fun k hk hm => by
        have h1 := ((Hqb.out.own).lt k hk).1
        have := Hd3.out.glt
        have := Hd3.out.hlt
        simp [DK.bl] at hm; omega
      rw [hnb] at hob
      obtain ⟨Ab, cb, hvb⟩ := own_nilK hob
      obtain ⟨Aa, ca, hva⟩ := own_nilK hoa
      have hBb : Byt wc Ab cb b := by
        obtain ⟨A', c', e, hB⟩ := own_bytK (L := b) hob hnb
        rw [hvb] at e
        cases e
        exact hB
      have hBa : Byt wc Aa ca a := by
        obtain ⟨A', c', e, hB⟩ := own_bytK (L := a) hoa rfl
        rw [hva] at e
        cases e
        exact hB
      have hAb : ∀ ad, Ab = some ad → ad.block ∉ K.bl := fun ad e => hapb _ (by rw [hvb, e]; rfl)
      subst hvb hva
      obtain ⟨na, hna⟩ : ∃ na, na = a.length := ⟨_, rfl⟩
      rw [← hna] at hla ⊢
      have hput := put_ok hd5 0 na (by simp [newD]; omega) Aa ca a hna.symm hia hBa
      have Hput := Lib.hid hput
      have Hna := Lib.hid hna
      have Hd5 := Lib.hid hd5
      have R15 := Lib.hid hr1
      have R25 := Lib.hid hr2
      have Low5 := Lib.hid hlow5
      have HBb := Lib.hid hBb
      have HAb := Lib.hid hAb
      have Hgb := Lib.hid hgb
      have Hnb := Lib.hid hnb
      have Hib := Lib.hid hib
      have S5 := Lib.hid hb5.size
      clear hqa Hqb hb5 hd5 hob hoa hr1 hr2 hlow5 hgb hia hib hapb hBb hBa hAb hput hna hnb Low4 Hd4 HB1a HB2a Hd3 Hb3 R1 R2 Low2 HI1 HI2 HL1 HL2 HB1 HB2 Hn1 Hn2 hc1 hc2 m1 m2 Hi16 Hi16b
      go_upto_region 8 with (go_at_call 8; refine Hput.out.mono ?_; rintro e w6 ⟨rfl, hd6, hc6⟩; have Hd6 := Lib.hid hd6; have Hc6 := Lib.hid hc6; clear hd6 hc6)
      have hnot : ∀ k, k < w2.heap.size → k ∉ K.bl := fun k hk hm => by have := Hgb.out k hm; omega
      have hr16 := Hc6.out.at R15.out (hnot _ (by rw [S2.out]; omega))
      have hr26 := Hc6.out.at R25.out (hnot _ (by rw [S2.out]; omega))
      have q1 := cell_row hr16 1
      have q2 := cell_row hr16 2
      rw [show x.c[1]? = some (.int .i64 x.at_) by rfl] at q1
      rw [show x.c[2]? = some (.int .i64 x.n) by rfl] at q2
      obtain ⟨t, ht⟩ : ∃ t, t = x.at_ := ⟨_, rfl⟩
      obtain ⟨u, hu⟩ : ∃ u, u = x.n := ⟨_, rfl⟩
      rw [← ht] at q1 Hat
      rw [← hu] at q2 HN
      have ht1 := Hat.out.1
      have ht2 := Hat.out.2
      have hu1 := HN.out.1
      have hu2 := HN.out.2
      have R16 := Lib.hid hr16
      have R26 := Lib.hid hr26
      clear hr16 hr26 ht hu Hat HN
      go_cut [13, 14] from 52 to 64 (fun s13 s14 wx => (∃ k W : Nat, s13 = .int .i64 k ∧ s14 = .int .i64 W ∧ k + nb ≤ 20 ∧ W < 20) ∧ Below w6.heap.size w6 wx)
      case first =>
        go_quiet (fail)
        go_wp2
        go_meet
        obtain ⟨k, hk1, hk2⟩ := rem_nat t (21 - nb) (by omega) (by omega)
        obtain ⟨W, hW1, hW2⟩ := rem_nat u 20 (by omega) (by omega)
        rw [show ((21 - nb : Nat) : Int) = 21 - (nb : Int) by omega] at hk1
        exact ⟨⟨k, W, congrArg _ hk1, congrArg _ hW1, by omega, hW2⟩, Below.drewN (Below.refl _ _) nq⟩
      case rest =>
        obtain ⟨⟨k, W, rfl, rfl, hkn, hW⟩, hb7⟩ := hcut
        have R17 := Lib.hid ((hb7.block _ (Array.getElem?_eq_some_iff.1 R16.out).1).trans R16.out)
        have R27 := Lib.hid ((hb7.block _ (Array.getElem?_eq_some_iff.1 R26.out).1).trans R26.out)
        have hd7 := Hd6.out.later hb7
        have hbb := (HBb.out.chg Hc6.out HAb.out).below hb7 (Nat.le_refl _)
        have hlow7 := (Hc6.out.below Low5.out Low5.out.size (fun k hk => by have := Hgb.out k hk; have := S2.out; omega)).trans (hb7.mono (Nat.le_trans Low5.out.size Hc6.out.size))
        obtain ⟨D, hD⟩ : ∃ D, D = ({ newD 20 with data := splice (newD 20).data 0 a } : DS) := ⟨_, rfl⟩
        have hDl : D.data.length = 2560 := by
          rw [hD]; simp only; rw [splice_len _ _ _ (by rw [← Hna.out]; simp [newD]; omega)]; simp [newD]
        have hDo : D.off = false := by rw [hD]; rfl
        have hDw : D.writes = 0 := by rw [hD]; rfl
        rw [← hD] at hd7
        have hDs : D.secs = 20 := by simp [DS.secs, hDl]
        have HD7 := Lib.hid hd7
        have HBb7 := Lib.hid hbb
        have Low7 := Lib.hid hlow7
        have HDl := Lib.hid hDl
        have HDo := Lib.hid hDo
        have HDw := Lib.hid hDw
        have HDs := Lib.hid hDs
        obtain ⟨D9, hD9⟩ : ∃ D9, D9 = ({ D with laid := true, whole := (W : Int), mask := x.mask } : DS) := ⟨_, rfl⟩
        have h9l : D9.data = D.data := by rw [hD9]
        have h9o : D9.off = false := by rw [hD9]; exact hDo
        have h9w : D9.writes = 0 := by rw [hD9]; exact hDw
        have h9s : D9.secs = 20 := by rw [DS.secs, h9l]; exact hDs
        have h9m : D9.mask = x.mask := by rw [hD9]
        have hq := torn_run k b nb D9 0 W h9o (by rw [hD9]) (by rw [hD9]) (by rw [h9l, hDl]; omega) (by rw [Hnb.out]; omega)
        have Hwr : Hid (∀ w9, Dsk w9 K D9 → Byt w9 Ab cb b → Calls Try.prog 11 #[.pointer (some ⟨K.g, 0, none⟩), .int .i64 k, .slice Ab (nb * 128) cb] w9 fun e w' => e = .returned (.int .i64 (runD D9 k b 0 nb).2) ∧ Dsk w' K (runD D9 k b 0 nb).1 ∧ Chg K.bl w9 w') :=
          fun w9 h9 hB => write_ok h9 k nb (nb * 128) (by rw [h9s]; exact hkn) h9o Ab cb b rfl Hnb.out Hib.out hB HAb.out (by rw [h9w]; decide)
        obtain ⟨T, hT⟩ : ∃ T, T = runD D9 k b 0 nb := ⟨_, rfl⟩
        rw [← hT] at hq Hwr
        obtain ⟨D10, E⟩ := T
        simp only at Hwr
        have hqe : E = if W < nb then 12 else 0 := hq.err
        have hqo : D10.off = decide (W < nb) := hq.off
        have hql : D10.data.length = 2560 := by rw [hq.len, h9l, hDl]
        have hqg : ∀ j, j < 2560 → D10.data.getD j 0 = if hitB x.mask k nb W j then b.getD (j - k * 128) 0 else D.data.getD j 0 := fun j hj => by
          have := hq.get j (by rw [h9l, hDl]; exact hj)
          rw [h9m, h9l] at this
          exact this
        have Hqe := Lib.hid hqe
        have Hqo := Lib.hid hqo
        have Hql := Lib.hid hql
        have Hqg := Lib.hid hqg
        have Hby : Hid (∀ w7 D, Dsk w7 K D → D.data.length = 2560 → Calls Try.prog 9 #[.pointer (some ⟨K.g, 0, none⟩)] w7 fun e w' => ∃ g c, e = .returned (.slice (some ⟨g, 0, none⟩) 2560 c) ∧ (w7.heap.size ≤ g ∧ g < w'.heap.size ∧ 2560 ≤ c ∧ ∀ j, j < 2560 → w'.cell? ⟨g, j, none⟩ = some (.int .u8 (D.data.getD j 0))) ∧ Below w7.heap.size w7 w') := fun w7 D h hl => by
          refine (bytes_any h).mono ?_
          rintro e w' ⟨v, rfl, ho, hb⟩
          rw [hl] at ho
          obtain ⟨g, sp, rfl, hg, hh⟩ := own_shape ho hl (by decide)
          exact ⟨g, _, rfl, ⟨hg, (Array.getElem?_eq_some_iff.1 hh).1, Nat.le_add_right _ _, fun j hj => body_cell (K := ⟨0, g, sp⟩) hh j (by rw [hl]; exact hj)⟩, hb⟩
        have Hcut : Hid (∀ w8, Dsk w8 K D → Calls Try.prog 10 #[.pointer (some ⟨K.g, 0, none⟩), .int .i64 W, .agg (vals x.mask).toArray] w8 fun e w' => e = .returned (.int .i64 0) ∧ Dsk w' K D9 ∧ Chg K.bl w8 w') := fun w8 h8 => by
          have hc := cut_any h8 W x.mask (by omega) Hm.out Hmi.out
          rw [show decide ((0 : Int) ≤ (W : Int)) = true by simp, show refE D true = 0 by simp [refE, hDo]] at hc
          rw [cutD_yes (by rw [show decide ((0 : Int) ≤ (W : Int)) = true by simp]; simp [refE, hDo]), ← hD9] at hc
          exact hc
        have Hi16 : Hid ((Try.prog.info? 23).map (·.size) = some (vals x.mask).toArray.size) := by show _ = _; rw [List.size_toArray, vals_length, Hm.out]; exact info16
        have Hgl := Lib.hid Hgb.out
        obtain ⟨N, hN⟩ : ∃ N, N = w.heap.size := ⟨_, rfl⟩
        have HNw := Lib.hid hN
        have hnot7 : ∀ j, j < N + 2 → j ∉ K.bl := fun j hj => hnot j (by rw [S2.out, ← hN]; exact hj)
        have Hnot := Lib.hid hnot7
        rw [← hN] at R17 R27
        clear hb7 hd7 hbb hlow7 hD hDl hDo hDw hDs hD9 h9l h9o h9w h9s h9m hq hT hqe hqo hql hqg q1 q2 ht1 ht2 hu1 hu2 R16 R26 Hd6 Hc6 R15 R25 Low5 Hd5 Hput HBb hnot hN hnot7
        go_upto_region 14 with (first
          | (go_at_call 9; refine (Hby.out _ _ Hd10.out Hql.out).mono ?_; rintro e w11 ⟨g11, k11, rfl, hr11, hb11⟩; have Hr11 := Lib.hid hr11; have Hb11 := Lib.hid hb11; clear hr11 hb11)
          | (go_at_call 11; refine (Hwr.out _ Hd9.out (HBb9.out)).mono ?_; rintro e w10 ⟨rfl, hd10, hc10⟩; have Hd10 := Lib.hid hd10; have Hc10 := Lib.hid hc10; clear hd10 hc10)
          | (go_at_call 10; refine (Hcut.out _ Hd8.out).mono ?_; rintro e w9 ⟨rfl, hd9, hc9⟩; have Hd9 := Lib.hid hd9; have Hc9 := Lib.hid hc9; have HBb9 := Lib.hid (HBb8.out.chg hc9 HAb.out); clear hd9 hc9)
          | (go_at_call 9; refine (Hby.out _ _ HD7.out HDl.out).mono ?_; rintro e w8 ⟨g8, k8, rfl, hr8, hb8⟩; have Hd8 := Lib.hid (HD7.out.later hb8); have HBb8 := Lib.hid (HBb7.out.below hb8 (Nat.le_refl _)); have r28 := (hb8.block _ (Array.getElem?_eq_some_iff.1 R27.out).1).trans R27.out; have R28 := Lib.hid r28; have Hr8 := Lib.hid hr8; have Hb8 := Lib.hid hb8; clear hr8 hb8 r28)
          | (refine wpList_load_row rfl 23 (.tmp 7) rfl (w.heap.size + 1) (by rfl) 23 (vals x.mask).toArray (0, 0) _ (by rw [← HNw.out]; exact R28.out) Try.underlying23 rfl Hi16.out ?_))
        have hg8b : g8 ∉ K.bl := by have := Hr8.out.1; have := HD7.out.glt; have := HD7.out.hlt; simp [DK.bl]; omega
        have hbl9 : Byt w9 Ab cb b := HBb9.out
        have hr29 := Hc9.out.at R28.out (Hnot.out _ (by omega))
        have hr210 := Hc10.out.at hr29 (Hnot.out _ (by omega))
        have hr211 := (Hb11.out.block _ (Array.getElem?_eq_some_iff.1 hr210).1).trans hr210
        have hbyt : Byt w11 Ab cb b := (hbl9.chg Hc10.out HAb.out).below Hb11.out (Nat.le_refl _)
        have hwas : ∀ j, j < 2560 → w11.cell? ⟨g8, j, none⟩ = some (.int .u8 (D.data.getD j 0)) := fun j hj => by
          have h8 := Hr8.out.2.1
          have e9 := World.cell?_of_block (a := ⟨g8, j, none⟩) (Hc9.out.block g8 h8 hg8b)
          have h9 : g8 < w9.heap.size := Nat.lt_of_lt_of_le h8 Hc9.out.size
          have e10 := World.cell?_of_block (a := ⟨g8, j, none⟩) (Hc10.out.block g8 h9 hg8b)
          have h10 : g8 < w10.heap.size := Nat.lt_of_lt_of_le h9 Hc10.out.size
          have e11 := World.cell?_of_block (a := ⟨g8, j, none⟩) (Hb11.out.block g8 h10)
          rw [e11, e10, e9]
          exact Hr8.out.2.2.2 j hj
        have hnow := Hr11.out.2.2.2
        have hd11 := Hd10.out.later Hb11.out
        have hlow8 := Low7.out.trans (Hb8.out.mono Low7.out.size)
        have hgl : ∀ k ∈ K.bl, w.heap.size ≤ k := fun k hk => by have := Hgl.out k hk; have := S2.out; omega
        have hlow9 := Hc9.out.below hlow8 hlow8.size hgl
        have hlow10 := Hc10.out.below hlow9 hlow9.size hgl
        have hlow11 := hlow10.trans (Hb11.out.mono hlow10.size)
        have hk8 : 2560 ≤ k8 := Hr8.out.2.2.1
        have hk11 : 2560 ≤ k11 := Hr11.out.2.2.1
        have Hmask := Lib.hid hr211
        have Hbyt := Lib.hid hbyt
        have Hwas := Lib.hid hwas
        have Hnow := Lib.hid hnow
        have Hd11 := Lib.hid hd11
        have Low11 := Lib.hid hlow11
        clear hg8b hbl9 hr29 hr210 hr211 hbyt hwas hnow hd11 hlow8 hgl hlow9 hlow10 hlow11 Hr8 Hr11 Hb8 Hb11 Hc9 Hc10 Hd10 Hd9 Hd8 HBb9 HBb8 R28 Hcut Hby Hwr HD7 Low7 HBb7 R17 R27
        go_cut [98] from 78 to 98 (fun s98 wx => s98 = .bool false ∧ wx = w11)
        case first =>
          have Hoff := Lib.hid (off_any Hd11.out)
          unfold DK.ptr at Hoff
          have he := Hqe.out
          by_cases hWn : W < nb
          · rw [if_pos hWn] at he
            subst he
            have ho := Hqo.out
            rw [decide_eq_true hWn] at ho
            rw [ho] at Hoff
            have hWn' : (W : Int) < (nb : Int) := by omega
            have hWn2 : ¬ (nb : Int) ≤ (W : Int) := by omega
            clear ho hWn
            go_wp2_with (go_at_call 12; refine Hoff.out.mono ?_; rintro e w' ⟨rfl, rfl⟩)
            go_meet
            exact ⟨rfl, rfl⟩
          · rw [if_neg hWn] at he
            subst he
            have ho := Hqo.out
            rw [decide_eq_false hWn] at ho
            rw [ho] at Hoff
            have hWn' : ¬ (W : Int) < (nb : Int) := by omega
            have hWn2 : (nb : Int) ≤ (W : Int) := by omega
            have HWn := Lib.hid hWn
            clear ho hWn
            go_wp2_with (go_at_call 12; refine Hoff.out.mono ?_; rintro e w' ⟨rfl, rfl⟩)
            go_meet
            exact ⟨congrArg Value.bool (decide_eq_false HWn.out), rfl⟩
        case rest =>
          obtain ⟨rfl, hwc⟩ := hcut
          subst hwc
          go_wp2
          go_loopw [18] (fun v wr => ∃ i : Nat, i ≤ 2560 ∧ v = .int .i64 i ∧ wr = wc) (fun v _ => 2560 - (intOf v).toNat)
          case atStart => exact ⟨0, Nat.zero_le _, rfl, rfl⟩
          case round =>
            obtain ⟨i, hi, rfl, rfl⟩ := hrel
            by_cases hlt : i < 2560
            · have ca := Hwas.out i hlt
              have cn := Hnow.out i hlt
              have hg := Hqg.out i hlt
              have hr16 : i % 128 / 8 < 16 := by omega
              have cmk : wr.cell? ⟨N + 1, i % 128 / 8, none⟩ = some (.int .u8 (x.mask.getD (i % 128 / 8) 0)) := by
                rw [cell_row Hmask.out, List.getElem?_toArray]
                simp [vals, Hm.out, hr16]
              have hbitd : bitM x.mask (i % 128) = bitX (x.mask.getD (i % 128 / 8) 0) (i % 8) := by
                unfold bitM
                rw [show i % 128 % 8 = i % 8 by omega]
              obtain ⟨y, hy⟩ : ∃ y, y = x.mask.getD (i % 128 / 8) 0 := ⟨_, rfl⟩
              have hy0 : 0 ≤ y ∧ y < 256 := by rw [hy]; exact Hmi.out _
              rw [← hy] at cmk hbitd
              obtain ⟨za, hza⟩ : ∃ za, za = D.data.getD i 0 := ⟨_, rfl⟩
              obtain ⟨zn, hzn⟩ : ∃ zn, zn = D10.data.getD i 0 := ⟨_, rfl⟩
              rw [← hza] at ca hg
              rw [← hzn] at cn hg
              rw [HNw.out] at cmk
              have hh : hitB x.mask k nb W i = (decide (k ≤ i / 128) && decide (i / 128 < k + nb) && (decide (i / 128 - k < W) || (decide (i / 128 - k = W) && bitX y (i % 8)))) := by
                unfold hitB
                rw [hbitd]
              rw [hh] at hg
              have Hg := Lib.hid hg
              have Hbx : bitX y (i % 8) = (bits .and .u8 (y / 2 ^ (i % 8)) 1 == 1) := rfl
              have hlt' : (i : Int) < 2560 := by omega
              clear hg hh hbitd hy hza hzn
              by_cases a1 : k ≤ i / 128
              · have a1' : (k : Int) ≤ (i : Int) / 128 := by omega
                by_cases a2 : i / 128 < k + nb
                · have a2' : (i : Int) / 128 - (k : Int) < (nb : Int) := by omega
                  by_cases a3 : i / 128 - k < W
                  · have a3' : (i : Int) / 128 - (k : Int) < (W : Int) := by omega
                    have hz := Hg.out
                    rw [decide_eq_true a1, decide_eq_true a2, decide_eq_true a3, show (true && true && (true || (decide (i / 128 - k = W) && bitX y (i % 8)))) = true by simp, if_pos rfl] at hz
                    obtain ⟨j0, hj0⟩ : ∃ j0, j0 = i - k * 128 := ⟨_, rfl⟩
                    have hj1 : (i : Int) - 128 * (k : Int) = (j0 : Int) := by omega
                    have hj2 : j0 < nb * 128 := by omega
                    obtain ⟨gb, ob, hAb, _, hcb⟩ := Hbyt.out.2.2 (by rw [Hnb.out]; omega)
                    have hccb : nb * 128 ≤ cb := by have := Hbyt.out.1; rw [Hnb.out] at this; exact this
                    have cbj := hcb j0 (by rw [Hnb.out]; exact hj2)
                    rw [← hj0] at hz
                    rw [← hz] at cbj
                    subst hAb
                    clear Hg hz hcb hj0
                    go_wp2
                    go_roundw
                    case rel => exact ⟨i + 1, by omega, by go_num, trivial⟩
                    case measure => simp [intOf]; omega
                  · have a3' : ¬ (i : Int) / 128 - (k : Int) < (W : Int) := by omega
                    by_cases a4 : i / 128 - k = W
                    · have a4' : (i : Int) / 128 - (k : Int) = (W : Int) := by omega
                      cases a5 : bitX y (i % 8)
                      · have a5' : (bits .and .u8 (y / 2 ^ (i % 8)) 1 == 1) = false := Hbx.symm.trans a5
                        have hz := Hg.out
                        rw [decide_eq_true a1, decide_eq_true a2, decide_eq_false a3, decide_eq_true a4, a5, show (true && true && (false || (true && false))) = false by rfl, if_neg Bool.false_ne_true] at hz
                        subst hz
                        clear Hg
                        clear Hbx a5
                        go_wp2
                        go_roundw
                        case rel => exact ⟨i + 1, by omega, by go_num, trivial⟩
                        case measure => simp [intOf]; omega
                      · have a5' : (bits .and .u8 (y / 2 ^ (i % 8)) 1 == 1) = true := Hbx.symm.trans a5
                        have hz := Hg.out
                        rw [decide_eq_true a1, decide_eq_true a2, decide_eq_false a3, decide_eq_true a4, a5, show (true && true && (false || (true && true))) = true by rfl, if_pos rfl] at hz
                        obtain ⟨j0, hj0⟩ : ∃ j0, j0 = i - k * 128 := ⟨_, rfl⟩
                        have hj1 : (i : Int) - 128 * (k : Int) = (j0 : Int) := by omega
                        have hj2 : j0 < nb * 128 := by omega
                        obtain ⟨gb, ob, hAb, _, hcb⟩ := Hbyt.out.2.2 (by rw [Hnb.out]; omega)
                        have hccb : nb * 128 ≤ cb := by have := Hbyt.out.1; rw [Hnb.out] at this; exact this
                        have cbj := hcb j0 (by rw [Hnb.out]; exact hj2)
                        rw [← hj0] at hz
                        rw [← hz] at cbj
                        subst hAb
                        clear Hg hz hcb hj0
                        clear Hbx a5
                        go_wp2
                        go_roundw
                        case rel => exact ⟨i + 1, by omega, by go_num, trivial⟩
                        case measure => simp [intOf]; omega
                    · have a4' : ¬ (i : Int) / 128 - (k : Int) = (W : Int) := by omega
                      have hz := Hg.out
                      rw [decide_eq_true a1, decide_eq_true a2, decide_eq_false a3, decide_eq_false a4, show (true && true && (false || (false && bitX y (i % 8)))) = false by rfl, if_neg Bool.false_ne_true] at hz
                      subst hz
                      clear Hg
                      go_wp2
                      go_roundw
                      case rel => exact ⟨i + 1, by omega, by go_num, trivial⟩
                      case measure => simp [intOf]; omega
                · have a2' : ¬ (i : Int) / 128 - (k : Int) < (nb : Int) := by omega
                  have hz := Hg.out
                  rw [decide_eq_true a1, decide_eq_false a2, show (true && false && (decide (i / 128 - k < W) || (decide (i / 128 - k = W) && bitX y (i % 8)))) = false by rfl, if_neg Bool.false_ne_true] at hz
                  subst hz
                  clear Hg
                  go_wp2
                  go_roundw
                  case rel => exact ⟨i + 1, by omega, by go_num, trivial⟩
                  case measure => simp [intOf]; omega
              · have a1' : ¬ (k : Int) ≤ (i : Int) / 128 := by omega
                have hz := Hg.out
                rw [decide_eq_false a1, show (false && decide (i / 128 < k + nb) && (decide (i / 128 - k < W) || (decide (i / 128 - k = W) && bitX y (i % 8)))) = false by rfl, if_neg Bool.false_ne_true] at hz
                subst hz
                clear Hg
                go_wp2
                go_roundw
                case rel => exact ⟨i + 1, by omega, by go_num, trivial⟩
                case measure => simp [intOf]; omega
            · have hlt' : ¬ (i : Int) < 2560 := by omega
              go_wp2_with (go_at_call 13; refine (works_any wr).mono ?_; rintro e w12 ⟨rfl, hb12⟩; have Hb12 := Lib.hid hb12; clear hb12)
              go_ret
              exact ⟨rfl, Low11.out.trans (Hb12.out.mono Low11.out.size)⟩
end Go.Proofs.Ytbmkejhkckdoeaa.Dsk
