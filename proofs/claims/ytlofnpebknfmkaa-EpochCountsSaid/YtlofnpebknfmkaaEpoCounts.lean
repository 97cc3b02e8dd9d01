/- DERIVED. The walk of EpochCounts. -/
import Derived.Test.YtlofnpebknfmkaaEpoEl
import Derived.Test.YtlofnpebknfmkaaEpoFront
import Derived.Deep.DeepCutAuto
import Derived.Lib.SlBytesConst
import Derived.RangeFuncBox
namespace Go.Proofs.Ytlofnpebknfmkaa.Epo
open Go.RowKit Dsk
/-- a counter in sectors 2 to 4 of five, that tells p. -/
structure CW (w0 w : World) (K : DK) (D : DS) (g i p : Nat) : Prop where
  el : EL w0 w K D [(g, ⟨1, 384, p⟩)]
  off : D.off = false
  laid : D.laid = false
  len : D.data.length = 640
  wr : D.writes ≤ i
  cnt : Cnt (regL D 1 384) p
  first : D.data.getD 0 0 = 120
  last : D.data.getD 512 0 = 0
theorem cw_next {w0 w : World} {K : DK} {D : DS} {g i p : Nat} (h : CW w0 w K D g i p) (hp : p < 384) (hi : i ≤ 300) : Calls Try.prog 16 #[.pointer (some ⟨g, 0, none⟩)] w fun e w' => e = .returned (.int .i64 0) ∧ ∃ D', CW w0 w' K D' g (i + 1) (p + 1) := by
  have hlen := h.len
  have hwr := h.wr
  have hd : D.due = false := by unfold DS.due; rw [h.laid]; rfl
  have q := next_q D 1 p h.off (by omega)
  obtain ⟨y1, y2, y3, _, _⟩ := q.yes hd
  refine (el_next (L1 := []) (L2 := []) h.el ⟨by show p < 384; omega, by show 1 * 128 + 384 ≤ _; omega, by omega⟩ h.off).mono ?_
  rintro e w' ⟨rfl, hel⟩
  have hc := q.cnt (n := 384) (by omega) hp h.cnt
  rw [if_pos (.inl hd)] at hc
  have hel' : EL w0 w' K (nextD D 1 p).1 [(g, ⟨1, 384, p + 1⟩)] := by
    have hst : (CV.mk 1 384 p).step (nextD D 1 p).2 = ⟨1, 384, p + 1⟩ := by rw [y1]; rfl
    rw [← hst]; exact hel
  exact ⟨by simp only [y1], _, hel', y2, by rw [y3]; exact h.laid, by rw [q.len]; exact hlen, by rw [q.wr]; omega, hc, by rw [q.at_, if_neg (fun h => by omega)]; exact h.first, by rw [q.at_, if_neg (fun h => by omega)]; exact h.last⟩
theorem cw_full {w0 w : World} {K : DK} {D : DS} {g i p : Nat} (h : CW w0 w K D g i p) (hp : p = 384) : Calls Try.prog 16 #[.pointer (some ⟨g, 0, none⟩)] w fun e w' => e = .returned (.int .i64 13) ∧ CW w0 w' K D g (i + 1) p :=
  (el_next_full h.el (List.mem_cons_self ..) hp).mono fun _ _ ⟨e, hq⟩ => ⟨e, hq, h.off, h.laid, h.len, by have := h.wr; omega, h.cnt, h.first, h.last⟩
theorem cw_value {w0 w : World} {K : DK} {D : DS} {g i p : Nat} (h : CW w0 w K D g i p) : Calls Try.prog 14 #[.pointer (some ⟨g, 0, none⟩)] w fun e w' => e = .returned (.int .i64 (p : Nat)) ∧ w = w' := el_value h.el (List.mem_cons_self ..) p rfl
def cw1 (p : Nat) : DS := { newD 5 with data := splice (newD 5).data 128 (frontP p 384) }
def cw2 (p : Nat) : DS := { cw1 p with data := splice (cw1 p).data 0 [120] }
theorem n5_len : (newD 5).data.length = 640 := List.length_replicate
theorem cw1_len (p : Nat) : (cw1 p).data.length = 640 := by
  show (splice (newD 5).data 128 (frontP p 384)).length = _
  rw [splice_len _ _ _ (by rw [n5_len, frontP_len]; decide), n5_len]
theorem cw2_len (p : Nat) : (cw2 p).data.length = 640 := by
  show (splice (cw1 p).data 0 [120]).length = _
  rw [splice_len _ _ _ (by rw [cw1_len]; decide), cw1_len]
theorem cw2_get (p j : Nat) : (cw2 p).data.getD j 0 = if j = 0 then 120 else if 128 ≤ j ∧ j < 512 then (if j - 128 < p then 1 else 0) else 0 := by
  show (splice (cw1 p).data 0 [120]).getD j 0 = _
  rw [splice_getD _ _ _ (by rw [cw1_len]; decide)]
  show (if j < 0 then _ else if j < 0 + 1 then _ else (splice (newD 5).data 128 (frontP p 384)).getD j 0) = _
  rw [if_neg (Nat.not_lt_zero _)]
  by_cases h0 : j = 0
  · subst h0; rfl
  · rw [if_neg (by omega), if_neg h0, splice_getD _ _ _ (by rw [n5_len, frontP_len]; decide), frontP_len]
    have hz : (newD 5).data.getD j 0 = 0 := by
      show (List.replicate (5 * 128) (0 : Int)).getD j 0 = 0
      rw [List.getD_eq_getElem?_getD, List.getElem?_replicate]
      split <;> rfl
    by_cases h1 : j < 128
    · rw [if_pos h1, if_neg (by omega), hz]
    · rw [if_neg h1]
      by_cases h2 : j < 512
      · rw [if_pos (by omega), if_pos ⟨by omega, h2⟩, frontP_get (by omega)]
      · rw [if_neg (by omega), if_neg (by omega), hz]
theorem cw2_cnt (p : Nat) (hp : p ≤ 384) : Cnt (regL (cw2 p) 1 384) p := by
  refine (cnt_reg (by rw [cw2_len]; decide)).2 ⟨hp, fun j hj => ?_⟩
  rw [cw2_get, if_neg (by omega), if_pos (by omega), show 1 * 128 + j - 128 = j by omega]
theorem cw_new (w : World) : Calls Try.prog 8 #[.int .i64 5] w fun e w' => ∃ K : DK, e = .returned (.tuple #[.pointer (some ⟨K.g, 0, none⟩), .int .i64 0]) ∧ EL w w' K (newD 5) [] := el_new 5 w (by decide) (by decide)
theorem cw_put {w0 w : World} {K : DK} {p : Nat} {A : Option Addr} {c : Nat} (h : EL w0 w K (newD 5) []) (hB : Byt w A c (frontP p 384)) : Calls Try.prog 9 #[.pointer (some ⟨K.g, 0, none⟩), .int .i64 128, .slice A 384 c] w fun e w' => e = .returned (.int .i64 0) ∧ EL w0 w' K (cw1 p) [] :=
  (el_put h 128 384 (by rw [n5_len]; decide) A c (frontP p 384) (frontP_len _ _) (frontP_in _ _) hB).mono fun _ _ ⟨e, h, _⟩ => ⟨e, h⟩
theorem cw_putx {w0 w : World} {K : DK} {p : Nat} {A : Option Addr} {c : Nat} (h : EL w0 w K (cw1 p) []) (hB : Byt w A c [120]) : Calls Try.prog 9 #[.pointer (some ⟨K.g, 0, none⟩), .int .i64 0, .slice A 1 c] w fun e w' => e = .returned (.int .i64 0) ∧ EL w0 w' K (cw2 p) [] :=
  (el_put h 0 1 (by rw [cw1_len]; decide) A c [120] rfl (fun j => by match j with | 0 => decide | _ + 1 => simp) hB).mono fun _ _ ⟨e, h, _⟩ => ⟨e, h⟩
theorem cw_open {w0 w : World} {K : DK} {p : Nat} (h : EL w0 w K (cw2 p) []) (hp : p ≤ 384) : Calls Try.prog 11 #[.pointer (some ⟨K.g, 0, none⟩), .int .i64 1, .int .i64 3] w fun e w' => ∃ g, e = .returned (.tuple #[.pointer (some ⟨g, 0, none⟩), .int .i64 0]) ∧ CW w0 w' K (cw2 p) g 0 p :=
  (el_open h 1 3 p (by decide) (by unfold DS.secs; rw [cw2_len]; decide) rfl (cw2_cnt p hp)).mono fun _ _ ⟨g, e, h, _⟩ => ⟨g, e, h, rfl, rfl, cw2_len p, Int.le_refl 0, cw2_cnt p hp, by rw [cw2_get]; rfl, by rw [cw2_get, if_neg (by decide), if_neg (by decide)]⟩
theorem cw_bytes {w0 w : World} {K : DK} {D : DS} {g i p : Nat} (h : CW w0 w K D g i p) : Calls Try.prog 17 #[.pointer (some ⟨K.g, 0, none⟩)] w fun e w' => ∃ gb c, e = .returned (.slice (some ⟨gb, 0, none⟩) 640 c) ∧ 640 ≤ c ∧ Byt w' (some ⟨gb, 128, none⟩) (c - 128) (frontP p 384) ∧ w'.cell? ⟨gb, 0, none⟩ = some (.int .u8 120) ∧ w'.cell? ⟨gb, 512, none⟩ = some (.int .u8 0) ∧ Below w0.heap.size w0 w' := by
  refine (bytes_any h.el.ed.dsk).mono ?_
  rintro e w' ⟨v, rfl, hown, hb⟩
  obtain ⟨A, c, rfl, hB⟩ := own_sl hown rfl
  have hlen := h.len
  obtain ⟨gb, off, rfl, hg, hc⟩ := hB.2.2 (by rw [hlen]; decide)
  have hown2 := hown
  rw [hlen] at hown2
  obtain ⟨g', c', e'⟩ := ownsRow_succ hown2
  cases e'
  have hcap : 640 ≤ c := by have := hB.1; omega
  have k1 := hc 0 (by omega)
  have k2 := hc 512 (by omega)
  rw [h.first] at k1
  rw [h.last] at k2
  rw [Nat.zero_add] at k1 k2
  refine ⟨gb, c, by rw [hlen], hcap, ⟨by rw [frontP_len]; omega, (fun h => by cases h), fun _ => ⟨gb, 128, rfl, hg, fun j hj => ?_⟩⟩, k1, k2, h.el.ed.low.trans (hb.mono h.el.ed.low.size)⟩
  rw [frontP_len] at hj
  have k3 := hc (128 + j) (by omega)
  have k4 := ((cnt_reg (f := 1) (n := 384) (by omega)).1 h.cnt).2 j hj
  rw [Nat.zero_add] at k3
  rw [k3, frontP_get hj]
  rw [show 1 * 128 + j = 128 + j by omega] at k4
  rw [k4]
set_option maxRecDepth 100000 in
set_option maxHeartbeats 8000000 in
theorem counts_walk (x y : Int) (hx : 0 ≤ x ∧ x ≤ 65535) (hy : 0 ≤ y ∧ y ≤ 255) (w : World) :
    Calls Try.prog 4 #[.int .u16 x, .int .u8 y] w fun e w' => e = .returned (.bool true) ∧ Below w.heap.size w w' := by
  obtain ⟨s, hs, hs3⟩ : ∃ s : Nat, y % 201 = s ∧ s ≤ 200 := ⟨(y % 201).toNat, by omega, by omega⟩
  have Hs := Lib.hid hs
  clear hs
  have kconst := fun (w : World) (C : Array Value) (n c : Nat) => Lib.run_convert_bytes_const (P := Try.prog) w 22 5 C n c Try.underlying22 Try.underlying5
  go_enter Try.func4, Try.ntmps4
  go_upto_region 3 with (go_at_call 8; with_reducible refine (cw_new w).mono ?_; rintro e w1 ⟨K, rfl, hq1⟩; have Q1 := Lib.hid hq1; clear hq1)
  go_cut [7] from 20 to 21 (fun s7 wx => wx = w1 ∧ ∃ p : Nat, p ≤ 384 ∧ s7 = .int .i64 p)
  case first =>
    by_cases hm : x % 386 ≤ 384
    · go_wp2
      go_meet
      exact ⟨rfl, (x % 386).toNat, by omega, by congr 1; omega⟩
    · go_wp2
      go_meet
      exact ⟨rfl, 384, Nat.le_refl _, rfl⟩
  case rest =>
    obtain ⟨rfl, p, hp, rfl⟩ := hcut
    go_upto_region 7 with (first
      | (go_at_call 15; refine (front_any p _).mono ?_; rintro e w2 ⟨v2, rfl, hs2, hb2⟩; obtain ⟨A2, c2, hv2, hB2⟩ := hs2; rw [frontP_len] at hv2; subst hv2; have Q2 := Lib.hid (Q1.out.later hb2); have B2 := Lib.hid hB2; clear hb2 hB2)
      | (go_at_call 9; with_reducible refine (cw_put Q2.out B2.out).mono ?_; rintro e w3 ⟨rfl, hq3⟩; have Q3 := Lib.hid hq3; clear hq3)
      | (go_at_call 9; refine (cw_putx (Q3.out.later ((Below.refl _ _).alloc (Nat.le_refl _) _)) (Str.byt_rowT (l := [120]) (Go.heap_alloc_new w3 _) rfl)).mono ?_; rintro e w4 ⟨rfl, hq4⟩; have Q4 := Lib.hid hq4; clear hq4)
      | (go_at_call 11; with_reducible refine (cw_open Q4.out hp).mono ?_; rintro e w5 ⟨g, rfl, hq5⟩; have Q5 := Lib.hid hq5; clear hq5))
    have hpq := hp
    go_cut [50] from 13 to 50 (fun s50 wx => wx = w5 ∧ s50 = .bool false)
    case first =>
      go_wp2_with (go_at_call 14; with_reducible refine (cw_value Q5.out).mono ?_; rintro e w' ⟨rfl, rfl⟩)
      go_meet
      exact ⟨rfl, rfl⟩
    case rest =>
      obtain ⟨rfl, rfl⟩ := hcut
      clear Q1 Q2 B2 Q3 Q4 kconst
      go_upto_region 10 with (fail)
      go_loopw [7, 10] (fun v7 v10 wr => ∃ i q : Nat, i ≤ s ∧ p ≤ q ∧ q ≤ 384 ∧ v10 = .int .i64 i ∧ v7 = .int .i64 q ∧ ∃ D, Hid (CW w wr K D g i q)) (fun _ v _ => s - (intOf v).toNat)
      case atStart => exact ⟨0, p, Nat.zero_le _, Nat.le_refl _, hpq, rfl, rfl, _, Q5.out⟩
      case round =>
        obtain ⟨i, q, hi, hpq2, hq, rfl, rfl, D, hr⟩ := hrel
        clear Q5
        by_cases hlt : i < s
        · have hltI : (i : Int) < y % 201 := by rw [Hs.out]; omega
          by_cases hf : q = 384
          · have Hx := Lib.hid (cw_full hr.out hf)
            subst hf
            clear hr
            go_wp2_with (go_at_call 16; with_reducible refine Hx.out.mono ?_; rintro e w6 ⟨rfl, hq6⟩; have Q6 := Lib.hid hq6; clear hq6)
            exact ⟨⟨i + 1, 384, by omega, hpq2, Nat.le_refl _, by go_num, rfl, _, Q6.out⟩, by simp [intOf] <;> omega⟩
          · have Hx := Lib.hid (cw_next hr.out (by omega) (by omega))
            have hqI : ¬ (q : Int) = 384 := by omega
            clear hr
            go_wp2_with (first
              | (go_at_call 16; with_reducible refine Hx.out.mono ?_; rintro e w6 ⟨rfl, D6, hq6⟩; have Q6 := Lib.hid hq6; clear hq6)
              | (go_at_call 14; with_reducible refine (cw_value Q6.out).mono ?_; rintro e w' ⟨rfl, rfl⟩))
            exact ⟨⟨i + 1, q + 1, by omega, by omega, by omega, by go_num, by go_num, _, Q6.out⟩, by simp [intOf] <;> omega⟩
        · have hltI : ¬ (i : Int) < y % 201 := by rw [Hs.out]; omega
          have HR := Lib.hid hr.out
          clear hr
          have Hby := Lib.hid (cw_bytes HR.out)
          go_upto_region 19 with (fail)
          go_cut [12] from 51 to 75 (fun s12 wx => ∃ gb c, s12 = .slice (some ⟨gb, 0, none⟩) 640 c ∧ 640 ≤ c ∧ Byt wx (some ⟨gb, 128, none⟩) (c - 128) (frontP q 384) ∧ wx.cell? ⟨gb, 0, none⟩ = some (.int .u8 120) ∧ wx.cell? ⟨gb, 512, none⟩ = some (.int .u8 0) ∧ Below w.heap.size w wx)
          case first =>
            go_wp2_with (go_at_call 17; with_reducible refine Hby.out.mono ?_; rintro e wb ⟨gb, cb, rfl, hb⟩; have HB := Lib.hid hb; clear hb)
            go_meet
            exact ⟨_, _, rfl, HB.out⟩
          case rest =>
            obtain ⟨gb, cb, rfl, hcb, hbb, hb1, hb2, hbl⟩ := hcut
            have HB := Lib.hid hbb
            have CX1 := Lib.hid hb1
            have CX2 := Lib.hid hb2
            have HLow := Lib.hid hbl
            clear hbb hb1 hb2 hbl Hby HR
            rename World => wb
            go_upto_region 20 with (fail)
            have apx : apartB [76, 77, 78, 79, 80, 81, 82, 83, 84, 85, 86, 87, 88, 89, 90, 91, 92, 93, 94, 95, 96, 97, 98, 99, 100, 101, 102, 4] = true := by decide
            refine wp_region_any (by kernel_rfl) ?_
            change wpAny _ _ _ _ _ _ _ (World.drew _)
            refine wpAny_inv (fun ll aa wx => Hid (ll.size = 28 ∧ Below wb.heap.size wb wx) ∧ ∃ (z : Nat → Value), Hid (aa = ⟨#[.int .u16 x, .int .u8 y, undef, undef, z 4, .pointer (some ⟨K.g, 0, none⟩), .int .i64 0, .int .i64 (q : Nat), .pointer (some ⟨g, 0, none⟩), .int .i64 0, .int .i64 (i : Nat), u11, .slice (some ⟨gb, 0, none⟩) 640 cb, u13, u14, u15, u16, u17, u18, u19, u20, u21, u22, u23, u24, u25, u26, u27, u28, u29, u30, u31, u32, u33, u34, u35, u36, u37, u38, u39, u40, u41, u42, u43, u44, u45, u46, u47, u48, u49, .bool false, u51, u52, u53, u54, u55, u56, u57, u58, u59, u60, u61, u62, u63, u64, u65, u66, u67, u68, u69, u70, u71, u72, u73, u74, u75, z 76, z 77, z 78, z 79, z 80, z 81, z 82, z 83, z 84, z 85, z 86, z 87, z 88, z 89, z 90, z 91, z 92, z 93, z 94, z 95, z 96, z 97, z 98, z 99, z 100, z 101, z 102], []⟩) ∧ Holding [76, 77, 78, 79, 80, 81, 82, 83, 84, 85, 86, 87, 88, 89, 90, 91, 92, 93, 94, 95, 96, 97, 98, 99, 100, 101, 102, 4] [some (.slice (some ⟨gb, 0, none⟩) 640 cb), some (.int .i64 640), some (.bool true), some (.bool true), some (.slice (some ⟨gb, 0, none⟩) 640 cb), some (.pointer (some ⟨gb, 0, none⟩)), some (.int .u8 120), some (.bool true), some (.bool true), some (.bool true), some (.slice (some ⟨gb, 0, none⟩) 640 cb), some (.slice (some ⟨gb, 128, none⟩) 384 (cb - 128)), some (.string (strOfNums (frontP q 384))), some (.int .i64 (q : Nat)), none, some (.string (strOfNums (frontP q 384))), some (.bool true), some (.bool true), some (.bool true), some (.slice (some ⟨gb, 0, none⟩) 640 cb), some (.pointer (some ⟨gb, 512, none⟩)), some (.int .u8 0), some (.bool true), some (.bool true), some (.bool true), some (.bool true), some (.bool true), some (.bool true)] ll z ∧ Whn ll 14 (SlB (frontP q 384)) (z 90) wx) ?_ (by kernel_rfl) ?_ ?_ _ _ _ _ (unlisted_none _) ?_
            · rintro ll aa wx ⟨hI, _⟩
              exact hI.out.1
            · rintro ll aa wx ⟨hI, z, ha, hz, hp14⟩ hall
              have hx := Lib.hid hI.out.2
              have e0 : z 76 = .slice (some ⟨gb, 0, none⟩) 640 cb := hz 0 _ (hall 0 (by decide)) rfl
              have e1 : z 77 = .int .i64 640 := hz 1 _ (hall 1 (by decide)) rfl
              have e2 : z 78 = .bool true := hz 2 _ (hall 2 (by decide)) rfl
              have e3 : z 79 = .bool true := hz 3 _ (hall 3 (by decide)) rfl
              have e4 : z 80 = .slice (some ⟨gb, 0, none⟩) 640 cb := hz 4 _ (hall 4 (by decide)) rfl
              have e5 : z 81 = .pointer (some ⟨gb, 0, none⟩) := hz 5 _ (hall 5 (by decide)) rfl
              have e6 : z 82 = .int .u8 120 := hz 6 _ (hall 6 (by decide)) rfl
              have e7 : z 83 = .bool true := hz 7 _ (hall 7 (by decide)) rfl
              have e8 : z 84 = .bool true := hz 8 _ (hall 8 (by decide)) rfl
              have e9 : z 85 = .bool true := hz 9 _ (hall 9 (by decide)) rfl
              have e10 : z 86 = .slice (some ⟨gb, 0, none⟩) 640 cb := hz 10 _ (hall 10 (by decide)) rfl
              have e11 : z 87 = .slice (some ⟨gb, 128, none⟩) 384 (cb - 128) := hz 11 _ (hall 11 (by decide)) rfl
              have e12 : z 88 = .string (strOfNums (frontP q 384)) := hz 12 _ (hall 12 (by decide)) rfl
              have e13 : z 89 = .int .i64 (q : Nat) := hz 13 _ (hall 13 (by decide)) rfl
              have e15 : z 91 = .string (strOfNums (frontP q 384)) := hz 15 _ (hall 15 (by decide)) rfl
              have e16 : z 92 = .bool true := hz 16 _ (hall 16 (by decide)) rfl
              have e17 : z 93 = .bool true := hz 17 _ (hall 17 (by decide)) rfl
              have e18 : z 94 = .bool true := hz 18 _ (hall 18 (by decide)) rfl
              have e19 : z 95 = .slice (some ⟨gb, 0, none⟩) 640 cb := hz 19 _ (hall 19 (by decide)) rfl
              have e20 : z 96 = .pointer (some ⟨gb, 512, none⟩) := hz 20 _ (hall 20 (by decide)) rfl
              have e21 : z 97 = .int .u8 0 := hz 21 _ (hall 21 (by decide)) rfl
              have e22 : z 98 = .bool true := hz 22 _ (hall 22 (by decide)) rfl
              have e23 : z 99 = .bool true := hz 23 _ (hall 23 (by decide)) rfl
              have e24 : z 100 = .bool true := hz 24 _ (hall 24 (by decide)) rfl
              have e25 : z 101 = .bool true := hz 25 _ (hall 25 (by decide)) rfl
              have e26 : z 102 = .bool true := hz 26 _ (hall 26 (by decide)) rfl
              have e27 : z 4 = .bool true := hz 27 _ (hall 27 (by decide)) rfl
              have p14 := hp14.get (hall 14 (by decide))
              clear hall hz hI hp14
              obtain rfl := ha.out
              clear ha
              clear apx
              clear e0 e1 e2 e3 e4 e5 e6 e7 e8 e9 e10 e11 e12 e13 e15 e16 e17 e18 e19 e20 e21 e22 e23 e24 e25 e26
              have Hl := Lib.hid (HLow.out.trans (hx.out.mono HLow.out.size))
              go_wp2
              go_ret
              exact ⟨by simp, Hl.out⟩
            · rintro ll aa wx i ⟨hI, z, ha, hz, hp14⟩ hi hu hw
              obtain rfl := ha.out
              have hsz := Lib.hid hI.out.1
              have hx := Lib.hid hI.out.2
              clear ha hI
              have hin : i < 28 := hi
              obtain rfl | rfl | rfl | rfl | rfl | rfl | rfl | rfl | rfl | rfl | rfl | rfl | rfl | rfl | rfl | rfl | rfl | rfl | rfl | rfl | rfl | rfl | rfl | rfl | rfl | rfl | rfl | rfl : i = 0 ∨ i = 1 ∨ i = 2 ∨ i = 3 ∨ i = 4 ∨ i = 5 ∨ i = 6 ∨ i = 7 ∨ i = 8 ∨ i = 9 ∨ i = 10 ∨ i = 11 ∨ i = 12 ∨ i = 13 ∨ i = 14 ∨ i = 15 ∨ i = 16 ∨ i = 17 ∨ i = 18 ∨ i = 19 ∨ i = 20 ∨ i = 21 ∨ i = 22 ∨ i = 23 ∨ i = 24 ∨ i = 25 ∨ i = 26 ∨ i = 27 := by omega
              · refine wpOp_plain rfl rfl ?_
                go_simp
                exact ⟨⟨by simp [hsz.out], hx.out⟩, upd z 76 (.slice (some ⟨gb, 0, none⟩) 640 cb), (by unfold Hid; simp [upd]), hz.next apx hsz.out 0 (by decide) _ (fun _ h => Option.some.inj h), hp14.keep (by decide)⟩
              · have e0 : z 76 = .slice (some ⟨gb, 0, none⟩) 640 cb := hz 0 _ (hw 0 (by kernel_rfl)) rfl
                refine wpOp_plain rfl rfl ?_
                go_simp
                exact ⟨⟨by simp [hsz.out], hx.out⟩, upd z 77 (.int .i64 640), (by unfold Hid; simp [upd, e0]), hz.next apx hsz.out 1 (by decide) _ (fun _ h => Option.some.inj h), hp14.keep (by decide)⟩
              · have e1 : z 77 = .int .i64 640 := hz 1 _ (hw 1 (by kernel_rfl)) rfl
                refine wpOp_plain rfl rfl ?_
                go_simp
                exact ⟨⟨by simp [hsz.out], hx.out⟩, upd z 78 (.bool true), (by unfold Hid; simp [upd, e1]), hz.next apx hsz.out 2 (by decide) _ (fun _ h => Option.some.inj h), hp14.keep (by decide)⟩
              · have e2 : z 78 = .bool true := hz 2 _ (hw 2 (by kernel_rfl)) rfl
                refine wpOp_plain rfl rfl ?_
                go_simp
                exact ⟨⟨by simp [hsz.out], hx.out⟩, upd z 79 (.bool true), (by unfold Hid; simp [upd, e2]), hz.next apx hsz.out 3 (by decide) _ (fun _ h => Option.some.inj h), hp14.keep (by decide)⟩
              · have e3 : z 79 = .bool true := hz 3 _ (hw 3 (by kernel_rfl)) rfl
                refine wpOp_want rfl (by simp [Region.wanted, yielded, e3]) ?_
                go_simp
                exact ⟨⟨by simp [hsz.out], hx.out⟩, upd z 80 (.slice (some ⟨gb, 0, none⟩) 640 cb), (by unfold Hid; simp [upd, e3]), hz.next apx hsz.out 4 (by decide) _ (fun _ h => Option.some.inj h), hp14.keep (by decide)⟩
              · have e3 : z 79 = .bool true := hz 3 _ (hw 3 (by kernel_rfl)) rfl
                have e4 : z 80 = .slice (some ⟨gb, 0, none⟩) 640 cb := hz 4 _ (hw 4 (by kernel_rfl)) rfl
                refine wpOp_want rfl (by simp [Region.wanted, yielded, e3]) ?_
                go_simp
                exact ⟨⟨by simp [hsz.out], hx.out⟩, upd z 81 (.pointer (some ⟨gb, 0, none⟩)), (by unfold Hid; simp [upd, e3, e4]), hz.next apx hsz.out 5 (by decide) _ (fun _ h => Option.some.inj h), hp14.keep (by decide)⟩
              · have e3 : z 79 = .bool true := hz 3 _ (hw 3 (by kernel_rfl)) rfl
                have e5 : z 81 = .pointer (some ⟨gb, 0, none⟩) := hz 5 _ (hw 5 (by kernel_rfl)) rfl
                have cl : wx.cell? ⟨gb, 0, none⟩ = some (.int .u8 120) := (hx.out.cell (p := ⟨gb, 0, none⟩) (World.block_lt_of_cell? _ _ CX1.out)).trans CX1.out
                refine wpOp_want rfl (by simp [Region.wanted, yielded, e3]) ?_
                go_simp
                exact ⟨⟨by simp [hsz.out], hx.out⟩, upd z 82 (.int .u8 120), (by unfold Hid; simp [upd, e3, e5]), hz.next apx hsz.out 6 (by decide) _ (fun _ h => Option.some.inj h), hp14.keep (by decide)⟩
              · have e3 : z 79 = .bool true := hz 3 _ (hw 3 (by kernel_rfl)) rfl
                have e6 : z 82 = .int .u8 120 := hz 6 _ (hw 6 (by kernel_rfl)) rfl
                refine wpOp_want rfl (by simp [Region.wanted, yielded, e3]) ?_
                go_simp
                exact ⟨⟨by simp [hsz.out], hx.out⟩, upd z 83 (.bool true), (by unfold Hid; simp [upd, e3, e6]), hz.next apx hsz.out 7 (by decide) _ (fun _ h => Option.some.inj h), hp14.keep (by decide)⟩
              · have e3 : z 79 = .bool true := hz 3 _ (hw 3 (by kernel_rfl)) rfl
                have e7 : z 83 = .bool true := hz 7 _ (hw 7 (by kernel_rfl)) rfl
                refine wpOp_plain rfl rfl ?_
                go_simp
                exact ⟨⟨by simp [hsz.out], hx.out⟩, upd z 84 (.bool true), (by unfold Hid; simp [upd, e3, e7]), hz.next apx hsz.out 8 (by decide) _ (fun _ h => Option.some.inj h), hp14.keep (by decide)⟩
              · have e8 : z 84 = .bool true := hz 8 _ (hw 8 (by kernel_rfl)) rfl
                refine wpOp_plain rfl rfl ?_
                go_simp
                exact ⟨⟨by simp [hsz.out], hx.out⟩, upd z 85 (.bool true), (by unfold Hid; simp [upd, e8]), hz.next apx hsz.out 9 (by decide) _ (fun _ h => Option.some.inj h), hp14.keep (by decide)⟩
              · have e9 : z 85 = .bool true := hz 9 _ (hw 9 (by kernel_rfl)) rfl
                refine wpOp_want rfl (by simp [Region.wanted, yielded, e9]) ?_
                go_simp
                exact ⟨⟨by simp [hsz.out], hx.out⟩, upd z 86 (.slice (some ⟨gb, 0, none⟩) 640 cb), (by unfold Hid; simp [upd, e9]), hz.next apx hsz.out 10 (by decide) _ (fun _ h => Option.some.inj h), hp14.keep (by decide)⟩
              · have e9 : z 85 = .bool true := hz 9 _ (hw 9 (by kernel_rfl)) rfl
                have e10 : z 86 = .slice (some ⟨gb, 0, none⟩) 640 cb := hz 10 _ (hw 10 (by kernel_rfl)) rfl
                have q1 : (512 : Int) ≤ (cb : Int) := by omega
                have q2 : ¬ cb = 128 := by omega
                refine wpOp_want rfl (by simp [Region.wanted, yielded, e9]) ?_
                go_simp
                exact ⟨⟨by simp [hsz.out], hx.out⟩, upd z 87 (.slice (some ⟨gb, 128, none⟩) 384 (cb - 128)), (by unfold Hid; simp [upd, e9, e10]), hz.next apx hsz.out 11 (by decide) _ (fun _ h => Option.some.inj h), hp14.keep (by decide)⟩
              · have e9 : z 85 = .bool true := hz 9 _ (hw 9 (by kernel_rfl)) rfl
                have e11 : z 87 = .slice (some ⟨gb, 128, none⟩) 384 (cb - 128) := hz 11 _ (hw 11 (by kernel_rfl)) rfl
                have cv := Str.conv_any (HB.out.below hx.out (Nat.le_refl _)) (frontP_len q 384)
                refine wpOp_want rfl (by simp [Region.wanted, yielded, e9]) ?_
                go_simp
                exact ⟨⟨by simp [hsz.out], hx.out⟩, upd z 88 (.string (strOfNums (frontP q 384))), (by unfold Hid; simp [upd, e9, e11]), hz.next apx hsz.out 12 (by decide) _ (fun _ h => Option.some.inj h), hp14.keep (by decide)⟩
              · have e9 : z 85 = .bool true := hz 9 _ (hw 9 (by kernel_rfl)) rfl
                refine wpOp_want rfl (by simp [Region.wanted, yielded, e9]) ?_
                go_simp
                exact ⟨⟨by simp [hsz.out], hx.out⟩, upd z 89 (.int .i64 (q : Nat)), (by unfold Hid; simp [upd, e9]), hz.next apx hsz.out 13 (by decide) _ (fun _ h => Option.some.inj h), hp14.keep (by decide)⟩
              · have e9 : z 85 = .bool true := hz 9 _ (hw 9 (by kernel_rfl)) rfl
                have e13 : z 89 = .int .i64 (q : Nat) := hz 13 _ (hw 13 (by kernel_rfl)) rfl
                refine wpOp_want rfl (by simp [Region.wanted, yielded, e9]) ?_
                go_simp
                go_at_call 15
                refine (front_any q _).mono ?_
                rintro e w' ⟨vr, rfl, sl, low⟩
                exact ⟨⟨by simp [hsz.out], hx.out.trans (low.mono hx.out.size)⟩, upd z 90 (vr), (by unfold Hid; simp [upd, e9, e13]), hz.next apx hsz.out 14 (by decide) _ (fun _ h => by cases h), Whn.done (sl)⟩
              · have e9 : z 85 = .bool true := hz 9 _ (hw 9 (by kernel_rfl)) rfl
                have p14 := hp14.get (hw 14 (by kernel_rfl))
                obtain ⟨A3, c3, e14, b3⟩ := p14
                refine wpOp_want rfl (by simp [Region.wanted, yielded, e9]) ?_
                have cv := Str.conv_any b3 rfl
                go_simp
                exact ⟨⟨by simp [hsz.out], hx.out⟩, upd z 91 (.string (strOfNums (frontP q 384))), (by unfold Hid; simp [upd, e9, e14]), hz.next apx hsz.out 15 (by decide) _ (fun _ h => Option.some.inj h), hp14.keep (by decide)⟩
              · have e9 : z 85 = .bool true := hz 9 _ (hw 9 (by kernel_rfl)) rfl
                have e12 : z 88 = .string (strOfNums (frontP q 384)) := hz 12 _ (hw 12 (by kernel_rfl)) rfl
                have e15 : z 91 = .string (strOfNums (frontP q 384)) := hz 15 _ (hw 15 (by kernel_rfl)) rfl
                refine wpOp_want rfl (by simp [Region.wanted, yielded, e9]) ?_
                go_simp
                exact ⟨⟨by simp [hsz.out], hx.out⟩, upd z 92 (.bool true), (by unfold Hid; simp [upd, e9, e12, e15]), hz.next apx hsz.out 16 (by decide) _ (fun _ h => Option.some.inj h), hp14.keep (by decide)⟩
              · have e9 : z 85 = .bool true := hz 9 _ (hw 9 (by kernel_rfl)) rfl
                have e16 : z 92 = .bool true := hz 16 _ (hw 16 (by kernel_rfl)) rfl
                refine wpOp_plain rfl rfl ?_
                go_simp
                exact ⟨⟨by simp [hsz.out], hx.out⟩, upd z 93 (.bool true), (by unfold Hid; simp [upd, e9, e16]), hz.next apx hsz.out 17 (by decide) _ (fun _ h => Option.some.inj h), hp14.keep (by decide)⟩
              · have e17 : z 93 = .bool true := hz 17 _ (hw 17 (by kernel_rfl)) rfl
                refine wpOp_plain rfl rfl ?_
                go_simp
                exact ⟨⟨by simp [hsz.out], hx.out⟩, upd z 94 (.bool true), (by unfold Hid; simp [upd, e17]), hz.next apx hsz.out 18 (by decide) _ (fun _ h => Option.some.inj h), hp14.keep (by decide)⟩
              · have e18 : z 94 = .bool true := hz 18 _ (hw 18 (by kernel_rfl)) rfl
                refine wpOp_want rfl (by simp [Region.wanted, yielded, e18]) ?_
                go_simp
                exact ⟨⟨by simp [hsz.out], hx.out⟩, upd z 95 (.slice (some ⟨gb, 0, none⟩) 640 cb), (by unfold Hid; simp [upd, e18]), hz.next apx hsz.out 19 (by decide) _ (fun _ h => Option.some.inj h), hp14.keep (by decide)⟩
              · have e18 : z 94 = .bool true := hz 18 _ (hw 18 (by kernel_rfl)) rfl
                have e19 : z 95 = .slice (some ⟨gb, 0, none⟩) 640 cb := hz 19 _ (hw 19 (by kernel_rfl)) rfl
                refine wpOp_want rfl (by simp [Region.wanted, yielded, e18]) ?_
                go_simp
                exact ⟨⟨by simp [hsz.out], hx.out⟩, upd z 96 (.pointer (some ⟨gb, 512, none⟩)), (by unfold Hid; simp [upd, e18, e19]), hz.next apx hsz.out 20 (by decide) _ (fun _ h => Option.some.inj h), hp14.keep (by decide)⟩
              · have e18 : z 94 = .bool true := hz 18 _ (hw 18 (by kernel_rfl)) rfl
                have e20 : z 96 = .pointer (some ⟨gb, 512, none⟩) := hz 20 _ (hw 20 (by kernel_rfl)) rfl
                have cl : wx.cell? ⟨gb, 512, none⟩ = some (.int .u8 0) := (hx.out.cell (p := ⟨gb, 512, none⟩) (World.block_lt_of_cell? _ _ CX2.out)).trans CX2.out
                refine wpOp_want rfl (by simp [Region.wanted, yielded, e18]) ?_
                go_simp
                exact ⟨⟨by simp [hsz.out], hx.out⟩, upd z 97 (.int .u8 0), (by unfold Hid; simp [upd, e18, e20]), hz.next apx hsz.out 21 (by decide) _ (fun _ h => Option.some.inj h), hp14.keep (by decide)⟩
              · have e18 : z 94 = .bool true := hz 18 _ (hw 18 (by kernel_rfl)) rfl
                have e21 : z 97 = .int .u8 0 := hz 21 _ (hw 21 (by kernel_rfl)) rfl
                refine wpOp_want rfl (by simp [Region.wanted, yielded, e18]) ?_
                go_simp
                exact ⟨⟨by simp [hsz.out], hx.out⟩, upd z 98 (.bool true), (by unfold Hid; simp [upd, e18, e21]), hz.next apx hsz.out 22 (by decide) _ (fun _ h => Option.some.inj h), hp14.keep (by decide)⟩
              · have e18 : z 94 = .bool true := hz 18 _ (hw 18 (by kernel_rfl)) rfl
                have e22 : z 98 = .bool true := hz 22 _ (hw 22 (by kernel_rfl)) rfl
                refine wpOp_plain rfl rfl ?_
                go_simp
                exact ⟨⟨by simp [hsz.out], hx.out⟩, upd z 99 (.bool true), (by unfold Hid; simp [upd, e18, e22]), hz.next apx hsz.out 23 (by decide) _ (fun _ h => Option.some.inj h), hp14.keep (by decide)⟩
              · have e23 : z 99 = .bool true := hz 23 _ (hw 23 (by kernel_rfl)) rfl
                refine wpOp_plain rfl rfl ?_
                go_simp
                exact ⟨⟨by simp [hsz.out], hx.out⟩, upd z 100 (.bool true), (by unfold Hid; simp [upd, e23]), hz.next apx hsz.out 24 (by decide) _ (fun _ h => Option.some.inj h), hp14.keep (by decide)⟩
              · have e24 : z 100 = .bool true := hz 24 _ (hw 24 (by kernel_rfl)) rfl
                refine wpOp_want rfl (by simp [Region.wanted, yielded, e24]) ?_
                go_simp
                go_at_call 12
                refine (works_any _).mono ?_
                rintro e w' ⟨rfl, low⟩
                exact ⟨⟨by simp [hsz.out], hx.out.trans (low.mono hx.out.size)⟩, upd z 101 (.bool true), (by unfold Hid; simp [upd, e24]), hz.next apx hsz.out 25 (by decide) _ (fun _ h => Option.some.inj h), (hp14.keep (by decide)).map (fun h => h.later low)⟩
              · have e24 : z 100 = .bool true := hz 24 _ (hw 24 (by kernel_rfl)) rfl
                have e25 : z 101 = .bool true := hz 25 _ (hw 25 (by kernel_rfl)) rfl
                refine wpOp_plain rfl rfl ?_
                go_simp
                exact ⟨⟨by simp [hsz.out], hx.out⟩, upd z 102 (.bool true), (by unfold Hid; simp [upd, e24, e25]), hz.next apx hsz.out 26 (by decide) _ (fun _ h => Option.some.inj h), hp14.keep (by decide)⟩
              · have e26 : z 102 = .bool true := hz 26 _ (hw 26 (by kernel_rfl)) rfl
                refine wpOp_plain rfl rfl ?_
                go_simp
                exact ⟨⟨by simp [hsz.out], hx.out⟩, upd z 4 (.bool true), (by unfold Hid; simp [upd, e26]), hz.next apx hsz.out 27 (by decide) _ (fun _ h => Option.some.inj h), hp14.keep (by decide)⟩
            · exact ⟨⟨rfl, (Below.refl _ _).drew⟩, fun xx => (#[.int .u16 x, .int .u8 y, undef, undef, u4, .pointer (some ⟨K.g, 0, none⟩), .int .i64 0, .int .i64 (q : Nat), .pointer (some ⟨g, 0, none⟩), .int .i64 0, .int .i64 (i : Nat), u11, .slice (some ⟨gb, 0, none⟩) 640 cb, u13, u14, u15, u16, u17, u18, u19, u20, u21, u22, u23, u24, u25, u26, u27, u28, u29, u30, u31, u32, u33, u34, u35, u36, u37, u38, u39, u40, u41, u42, u43, u44, u45, u46, u47, u48, u49, .bool false, u51, u52, u53, u54, u55, u56, u57, u58, u59, u60, u61, u62, u63, u64, u65, u66, u67, u68, u69, u70, u71, u72, u73, u74, u75, undef, undef, undef, undef, undef, undef, undef, undef, undef, undef, undef, undef, undef, undef, undef, undef, undef, undef, undef, undef, undef, undef, undef, undef, undef, undef, undef] : Array Value).getD xx undef, rfl, Holding.start, Whn.none (by decide)⟩
end Go.Proofs.Ytlofnpebknfmkaa.Epo
