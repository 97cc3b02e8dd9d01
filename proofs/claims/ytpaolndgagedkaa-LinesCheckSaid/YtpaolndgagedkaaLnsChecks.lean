/- DERIVED. The walk of LinesCheck. Written by mkchecks.py. -/
import Derived.Test.YtpaolndgagedkaaLnsWorks
import Derived.Test.YtpaolndgagedkaaLnsOpen
import Derived.Test.YtpaolndgagedkaaSlUntil
namespace Go.Proofs.Ytpaolndgagedkaa.Lns
open Go.RowKit
set_option maxRecDepth 100000 in
set_option maxHeartbeats 8000000 in
theorem check_walk (L : List ByteArray) (v : Value) (w : World) (hL : Laid w) (hR : RdT L v w) (hnil : ∀ n c, v = .slice none n c → c = 0) (hn9 : L.length ≤ 140737488355328) (hz : ∀ x ∈ L, x.size ≤ 140737488355328) : Calls Try.prog 4 #[v] w fun e w' => e = .returned (.bool true) ∧ Below w.heap.size w w' := by
  have HL := Lib.hid hL
  have HB := Lib.hid (bytes_any L v w hR hn9 hz)
  have HR := Lib.hid hR
  obtain ⟨A, c, rfl, hc, hk⟩ := hR
  have HK := Lib.hid hk
  have hnil' : A = none → c = 0 := fun h => hnil L.length c (by rw [h])
  have Hnil := Lib.hid hnil'
  obtain ⟨n, hn⟩ : ∃ n, n = L.length := ⟨_, rfl⟩
  rw [← hn] at HB HR ⊢
  have Hn := Lib.hid hn
  clear hL hk hn hz hc hnil hnil'
  go_enter Try.func4, Try.ntmps4
  go_wp2_with fail
  refine HB.out.mono ?_
  rintro e w1 ⟨⟨m, rfl, hm⟩, rfl⟩
  by_cases h2 : m ≤ 20000
  · have h2I : ¬ 20000 < m := by omega
    have Hm := Lib.hid (hm h2)
    clear hm
    have hO1 := own_emptyT w
    have hlow1 : Below w.heap.size w (w.alloc (.cells #[] 9)) := (Below.refl _ _).alloc (Nat.le_refl _) _
    have hR1 := HR.out.below hlow1 (Nat.le_refl _)
    have HO1 := Lib.hid hO1
    have Hlow1 := Lib.hid hlow1
    have HR1 := Lib.hid hR1
    clear hO1 hlow1 hR1
    have hn2 : n ≤ 20000 := by have := Hm.out; omega
    go_wp2_with (at_builtin; refine wpList_append_txts rfl (.tmp 9) (.tmp 10) rfl w.heap.size _ rfl HO1.out A n c L rfl Hn.out HR1.out Hnil.out (by omega) (by rw [World.size_alloc]; omega) ?_; intro v' w2 O2 g2; obtain ⟨B, d, rfl, _, _⟩ := O2.rd; rw [← Hn.out]; have HO2 := Lib.hid O2; have Low2 := Lib.hid (g2 _ Hlow1.out); clear O2 g2)
    go_loopw [4] (fun i wr => ∃ k : Nat, i = .int .i64 k ∧ k ≤ n ∧ Hid (Below w2.heap.size w2 wr)) (fun i _ => n - (intOf i).toNat)
    case atStart => exact ⟨0, rfl, Nat.zero_le _, Below.refl _ _⟩
    case round =>
      obtain ⟨k, rfl, hk, Hb⟩ := hrel
      have Hb0 := Lib.hid (Low2.out.trans (Hb.out.mono Low2.out.size))
      by_cases hp : k < n
      · have hpI : (k : Int) < n := by omega
        have hpl : k < L.length := by rw [← Hn.out]; exact hp
        obtain ⟨g, off, rfl, hg, hcell⟩ := HK.out (by omega)
        have Hc : Hid (wr.cell? ⟨g, off + k, none⟩ = some (.string (nth L k))) := (Hb0.out.cell (p := ⟨g, off + k, none⟩) hg).trans (hcell k hpl)
        have Hsz : Hid ((nth L k).size ≤ 1000000) := by
          have h1 := tot_le (nth_mem hpl)
          have h2 := Hm.out
          show _ ≤ _
          omega
        obtain ⟨x, hx⟩ : ∃ x, x = nth L k := ⟨_, rfl⟩
        rw [← hx] at Hc Hsz
        obtain ⟨b1, hb1⟩ : ∃ b1, b1 = isB x := ⟨_, rfl⟩
        obtain ⟨m1, hm1⟩ : ∃ m1, m1 = mkrB x := ⟨_, rfl⟩
        have Hb1 := Lib.hid hb1
        have Hm1 := Lib.hid hm1
        have hkI : 0 ≤ (k : Int) := by omega
        clear hcell hx hb1 hm1
        go_upto_region 7 with fail
        have apx : apartB [18, 19, 20, 21, 22, 23, 24, 25, 26, 27, 28, 29, 30, 31, 32, 33, 34, 35, 36, 37, 38, 39, 40, 41] = true := by decide
        refine wp_region_any (by kernel_rfl) ?_
        change wpAny _ _ _ _ _ _ _ (World.drew _)
        refine wpAny_inv (fun ll aa wx => Hid (ll.size = 24 ∧ Below wr.heap.size wr wx) ∧ ∃ (z : Nat → Value), Hid (aa = ⟨#[.slice (some ⟨g, off, none⟩) n c, undef, u2, .slice B n d, .int .i64 ((k : Nat) : Int), .slice (some ⟨g, off, none⟩) n c, .int .i64 m, .bool (decide (20000 < m)), undef, .slice (some ⟨w.heap.size, 0, none⟩) 0 0, .slice (some ⟨g, off, none⟩) n c, .slice B n d, .int .i64 ((k : Nat) : Int), .slice (some ⟨g, off, none⟩) n c, .int .i64 ((n : Nat) : Int), .bool true, u16, u17, z 18, z 19, z 20, z 21, z 22, z 23, z 24, z 25, z 26, z 27, z 28, z 29, z 30, z 31, z 32, z 33, z 34, z 35, z 36, z 37, z 38, z 39, z 40, z 41, undef, undef, undef, undef, undef, undef, undef, undef, undef, undef, undef, undef, undef, undef, undef, undef, undef, undef, undef, undef], []⟩) ∧ Holding [18, 19, 20, 21, 22, 23, 24, 25, 26, 27, 28, 29, 30, 31, 32, 33, 34, 35, 36, 37, 38, 39, 40, 41] [some (.slice (some ⟨g, off, none⟩) n c), some (.int .i64 ((k : Nat) : Int)), some (.pointer (some ⟨g, off + k, none⟩)), some (.string x), some (.bool b1), some (.slice (some ⟨g, off, none⟩) n c), some (.int .i64 ((k : Nat) : Int)), some (.pointer (some ⟨g, off + k, none⟩)), some (.string x), some (.bool b1), some (.bool false), some (.bool false), some (.slice (some ⟨g, off, none⟩) n c), some (.int .i64 ((k : Nat) : Int)), some (.pointer (some ⟨g, off + k, none⟩)), some (.string x), some (.bool m1), some (.slice (some ⟨g, off, none⟩) n c), some (.int .i64 ((k : Nat) : Int)), some (.pointer (some ⟨g, off + k, none⟩)), some (.string x), some (.bool m1), some (.bool false), some (.bool false)] ll z) ?_ (by kernel_rfl) ?_ ?_ _ _ _ _ (unlisted_none _) ?_
        · rintro ll aa wx ⟨hI, _⟩
          exact hI.out.1
        · rintro ll aa wx ⟨hI, z, ha, hz⟩ hall
          have hx := Lib.hid hI.out.2
          have e0 : z 18 = .slice (some ⟨g, off, none⟩) n c := hz 0 _ (hall 0 (by decide)) rfl
          have e1 : z 19 = .int .i64 ((k : Nat) : Int) := hz 1 _ (hall 1 (by decide)) rfl
          have e2 : z 20 = .pointer (some ⟨g, off + k, none⟩) := hz 2 _ (hall 2 (by decide)) rfl
          have e3 : z 21 = .string x := hz 3 _ (hall 3 (by decide)) rfl
          have e4 : z 22 = .bool b1 := hz 4 _ (hall 4 (by decide)) rfl
          have e5 : z 23 = .slice (some ⟨g, off, none⟩) n c := hz 5 _ (hall 5 (by decide)) rfl
          have e6 : z 24 = .int .i64 ((k : Nat) : Int) := hz 6 _ (hall 6 (by decide)) rfl
          have e7 : z 25 = .pointer (some ⟨g, off + k, none⟩) := hz 7 _ (hall 7 (by decide)) rfl
          have e8 : z 26 = .string x := hz 8 _ (hall 8 (by decide)) rfl
          have e9 : z 27 = .bool b1 := hz 9 _ (hall 9 (by decide)) rfl
          have e10 : z 28 = .bool false := hz 10 _ (hall 10 (by decide)) rfl
          have e11 : z 29 = .bool false := hz 11 _ (hall 11 (by decide)) rfl
          have e12 : z 30 = .slice (some ⟨g, off, none⟩) n c := hz 12 _ (hall 12 (by decide)) rfl
          have e13 : z 31 = .int .i64 ((k : Nat) : Int) := hz 13 _ (hall 13 (by decide)) rfl
          have e14 : z 32 = .pointer (some ⟨g, off + k, none⟩) := hz 14 _ (hall 14 (by decide)) rfl
          have e15 : z 33 = .string x := hz 15 _ (hall 15 (by decide)) rfl
          have e16 : z 34 = .bool m1 := hz 16 _ (hall 16 (by decide)) rfl
          have e17 : z 35 = .slice (some ⟨g, off, none⟩) n c := hz 17 _ (hall 17 (by decide)) rfl
          have e18 : z 36 = .int .i64 ((k : Nat) : Int) := hz 18 _ (hall 18 (by decide)) rfl
          have e19 : z 37 = .pointer (some ⟨g, off + k, none⟩) := hz 19 _ (hall 19 (by decide)) rfl
          have e20 : z 38 = .string x := hz 20 _ (hall 20 (by decide)) rfl
          have e21 : z 39 = .bool m1 := hz 21 _ (hall 21 (by decide)) rfl
          have e22 : z 40 = .bool false := hz 22 _ (hall 22 (by decide)) rfl
          have e23 : z 41 = .bool false := hz 23 _ (hall 23 (by decide)) rfl
          clear hall hz hI 
          obtain rfl := ha.out
          clear ha
          clear apx
          have E := Lib.hid e23
          have HX2 := Lib.hid hx.out
          clear e0 e1 e2 e3 e4 e5 e6 e7 e8 e9 e10 e11 e12 e13 e14 e15 e16 e17 e18 e19 e20 e21 e22 e23 hx
          rw [E.out]
          go_wp2
          go_roundw
          case rel => exact ⟨k + 1, by go_num, by omega, Hb.out.trans (HX2.out.mono Hb.out.size)⟩
          case measure => simp [intOf]; omega
        · rintro ll aa wx i ⟨hI, z, ha, hz⟩ hi hu hw
          obtain rfl := ha.out
          have hsz := Lib.hid hI.out.1
          have hx := Lib.hid hI.out.2
          clear ha hI
          have hin : i < 24 := hi
          obtain rfl | rfl | rfl | rfl | rfl | rfl | rfl | rfl | rfl | rfl | rfl | rfl | rfl | rfl | rfl | rfl | rfl | rfl | rfl | rfl | rfl | rfl | rfl | rfl : i = 0 ∨ i = 1 ∨ i = 2 ∨ i = 3 ∨ i = 4 ∨ i = 5 ∨ i = 6 ∨ i = 7 ∨ i = 8 ∨ i = 9 ∨ i = 10 ∨ i = 11 ∨ i = 12 ∨ i = 13 ∨ i = 14 ∨ i = 15 ∨ i = 16 ∨ i = 17 ∨ i = 18 ∨ i = 19 ∨ i = 20 ∨ i = 21 ∨ i = 22 ∨ i = 23 := by omega
          · refine wpOp_plain rfl rfl ?_
            go_simp
            exact ⟨⟨by simp [hsz.out], hx.out⟩, upd z 18 (.slice (some ⟨g, off, none⟩) n c), (by unfold Hid; simp [upd]), hz.next apx hsz.out 0 (by decide) _ (fun _ h => Option.some.inj h)⟩
          · refine wpOp_plain rfl rfl ?_
            go_simp
            exact ⟨⟨by simp [hsz.out], hx.out⟩, upd z 19 (.int .i64 ((k : Nat) : Int)), (by unfold Hid; simp [upd]), hz.next apx hsz.out 1 (by decide) _ (fun _ h => Option.some.inj h)⟩
          · have e0 : z 18 = .slice (some ⟨g, off, none⟩) n c := hz 0 _ (hw 0 (by kernel_rfl)) rfl
            have e1 : z 19 = .int .i64 ((k : Nat) : Int) := hz 1 _ (hw 1 (by kernel_rfl)) rfl
            refine wpOp_plain rfl rfl ?_
            go_simp
            exact ⟨⟨by simp [hsz.out], hx.out⟩, upd z 20 (.pointer (some ⟨g, off + k, none⟩)), (by unfold Hid; simp [upd, e0, e1]), hz.next apx hsz.out 2 (by decide) _ (fun _ h => Option.some.inj h)⟩
          · have e2 : z 20 = .pointer (some ⟨g, off + k, none⟩) := hz 2 _ (hw 2 (by kernel_rfl)) rfl
            have cl : wx.cell? ⟨g, off + k, none⟩ = some (.string x) := (hx.out.cell (p := ⟨g, off + k, none⟩) (World.block_lt_of_cell? _ _ Hc.out)).trans Hc.out
            refine wpOp_plain rfl rfl ?_
            go_simp
            exact ⟨⟨by simp [hsz.out], hx.out⟩, upd z 21 (.string x), (by unfold Hid; simp [upd, e2]), hz.next apx hsz.out 3 (by decide) _ (fun _ h => Option.some.inj h)⟩
          · have e3 : z 21 = .string x := hz 3 _ (hw 3 (by kernel_rfl)) rfl
            refine wpOp_plain rfl rfl ?_
            go_simp
            go_at_call 14
            refine (is_any _ _).mono ?_
            rw [← Hb1.out]; rintro e w' ⟨rfl, hlo⟩
            exact ⟨⟨by simp [hsz.out], hx.out.trans (hlo.mono hx.out.size)⟩, upd z 22 (.bool b1), (by unfold Hid; simp [upd, e3]), hz.next apx hsz.out 4 (by decide) _ (fun _ h => Option.some.inj h)⟩
          · refine wpOp_plain rfl rfl ?_
            go_simp
            exact ⟨⟨by simp [hsz.out], hx.out⟩, upd z 23 (.slice (some ⟨g, off, none⟩) n c), (by unfold Hid; simp [upd]), hz.next apx hsz.out 5 (by decide) _ (fun _ h => Option.some.inj h)⟩
          · refine wpOp_plain rfl rfl ?_
            go_simp
            exact ⟨⟨by simp [hsz.out], hx.out⟩, upd z 24 (.int .i64 ((k : Nat) : Int)), (by unfold Hid; simp [upd]), hz.next apx hsz.out 6 (by decide) _ (fun _ h => Option.some.inj h)⟩
          · have e5 : z 23 = .slice (some ⟨g, off, none⟩) n c := hz 5 _ (hw 5 (by kernel_rfl)) rfl
            have e6 : z 24 = .int .i64 ((k : Nat) : Int) := hz 6 _ (hw 6 (by kernel_rfl)) rfl
            refine wpOp_plain rfl rfl ?_
            go_simp
            exact ⟨⟨by simp [hsz.out], hx.out⟩, upd z 25 (.pointer (some ⟨g, off + k, none⟩)), (by unfold Hid; simp [upd, e5, e6]), hz.next apx hsz.out 7 (by decide) _ (fun _ h => Option.some.inj h)⟩
          · have e7 : z 25 = .pointer (some ⟨g, off + k, none⟩) := hz 7 _ (hw 7 (by kernel_rfl)) rfl
            have cl : wx.cell? ⟨g, off + k, none⟩ = some (.string x) := (hx.out.cell (p := ⟨g, off + k, none⟩) (World.block_lt_of_cell? _ _ Hc.out)).trans Hc.out
            refine wpOp_plain rfl rfl ?_
            go_simp
            exact ⟨⟨by simp [hsz.out], hx.out⟩, upd z 26 (.string x), (by unfold Hid; simp [upd, e7]), hz.next apx hsz.out 8 (by decide) _ (fun _ h => Option.some.inj h)⟩
          · have e8 : z 26 = .string x := hz 8 _ (hw 8 (by kernel_rfl)) rfl
            refine wpOp_plain rfl rfl ?_
            go_simp
            go_at_call 15
            refine (ris_any _ _ Hsz.out).mono ?_
            rw [← Hb1.out]; rintro e w' ⟨rfl, hlo⟩
            exact ⟨⟨by simp [hsz.out], hx.out.trans (hlo.mono hx.out.size)⟩, upd z 27 (.bool b1), (by unfold Hid; simp [upd, e8]), hz.next apx hsz.out 9 (by decide) _ (fun _ h => Option.some.inj h)⟩
          · have e4 : z 22 = .bool b1 := hz 4 _ (hw 4 (by kernel_rfl)) rfl
            have e9 : z 27 = .bool b1 := hz 9 _ (hw 9 (by kernel_rfl)) rfl
            refine wpOp_plain rfl rfl ?_
            go_simp
            exact ⟨⟨by simp [hsz.out], hx.out⟩, upd z 28 (.bool false), (by unfold Hid; simp [upd, e4, e9]), hz.next apx hsz.out 10 (by decide) _ (fun _ h => Option.some.inj h)⟩
          · have e10 : z 28 = .bool false := hz 10 _ (hw 10 (by kernel_rfl)) rfl
            refine wpOp_plain rfl rfl ?_
            go_simp
            exact ⟨⟨by simp [hsz.out], hx.out⟩, upd z 29 (.bool false), (by unfold Hid; simp [upd, e10]), hz.next apx hsz.out 11 (by decide) _ (fun _ h => Option.some.inj h)⟩
          · have e11 : z 29 = .bool false := hz 11 _ (hw 11 (by kernel_rfl)) rfl
            refine wpOp_want rfl (by simp [Region.wanted, yielded, e11]) ?_
            go_simp
            exact ⟨⟨by simp [hsz.out], hx.out⟩, upd z 30 (.slice (some ⟨g, off, none⟩) n c), (by unfold Hid; simp [upd, e11]), hz.next apx hsz.out 12 (by decide) _ (fun _ h => Option.some.inj h)⟩
          · have e11 : z 29 = .bool false := hz 11 _ (hw 11 (by kernel_rfl)) rfl
            refine wpOp_want rfl (by simp [Region.wanted, yielded, e11]) ?_
            go_simp
            exact ⟨⟨by simp [hsz.out], hx.out⟩, upd z 31 (.int .i64 ((k : Nat) : Int)), (by unfold Hid; simp [upd, e11]), hz.next apx hsz.out 13 (by decide) _ (fun _ h => Option.some.inj h)⟩
          · have e11 : z 29 = .bool false := hz 11 _ (hw 11 (by kernel_rfl)) rfl
            have e12 : z 30 = .slice (some ⟨g, off, none⟩) n c := hz 12 _ (hw 12 (by kernel_rfl)) rfl
            have e13 : z 31 = .int .i64 ((k : Nat) : Int) := hz 13 _ (hw 13 (by kernel_rfl)) rfl
            refine wpOp_want rfl (by simp [Region.wanted, yielded, e11]) ?_
            go_simp
            exact ⟨⟨by simp [hsz.out], hx.out⟩, upd z 32 (.pointer (some ⟨g, off + k, none⟩)), (by unfold Hid; simp [upd, e11, e12, e13]), hz.next apx hsz.out 14 (by decide) _ (fun _ h => Option.some.inj h)⟩
          · have e11 : z 29 = .bool false := hz 11 _ (hw 11 (by kernel_rfl)) rfl
            have e14 : z 32 = .pointer (some ⟨g, off + k, none⟩) := hz 14 _ (hw 14 (by kernel_rfl)) rfl
            have cl : wx.cell? ⟨g, off + k, none⟩ = some (.string x) := (hx.out.cell (p := ⟨g, off + k, none⟩) (World.block_lt_of_cell? _ _ Hc.out)).trans Hc.out
            refine wpOp_want rfl (by simp [Region.wanted, yielded, e11]) ?_
            go_simp
            exact ⟨⟨by simp [hsz.out], hx.out⟩, upd z 33 (.string x), (by unfold Hid; simp [upd, e11, e14]), hz.next apx hsz.out 15 (by decide) _ (fun _ h => Option.some.inj h)⟩
          · have e11 : z 29 = .bool false := hz 11 _ (hw 11 (by kernel_rfl)) rfl
            have e15 : z 33 = .string x := hz 15 _ (hw 15 (by kernel_rfl)) rfl
            refine wpOp_want rfl (by simp [Region.wanted, yielded, e11]) ?_
            go_simp
            go_at_call 16
            refine (mark_any _ _).mono ?_
            rw [← Hm1.out]; rintro e w' ⟨rfl, rfl⟩
            exact ⟨⟨by simp [hsz.out], hx.out⟩, upd z 34 (.bool m1), (by unfold Hid; simp [upd, e11, e15]), hz.next apx hsz.out 16 (by decide) _ (fun _ h => Option.some.inj h)⟩
          · have e11 : z 29 = .bool false := hz 11 _ (hw 11 (by kernel_rfl)) rfl
            refine wpOp_want rfl (by simp [Region.wanted, yielded, e11]) ?_
            go_simp
            exact ⟨⟨by simp [hsz.out], hx.out⟩, upd z 35 (.slice (some ⟨g, off, none⟩) n c), (by unfold Hid; simp [upd, e11]), hz.next apx hsz.out 17 (by decide) _ (fun _ h => Option.some.inj h)⟩
          · have e11 : z 29 = .bool false := hz 11 _ (hw 11 (by kernel_rfl)) rfl
            refine wpOp_want rfl (by simp [Region.wanted, yielded, e11]) ?_
            go_simp
            exact ⟨⟨by simp [hsz.out], hx.out⟩, upd z 36 (.int .i64 ((k : Nat) : Int)), (by unfold Hid; simp [upd, e11]), hz.next apx hsz.out 18 (by decide) _ (fun _ h => Option.some.inj h)⟩
          · have e11 : z 29 = .bool false := hz 11 _ (hw 11 (by kernel_rfl)) rfl
            have e17 : z 35 = .slice (some ⟨g, off, none⟩) n c := hz 17 _ (hw 17 (by kernel_rfl)) rfl
            have e18 : z 36 = .int .i64 ((k : Nat) : Int) := hz 18 _ (hw 18 (by kernel_rfl)) rfl
            refine wpOp_want rfl (by simp [Region.wanted, yielded, e11]) ?_
            go_simp
            exact ⟨⟨by simp [hsz.out], hx.out⟩, upd z 37 (.pointer (some ⟨g, off + k, none⟩)), (by unfold Hid; simp [upd, e11, e17, e18]), hz.next apx hsz.out 19 (by decide) _ (fun _ h => Option.some.inj h)⟩
          · have e11 : z 29 = .bool false := hz 11 _ (hw 11 (by kernel_rfl)) rfl
            have e19 : z 37 = .pointer (some ⟨g, off + k, none⟩) := hz 19 _ (hw 19 (by kernel_rfl)) rfl
            have cl : wx.cell? ⟨g, off + k, none⟩ = some (.string x) := (hx.out.cell (p := ⟨g, off + k, none⟩) (World.block_lt_of_cell? _ _ Hc.out)).trans Hc.out
            refine wpOp_want rfl (by simp [Region.wanted, yielded, e11]) ?_
            go_simp
            exact ⟨⟨by simp [hsz.out], hx.out⟩, upd z 38 (.string x), (by unfold Hid; simp [upd, e11, e19]), hz.next apx hsz.out 20 (by decide) _ (fun _ h => Option.some.inj h)⟩
          · have e11 : z 29 = .bool false := hz 11 _ (hw 11 (by kernel_rfl)) rfl
            have e20 : z 38 = .string x := hz 20 _ (hw 20 (by kernel_rfl)) rfl
            refine wpOp_want rfl (by simp [Region.wanted, yielded, e11]) ?_
            go_simp
            go_at_call 17
            refine (rmark_any _ _).mono ?_
            rw [← Hm1.out]; rintro e w' ⟨rfl, hlo⟩
            exact ⟨⟨by simp [hsz.out], hx.out.trans (hlo.mono hx.out.size)⟩, upd z 39 (.bool m1), (by unfold Hid; simp [upd, e11, e20]), hz.next apx hsz.out 21 (by decide) _ (fun _ h => Option.some.inj h)⟩
          · have e11 : z 29 = .bool false := hz 11 _ (hw 11 (by kernel_rfl)) rfl
            have e16 : z 34 = .bool m1 := hz 16 _ (hw 16 (by kernel_rfl)) rfl
            have e21 : z 39 = .bool m1 := hz 21 _ (hw 21 (by kernel_rfl)) rfl
            refine wpOp_want rfl (by simp [Region.wanted, yielded, e11]) ?_
            go_simp
            exact ⟨⟨by simp [hsz.out], hx.out⟩, upd z 40 (.bool false), (by unfold Hid; simp [upd, e11, e16, e21]), hz.next apx hsz.out 22 (by decide) _ (fun _ h => Option.some.inj h)⟩
          · have e11 : z 29 = .bool false := hz 11 _ (hw 11 (by kernel_rfl)) rfl
            have e22 : z 40 = .bool false := hz 22 _ (hw 22 (by kernel_rfl)) rfl
            refine wpOp_plain rfl rfl ?_
            go_simp
            exact ⟨⟨by simp [hsz.out], hx.out⟩, upd z 41 (.bool false), (by unfold Hid; simp [upd, e11, e22]), hz.next apx hsz.out 23 (by decide) _ (fun _ h => Option.some.inj h)⟩
        · exact ⟨⟨rfl, (Below.refl _ _).drew⟩, fun xx => (#[.slice (some ⟨g, off, none⟩) n c, undef, u2, .slice B n d, .int .i64 ((k : Nat) : Int), .slice (some ⟨g, off, none⟩) n c, .int .i64 m, .bool (decide (20000 < m)), undef, .slice (some ⟨w.heap.size, 0, none⟩) 0 0, .slice (some ⟨g, off, none⟩) n c, .slice B n d, .int .i64 ((k : Nat) : Int), .slice (some ⟨g, off, none⟩) n c, .int .i64 ((n : Nat) : Int), .bool true, u16, u17, u18, u19, u20, u21, u22, u23, u24, u25, u26, u27, u28, u29, u30, u31, u32, u33, u34, u35, u36, u37, u38, u39, u40, u41, undef, undef, undef, undef, undef, undef, undef, undef, undef, undef, undef, undef, undef, undef, undef, undef, undef, undef, undef, undef] : Array Value).getD xx undef, rfl, Holding.start⟩
      · have hpI : ¬ (k : Int) < n := by omega
        have hjs : (joinB L).size ≤ 500000 := by rw [join_size]; have := Hm.out; have := Hn.out; omega
        have Hjs := Lib.hid hjs
        have Hn9 := Lib.hid (show L.length ≤ 1000000 by have := Hn.out; omega)
        have Hz : Hid (∀ x ∈ L, x.size ≤ 1000000) := fun x hx => by have := tot_le hx; have := Hm.out; omega
        have hvo := HO2.out.rd.later Hb.out
        have hva := HR.out.below Hb0.out (Nat.le_refl _)
        rw [← Hn.out] at hvo
        have HVo := Lib.hid hvo
        have HVa := Lib.hid hva
        have F0 := Lib.hid ((From.refl HL.out).next Hb0.out)
        clear hvo hva hjs
        go_wp2_with fail
        refine (check_any L _ _ HVo.out).mono ?_
        rintro e w3 ⟨rfl, hb3⟩
        have HVo3 := Lib.hid (HVo.out.later hb3)
        have HVa3 := Lib.hid (HVa.out.later hb3)
        have F3 := Lib.hid (F0.out.next hb3)
        clear HVo HVa F0 hb3
        obtain ⟨ck, hck⟩ : ∃ ck, ck = chk L := ⟨_, rfl⟩
        rw [← hck]
        have Hck := Lib.hid hck
        clear hck
        go_wp2_with fail
        refine (rcheck_any L _ _ HVa3.out Hz.out).mono ?_
        rw [← Hck.out]
        rintro e w4 ⟨rfl, hb4⟩
        have HVo4 := Lib.hid (HVo3.out.later hb4)
        have HVa4 := Lib.hid (HVa3.out.later hb4)
        have F4 := Lib.hid (F3.out.next hb4)
        clear HVo3 HVa3 F3 hb4
        go_wp2_with fail
        refine (join_any L _ _ HVo4.out Hjs.out).mono ?_
        rintro e w5 ⟨rfl, hb5⟩
        have HVo5 := Lib.hid (HVo4.out.later hb5)
        have HVa5 := Lib.hid (HVa4.out.later hb5)
        have F5 := Lib.hid (F4.out.next hb5)
        clear HVo4 HVa4 F4 hb5
        obtain ⟨jb, hjb⟩ : ∃ jb, jb = joinB L := ⟨_, rfl⟩
        rw [← hjb]
        have Hjb := Lib.hid hjb
        clear hjb
        go_wp2_with fail
        refine (rjoin_any L _ _ HVa5.out Hjs.out).mono ?_
        rw [← Hjb.out]
        rintro e w6 ⟨rfl, rfl⟩
        go_wp2_with fail
        refine (rsame_any L L _ _ _ HVo5.out HVa5.out Hn9.out).mono ?_
        rw [decide_eq_true rfl]
        rintro e w6 ⟨rfl, hb6⟩
        have F6 := Lib.hid (F5.out.next hb6)
        clear HVo5 HVa5 F5 hb6
        go_wp2_with fail
        refine (awake_any _ F6.out.2).mono ?_
        rintro e w7 ⟨rfl, hb7⟩
        have F7 := Lib.hid (F6.out.next hb7)
        clear hb7
        go_wp2
        go_ret
        exact ⟨rfl, F7.out.1⟩
  · have h2I : 20000 < m := by omega
    clear hm
    go_wp2_with (go_at_call 7; refine (awake_any _ HL.out).mono ?_; rintro e w1 ⟨rfl, hb1⟩; have Hb1 := Lib.hid hb1; clear hb1)
    go_ret
    exact ⟨rfl, Hb1.out⟩
end Go.Proofs.Ytpaolndgagedkaa.Lns
