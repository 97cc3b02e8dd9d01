/- DERIVED. The contract of the laws' read. Written by mkread.py. -/
import Derived.Test.YtigfcmnknijobaaReadBoth
import Derived.Deep.CutBlock
import Derived.Deep.DeepCutAuto
namespace Go.Proofs.Ytigfcmnknijobaa.Cod
open Go.RowKit Str
/-- both readers' blocks may change; until operation 3 nothing does. -/
def RelP (rb g : Nat) (W : World) (ll : Array Bool) (wx : World) : Prop := Chg [rb, g] W wx ∧ (ll.getD 3 false = false → Below W.heap.size W wx)
theorem RelP.start {rb g : Nat} {W : World} {ll : Array Bool} : RelP rb g W ll W.drew := ⟨Chg.of_below (Below.refl _ _).drew, fun _ => (Below.refl _ _).drew⟩
theorem RelP.same {rb g i : Nat} {W wx : World} {ll : Array Bool} (h : RelP rb g W ll wx) : RelP rb g W (ll.setIfInBounds i true) wx := ⟨h.1, fun hl => h.2 (set_false hl)⟩
theorem RelP.app {rb g : Nat} {W wx w' : World} {ll : Array Bool} (h : RelP rb g W ll wx) (k : Chg [rb] wx w') (hs : ll.size = 10) : RelP rb g W (ll.setIfInBounds 3 true) w' :=
  ⟨h.1.trans (k.mono (fun q hq => .inl (by simp at hq ⊢; omega))), fun hl => by simp [hs] at hl⟩
theorem RelP.app2 {rb g : Nat} {W wx w' : World} {ll : Array Bool} (h : RelP rb g W ll wx) (k : Chg [g] wx w') (hl3 : ll.getD 3 false = true) : RelP rb g W (ll.setIfInBounds 7 true) w' :=
  ⟨h.1.trans (k.mono (fun q hq => .inl (by simp at hq ⊢; omega))), fun hl => by rw [getD_set_true hl3] at hl; cases hl⟩
theorem chg_two {rb g : Nat} {a b c : World} (h : Chg [rb] a b) (k : Chg [g] b c) : Chg [rb, g] a c :=
  (h.mono (fun q hq => .inl (by simp at hq ⊢; omega))).trans (k.mono (fun q hq => .inl (by simp at hq ⊢; omega)))
theorem hash_len (L : List Int) (e : Int) : (rdOf z32 L e (hashR L)).1.length = 32 := by
  unfold rdOf hashR
  split
  · split
    · rfl
    · show (L.take 32).length = 32
      rw [List.length_take]
      omega
  · rfl
theorem vertex_len (L : List Int) (e : Int) : (rdOf (z32, 0) L e (vertexR L)).1.1.length = 32 := by
  unfold rdOf vertexR
  split
  · split
    · rfl
    · split
      · rfl
      · show (L.take 32).length = 32
        rw [List.length_take]
        omega
  · rfl
/-- what is read of a Value's kind: what is left, the error. -/
def restK (x : Val) (L : List Int) (e : Int) : List Int × Int :=
  if x.k % 5 = 0 then (readN L e x.num).2 else if x.k % 5 = 1 then (rdOf [] L e (textR L x.mo)).2 else if x.k % 5 = 2 then (rdOf z32 L e (hashR L)).2
  else if x.k % 5 = 3 then (rdOf (0, 0) L e (labelR L)).2 else (rdOf (z32, 0) L e (vertexR L)).2
set_option maxRecDepth 100000 in
set_option maxHeartbeats 8000000 in
theorem read_any {B rb g : Nat} {L : List Int} {e : Int} {w : World} (x : Val) (ox : x.Ok) (hr : Rdr rb L e w) (hq : QE B g L e w) (hb : InB L) (hle : L.length ≤ 100000) (hB : B ≤ w.heap.size) (hne : rb ≠ g) :
    Calls Try.prog 6 #[.pointer (some ⟨rb, 0, none⟩), .pointer (some ⟨g, 0, none⟩), .agg x.cells] w fun en w' => en = .returned (.bool true) ∧ Rdr rb (restK x L e).1 (restK x L e).2 w' ∧ QE B g (restK x L e).1 (restK x L e).2 w' ∧ Chg [rb, g] w w' := by
  obtain ⟨L2, f2, hLe⟩ : ∃ L2 f2, restK x L e = (L2, f2) := ⟨_, _, rfl⟩
  rw [hLe]
  obtain ⟨w1, hw1⟩ : ∃ w1, w1 = w.alloc (.cells x.cells 36) := ⟨_, rfl⟩
  have h0 : w1.heap[w.heap.size]? = some (.cells x.cells 36 (0, 0)) := by rw [hw1]; exact Go.heap_alloc_new w _
  have low : Below w.heap.size w w1 := by rw [hw1]; exact (Below.refl _ _).alloc (Nat.le_refl _) _
  have a0 : w1.cell? ⟨w.heap.size, 0, none⟩ = some (.int .u8 x.k) := (cell_row h0 0).trans x.c0
  have hk0 := ox.k0
  have HR := Lib.hid (hr.later low)
  have HQ := Lib.hid (hq.later low)
  have HB : Hid (B ≤ w1.heap.size) := Nat.le_trans hB low.size
  have Hnx : Hid (w.heap.size ≠ rb ∧ w.heap.size ≠ g) := by
    have h1 := hr.lt
    have h2 := hq.lt
    exact ⟨by omega, by omega⟩
  have H0 := Lib.hid h0
  have Low := Lib.hid low
  have Hw1 := Lib.hid hw1
  have Ox := Lib.hid ox
  have Hb := Lib.hid hb
  have Hle := Lib.hid hle
  have Hne := Lib.hid hne
  have HLe := Lib.hid hLe
  clear h0 low hw1 ox hb hle hne hLe hr hq hB
  go_enter Try.func6, Try.ntmps6
  go_upto_region 1 with (fail)
  rw [← Hw1.out]
  clear Hw1
  obtain ⟨bx, hbx⟩ : ∃ bx, bx = w.heap.size := ⟨_, rfl⟩
  rw [← hbx] at H0 a0 Hnx ⊢
  clear hbx
  go_upto_block 0 with (fail)
  go_cut [7, 10] (fun s7 s10 wx => s7 = .bool true ∧ Hid (Rdr rb L2 f2 wx) ∧ Hid (QE B g L2 f2 wx) ∧ Hid (Chg [rb, g] w1 wx))
  case first =>
    by_cases hk : x.k % 5 = 0
    · have hLe := HLe.out
      unfold restK at hLe
      rw [if_pos hk] at hLe
      obtain ⟨VN, hv⟩ : ∃ V, readN L e x.num = (V, L2, f2) := ⟨_, Prod.ext rfl hLe⟩
      have HP := Lib.hid (fun wx (h : Rdr rb L e wx) => num_read x.num h Hle.out Hb.out)
      have HPQ := Lib.hid (fun wx (h : QE B g L e wx) (hB : B ≤ wx.heap.size) => q_num h Hb.out Hle.out x.num Ox.out.num)
      simp only [hv] at HP HPQ
      clear hLe hv
      go_upto_region 5 with (fail)
      have apx : apartB [18, 19, 20, 21, 22, 23, 24, 25, 26, 7] = true := by decide
      refine wp_region_any (by kernel_rfl) ?_
      change wpAny _ _ _ _ _ _ _ (World.drew _)
      refine wpAny_inv2 (fun ll aa wx => Hid (ll.size = 10 ∧ RelP rb g w1 ll wx) ∧ ∃ (z : Nat → Value), Hid (aa = ⟨#[.pointer (some ⟨rb, 0, none⟩), .pointer (some ⟨g, 0, none⟩), .agg x.cells, undef, undef, .pointer (some ⟨bx, 0, none⟩), .bool false, z 7, .pointer (some ⟨bx, 0, none⟩), .int .u8 x.k, .int .u8 (x.k % 5), undef, undef, undef, undef, undef, .bool true, .bool true, z 18, z 19, z 20, z 21, z 22, z 23, z 24, z 25, z 26, undef, undef, undef, undef, undef, undef, undef, undef, undef, undef, undef, undef, undef, undef, undef, undef, undef, undef, undef, undef, undef, undef, undef, undef, undef, undef, undef, undef, undef, undef, undef, undef, undef, undef, undef, undef, undef, undef, undef, undef, undef, undef], []⟩) ∧ Holding [18, 19, 20, 21, 22, 23, 24, 25, 26, 7] [some (.pointer (some ⟨rb, 0, none⟩)), some (.pointer (some ⟨bx, 1, none⟩)), some (.int .u64 (x.num : Nat)), some (.int .u64 (VN : Nat)), some (.pointer (some ⟨g, 0, none⟩)), some (.pointer (some ⟨bx, 1, none⟩)), some (.int .u64 (x.num : Nat)), some (.int .u64 (VN : Nat)), some (.bool true), some (.bool true)] ll z ∧ Whu ll 3 7 (fun _ wx => Rdr rb L2 f2 wx ∧ QE B g L e wx) (z 21) wx ∧ Whn ll 7 (fun _ wx => Rdr rb L2 f2 wx ∧ QE B g L2 f2 wx) (z 25) wx) ?_ (by kernel_rfl) ?_ ?_ _ rfl _ _ ?_
      · rintro ll aa wx ⟨hI, _⟩
        exact hI.out.1
      · rintro ll aa wx ⟨hI, z, ha, hz, hp3, hp7⟩ hall
        have hx := Lib.hid hI.out.2
        have e0 : z 18 = .pointer (some ⟨rb, 0, none⟩) := hz 0 _ (hall 0 (by decide)) rfl
        have e1 : z 19 = .pointer (some ⟨bx, 1, none⟩) := hz 1 _ (hall 1 (by decide)) rfl
        have e2 : z 20 = .int .u64 (x.num : Nat) := hz 2 _ (hall 2 (by decide)) rfl
        have e3 : z 21 = .int .u64 (VN : Nat) := hz 3 _ (hall 3 (by decide)) rfl
        have e4 : z 22 = .pointer (some ⟨g, 0, none⟩) := hz 4 _ (hall 4 (by decide)) rfl
        have e5 : z 23 = .pointer (some ⟨bx, 1, none⟩) := hz 5 _ (hall 5 (by decide)) rfl
        have e6 : z 24 = .int .u64 (x.num : Nat) := hz 6 _ (hall 6 (by decide)) rfl
        have e7 : z 25 = .int .u64 (VN : Nat) := hz 7 _ (hall 7 (by decide)) rfl
        have e8 : z 26 = .bool true := hz 8 _ (hall 8 (by decide)) rfl
        have e9 : z 7 = .bool true := hz 9 _ (hall 9 (by decide)) rfl
        have p7 := hp7.get (hall 7 (by decide))
        clear hall hz hI hp3 hp7
        obtain rfl := ha.out
        clear ha
        clear apx
        have E := Lib.hid e9
        have P7 := Lib.hid p7
        have HC := Lib.hid hx.out.1
        clear e0 e1 e2 e3 e4 e5 e6 e7 e8 e9 p7
        dsimp only
        rw [E.out]
        go_wp2
        go_meet
        exact ⟨rfl, P7.out.1, P7.out.2, HC.out⟩
      · rintro ll aa wx i ⟨hI, z, ha, hz, hp3, hp7⟩ hcl hi hu hw
        obtain rfl := ha.out
        have hsz := Lib.hid hI.out.1
        have hx := Lib.hid hI.out.2
        clear ha hI
        have hin : i < 10 := hi
        obtain rfl | rfl | rfl | rfl | rfl | rfl | rfl | rfl | rfl | rfl : i = 0 ∨ i = 1 ∨ i = 2 ∨ i = 3 ∨ i = 4 ∨ i = 5 ∨ i = 6 ∨ i = 7 ∨ i = 8 ∨ i = 9 := by omega
        · refine wpOp_plain rfl rfl ?_
          go_simp
          exact ⟨⟨by simp [hsz.out], hx.out.same⟩, upd z 18 (.pointer (some ⟨rb, 0, none⟩)), (by unfold Hid; simp [upd]), hz.next apx hsz.out 0 (by decide) _ (fun _ h => Option.some.inj h), hp3.keep (by decide), hp7.keep (by decide)⟩
        · refine wpOp_plain rfl rfl ?_
          go_simp
          exact ⟨⟨by simp [hsz.out], hx.out.same⟩, upd z 19 (.pointer (some ⟨bx, 1, none⟩)), (by unfold Hid; simp [upd]), hz.next apx hsz.out 1 (by decide) _ (fun _ h => Option.some.inj h), hp3.keep (by decide), hp7.keep (by decide)⟩
        · have e1 : z 19 = .pointer (some ⟨bx, 1, none⟩) := hz 1 _ (hw 1 (by kernel_rfl)) rfl
          have row := hx.out.1.at H0.out (by have := Hnx.out; simp; omega)
          have cl : wx.cell? ⟨bx, 1, none⟩ = some (.int .u64 (x.num : Nat)) := (cell_row row 1).trans (x.c1)
          refine wpOp_plain rfl rfl ?_
          go_simp
          exact ⟨⟨by simp [hsz.out], hx.out.same⟩, upd z 20 (.int .u64 (x.num : Nat)), (by unfold Hid; simp [upd, e1]), hz.next apx hsz.out 2 (by decide) _ (fun _ h => Option.some.inj h), hp3.keep (by decide), hp7.keep (by decide)⟩
        · have e0 : z 18 = .pointer (some ⟨rb, 0, none⟩) := hz 0 _ (hw 0 (by kernel_rfl)) rfl
          have e2 : z 20 = .int .u64 (x.num : Nat) := hz 2 _ (hw 2 (by kernel_rfl)) rfl
          have hl3 : ll.getD 3 false = false := hu
          have low := hx.out.2 hl3
          refine wpOp_plain rfl rfl ?_
          go_simp
          go_at_call 15
          refine (HP.out wx (HR.out.later low)).mono ?_
          rintro e0 w' ⟨rfl, rd, ch⟩
          exact ⟨⟨by simp [hsz.out], hx.out.app ch hsz.out⟩, upd z 21 (.int .u64 (VN : Nat)), (by unfold Hid; simp [upd, e0, e2]), hz.next apx hsz.out 3 (by decide) _ (fun _ h => Option.some.inj h), Whu.done (⟨rd, (HQ.out.later low).past (HR.out.later low) ch Hne.out.symm⟩), Whn.never (by decide) (fun hl => hcl 7 3 hl (by kernel_rfl)) hu⟩
        · refine wpOp_plain rfl rfl ?_
          go_simp
          exact ⟨⟨by simp [hsz.out], hx.out.same⟩, upd z 22 (.pointer (some ⟨g, 0, none⟩)), (by unfold Hid; simp [upd]), hz.next apx hsz.out 4 (by decide) _ (fun _ h => Option.some.inj h), hp3.keep (by decide), hp7.keep (by decide)⟩
        · refine wpOp_plain rfl rfl ?_
          go_simp
          exact ⟨⟨by simp [hsz.out], hx.out.same⟩, upd z 23 (.pointer (some ⟨bx, 1, none⟩)), (by unfold Hid; simp [upd]), hz.next apx hsz.out 5 (by decide) _ (fun _ h => Option.some.inj h), hp3.keep (by decide), hp7.keep (by decide)⟩
        · have e5 : z 23 = .pointer (some ⟨bx, 1, none⟩) := hz 5 _ (hw 5 (by kernel_rfl)) rfl
          have row := hx.out.1.at H0.out (by have := Hnx.out; simp; omega)
          have cl : wx.cell? ⟨bx, 1, none⟩ = some (.int .u64 (x.num : Nat)) := (cell_row row 1).trans (x.c1)
          refine wpOp_plain rfl rfl ?_
          go_simp
          exact ⟨⟨by simp [hsz.out], hx.out.same⟩, upd z 24 (.int .u64 (x.num : Nat)), (by unfold Hid; simp [upd, e5]), hz.next apx hsz.out 6 (by decide) _ (fun _ h => Option.some.inj h), hp3.keep (by decide), hp7.keep (by decide)⟩
        · have e4 : z 22 = .pointer (some ⟨g, 0, none⟩) := hz 4 _ (hw 4 (by kernel_rfl)) rfl
          have e6 : z 24 = .int .u64 (x.num : Nat) := hz 6 _ (hw 6 (by kernel_rfl)) rfl
          have p3 := hp3.get (hw 3 (by kernel_rfl)) hu
          refine wpOp_plain rfl rfl ?_
          go_simp
          go_at_call 16
          refine (HPQ.out wx p3.2 (Nat.le_trans HB.out hx.out.1.size)).mono ?_
          rintro e0 w' ⟨rfl, rq, ch⟩
          exact ⟨⟨by simp [hsz.out], hx.out.app2 ch (hw 3 (by kernel_rfl))⟩, upd z 25 (.int .u64 (VN : Nat)), (by unfold Hid; simp [upd, e4, e6]), hz.next apx hsz.out 7 (by decide) _ (fun _ h => Option.some.inj h), Whu.past (by rw [hsz.out]; decide), Whn.done (⟨p3.1.past p3.2 ch Hne.out, rq⟩)⟩
        · have e3 : z 21 = .int .u64 (VN : Nat) := hz 3 _ (hw 3 (by kernel_rfl)) rfl
          have e7 : z 25 = .int .u64 (VN : Nat) := hz 7 _ (hw 7 (by kernel_rfl)) rfl
          refine wpOp_plain rfl rfl ?_
          go_simp
          exact ⟨⟨by simp [hsz.out], hx.out.same⟩, upd z 26 (.bool true), (by unfold Hid; simp [upd, e3, e7]), hz.next apx hsz.out 8 (by decide) _ (fun _ h => Option.some.inj h), hp3.keep (by decide), hp7.keep (by decide)⟩
        · have e8 : z 26 = .bool true := hz 8 _ (hw 8 (by kernel_rfl)) rfl
          refine wpOp_plain rfl rfl ?_
          go_simp
          exact ⟨⟨by simp [hsz.out], hx.out.same⟩, upd z 7 (.bool true), (by unfold Hid; simp [upd, e8]), hz.next apx hsz.out 9 (by decide) _ (fun _ h => Option.some.inj h), hp3.keep (by decide), hp7.keep (by decide)⟩
      · exact ⟨⟨rfl, RelP.start⟩, fun xx => (#[.pointer (some ⟨rb, 0, none⟩), .pointer (some ⟨g, 0, none⟩), .agg x.cells, undef, undef, .pointer (some ⟨bx, 0, none⟩), .bool false, .bool false, .pointer (some ⟨bx, 0, none⟩), .int .u8 x.k, .int .u8 (x.k % 5), undef, undef, undef, undef, undef, .bool true, .bool true, undef, undef, undef, undef, undef, undef, undef, undef, undef, undef, undef, undef, undef, undef, undef, undef, undef, undef, undef, undef, undef, undef, undef, undef, undef, undef, undef, undef, undef, undef, undef, undef, undef, undef, undef, undef, undef, undef, undef, undef, undef, undef, undef, undef, undef, undef, undef, undef, undef, undef, undef] : Array Value).getD xx undef, rfl, Holding.start, Whu.none (by decide), Whn.none (by decide)⟩
    · have hn0 := hk
      clear hk
      by_cases hk : x.k % 5 = 1
      · have hLe := HLe.out
        unfold restK at hLe
        rw [if_neg hn0, if_pos hk] at hLe
        obtain ⟨V, hv⟩ : ∃ V, rdOf [] L e (textR L x.mo) = (V, L2, f2) := ⟨_, Prod.ext rfl hLe⟩
        have HP := Lib.hid (fun wx (h : Rdr rb L e wx) => text_read x.mo Ox.out.mo.2 h Hle.out Hb.out)
        have HPQ := Lib.hid (fun wx (h : QE B g L e wx) (hB : B ≤ wx.heap.size) => q_text h Hb.out Hle.out x.mo Ox.out.mo.2)
        simp only [hv] at HP HPQ
        obtain ⟨VS, hVS⟩ : ∃ VS, VS = strOfNums V := ⟨_, rfl⟩
        rw [← hVS] at HP HPQ
        clear hVS
        clear hLe hv
        go_upto_region 7 with (fail)
        have apx : apartB [29, 30, 31, 32, 33, 34, 35, 36, 37, 7] = true := by decide
        refine wp_region_any (by kernel_rfl) ?_
        change wpAny _ _ _ _ _ _ _ (World.drew _)
        refine wpAny_inv2 (fun ll aa wx => Hid (ll.size = 10 ∧ RelP rb g w1 ll wx) ∧ ∃ (z : Nat → Value), Hid (aa = ⟨#[.pointer (some ⟨rb, 0, none⟩), .pointer (some ⟨g, 0, none⟩), .agg x.cells, undef, undef, .pointer (some ⟨bx, 0, none⟩), .bool false, z 7, .pointer (some ⟨bx, 0, none⟩), .int .u8 x.k, .int .u8 (x.k % 5), undef, undef, undef, undef, undef, .bool false, .bool false, undef, undef, undef, undef, undef, undef, undef, undef, undef, .bool true, .bool true, z 29, z 30, z 31, z 32, z 33, z 34, z 35, z 36, z 37, undef, undef, undef, undef, undef, undef, undef, undef, undef, undef, undef, undef, undef, undef, undef, undef, undef, undef, undef, undef, undef, undef, undef, undef, undef, undef, undef, undef, undef, undef, undef], []⟩) ∧ Holding [29, 30, 31, 32, 33, 34, 35, 36, 37, 7] [some (.pointer (some ⟨rb, 0, none⟩)), some (.pointer (some ⟨bx, 38, none⟩)), some (.int .i64 x.mo), some (.string VS), some (.pointer (some ⟨g, 0, none⟩)), some (.pointer (some ⟨bx, 38, none⟩)), some (.int .i64 x.mo), some (.string VS), some (.bool true), some (.bool true)] ll z ∧ Whu ll 3 7 (fun _ wx => Rdr rb L2 f2 wx ∧ QE B g L e wx) (z 32) wx ∧ Whn ll 7 (fun _ wx => Rdr rb L2 f2 wx ∧ QE B g L2 f2 wx) (z 36) wx) ?_ (by kernel_rfl) ?_ ?_ _ rfl _ _ ?_
        · rintro ll aa wx ⟨hI, _⟩
          exact hI.out.1
        · rintro ll aa wx ⟨hI, z, ha, hz, hp3, hp7⟩ hall
          have hx := Lib.hid hI.out.2
          have e0 : z 29 = .pointer (some ⟨rb, 0, none⟩) := hz 0 _ (hall 0 (by decide)) rfl
          have e1 : z 30 = .pointer (some ⟨bx, 38, none⟩) := hz 1 _ (hall 1 (by decide)) rfl
          have e2 : z 31 = .int .i64 x.mo := hz 2 _ (hall 2 (by decide)) rfl
          have e3 : z 32 = .string VS := hz 3 _ (hall 3 (by decide)) rfl
          have e4 : z 33 = .pointer (some ⟨g, 0, none⟩) := hz 4 _ (hall 4 (by decide)) rfl
          have e5 : z 34 = .pointer (some ⟨bx, 38, none⟩) := hz 5 _ (hall 5 (by decide)) rfl
          have e6 : z 35 = .int .i64 x.mo := hz 6 _ (hall 6 (by decide)) rfl
          have e7 : z 36 = .string VS := hz 7 _ (hall 7 (by decide)) rfl
          have e8 : z 37 = .bool true := hz 8 _ (hall 8 (by decide)) rfl
          have e9 : z 7 = .bool true := hz 9 _ (hall 9 (by decide)) rfl
          have p7 := hp7.get (hall 7 (by decide))
          clear hall hz hI hp3 hp7
          obtain rfl := ha.out
          clear ha
          clear apx
          have E := Lib.hid e9
          have P7 := Lib.hid p7
          have HC := Lib.hid hx.out.1
          clear e0 e1 e2 e3 e4 e5 e6 e7 e8 e9 p7
          dsimp only
          rw [E.out]
          go_wp2
          go_meet
          exact ⟨rfl, P7.out.1, P7.out.2, HC.out⟩
        · rintro ll aa wx i ⟨hI, z, ha, hz, hp3, hp7⟩ hcl hi hu hw
          obtain rfl := ha.out
          have hsz := Lib.hid hI.out.1
          have hx := Lib.hid hI.out.2
          clear ha hI
          have hin : i < 10 := hi
          obtain rfl | rfl | rfl | rfl | rfl | rfl | rfl | rfl | rfl | rfl : i = 0 ∨ i = 1 ∨ i = 2 ∨ i = 3 ∨ i = 4 ∨ i = 5 ∨ i = 6 ∨ i = 7 ∨ i = 8 ∨ i = 9 := by omega
          · refine wpOp_plain rfl rfl ?_
            go_simp
            exact ⟨⟨by simp [hsz.out], hx.out.same⟩, upd z 29 (.pointer (some ⟨rb, 0, none⟩)), (by unfold Hid; simp [upd]), hz.next apx hsz.out 0 (by decide) _ (fun _ h => Option.some.inj h), hp3.keep (by decide), hp7.keep (by decide)⟩
          · refine wpOp_plain rfl rfl ?_
            go_simp
            exact ⟨⟨by simp [hsz.out], hx.out.same⟩, upd z 30 (.pointer (some ⟨bx, 38, none⟩)), (by unfold Hid; simp [upd]), hz.next apx hsz.out 1 (by decide) _ (fun _ h => Option.some.inj h), hp3.keep (by decide), hp7.keep (by decide)⟩
          · have e1 : z 30 = .pointer (some ⟨bx, 38, none⟩) := hz 1 _ (hw 1 (by kernel_rfl)) rfl
            have row := hx.out.1.at H0.out (by have := Hnx.out; simp; omega)
            have cl : wx.cell? ⟨bx, 38, none⟩ = some (.int .i64 x.mo) := (cell_row row 38).trans (x.ct Ox.out.hl 3)
            refine wpOp_plain rfl rfl ?_
            go_simp
            exact ⟨⟨by simp [hsz.out], hx.out.same⟩, upd z 31 (.int .i64 x.mo), (by unfold Hid; simp [upd, e1]), hz.next apx hsz.out 2 (by decide) _ (fun _ h => Option.some.inj h), hp3.keep (by decide), hp7.keep (by decide)⟩
          · have e0 : z 29 = .pointer (some ⟨rb, 0, none⟩) := hz 0 _ (hw 0 (by kernel_rfl)) rfl
            have e2 : z 31 = .int .i64 x.mo := hz 2 _ (hw 2 (by kernel_rfl)) rfl
            have hl3 : ll.getD 3 false = false := hu
            have low := hx.out.2 hl3
            refine wpOp_plain rfl rfl ?_
            go_simp
            go_at_call 17
            refine (HP.out wx (HR.out.later low)).mono ?_
            rintro e0 w' ⟨rfl, rd, ch⟩
            exact ⟨⟨by simp [hsz.out], hx.out.app ch hsz.out⟩, upd z 32 (.string VS), (by unfold Hid; simp [upd, e0, e2]), hz.next apx hsz.out 3 (by decide) _ (fun _ h => Option.some.inj h), Whu.done (⟨rd, (HQ.out.later low).past (HR.out.later low) ch Hne.out.symm⟩), Whn.never (by decide) (fun hl => hcl 7 3 hl (by kernel_rfl)) hu⟩
          · refine wpOp_plain rfl rfl ?_
            go_simp
            exact ⟨⟨by simp [hsz.out], hx.out.same⟩, upd z 33 (.pointer (some ⟨g, 0, none⟩)), (by unfold Hid; simp [upd]), hz.next apx hsz.out 4 (by decide) _ (fun _ h => Option.some.inj h), hp3.keep (by decide), hp7.keep (by decide)⟩
          · refine wpOp_plain rfl rfl ?_
            go_simp
            exact ⟨⟨by simp [hsz.out], hx.out.same⟩, upd z 34 (.pointer (some ⟨bx, 38, none⟩)), (by unfold Hid; simp [upd]), hz.next apx hsz.out 5 (by decide) _ (fun _ h => Option.some.inj h), hp3.keep (by decide), hp7.keep (by decide)⟩
          · have e5 : z 34 = .pointer (some ⟨bx, 38, none⟩) := hz 5 _ (hw 5 (by kernel_rfl)) rfl
            have row := hx.out.1.at H0.out (by have := Hnx.out; simp; omega)
            have cl : wx.cell? ⟨bx, 38, none⟩ = some (.int .i64 x.mo) := (cell_row row 38).trans (x.ct Ox.out.hl 3)
            refine wpOp_plain rfl rfl ?_
            go_simp
            exact ⟨⟨by simp [hsz.out], hx.out.same⟩, upd z 35 (.int .i64 x.mo), (by unfold Hid; simp [upd, e5]), hz.next apx hsz.out 6 (by decide) _ (fun _ h => Option.some.inj h), hp3.keep (by decide), hp7.keep (by decide)⟩
          · have e4 : z 33 = .pointer (some ⟨g, 0, none⟩) := hz 4 _ (hw 4 (by kernel_rfl)) rfl
            have e6 : z 35 = .int .i64 x.mo := hz 6 _ (hw 6 (by kernel_rfl)) rfl
            have p3 := hp3.get (hw 3 (by kernel_rfl)) hu
            refine wpOp_plain rfl rfl ?_
            go_simp
            go_at_call 18
            refine (HPQ.out wx p3.2 (Nat.le_trans HB.out hx.out.1.size)).mono ?_
            rintro e0 w' ⟨rfl, rq, ch⟩
            exact ⟨⟨by simp [hsz.out], hx.out.app2 ch (hw 3 (by kernel_rfl))⟩, upd z 36 (.string VS), (by unfold Hid; simp [upd, e4, e6]), hz.next apx hsz.out 7 (by decide) _ (fun _ h => Option.some.inj h), Whu.past (by rw [hsz.out]; decide), Whn.done (⟨p3.1.past p3.2 ch Hne.out, rq⟩)⟩
          · have e3 : z 32 = .string VS := hz 3 _ (hw 3 (by kernel_rfl)) rfl
            have e7 : z 36 = .string VS := hz 7 _ (hw 7 (by kernel_rfl)) rfl
            refine wpOp_plain rfl rfl ?_
            go_simp
            exact ⟨⟨by simp [hsz.out], hx.out.same⟩, upd z 37 (.bool true), (by unfold Hid; simp [upd, e3, e7]), hz.next apx hsz.out 8 (by decide) _ (fun _ h => Option.some.inj h), hp3.keep (by decide), hp7.keep (by decide)⟩
          · have e8 : z 37 = .bool true := hz 8 _ (hw 8 (by kernel_rfl)) rfl
            refine wpOp_plain rfl rfl ?_
            go_simp
            exact ⟨⟨by simp [hsz.out], hx.out.same⟩, upd z 7 (.bool true), (by unfold Hid; simp [upd, e8]), hz.next apx hsz.out 9 (by decide) _ (fun _ h => Option.some.inj h), hp3.keep (by decide), hp7.keep (by decide)⟩
        · exact ⟨⟨rfl, RelP.start⟩, fun xx => (#[.pointer (some ⟨rb, 0, none⟩), .pointer (some ⟨g, 0, none⟩), .agg x.cells, undef, undef, .pointer (some ⟨bx, 0, none⟩), .bool false, .bool false, .pointer (some ⟨bx, 0, none⟩), .int .u8 x.k, .int .u8 (x.k % 5), undef, undef, undef, undef, undef, .bool false, .bool false, undef, undef, undef, undef, undef, undef, undef, undef, undef, .bool true, .bool true, undef, undef, undef, undef, undef, undef, undef, undef, undef, undef, undef, undef, undef, undef, undef, undef, undef, undef, undef, undef, undef, undef, undef, undef, undef, undef, undef, undef, undef, undef, undef, undef, undef, undef, undef, undef, undef, undef, undef, undef] : Array Value).getD xx undef, rfl, Holding.start, Whu.none (by decide), Whn.none (by decide)⟩
      · have hn1 := hk
        clear hk
        by_cases hk : x.k % 5 = 2
        · have hLe := HLe.out
          unfold restK at hLe
          rw [if_neg hn0, if_neg hn1, if_pos hk] at hLe
          obtain ⟨V, hv⟩ : ∃ V, rdOf z32 L e (hashR L) = (V, L2, f2) := ⟨_, Prod.ext rfl hLe⟩
          have HP := Lib.hid (fun wx (h : Rdr rb L e wx) => hash_read h Hle.out Hb.out)
          have HPQ := Lib.hid (fun wx (h : QE B g L e wx) (hB : B ≤ wx.heap.size) => q_hash h hB)
          simp only [hv] at HP HPQ
          have HVl : Hid (V.length = 32) := by
            show _ = _
            have h := hash_len L e
            rw [hv] at h
            exact h
          clear hLe hv
          go_wp2_with (first
            | (go_at_call 20; refine (HPQ.out _ HQ2.out (Nat.le_trans HB.out HC2.out.size)).mono ?_; rintro e0 w3 ⟨rfl, rq, ch⟩; have HR3 := Lib.hid (HR2.out.past HQ2.out ch Hne.out); have HQ3 := Lib.hid rq; have HC3 := Lib.hid ch; have eq := eqI_of (eql_hash V HVl.out w3); clear rq ch)
            | (go_at_call 19; refine (HP.out _ HR.out).mono ?_; rintro e0 w2 ⟨rfl, rd, ch⟩; have HQ2 := Lib.hid (HQ.out.past HR.out ch Hne.out.symm); have HR2 := Lib.hid rd; have HC2 := Lib.hid ch; clear rd ch))
          go_meet
          exact ⟨rfl, HR3.out, HQ3.out, chg_two HC2.out HC3.out⟩
        · have hn2 := hk
          clear hk
          by_cases hk : x.k % 5 = 3
          · have hLe := HLe.out
            unfold restK at hLe
            rw [if_neg hn0, if_neg hn1, if_neg hn2, if_pos hk] at hLe
            obtain ⟨V, hv⟩ : ∃ V, rdOf (0, 0) L e (labelR L) = (V, L2, f2) := ⟨_, Prod.ext rfl hLe⟩
            have HP := Lib.hid (fun wx (h : Rdr rb L e wx) => label_read h Hle.out Hb.out)
            have HPQ := Lib.hid (fun wx (h : QE B g L e wx) (hB : B ≤ wx.heap.size) => q_label h Hb.out Hle.out hB)
            simp only [hv] at HP HPQ
            unfold labC at HP HPQ
            clear hLe hv
            go_wp2_with (first
              | (go_at_call 22; refine (HPQ.out _ HQ2.out (Nat.le_trans HB.out HC2.out.size)).mono ?_; rintro e0 w3 ⟨rfl, rq, ch⟩; have HR3 := Lib.hid (HR2.out.past HQ2.out ch Hne.out); have HQ3 := Lib.hid rq; have HC3 := Lib.hid ch; have eq := eqI_of (eql_lab V.1 V.2 w3); clear rq ch)
              | (go_at_call 21; refine (HP.out _ HR.out).mono ?_; rintro e0 w2 ⟨rfl, rd, ch⟩; have HQ2 := Lib.hid (HQ.out.past HR.out ch Hne.out.symm); have HR2 := Lib.hid rd; have HC2 := Lib.hid ch; clear rd ch))
            go_meet
            exact ⟨rfl, HR3.out, HQ3.out, chg_two HC2.out HC3.out⟩
          · have hn3 := hk
            clear hk
            have hLe := HLe.out
            unfold restK at hLe
            rw [if_neg hn0, if_neg hn1, if_neg hn2, if_neg hn3] at hLe
            obtain ⟨V, hv⟩ : ∃ V, rdOf (z32, 0) L e (vertexR L) = (V, L2, f2) := ⟨_, Prod.ext rfl hLe⟩
            have HP := Lib.hid (fun wx (h : Rdr rb L e wx) => vertex_read h Hle.out Hb.out)
            have HPQ := Lib.hid (fun wx (h : QE B g L e wx) (hB : B ≤ wx.heap.size) => q_vertex h Hb.out Hle.out hB)
            simp only [hv] at HP HPQ
            have HVl : Hid (V.1.length = 32) := by
              show _ = _
              have h := vertex_len L e
              rw [hv] at h
              exact h
            unfold vtxP at HP HPQ
            clear hLe hv
            go_wp2_with (first
              | (go_at_call 24; refine (HPQ.out _ HQ2.out (Nat.le_trans HB.out HC2.out.size)).mono ?_; rintro e0 w3 ⟨rfl, rq, ch⟩; have HR3 := Lib.hid (HR2.out.past HQ2.out ch Hne.out); have HQ3 := Lib.hid rq; have HC3 := Lib.hid ch; have g1 := vtx_cut V.1 V.2 HVl.out; have g2 := vtx_n V.1 V.2 HVl.out; have g3 := eqI_hash V.1 HVl.out w3; clear rq ch)
              | (go_at_call 23; refine (HP.out _ HR.out).mono ?_; rintro e0 w2 ⟨rfl, rd, ch⟩; have HQ2 := Lib.hid (HQ.out.past HR.out ch Hne.out.symm); have HR2 := Lib.hid rd; have HC2 := Lib.hid ch; clear rd ch))
            go_meet
            exact ⟨rfl, HR3.out, HQ3.out, chg_two HC2.out HC3.out⟩
  case rest =>
    obtain ⟨rfl, HR2, HQ2, HC2⟩ := hcut
    have HC1 := Lib.hid HQ2.out.cell1
    go_upto_region 12 with (fail)
    have apx : apartB [52, 53, 54, 55, 56, 57, 58, 59, 60, 61, 62, 63, 64, 65, 66, 67, 68, 6] = true := by decide
    refine wp_region_any (by kernel_rfl) ?_
    change wpAny _ _ _ _ _ _ _ (World.drew _)
    refine wpAny_inv (fun ll aa wx => Hid (ll.size = 18 ∧ Below wc.heap.size wc wx) ∧ ∃ (z : Nat → Value), Hid (aa = ⟨#[.pointer (some ⟨rb, 0, none⟩), .pointer (some ⟨g, 0, none⟩), .agg x.cells, undef, undef, .pointer (some ⟨bx, 0, none⟩), z 6, .bool true, u8, u9, u10, u11, u12, u13, u14, u15, u16, u17, u18, u19, u20, u21, u22, u23, u24, u25, u26, u27, u28, u29, u30, u31, u32, u33, u34, u35, u36, u37, u38, u39, u40, u41, u42, u43, u44, u45, u46, u47, u48, u49, u50, u51, z 52, z 53, z 54, z 55, z 56, z 57, z 58, z 59, z 60, z 61, z 62, z 63, z 64, z 65, z 66, z 67, z 68], []⟩) ∧ Holding [52, 53, 54, 55, 56, 57, 58, 59, 60, 61, 62, 63, 64, 65, 66, 67, 68, 6] [some (.bool true), some (.bool true), some (.pointer (some ⟨rb, 0, none⟩)), some (.int .i64 f2), some (.pointer (some ⟨g, 0, none⟩)), some (.pointer (some ⟨g, 0, none⟩)), some (.pointer (some ⟨g, 1, none⟩)), some (.int .i64 f2), some (.bool true), some (.bool true), some (.bool true), some (.pointer (some ⟨rb, 0, none⟩)), some (.int .i64 (doneE L2 f2)), some (.pointer (some ⟨g, 0, none⟩)), some (.int .i64 (doneE L2 f2)), some (.bool true), some (.bool true), some (.bool true)] ll z) ?_ (by kernel_rfl) ?_ ?_ _ _ _ _ (unlisted_none _) ?_
    · rintro ll aa wx ⟨hI, _⟩
      exact hI.out.1
    · rintro ll aa wx ⟨hI, z, ha, hz⟩ hall
      have hx := Lib.hid hI.out.2
      have e0 : z 52 = .bool true := hz 0 _ (hall 0 (by decide)) rfl
      have e1 : z 53 = .bool true := hz 1 _ (hall 1 (by decide)) rfl
      have e2 : z 54 = .pointer (some ⟨rb, 0, none⟩) := hz 2 _ (hall 2 (by decide)) rfl
      have e3 : z 55 = .int .i64 f2 := hz 3 _ (hall 3 (by decide)) rfl
      have e4 : z 56 = .pointer (some ⟨g, 0, none⟩) := hz 4 _ (hall 4 (by decide)) rfl
      have e5 : z 57 = .pointer (some ⟨g, 0, none⟩) := hz 5 _ (hall 5 (by decide)) rfl
      have e6 : z 58 = .pointer (some ⟨g, 1, none⟩) := hz 6 _ (hall 6 (by decide)) rfl
      have e7 : z 59 = .int .i64 f2 := hz 7 _ (hall 7 (by decide)) rfl
      have e8 : z 60 = .bool true := hz 8 _ (hall 8 (by decide)) rfl
      have e9 : z 61 = .bool true := hz 9 _ (hall 9 (by decide)) rfl
      have e10 : z 62 = .bool true := hz 10 _ (hall 10 (by decide)) rfl
      have e11 : z 63 = .pointer (some ⟨rb, 0, none⟩) := hz 11 _ (hall 11 (by decide)) rfl
      have e12 : z 64 = .int .i64 (doneE L2 f2) := hz 12 _ (hall 12 (by decide)) rfl
      have e13 : z 65 = .pointer (some ⟨g, 0, none⟩) := hz 13 _ (hall 13 (by decide)) rfl
      have e14 : z 66 = .int .i64 (doneE L2 f2) := hz 14 _ (hall 14 (by decide)) rfl
      have e15 : z 67 = .bool true := hz 15 _ (hall 15 (by decide)) rfl
      have e16 : z 68 = .bool true := hz 16 _ (hall 16 (by decide)) rfl
      have e17 : z 6 = .bool true := hz 17 _ (hall 17 (by decide)) rfl
      clear hall hz hI 
      obtain rfl := ha.out
      clear ha
      clear apx
      have E := Lib.hid e17
      have HX := Lib.hid hx.out
      clear e0 e1 e2 e3 e4 e5 e6 e7 e8 e9 e10 e11 e12 e13 e14 e15 e16 e17 hx
      dsimp only
      rw [E.out]
      go_wp2
      go_ret
      exact ⟨rfl, HR2.out.later HX.out, HQ2.out.later HX.out, (Chg.of_below Low.out).trans (HC2.out.trans (Chg.of_below HX.out))⟩
    · rintro ll aa wx i ⟨hI, z, ha, hz⟩ hi hu hw
      obtain rfl := ha.out
      have hsz := Lib.hid hI.out.1
      have hx := Lib.hid hI.out.2
      clear ha hI
      have hin : i < 18 := hi
      obtain rfl | rfl | rfl | rfl | rfl | rfl | rfl | rfl | rfl | rfl | rfl | rfl | rfl | rfl | rfl | rfl | rfl | rfl : i = 0 ∨ i = 1 ∨ i = 2 ∨ i = 3 ∨ i = 4 ∨ i = 5 ∨ i = 6 ∨ i = 7 ∨ i = 8 ∨ i = 9 ∨ i = 10 ∨ i = 11 ∨ i = 12 ∨ i = 13 ∨ i = 14 ∨ i = 15 ∨ i = 16 ∨ i = 17 := by omega
      · refine wpOp_plain rfl rfl ?_
        go_simp
        exact ⟨⟨by simp [hsz.out], hx.out⟩, upd z 52 (.bool true), (by unfold Hid; simp [upd]), hz.next apx hsz.out 0 (by decide) _ (fun _ h => Option.some.inj h)⟩
      · have e0 : z 52 = .bool true := hz 0 _ (hw 0 (by kernel_rfl)) rfl
        refine wpOp_plain rfl rfl ?_
        go_simp
        exact ⟨⟨by simp [hsz.out], hx.out⟩, upd z 53 (.bool true), (by unfold Hid; simp [upd, e0]), hz.next apx hsz.out 1 (by decide) _ (fun _ h => Option.some.inj h)⟩
      · have e1 : z 53 = .bool true := hz 1 _ (hw 1 (by kernel_rfl)) rfl
        refine wpOp_want rfl (by simp [Region.wanted, yielded, e1]) ?_
        go_simp
        exact ⟨⟨by simp [hsz.out], hx.out⟩, upd z 54 (.pointer (some ⟨rb, 0, none⟩)), (by unfold Hid; simp [upd, e1]), hz.next apx hsz.out 2 (by decide) _ (fun _ h => Option.some.inj h)⟩
      · have e1 : z 53 = .bool true := hz 1 _ (hw 1 (by kernel_rfl)) rfl
        have e2 : z 54 = .pointer (some ⟨rb, 0, none⟩) := hz 2 _ (hw 2 (by kernel_rfl)) rfl
        refine wpOp_want rfl (by simp [Region.wanted, yielded, e1]) ?_
        go_simp
        go_at_call 13
        refine (err_any (HR2.out.later hx.out)).mono ?_
        rintro e0 w' ⟨rfl, rfl⟩
        exact ⟨⟨by simp [hsz.out], hx.out.trans ((Below.refl _ wx).mono hx.out.size)⟩, upd z 55 (.int .i64 f2), (by unfold Hid; simp [upd, e1, e2]), hz.next apx hsz.out 3 (by decide) _ (fun _ h => Option.some.inj h)⟩
      · have e1 : z 53 = .bool true := hz 1 _ (hw 1 (by kernel_rfl)) rfl
        refine wpOp_want rfl (by simp [Region.wanted, yielded, e1]) ?_
        go_simp
        exact ⟨⟨by simp [hsz.out], hx.out⟩, upd z 56 (.pointer (some ⟨g, 0, none⟩)), (by unfold Hid; simp [upd, e1]), hz.next apx hsz.out 4 (by decide) _ (fun _ h => Option.some.inj h)⟩
      · have e1 : z 53 = .bool true := hz 1 _ (hw 1 (by kernel_rfl)) rfl
        have e4 : z 56 = .pointer (some ⟨g, 0, none⟩) := hz 4 _ (hw 4 (by kernel_rfl)) rfl
        refine wpOp_want rfl (by simp [Region.wanted, yielded, e1]) ?_
        go_simp
        exact ⟨⟨by simp [hsz.out], hx.out⟩, upd z 57 (.pointer (some ⟨g, 0, none⟩)), (by unfold Hid; simp [upd, e1, e4]), hz.next apx hsz.out 5 (by decide) _ (fun _ h => Option.some.inj h)⟩
      · have e1 : z 53 = .bool true := hz 1 _ (hw 1 (by kernel_rfl)) rfl
        have e5 : z 57 = .pointer (some ⟨g, 0, none⟩) := hz 5 _ (hw 5 (by kernel_rfl)) rfl
        refine wpOp_want rfl (by simp [Region.wanted, yielded, e1]) ?_
        go_simp
        exact ⟨⟨by simp [hsz.out], hx.out⟩, upd z 58 (.pointer (some ⟨g, 1, none⟩)), (by unfold Hid; simp [upd, e1, e5]), hz.next apx hsz.out 6 (by decide) _ (fun _ h => Option.some.inj h)⟩
      · have e1 : z 53 = .bool true := hz 1 _ (hw 1 (by kernel_rfl)) rfl
        have e6 : z 58 = .pointer (some ⟨g, 1, none⟩) := hz 6 _ (hw 6 (by kernel_rfl)) rfl
        have cl : wx.cell? ⟨g, 1, none⟩ = some (.int .i64 f2) := (hx.out.cell (p := ⟨g, 1, none⟩) (World.block_lt_of_cell? _ _ HC1.out)).trans HC1.out
        refine wpOp_want rfl (by simp [Region.wanted, yielded, e1]) ?_
        go_simp
        exact ⟨⟨by simp [hsz.out], hx.out⟩, upd z 59 (.int .i64 f2), (by unfold Hid; simp [upd, e1, e6]), hz.next apx hsz.out 7 (by decide) _ (fun _ h => Option.some.inj h)⟩
      · have e1 : z 53 = .bool true := hz 1 _ (hw 1 (by kernel_rfl)) rfl
        have e3 : z 55 = .int .i64 f2 := hz 3 _ (hw 3 (by kernel_rfl)) rfl
        have e7 : z 59 = .int .i64 f2 := hz 7 _ (hw 7 (by kernel_rfl)) rfl
        refine wpOp_want rfl (by simp [Region.wanted, yielded, e1]) ?_
        go_simp
        exact ⟨⟨by simp [hsz.out], hx.out⟩, upd z 60 (.bool true), (by unfold Hid; simp [upd, e1, e3, e7]), hz.next apx hsz.out 8 (by decide) _ (fun _ h => Option.some.inj h)⟩
      · have e1 : z 53 = .bool true := hz 1 _ (hw 1 (by kernel_rfl)) rfl
        have e8 : z 60 = .bool true := hz 8 _ (hw 8 (by kernel_rfl)) rfl
        refine wpOp_plain rfl rfl ?_
        go_simp
        exact ⟨⟨by simp [hsz.out], hx.out⟩, upd z 61 (.bool true), (by unfold Hid; simp [upd, e1, e8]), hz.next apx hsz.out 9 (by decide) _ (fun _ h => Option.some.inj h)⟩
      · have e9 : z 61 = .bool true := hz 9 _ (hw 9 (by kernel_rfl)) rfl
        refine wpOp_plain rfl rfl ?_
        go_simp
        exact ⟨⟨by simp [hsz.out], hx.out⟩, upd z 62 (.bool true), (by unfold Hid; simp [upd, e9]), hz.next apx hsz.out 10 (by decide) _ (fun _ h => Option.some.inj h)⟩
      · have e10 : z 62 = .bool true := hz 10 _ (hw 10 (by kernel_rfl)) rfl
        refine wpOp_want rfl (by simp [Region.wanted, yielded, e10]) ?_
        go_simp
        exact ⟨⟨by simp [hsz.out], hx.out⟩, upd z 63 (.pointer (some ⟨rb, 0, none⟩)), (by unfold Hid; simp [upd, e10]), hz.next apx hsz.out 11 (by decide) _ (fun _ h => Option.some.inj h)⟩
      · have e10 : z 62 = .bool true := hz 10 _ (hw 10 (by kernel_rfl)) rfl
        have e11 : z 63 = .pointer (some ⟨rb, 0, none⟩) := hz 11 _ (hw 11 (by kernel_rfl)) rfl
        refine wpOp_want rfl (by simp [Region.wanted, yielded, e10]) ?_
        go_simp
        go_at_call 7
        refine (done_any (HR2.out.later hx.out)).mono ?_
        rintro e0 w' ⟨rfl, rfl⟩
        exact ⟨⟨by simp [hsz.out], hx.out.trans ((Below.refl _ wx).mono hx.out.size)⟩, upd z 64 (.int .i64 (doneE L2 f2)), (by unfold Hid; simp [upd, e10, e11]), hz.next apx hsz.out 12 (by decide) _ (fun _ h => Option.some.inj h)⟩
      · have e10 : z 62 = .bool true := hz 10 _ (hw 10 (by kernel_rfl)) rfl
        refine wpOp_want rfl (by simp [Region.wanted, yielded, e10]) ?_
        go_simp
        exact ⟨⟨by simp [hsz.out], hx.out⟩, upd z 65 (.pointer (some ⟨g, 0, none⟩)), (by unfold Hid; simp [upd, e10]), hz.next apx hsz.out 13 (by decide) _ (fun _ h => Option.some.inj h)⟩
      · have e10 : z 62 = .bool true := hz 10 _ (hw 10 (by kernel_rfl)) rfl
        have e13 : z 65 = .pointer (some ⟨g, 0, none⟩) := hz 13 _ (hw 13 (by kernel_rfl)) rfl
        refine wpOp_want rfl (by simp [Region.wanted, yielded, e10]) ?_
        go_simp
        go_at_call 8
        refine (q_done (HQ2.out.later hx.out)).mono ?_
        rintro e0 w' ⟨rfl, rfl⟩
        exact ⟨⟨by simp [hsz.out], hx.out.trans ((Below.refl _ wx).mono hx.out.size)⟩, upd z 66 (.int .i64 (doneE L2 f2)), (by unfold Hid; simp [upd, e10, e13]), hz.next apx hsz.out 14 (by decide) _ (fun _ h => Option.some.inj h)⟩
      · have e10 : z 62 = .bool true := hz 10 _ (hw 10 (by kernel_rfl)) rfl
        have e12 : z 64 = .int .i64 (doneE L2 f2) := hz 12 _ (hw 12 (by kernel_rfl)) rfl
        have e14 : z 66 = .int .i64 (doneE L2 f2) := hz 14 _ (hw 14 (by kernel_rfl)) rfl
        refine wpOp_want rfl (by simp [Region.wanted, yielded, e10]) ?_
        go_simp
        exact ⟨⟨by simp [hsz.out], hx.out⟩, upd z 67 (.bool true), (by unfold Hid; simp [upd, e10, e12, e14]), hz.next apx hsz.out 15 (by decide) _ (fun _ h => Option.some.inj h)⟩
      · have e10 : z 62 = .bool true := hz 10 _ (hw 10 (by kernel_rfl)) rfl
        have e15 : z 67 = .bool true := hz 15 _ (hw 15 (by kernel_rfl)) rfl
        refine wpOp_plain rfl rfl ?_
        go_simp
        exact ⟨⟨by simp [hsz.out], hx.out⟩, upd z 68 (.bool true), (by unfold Hid; simp [upd, e10, e15]), hz.next apx hsz.out 16 (by decide) _ (fun _ h => Option.some.inj h)⟩
      · have e16 : z 68 = .bool true := hz 16 _ (hw 16 (by kernel_rfl)) rfl
        refine wpOp_plain rfl rfl ?_
        go_simp
        exact ⟨⟨by simp [hsz.out], hx.out⟩, upd z 6 (.bool true), (by unfold Hid; simp [upd, e16]), hz.next apx hsz.out 17 (by decide) _ (fun _ h => Option.some.inj h)⟩
    · exact ⟨⟨rfl, (Below.refl _ _).drew⟩, fun xx => (#[.pointer (some ⟨rb, 0, none⟩), .pointer (some ⟨g, 0, none⟩), .agg x.cells, undef, undef, .pointer (some ⟨bx, 0, none⟩), .bool false, .bool true, u8, u9, u10, u11, u12, u13, u14, u15, u16, u17, u18, u19, u20, u21, u22, u23, u24, u25, u26, u27, u28, u29, u30, u31, u32, u33, u34, u35, u36, u37, u38, u39, u40, u41, u42, u43, u44, u45, u46, u47, u48, u49, u50, u51, u52, u53, u54, u55, u56, u57, u58, u59, u60, u61, u62, u63, u64, u65, u66, u67, u68] : Array Value).getD xx undef, rfl, Holding.start⟩
end Go.Proofs.Ytigfcmnknijobaa.Cod
