/- DERIVED. The contract of the reference's Label. Written by mkrdlabel.py. -/
import Derived.Test.YtigfcmnknijobaaRefRdHash
import Derived.Test.YtigfcmnknijobaaCodAgain
namespace Go.Proofs.Ytigfcmnknijobaa.Cod
open Go.RowKit Str
theorem infoLb : (Try.prog.info? 34).map (·.size) = some 2 := by kernel_rfl
theorem lb_one (a c : Int) : (#[Value.int .i64 a, Value.int .u64 c] : Array Value).all (·.oneCell') = true := by
  rw [Array.all_eq_true_iff_forall_mem]
  intro v hv
  simp only [List.mem_toArray, List.mem_cons, List.mem_nil_iff, or_false] at hv
  rcases hv with rfl | rfl <;> rfl
theorem QR.cell1 {B g : Nat} {L : List Int} {e : Int} {w : World} (h : QR B g L e w) : w.cell? ⟨g, 1, none⟩ = some (.int .i64 e) := by
  obtain ⟨v, h1, _, _⟩ := h
  exact cell_row h1 1
theorem grown_cell (w : World) (g o : Nat) (u : Value) : w.grownBy (w.setCell ⟨g, o, none⟩ u) (some g) := grown_chg (chg_one w g o u)
theorem comp_step (X : List Int) (k : Nat) (h : k < X.length) (h0 : 0 ≤ X.getD k 0) : ((compOf (X.take (k + 1)) : Nat) : Int) = (256 * compOf (X.take k) : Nat) + X.getD k 0 := by
  rw [List.take_add_one, List.getElem?_eq_getElem h]
  unfold compOf
  simp only [Option.toList_some, List.foldl_append, List.foldl_cons, List.foldl_nil]
  have e : X.getD k 0 = X[k] := by simp [List.getD_eq_getElem?_getD, h]
  rw [e] at h0 ⊢
  omega
theorem comp_lt (X : List Int) (hb : InB X) : ∀ k, k ≤ X.length → compOf (X.take k) < 256 ^ k := by
  intro k
  induction k with
  | zero => intro _; simp [compOf]
  | succ k ih =>
    intro hk
    have h1 := comp_step X k (by omega) (hb k).1
    have h2 := ih (by omega)
    have h3 := (hb k).2
    rw [Nat.pow_succ]
    omega
set_option maxRecDepth 100000 in
set_option maxHeartbeats 4000000 in
theorem rlabel_core {B g N : Nat} {X M0 M : List Int} {e0 e' : Int} {w : World} (hN : N < 16) (hX : X.length = 0 ∨ X.length = 8) (hXb : InB X) (hg : g < w.heap.size) (hB : B ≤ w.heap.size)
    (HF : Calls Try.prog 44 #[.pointer (some ⟨g, 0, none⟩), .int .u64 15] (w.alloc (.cells #[.int .i64 0, .int .u64 0] 34)) fun e w' => e = .returned (.int .u64 (N : Nat)) ∧ QR B g M0 e0 w' ∧ Chg [g] (w.alloc (.cells #[.int .i64 0, .int .u64 0] 34)) w')
    (HT : ∀ w1, QR B g M0 e0 w1 → Calls Try.prog 40 #[.pointer (some ⟨g, 0, none⟩), .int .i64 8] w1 fun e w' => ∃ v, e = .returned v ∧ SlB X v w' ∧ LowV B v ∧ QR B g M e' w' ∧ Chg [g] w1 w') :
    Calls Try.prog 22 #[.pointer (some ⟨g, 0, none⟩)] w fun e w' => e = .returned (.agg (if e' = 0 then labC (N, compOf X) else labC (0, 0))) ∧ QE B g M e' w' ∧ Chg [g] w w' := by
  obtain ⟨w1, hw1⟩ : ∃ w1, w1 = w.alloc (.cells #[.int .i64 0, .int .u64 0] 34) := ⟨_, rfl⟩
  have r2 : w1.heap[w.heap.size]? = some (.cells #[.int .i64 0, .int .u64 0] 34 (0, 0)) := by rw [hw1]; exact Go.heap_alloc_new w _
  have low1 : Below w.heap.size w w1 := by rw [hw1]; exact (Below.refl _ _).alloc (Nat.le_refl _) _
  rw [← hw1] at HF
  have hw3 : IntKind.i64.wrap (N : Int) = (N : Nat) := by rw [IntKind.wrap_i64]; omega
  have HFm := Lib.hid HF
  have HTk := Lib.hid HT
  have R2 := Lib.hid r2
  have Low := Lib.hid low1
  have Hw := Lib.hid hw1
  have Hg := Lib.hid hg
  have HB := Lib.hid hB
  have HX := Lib.hid hX
  have HXb := Lib.hid hXb
  clear HF HT r2 low1 hw1 hg hB hX hXb hN
  go_enter Try.func22, Try.ntmps22
  go_upto_region 1 with (fail)
  rw [← Hw.out]
  clear Hw
  obtain ⟨b2, hb2⟩ : ∃ b2, b2 = w.heap.size := ⟨_, rfl⟩
  rw [← hb2] at R2 ⊢
  have Hb2 := Lib.hid hb2
  clear hb2
  go_upto_region 3 with (first
    | (go_at_call 40; refine (HTk.out _ HQ2.out).mono ?_; rintro e w3 ⟨v, rfl, hsl, hlv, hq, hc⟩; have Hsl := Lib.hid hsl; have Hlv := Lib.hid hlv; have HQ3 := Lib.hid hq; have HC3 := Lib.hid hc; clear hsl hlv hq hc)
    | (go_at_call 44; refine HFm.out.mono ?_; rintro e w2 ⟨rfl, hq, hc⟩; have HQ2 := Lib.hid hq; have HC2 := Lib.hid hc; clear hq hc))
  rename_i w2 w3
  obtain ⟨A, cp, rfl, hby⟩ := Hsl.out
  have Hby := Lib.hid hby
  have hcap := hby.1
  obtain ⟨n, hn⟩ : ∃ n, n = X.length := ⟨_, rfl⟩
  have Hn := Lib.hid hn
  rw [← hn] at hcap ⊢
  have hn8 : n ≤ 8 := by have := HX.out; omega
  have rR := (HC2.out.trans HC3.out).at R2.out (by have := Hg.out; have := Hb2.out; simp; omega)
  have HR3 := Lib.hid rR
  clear hn hby rR HFm HTk Hsl R2
  go_upto_region 4 with (fail)
  obtain ⟨w4, hw4⟩ : ∃ w4, w4 = w3.alloc (.cells #[.int .i64 (N : Nat), .int .u64 0] 34) := ⟨_, rfl⟩
  have r5 : w4.heap[w3.heap.size]? = some (.cells #[.int .i64 (N : Nat), .int .u64 ((compOf (X.take 0) : Nat) : Int)] 34 (0, 0)) := by rw [hw4]; exact Go.heap_alloc_new w3 _
  have low4 : Below w3.heap.size w3 w4 := by rw [hw4]; exact (Below.refl _ _).alloc (Nat.le_refl _) _
  rw [← hw4]
  obtain ⟨b5, hb5⟩ : ∃ b5, b5 = w3.heap.size := ⟨_, rfl⟩
  rw [← hb5] at r5 ⊢
  have Hne : Hid (b2 ≠ b5 ∧ g ≠ b2 ∧ g ≠ b5 ∧ B ≤ b5 ∧ w1.heap.size ≤ b5) := by
    have h1 := Hg.out
    have h2 := HB.out
    have h3 := Hb2.out
    have h4 := (Array.getElem?_eq_some_iff.1 HR3.out).1
    have h5 := (HC2.out.trans HC3.out).size
    have h6 := Low.out.size
    exact ⟨by omega, by omega, by omega, by omega, by omega⟩
  have Low4 := Lib.hid low4
  have HI0 : Hid (w4.heap[b5]? = some (.cells #[.int .i64 (N : Nat), .int .u64 ((compOf (X.take 0) : Nat) : Int)] 34 (0, 0)) ∧ Chg [b5] w4 w4) := ⟨r5, Chg.refl _ _⟩
  clear hw4 hb5 r5 low4 hw3
  go_wp2
  go_loopw [6] (fun i wr => ∃ k : Nat, k ≤ n ∧ i = .int .i64 (k : Nat) ∧ Hid (wr.heap[b5]? = some (.cells #[.int .i64 (N : Nat), .int .u64 ((compOf (X.take k) : Nat) : Int)] 34 (0, 0)) ∧ Chg [b5] w4 wr)) (fun i _ => n - (intOf i).toNat)
  case atStart => exact ⟨0, by omega, rfl, HI0⟩
  case round =>
    obtain ⟨k, hk, rfl, hI⟩ := hrel
    clear HI0
    by_cases hlt : k < n
    · have hlt' : (k : Int) < n := by omega
      obtain ⟨b0, off, rfl, hbb, hc⟩ := Hby.out.2.2 (by have := Hn.out; omega)
      have hbB : b0 < B := Hlv.out ⟨b0, off, none⟩ _ _ rfl
      obtain ⟨y, hy⟩ : ∃ y, y = X.getD k 0 := ⟨_, rfl⟩
      obtain ⟨x, hx⟩ : ∃ x, x = compOf (X.take k) := ⟨_, rfl⟩
      have hck := hc k (by have := Hn.out; omega)
      rw [← hy] at hck
      have hyb := HXb.out k
      have hst := comp_step X k (by have := Hn.out; omega) hyb.1
      have hcl2 := comp_lt X HXb.out k (by have := Hn.out; omega)
      rw [← hy] at hyb hst
      rw [← hx] at hst hcl2
      have hxs : x < 72057594037927936 := Nat.lt_of_lt_of_le hcl2 (Nat.le_trans (Nat.pow_le_pow_right (by decide) (by omega : k ≤ 7)) (by decide))
      obtain ⟨zz, hz⟩ : ∃ zz : Int, zz = 256 * (x : Int) := ⟨_, rfl⟩
      obtain ⟨s, hs⟩ : ∃ s : Int, s = zz + y := ⟨_, rfl⟩
      have hm1 : IntKind.u64.wrap (256 * (x : Int)) = zz := by rw [wrap64]; omega
      have hm2 : IntKind.u64.wrap (zz + y) = s := by rw [wrap64]; omega
      have hm3 : IntKind.u64.wrap y = y := by rw [wrap64]; omega
      have Hst : Hid (((compOf (X.take (k + 1)) : Nat) : Int) = s) := by show _ = _; omega
      have r5 := hI.out.1
      rw [← hx] at r5
      have C5 : Hid (World.cell? _ ⟨b5, 1, none⟩ = some (.int .u64 (x : Nat))) := cell_row r5 1
      have R5 := Lib.hid r5
      have CY : Hid (World.cell? _ ⟨b0, off + k, none⟩ = some (.int .u8 y)) := (World.cell?_of_block (a := ⟨b0, off + k, none⟩) ((hI.out.2.block b0 (Nat.lt_of_lt_of_le hbb Low4.out.size) (by have := Hne.out.2.2.2.1; simp; omega)).trans (Low4.out.block b0 hbb))).trans hck
      clear hc hbb hbB hck hst hcl2 hxs hz hs hy hx r5
      rename World => wr
      go_upto_region 7 with (fail)
      have apx : apartB [20, 21, 22, 23, 24, 25, 26, 27, 28, 29, 1010] = true := by decide
      refine wp_region_any (by kernel_rfl) ?_
      change wpAny _ _ _ _ _ _ _ (World.drew _)
      refine wpAny_inv2 (fun ll aa wx => Hid (ll.size = 11 ∧ RelU 10 (some b5) wr ll wx) ∧ ∃ (z : Nat → Value), Hid (aa = ⟨#[.pointer (some ⟨g, 0, none⟩), undef, .pointer (some ⟨b2, 0, none⟩), .int .u64 (N : Nat), .slice (some ⟨b0, off, none⟩) n cp, .pointer (some ⟨b5, 0, none⟩), .int .i64 (k : Nat), .pointer (some ⟨g, 0, none⟩), .int .u64 (N : Nat), .pointer (some ⟨g, 0, none⟩), .slice (some ⟨b0, off, none⟩) n cp, .int .u64 (N : Nat), .int .i64 (N : Nat), .agg #[.int .i64 (N : Nat), .int .u64 0], .int .i64 (k : Nat), .slice (some ⟨b0, off, none⟩) n cp, .int .i64 (n : Nat), .bool true, u18, u19, z 20, z 21, z 22, z 23, z 24, z 25, z 26, z 27, z 28, z 29, undef, undef, undef, undef, undef, undef, undef], []⟩) ∧ Holding [20, 21, 22, 23, 24, 25, 26, 27, 28, 29, 1010] [some (.pointer (some ⟨b5, 1, none⟩)), some (.int .u64 (x : Nat)), some (.int .u64 zz), some (.slice (some ⟨b0, off, none⟩) n cp), some (.int .i64 (k : Nat)), some (.pointer (some ⟨b0, off + k, none⟩)), some (.int .u8 y), some (.int .u64 y), some (.int .u64 s), some (.pointer (some ⟨b5, 1, none⟩)), none] ll z ∧ Whn ll 10 (fun _ wx => wx.heap[b5]? = some (.cells #[.int .i64 (N : Nat), .int .u64 s] 34 (0, 0))) (z 1010) wx) ?_ (by kernel_rfl) ?_ ?_ _ rfl _ _ ?_
      · rintro ll aa wx ⟨hI, _⟩
        exact hI.out.1
      · rintro ll aa wx ⟨hI, z, ha, hz, hp10⟩ hall
        have hx := Lib.hid hI.out.2
        have e0 : z 20 = .pointer (some ⟨b5, 1, none⟩) := hz 0 _ (hall 0 (by decide)) rfl
        have e1 : z 21 = .int .u64 (x : Nat) := hz 1 _ (hall 1 (by decide)) rfl
        have e2 : z 22 = .int .u64 zz := hz 2 _ (hall 2 (by decide)) rfl
        have e3 : z 23 = .slice (some ⟨b0, off, none⟩) n cp := hz 3 _ (hall 3 (by decide)) rfl
        have e4 : z 24 = .int .i64 (k : Nat) := hz 4 _ (hall 4 (by decide)) rfl
        have e5 : z 25 = .pointer (some ⟨b0, off + k, none⟩) := hz 5 _ (hall 5 (by decide)) rfl
        have e6 : z 26 = .int .u8 y := hz 6 _ (hall 6 (by decide)) rfl
        have e7 : z 27 = .int .u64 y := hz 7 _ (hall 7 (by decide)) rfl
        have e8 : z 28 = .int .u64 s := hz 8 _ (hall 8 (by decide)) rfl
        have e9 : z 29 = .pointer (some ⟨b5, 1, none⟩) := hz 9 _ (hall 9 (by decide)) rfl
        have p10 := hp10.get (hall 10 (by decide))
        clear hall hz hI hp10
        obtain rfl := ha.out
        clear ha
        clear apx
        have P10 := Lib.hid p10
        have HG := Lib.hid hx.out.1
        clear e0 e1 e2 e3 e4 e5 e6 e7 e8 e9 p10
        go_wp2
        go_roundw
        case rel => exact ⟨k + 1, by omega, by go_num, by rw [Hst.out]; exact P10.out, hI.out.2.trans (chg_grown HG.out)⟩
        case measure => simp [intOf]; omega
      · rintro ll aa wx i ⟨hI, z, ha, hz, hp10⟩ hcl hi hu hw
        obtain rfl := ha.out
        have hsz := Lib.hid hI.out.1
        have hx := Lib.hid hI.out.2
        clear ha hI
        have hin : i < 11 := hi
        obtain rfl | rfl | rfl | rfl | rfl | rfl | rfl | rfl | rfl | rfl | rfl : i = 0 ∨ i = 1 ∨ i = 2 ∨ i = 3 ∨ i = 4 ∨ i = 5 ∨ i = 6 ∨ i = 7 ∨ i = 8 ∨ i = 9 ∨ i = 10 := by omega
        · refine wpOp_plain rfl rfl ?_
          go_simp
          exact ⟨⟨by simp [hsz.out], hx.out.same⟩, upd z 20 (.pointer (some ⟨b5, 1, none⟩)), (by unfold Hid; simp [upd]), hz.next apx hsz.out 0 (by decide) _ (fun _ h => Option.some.inj h), hp10.keep (by decide)⟩
        · have e0 : z 20 = .pointer (some ⟨b5, 1, none⟩) := hz 0 _ (hw 0 (by kernel_rfl)) rfl
          have hl10 : ll.getD 10 false = false := by
              cases e : ll.getD 10 false with
              | false => rfl
              | true =>
                have := hcl 10 1 e (by kernel_rfl)
                rw [this] at hu
                cases hu
          have cl := ((hx.out.2 hl10).cell (p := ⟨b5, 1, none⟩) (World.block_lt_of_cell? _ _ C5.out)).trans C5.out
          refine wpOp_plain rfl rfl ?_
          go_simp
          exact ⟨⟨by simp [hsz.out], hx.out.same⟩, upd z 21 (.int .u64 (x : Nat)), (by unfold Hid; simp [upd, e0]), hz.next apx hsz.out 1 (by decide) _ (fun _ h => Option.some.inj h), hp10.keep (by decide)⟩
        · have e1 : z 21 = .int .u64 (x : Nat) := hz 1 _ (hw 1 (by kernel_rfl)) rfl
          refine wpOp_plain rfl rfl ?_
          go_simp
          exact ⟨⟨by simp [hsz.out], hx.out.same⟩, upd z 22 (.int .u64 zz), (by unfold Hid; simp [upd, e1]), hz.next apx hsz.out 2 (by decide) _ (fun _ h => Option.some.inj h), hp10.keep (by decide)⟩
        · refine wpOp_plain rfl rfl ?_
          go_simp
          exact ⟨⟨by simp [hsz.out], hx.out.same⟩, upd z 23 (.slice (some ⟨b0, off, none⟩) n cp), (by unfold Hid; simp [upd]), hz.next apx hsz.out 3 (by decide) _ (fun _ h => Option.some.inj h), hp10.keep (by decide)⟩
        · refine wpOp_plain rfl rfl ?_
          go_simp
          exact ⟨⟨by simp [hsz.out], hx.out.same⟩, upd z 24 (.int .i64 (k : Nat)), (by unfold Hid; simp [upd]), hz.next apx hsz.out 4 (by decide) _ (fun _ h => Option.some.inj h), hp10.keep (by decide)⟩
        · have e3 : z 23 = .slice (some ⟨b0, off, none⟩) n cp := hz 3 _ (hw 3 (by kernel_rfl)) rfl
          have e4 : z 24 = .int .i64 (k : Nat) := hz 4 _ (hw 4 (by kernel_rfl)) rfl
          refine wpOp_plain rfl rfl ?_
          go_simp
          exact ⟨⟨by simp [hsz.out], hx.out.same⟩, upd z 25 (.pointer (some ⟨b0, off + k, none⟩)), (by unfold Hid; simp [upd, e3, e4]), hz.next apx hsz.out 5 (by decide) _ (fun _ h => Option.some.inj h), hp10.keep (by decide)⟩
        · have e5 : z 25 = .pointer (some ⟨b0, off + k, none⟩) := hz 5 _ (hw 5 (by kernel_rfl)) rfl
          have hl10 : ll.getD 10 false = false := by
              cases e : ll.getD 10 false with
              | false => rfl
              | true =>
                have := hcl 10 6 e (by kernel_rfl)
                rw [this] at hu
                cases hu
          have cl := ((hx.out.2 hl10).cell (p := ⟨b0, off + k, none⟩) (World.block_lt_of_cell? _ _ CY.out)).trans CY.out
          refine wpOp_plain rfl rfl ?_
          go_simp
          exact ⟨⟨by simp [hsz.out], hx.out.same⟩, upd z 26 (.int .u8 y), (by unfold Hid; simp [upd, e5]), hz.next apx hsz.out 6 (by decide) _ (fun _ h => Option.some.inj h), hp10.keep (by decide)⟩
        · have e6 : z 26 = .int .u8 y := hz 6 _ (hw 6 (by kernel_rfl)) rfl
          refine wpOp_plain rfl rfl ?_
          go_simp
          exact ⟨⟨by simp [hsz.out], hx.out.same⟩, upd z 27 (.int .u64 y), (by unfold Hid; simp [upd, e6]), hz.next apx hsz.out 7 (by decide) _ (fun _ h => Option.some.inj h), hp10.keep (by decide)⟩
        · have e2 : z 22 = .int .u64 zz := hz 2 _ (hw 2 (by kernel_rfl)) rfl
          have e7 : z 27 = .int .u64 y := hz 7 _ (hw 7 (by kernel_rfl)) rfl
          refine wpOp_plain rfl rfl ?_
          go_simp
          exact ⟨⟨by simp [hsz.out], hx.out.same⟩, upd z 28 (.int .u64 s), (by unfold Hid; simp [upd, e2, e7]), hz.next apx hsz.out 8 (by decide) _ (fun _ h => Option.some.inj h), hp10.keep (by decide)⟩
        · refine wpOp_plain rfl rfl ?_
          go_simp
          exact ⟨⟨by simp [hsz.out], hx.out.same⟩, upd z 29 (.pointer (some ⟨b5, 1, none⟩)), (by unfold Hid; simp [upd]), hz.next apx hsz.out 9 (by decide) _ (fun _ h => Option.some.inj h), hp10.keep (by decide)⟩
        · have e8 : z 28 = .int .u64 s := hz 8 _ (hw 8 (by kernel_rfl)) rfl
          have e9 : z 29 = .pointer (some ⟨b5, 1, none⟩) := hz 9 _ (hw 9 (by kernel_rfl)) rfl
          have hl10 : ll.getD 10 false = false := hu
          have r5 := ((hx.out.2 hl10).block b5 (Array.getElem?_eq_some_iff.1 R5.out).1).trans R5.out
          have c5 := cell_row r5 1
          simp only [List.getElem?_toArray, List.getElem?_cons_zero, List.getElem?_cons_succ] at c5
          have f5 := free_row r5 1
          refine wpOp_plain rfl rfl ?_
          go_simp
          exact ⟨⟨by simp [hsz.out], hx.out.app (grown_cell wx b5 1 _) (by rw [hsz.out]; decide)⟩, upd z 1010 (undef), (by unfold Hid; simp [upd, e8, e9]), hz.next apx hsz.out 10 (by decide) _ (fun _ h => by cases h), Whn.done (by rw [heap_setCell_same _ _ _ _ _ _ r5]; rfl)⟩
      · exact ⟨⟨rfl, RelU.start⟩, fun xx => (#[.pointer (some ⟨g, 0, none⟩), undef, .pointer (some ⟨b2, 0, none⟩), .int .u64 (N : Nat), .slice (some ⟨b0, off, none⟩) n cp, .pointer (some ⟨b5, 0, none⟩), .int .i64 (k : Nat), .pointer (some ⟨g, 0, none⟩), .int .u64 (N : Nat), .pointer (some ⟨g, 0, none⟩), .slice (some ⟨b0, off, none⟩) n cp, .int .u64 (N : Nat), .int .i64 (N : Nat), .agg #[.int .i64 (N : Nat), .int .u64 0], .int .i64 (k : Nat), .slice (some ⟨b0, off, none⟩) n cp, .int .i64 (n : Nat), .bool true, u18, u19, u20, u21, u22, u23, u24, u25, u26, u27, u28, u29, undef, undef, undef, undef, undef, undef, undef] : Array Value).getD xx undef, (by rfl), Holding.start, Whn.none (by decide)⟩
    · have hlt' : ¬ (k : Int) < n := by omega
      obtain rfl : k = n := by omega
      have c1g : World.cell? _ ⟨g, 1, none⟩ = some (.int .i64 e') := (World.cell?_of_block (a := ⟨g, 1, none⟩) ((hI.out.2.block g (Nat.lt_of_lt_of_le HQ3.out.lt Low4.out.size) (by have := Hne.out.2.2.1; simp; omega)).trans (Low4.out.block g HQ3.out.lt))).trans HQ3.out.cell1
      have hq := (HQ3.out.e.keep (Chg.of_below (S := [b2]) Low4.out) (by have := Hne.out.2.1; simp; omega) (by have := Hb2.out; have := HB.out; simp; omega)).keep hI.out.2 (by have := Hne.out.2.2.1; simp; omega) (by have := Hne.out.2.2.2.1; simp; omega)
      have hch := ((Chg.of_below (S := [g]) Low.out).trans (HC2.out.trans (HC3.out.trans (Chg.of_below Low4.out)))).trans_new hI.out.2 (by have := Hne.out.2.2.2.2; have := Low.out.size; omega)
      have rr := hI.out.2.at ((Low4.out.block b2 (Array.getElem?_eq_some_iff.1 HR3.out).1).trans HR3.out) (by have := Hne.out.1; simp; omega)
      have HRr := Lib.hid rr
      have HQ := Lib.hid hq
      have HCh := Lib.hid hch
      have hrow5 := hI.out.1
      rw [show X.take k = X by rw [Hn.out]; exact List.take_length] at hrow5
      have H5 := Lib.hid hrow5
      have Hg2 : Hid (g ≠ b2 ∧ B ≤ b2 ∧ w.heap.size ≤ b2) := ⟨Hne.out.2.1, by have := Hb2.out; have := HB.out; omega, by have := Hb2.out; omega⟩
      clear rr hq hch hrow5 hI
      by_cases he : e' = 0
      · have He := Lib.hid he
        have he' : (e' == 0) = true := by rw [he]; rfl
        have he2 : (e' != 0) = false := by rw [he]; rfl
        clear he
        go_wp2_with (first
          | (refine wpList_load_row rfl 34 (.tmp 5) rfl b5 rfl 34 _ (0, 0) _ H5.out Try.underlying34 rfl infoLb ?_)
          | (refine wpList_store_row rfl 34 (.tmp 2) (.tmp 36) rfl b2 #[.int .i64 (N : Nat), .int .u64 ((compOf X : Nat) : Int)] rfl rfl 34 _ HRr.out infoLb rfl (lb_one _ _) ?_))
        have hrow : (World.setRow _ b2 (labC (N, compOf X))).heap[b2]? = some (.cells (labC (N, compOf X)) 34 (0, 0)) := setRow_at HRr.out
        refine bodyPost_ret (v := .agg (labC (N, compOf X))) (results_cell_row rfl _ _ b2 34 _ (0, 0) _ rfl hrow Try.underlying34 rfl infoLb) rfl ⟨by first | rfl | rw [if_pos He.out], ?_, ?_⟩
        · have hh := HQ.out.keep (chg_setRow _ b2 (labC (N, compOf X))) (by have := Hg2.out.1; simp; omega) (by have := Hg2.out.2.1; simp; omega)
          rw [He.out] at hh
          exact hh
        · exact HCh.out.trans_new (chg_setRow _ b2 _) Hg2.out.2.2
      · have He := Lib.hid he
        have he2 : (e' != 0) = true := by simpa using he
        clear he
        go_wp2_with (refine wpList_store_row rfl 34 (.tmp 2) (.tmp 35) rfl b2 #[.int .i64 0, .int .u64 0] rfl rfl 34 _ HRr.out infoLb rfl (lb_one _ _) ?_)
        have hrow : (World.setRow _ b2 (labC (0, 0))).heap[b2]? = some (.cells (labC (0, 0)) 34 (0, 0)) := setRow_at HRr.out
        refine bodyPost_ret (v := .agg (labC (0, 0))) (results_cell_row rfl _ _ b2 34 _ (0, 0) _ rfl hrow Try.underlying34 rfl infoLb) rfl ⟨by first | rfl | rw [if_neg He.out], ?_, ?_⟩
        · exact HQ.out.keep (chg_setRow _ b2 _) (by have := Hg2.out.1; simp; omega) (by have := Hg2.out.2.1; simp; omega)
        · exact HCh.out.trans_new (chg_setRow _ b2 _) Hg2.out.2.2
end Go.Proofs.Ytigfcmnknijobaa.Cod
