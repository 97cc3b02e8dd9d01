/- DERIVED. The contracts of chacha.blocksOf, chacha.pieces and of the iterator that it makes. Written by mkpieces.py. -/
import Derived.Test.YtdkfofnkacmliaaDoorChaBlock
import Derived.Test.YtdkfofnkacmliaaDoorRegionInvIn
import Derived.RangeFuncNested
import Derived.RangeFuncBound
import Derived.RangeFuncCalls
import Derived.RangeFuncLeaves
import Derived.RangeFuncBox
import Derived.WalkKit
import Derived.OwnWalkIn
import Derived.TacticsInMore
import Derived.LoopNIn
import Derived.LoopIn
namespace Go.Proofs.YtdkfofnkacmliaaDoor.Cha
open Go.RowKit
attribute [local go_sem] Oper.semAt_some
/-- how many blocks n bytes need. -/
def nbl (n : Nat) : Nat := (n + 63) / 64
theorem ret_u64 {a b : Int} (h : a = b) : Ending.returned (.int .u64 a) = .returned (.int .u64 b) := by rw [h]
theorem blocksOf_any (n : Nat) (h : n ≤ 1000000) (w : World) : Calls Tryd.prog 21 #[.int .i64 (n : Int)] w fun e w' => e = .returned (.int .u64 (nbl n : Nat)) ∧ w = w' := by
  have h' : (n : Int) ≤ 1000000 := by omega
  have hn : Hid (((n : Int) + 64 - 1) / 64 = ((nbl n : Nat) : Int)) := by show _ = _; unfold nbl; omega
  clear h
  go_enter Tryd.func21, Tryd.ntmps21
  go_wp2
  go_ret
  exact ⟨ret_u64 hn.out, rfl⟩
theorem pieces_any (A : Option Addr) (n cap : Nat) (c : Int) (w : World) :
    Calls Tryd.prog 22 #[.int .u32 c, .slice A n cap] w fun e w' => e = .returned (.func (.func 25) #[] #[.pointer (some ⟨w.heap.size + 1, 0, none⟩), .pointer (some ⟨w.heap.size, 0, none⟩)]) ∧ w' = (w.alloc (.cells #[.int .u32 c] 22)).alloc (.cells #[.slice A n cap] 38) := by
  go_enter Tryd.func22, Tryd.ntmps22
  go_wp2
  go_ret
  exact ⟨rfl, rfl⟩
/-- what block x covers. -/
def piece (g off n cap : Nat) (x : Nat) : Value := .slice (some ⟨g, off + x * 64, none⟩) (min 64 (n - x * 64)) (cap - x * 64)
/-- what is handed to the body. -/
def encs (g off n cap : Nat) (c : Int) (x : Fin (nbl n)) : Array Value := #[.int .u32 (c + (x.val : Nat)), piece g off n cap x.val]
/-- what a round keeps: the two boxes that the iterator reads. -/
def KpB (Bb Bc : Nat) (W W' : World) : Prop := W'.heap[Bb]? = W.heap[Bb]? ∧ W'.heap[Bc]? = W.heap[Bc]?
theorem KpB.trans {Bb Bc : Nat} {A B C : World} (h : KpB Bb Bc A B) (k : KpB Bb Bc B C) : KpB Bb Bc A C := ⟨k.1.trans h.1, k.2.trans h.2⟩
/-- what the iterator's region keeps that calls yield. -/
structure YI {α : Type} (J Jx : List α → World → Prop) (pre : List α) (x : α) (Bb Bc : Nat) (L : Array Bool) (v26 v27 : Value) (wr wx : World) : Prop where
  sz : L.size = 12
  bef : L.getD 10 false = false → wx = wr.drew
  aft : L.getD 10 false = true → ∃ b, v26 = .bool b ∧ ((b = true ∧ J (pre ++ [x]) wx ∧ KpB Bb Bc wr wx) ∨ (b = false ∧ Jx (pre ++ [x]) wx)) ∧ (L.getD 11 false = true → v27 = .bool (!b))
  c4 : L.getD 4 false = true → L.getD 1 false = true
  c10 : L.getD 10 false = true → L.getD 1 false = true
  c11 : L.getD 11 false = true → L.getD 10 false = true
section
variable {α : Type} {J Jx : List α → World → Prop} {pre : List α} {x : α} {Bb Bc : Nat} {L : Array Bool} {v26 v27 : Value} {wr wx : World}
theorem YI.read (h : YI J Jx pre x Bb Bc L v26 v27 wr wx) (i : Nat) (hi : i < 10) (h4 : i = 4 → L.getD 1 false = true) : YI J Jx pre x Bb Bc (L.setIfInBounds i true) v26 v27 wr wx where
  sz := by simp [h.sz]
  bef hl := h.bef (by rw [getD_set_ne false (by omega)] at hl; exact hl)
  aft hl := by
    rw [getD_set_ne false (by omega)] at hl ⊢
    exact h.aft hl
  c4 hl := by
    by_cases e : i = 4
    · exact getD_set_true (h4 e)
    · exact getD_set_true (h.c4 (lst hl (Ne.symm e)))
  c10 hl := getD_set_true (h.c10 (lst hl (by omega)))
  c11 hl := getD_set_true (h.c11 (lst hl (by omega)))
theorem YI.early (h : YI J Jx pre x Bb Bc L v26 v27 wr wx) (hu : L.getD 1 false = false) : wx = wr.drew := h.bef (by
  cases e : L.getD 10 false with
  | false => rfl
  | true => rw [h.c10 e] at hu; cases hu)
theorem YI.goes (h : YI J Jx pre x Bb Bc L v26 v27 wr wx) (hu : L.getD 10 false = false) (h4 : L.getD 4 false = true) {wy : World} (hj : J (pre ++ [x]) wy) (hk : KpB Bb Bc wr wy) : YI J Jx pre x Bb Bc (L.setIfInBounds 10 true) (.bool true) v27 wr wy where
  sz := by simp [h.sz]
  bef hl := by simp [h.sz] at hl
  aft _ := ⟨true, rfl, .inl ⟨rfl, hj, hk⟩, fun hl => by have := h.c11 (lst hl (by omega)); rw [this] at hu; cases hu⟩
  c4 hl := getD_set_true (h.c4 (lst hl (by omega)))
  c10 _ := getD_set_true (h.c4 h4)
  c11 _ := by simp [h.sz]
theorem YI.stops (h : YI J Jx pre x Bb Bc L v26 v27 wr wx) (hu : L.getD 10 false = false) (h4 : L.getD 4 false = true) {wy : World} (hj : Jx (pre ++ [x]) wy) : YI J Jx pre x Bb Bc (L.setIfInBounds 10 true) (.bool false) v27 wr wy where
  sz := by simp [h.sz]
  bef hl := by simp [h.sz] at hl
  aft _ := ⟨false, rfl, .inr ⟨rfl, hj⟩, fun hl => by have := h.c11 (lst hl (by omega)); rw [this] at hu; cases hu⟩
  c4 hl := getD_set_true (h.c4 (lst hl (by omega)))
  c10 _ := getD_set_true (h.c4 h4)
  c11 _ := by simp [h.sz]
theorem YI.last (h : YI J Jx pre x Bb Bc L v26 v27 wr wx) (h10 : L.getD 10 false = true) : ∃ b, v26 = .bool b ∧ YI J Jx pre x Bb Bc (L.setIfInBounds 11 true) v26 (.bool (!b)) wr wx := by
  obtain ⟨b, e, hq, _⟩ := h.aft h10
  refine ⟨b, e, by simp [h.sz], fun hl => ?_, fun _ => ⟨b, e, hq, fun _ => rfl⟩, fun hl => getD_set_true (h.c4 (lst hl (by omega))), fun _ => getD_set_true (h.c10 h10), fun _ => getD_set_true h10⟩
  rw [getD_set_true h10] at hl
  cases hl
end
theorem take_next {n k : Nat} (h : k < n) : (List.finRange n).take (k + 1) = (List.finRange n).take k ++ [⟨k, h⟩] := by
  rw [List.take_succ_eq_append_getElem (by simpa using h)]
  simp
theorem d12_apart : apartB [16, 17, 18, 19, 20, 21, 22, 23, 24, 25, 26, 27] = true := by decide
set_option maxRecDepth 100000 in
set_option maxHeartbeats 4000000 in
theorem pieces1_in (m l Bb Bc : Nat) (hm : 2 ≤ m) (g off : Nat) (n cap : Nat) (hn : n ≤ cap) (hsm : n ≤ 1000000) (c : Int) (c0 : 0 ≤ c) (cb : c + (nbl n : Nat) ≤ 4294967296) (J Jx : List (Fin (nbl n)) → World → Prop)
    (hJ : ∀ pre W, J pre W → J pre W.drew)
    (hY : ∀ pre x W, J pre W → pre.length < nbl n → YieldAt Fence.wide (m - 1) Tryd.prog l (encs g off n cap c x) W fun e W' =>
      (e = .returned (.bool true) ∧ J (pre ++ [x]) W' ∧ KpB Bb Bc W W') ∨ (e = .returned (.bool false) ∧ Jx (pre ++ [x]) W'))
    (W : World) (hb : Boxed W Bb 38 (.slice (some ⟨g, off, none⟩) n cap)) (hc : Boxed W Bc 22 (.int .u32 c)) (h0 : J [] W) :
    CallsIn Fence.wide m Tryd.prog 25 #[.func (.yield l) #[] #[], .pointer (some ⟨Bb, 0, none⟩), .pointer (some ⟨Bc, 0, none⟩)] W fun e W' => (∃ v, e = .returned v) ∧
      ((∃ ys, ys = List.finRange (nbl n) ∧ J ys W') ∨ (∃ pre, True ∧ Jx pre W')) := by
  have hnb := Lib.hid hn
  have hcb := hb.cell
  have hcc := hc.cell
  have hblk := Lib.hid (blocksOf_any n (by omega) W)
  have Hb := Lib.hid hb
  have Hc := Lib.hid hc
  have HJ := Lib.hid hJ
  have HY := Lib.hid hY
  clear hb hc hJ hY
  refine callsIn_of_wp Tryd.func25 rfl trivial ?_ rfl
  simp only [Tryd.ntmps25, List.size_toArray, List.length_cons, List.length_nil, Nat.reduceAdd, Nat.reduceSub, Array.replicate_succ, Array.replicate_zero, List.push_toArray, List.append_toArray, List.nil_append, List.cons_append]
  gi_wp2_with (refine ⟨trivial, (fun _ => by omega), ?_⟩; gi_at_call 21; refine (callsIn_wide.2 hblk.out).mono ?_; rintro e w' ⟨rfl, rfl⟩)
  gi_loopw [9] (fun i wr => ∃ k : Nat, k ≤ nbl n ∧ i = .int .u64 (k : Nat) ∧ Hid (J ((List.finRange (nbl n)).take k) wr) ∧ Hid (KpB Bb Bc W wr)) (fun i _ => nbl n - (intOf i).toNat)
  case atStart => exact ⟨0, Nat.zero_le _, rfl, by show J _ _; simpa using h0, rfl, rfl⟩
  case round =>
    obtain ⟨k, hk, rfl, hj, hkp⟩ := hrel
    by_cases hlt : k < nbl n
    · have hbx : Boxed wr Bb 38 (.slice (some ⟨g, off, none⟩) n cap) := hkp.out.1.trans Hb.out
      have hcx : Boxed wr Bc 22 (.int .u32 c) := hkp.out.2.trans Hc.out
      have hcb2 := hbx.cell
      have hcc2 := hcx.cell
      have hlt' : (k : Int) < (nbl n : Nat) := by omega
      have hk64 : k * 64 < n := by unfold nbl at hlt; omega
      have hk1 : ((k : Nat) : Int) * 64 ≤ (n : Nat) := by omega
      have hk2 : ¬ cap = k * 64 := by have := hnb.out; omega
      have hk3 : ((k : Nat) : Int) * 64 ≤ (cap : Nat) := by have := hnb.out; omega
      have hck : c + (k : Nat) < 4294967296 := by omega
      have hk4 : ((k : Nat) : Int) < 4294967296 := by omega
      gi_wp2
      generalize hr : n - k * 64 = r
      generalize hcr : cap - k * 64 = cr
      obtain ⟨mn, hmn⟩ : ∃ mn, mn = min 64 r := ⟨_, rfl⟩
      have hr2 : mn ≤ r := by omega
      have hr3 : mn ≤ cr := by have := hnb.out; omega
      have hr3' : (mn : Int) ≤ cr := by omega
      have hr4 : (if ((r : Nat) : Int) < 64 then ((r : Nat) : Int) else 64) = (mn : Nat) := by split <;> omega
      have hw1 : IntKind.u32.wrap ((k : Nat) : Int) = (k : Nat) := by rw [IntKind.wrap_u32']; omega
      have hw2 : IntKind.u32.wrap (c + (k : Nat)) = c + (k : Nat) := by rw [IntKind.wrap_u32']; omega
      have Hw1 := Lib.hid hw1
      have Hw2 := Lib.hid hw2
      obtain ⟨fn, tmps, assign, body, hy, hR⟩ := HY.out ((List.finRange (nbl n)).take k) ⟨k, hlt⟩ wr.drew (HJ.out _ _ hj.out) (by simp; omega)
      have hy' : (Instr.yield l #[.int .u32 (c + (k : Nat)), .slice (some ⟨g, off + k * 64, none⟩) mn cr]).run Tryd.prog wr.drew = .ok (.round l fn tmps assign body) wr.drew := by
        unfold encs piece at hy
        simp only [hr, hcr, ← hmn] at hy
        exact hy
      have Hy := Lib.hid hy'
      have HR := Lib.hid hR
      have Hmn := Lib.hid hmn
      have Hr4 := Lib.hid hr4
      have Hr := Lib.hid hr
      have Hcr := Lib.hid hcr
      clear hmn hr hcr hj hk1 hk2 hk3 hbx hcx hy hy' hR hr4 hw1 hw2
      refine wpIn_region_any (by kernel_rfl) ?_
      change wpAnyIn _ _ _ _ _ _ _ _ _ (World.drew _)
      refine wpAnyIn_inv (fun L a wx => ∃ (z : Nat → Value), Hid (a = ⟨#[.func (.yield l) #[] #[], .pointer (some ⟨Bb, 0, none⟩), .pointer (some ⟨Bc, 0, none⟩), undef, .int .u64 (k : Nat), .slice (some ⟨g, off + k * 64, none⟩) r cr, .slice (some ⟨g, off, none⟩) n cap, .int .i64 (n : Nat), .int .u64 (nbl n : Nat), .int .u64 (k : Nat), .bool true, .int .u64 (k : Nat), .slice (some ⟨g, off, none⟩) n cap, .int .u64 (k : Nat), .int .u64 ((k : Nat) * 64), .slice (some ⟨g, off + k * 64, none⟩) r cr, z 16, z 17, z 18, z 19, z 20, z 21, z 22, z 23, z 24, z 25, z 26, z 27, u28], []⟩) ∧ Holding [16, 17, 18, 19, 20, 21, 22, 23, 24, 25, 26, 27] [some (.func (.yield l) #[] #[]), some (.int .u32 c), some (.int .u64 (k : Nat)), some (.int .u32 (k : Nat)), some (.int .u32 (c + (k : Nat))), some (.slice (some ⟨g, off + k * 64, none⟩) r cr), some (.slice (some ⟨g, off + k * 64, none⟩) r cr), some (.int .i64 (r : Nat)), some (.int .i64 (mn : Nat)), some (.slice (some ⟨g, off + k * 64, none⟩) mn cr), none, none] L z ∧ YI J Jx ((List.finRange (nbl n)).take k) ⟨k, hlt⟩ Bb Bc L (z 26) (z 27) wr wx) ?_ (by kernel_rfl) ?_ ?_ _ _ _ _ (unlisted_none _) ?_
      · rintro L a wx ⟨z, _, _, h⟩
        exact h.sz
      · rintro L a wx ⟨z, ha, hz, h⟩ hall
        have ha' := ha.out
        clear ha
        obtain ⟨b, e26, hq, h27⟩ := h.aft (hall 10 (by decide))
        have e27 := h27 (hall 11 (by decide))
        clear h27 h hall hz
        rcases hq with ⟨rfl, hJ3, hk3⟩ | ⟨rfl, hJx3⟩
        · have HJ3 := Lib.hid hJ3
          have Hk3 := Lib.hid hk3
          clear hJ3 hk3
          rw [e26, e27] at ha'
          clear e26 e27 hck hk4
          subst ha'
          gi_wp2
          go_roundw
          case rel => exact ⟨k + 1, by omega, by go_num, by show J _ _; rw [take_next hlt]; exact HJ3.out, hkp.out.trans Hk3.out⟩
          case measure => simp [intOf]; omega
        · have HJx3 := Lib.hid hJx3
          clear hJx3
          rw [e26, e27] at ha'
          clear e26 e27 hck hk4
          subst ha'
          gi_wp2
          refine bodyPost_ret (results_none rfl _ _ _) rfl ?_
          exact ⟨⟨_, rfl⟩, .inr ⟨_, trivial, HJx3.out⟩⟩
      · rintro L a wx i ⟨z, ha, hz, h⟩ hi hu hw
        obtain rfl := ha.out
        clear ha
        have hi12 : i < 12 := hi
        obtain rfl | rfl | rfl | rfl | rfl | rfl | rfl | rfl | rfl | rfl | rfl | rfl : i = 0 ∨ i = 1 ∨ i = 2 ∨ i = 3 ∨ i = 4 ∨ i = 5 ∨ i = 6 ∨ i = 7 ∨ i = 8 ∨ i = 9 ∨ i = 10 ∨ i = 11 := by omega
        · refine wpOpIn_plain rfl rfl ?_
          go_simp
          exact ⟨upd z 16 (.func (.yield l) #[] #[]), (by unfold Hid; simp [upd]), hz.next d12_apart h.sz 0 (by decide) _ (fun _ h => Option.some.inj h), h.read 0 (by omega) (fun e => by cases e)⟩
        · obtain rfl := h.early hu
          refine wpOpIn_plain rfl rfl ?_
          go_simp
          exact ⟨upd z 17 (.int .u32 c), (by unfold Hid; simp [upd]), hz.next d12_apart h.sz 1 (by decide) _ (fun _ h => Option.some.inj h), h.read 1 (by omega) (fun e => by cases e)⟩
        · refine wpOpIn_plain rfl rfl ?_
          go_simp
          exact ⟨upd z 18 (.int .u64 (k : Nat)), (by unfold Hid; simp [upd]), hz.next d12_apart h.sz 2 (by decide) _ (fun _ h => Option.some.inj h), h.read 2 (by omega) (fun e => by cases e)⟩
        · have e2 : z 18 = .int .u64 (k : Nat) := hz 2 _ (hw 2 (by kernel_rfl)) rfl
          refine wpOpIn_plain rfl rfl ?_
          go_simp
          exact ⟨upd z 19 (.int .u32 (k : Nat)), (by unfold Hid; simp [upd, e2, Hw1.out]), hz.next d12_apart h.sz 3 (by decide) _ (fun _ h => Option.some.inj h), h.read 3 (by omega) (fun e => by cases e)⟩
        · have e1 : z 17 = .int .u32 c := hz 1 _ (hw 1 (by kernel_rfl)) rfl
          have e3 : z 19 = .int .u32 (k : Nat) := hz 3 _ (hw 3 (by kernel_rfl)) rfl
          refine wpOpIn_plain rfl rfl ?_
          go_simp
          exact ⟨upd z 20 (.int .u32 (c + (k : Nat))), (by unfold Hid; simp [upd, e1, e3, Hw2.out]), hz.next d12_apart h.sz 4 (by decide) _ (fun _ h => Option.some.inj h), h.read 4 (by omega) (fun _ => hw 1 (by kernel_rfl))⟩
        · refine wpOpIn_plain rfl rfl ?_
          go_simp
          exact ⟨upd z 21 (.slice (some ⟨g, off + k * 64, none⟩) r cr), (by unfold Hid; simp [upd]), hz.next d12_apart h.sz 5 (by decide) _ (fun _ h => Option.some.inj h), h.read 5 (by omega) (fun e => by cases e)⟩
        · refine wpOpIn_plain rfl rfl ?_
          go_simp
          exact ⟨upd z 22 (.slice (some ⟨g, off + k * 64, none⟩) r cr), (by unfold Hid; simp [upd]), hz.next d12_apart h.sz 6 (by decide) _ (fun _ h => Option.some.inj h), h.read 6 (by omega) (fun e => by cases e)⟩
        · have e6 : z 22 = .slice (some ⟨g, off + k * 64, none⟩) r cr := hz 6 _ (hw 6 (by kernel_rfl)) rfl
          refine wpOpIn_plain rfl rfl ?_
          go_simp
          exact ⟨upd z 23 (.int .i64 (r : Nat)), (by unfold Hid; simp [upd, e6]), hz.next d12_apart h.sz 7 (by decide) _ (fun _ h => Option.some.inj h), h.read 7 (by omega) (fun e => by cases e)⟩
        · have e7 : z 23 = .int .i64 (r : Nat) := hz 7 _ (hw 7 (by kernel_rfl)) rfl
          have hr4 := Hr4.out
          refine wpOpIn_plain rfl rfl ?_
          go_simp
          exact ⟨upd z 24 (.int .i64 (mn : Nat)), (by unfold Hid; simp [upd, e7]), hz.next d12_apart h.sz 8 (by decide) _ (fun _ h => Option.some.inj h), h.read 8 (by omega) (fun e => by cases e)⟩
        · have e5 : z 21 = .slice (some ⟨g, off + k * 64, none⟩) r cr := hz 5 _ (hw 5 (by kernel_rfl)) rfl
          have e8 : z 24 = .int .i64 (mn : Nat) := hz 8 _ (hw 8 (by kernel_rfl)) rfl
          refine wpOpIn_plain rfl rfl ?_
          go_simp
          exact ⟨upd z 25 (.slice (some ⟨g, off + k * 64, none⟩) mn cr), (by unfold Hid; simp [upd, e5, e8]), hz.next d12_apart h.sz 9 (by decide) _ (fun _ h => Option.some.inj h), h.read 9 (by omega) (fun e => by cases e)⟩
        · have e0 : z 16 = .func (.yield l) #[] #[] := hz 0 _ (hw 0 (by kernel_rfl)) rfl
          have e4 : z 20 = .int .u32 (c + (k : Nat)) := hz 4 _ (hw 4 (by kernel_rfl)) rfl
          have e9 : z 25 = .slice (some ⟨g, off + k * 64, none⟩) mn cr := hz 9 _ (hw 9 (by kernel_rfl)) rfl
          obtain rfl := h.bef hu
          have h4 := hw 4 (by kernel_rfl)
          have hy := Hy.out
          refine wpOpIn_plain rfl rfl ?_
          go_simp
          refine ⟨(fun _ => by omega), HR.out.mono ?_⟩
          rintro e W' (⟨rfl, hJ3, hk3⟩ | ⟨rfl, hJx3⟩)
          · exact ⟨upd z 26 (.bool true), (by unfold Hid; simp [upd, e0, e4, e9]), hz.next d12_apart h.sz 10 (by decide) _ (fun _ h => by cases h), h.goes hu h4 hJ3 hk3⟩
          · exact ⟨upd z 26 (.bool false), (by unfold Hid; simp [upd, e0, e4, e9]), hz.next d12_apart h.sz 10 (by decide) _ (fun _ h => by cases h), h.stops hu h4 hJx3⟩
        · obtain ⟨b, e26, hl⟩ := h.last (hw 10 (by kernel_rfl))
          refine wpOpIn_plain rfl rfl ?_
          go_simp
          exact ⟨upd z 27 (.bool (!b)), (by unfold Hid; simp [upd, e26]), hz.next d12_apart h.sz 11 (by decide) _ (fun _ h => by cases h), hl⟩
      · refine ⟨fun x => (#[.func (.yield l) #[] #[], .pointer (some ⟨Bb, 0, none⟩), .pointer (some ⟨Bc, 0, none⟩), undef, .int .u64 (k : Nat), .slice (some ⟨g, off + k * 64, none⟩) r cr, .slice (some ⟨g, off, none⟩) n cap, .int .i64 (n : Nat), .int .u64 (nbl n : Nat), .int .u64 (k : Nat), .bool true, .int .u64 (k : Nat), .slice (some ⟨g, off, none⟩) n cap, .int .u64 (k : Nat), .int .u64 ((k : Nat) * 64), .slice (some ⟨g, off + k * 64, none⟩) r cr, u16, u17, u18, u19, u20, u21, u22, u23, u24, u25, u26, u27, u28] : Array Value).getD x undef, rfl, Holding.start, ⟨rfl, fun _ => rfl, fun h => absurd h (by decide), fun h => absurd h (by decide), fun h => absurd h (by decide), fun h => absurd h (by decide)⟩⟩
    · have hkn : k = nbl n := by omega
      have Hkn := Lib.hid hkn
      have hlt2 : ¬ ((k : Nat) : Int) < ((nbl n : Nat) : Int) := by omega
      clear hkn hk
      gi_wp2
      go_end0
      exact ⟨⟨_, rfl⟩, .inl (by have := hj.out; rw [Hkn.out, List.take_of_length_le (by simp)] at this; exact this)⟩
end Go.Proofs.YtdkfofnkacmliaaDoor.Cha
