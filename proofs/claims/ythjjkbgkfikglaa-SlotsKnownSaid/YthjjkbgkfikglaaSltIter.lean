/- DERIVED. The contracts of slots.records and of the iterator that it makes. -/
import Derived.Test.YthjjkbgkfikglaaSltCut
import Derived.Test.YthjjkbgkfikglaaSltPos
import Derived.RangeFuncNested
import Derived.RangeFuncBound
import Derived.RangeFuncCalls
import Derived.RangeFuncLeaves
import Derived.RangeFuncBox
import Derived.Shelf.Abstract
import Derived.WalkKit
import Derived.OwnWalkIn
import Derived.TacticsInMore
import Derived.LoopNIn
import Derived.LoopIn
namespace Go.Proofs.Ythjjkbgkfikglaa.Slt
open Go.RowKit Dsk
attribute [local go_sem] Oper.semAt_some
theorem records_any (A : Option Addr) (n cap : Nat) (w : World) :
    Calls Try.prog 38 #[.slice A n cap] w fun e w' => e = .returned (.func (.func 46) #[] #[.pointer (some ⟨w.heap.size, 0, none⟩)]) ∧ w' = w.alloc (.cells #[.slice A n cap] 33) := by
  go_enter Try.func38, Try.ntmps38
  go_wp2
  go_ret
  exact ⟨rfl, rfl⟩
/-- what is handed to the body: a record, or the error. -/
def recV (g off cap : Nat) (cs : List (List Int)) (i : Nat) : Value := if i < cs.length then .slice (some ⟨g, off + posC cs i + 5, none⟩) (lenB (cs.getD i [])) (cap - posC cs i - 5) else .slice none 0 0
def errR (cs : List (List Int)) (i : Nat) : Int := if i < cs.length then 0 else 9
def encR (g off cap : Nat) (cs : List (List Int)) (i : Nat) : Array Value := #[recV g off cap cs i, .int .i64 (errR cs i)]
theorem recV_yes {g off cap : Nat} {cs : List (List Int)} {i : Nat} (h : i < cs.length) : recV g off cap cs i = .slice (some ⟨g, off + posC cs i + 5, none⟩) (lenB (cs.getD i [])) (cap - posC cs i - 5) := if_pos h
theorem recV_no {g off cap : Nat} {cs : List (List Int)} {i : Nat} (h : ¬ i < cs.length) : recV g off cap cs i = .slice none 0 0 := if_neg h
theorem errR_yes {cs : List (List Int)} {i : Nat} (h : i < cs.length) : errR cs i = 0 := if_pos h
theorem errR_no {cs : List (List Int)} {i : Nat} (h : ¬ i < cs.length) : errR cs i = 9 := if_neg h
/-- what a round keeps: the box that the iterator reads, and the bytes. -/
def KpR (Bb g : Nat) (W W' : World) : Prop := W'.heap[Bb]? = W.heap[Bb]? ∧ W'.heap[g]? = W.heap[g]?
theorem KpR.trans {Bb g : Nat} {A B C : World} (h : KpR Bb g A B) (k : KpR Bb g B C) : KpR Bb g A C := ⟨k.1.trans h.1, k.2.trans h.2⟩
theorem KpR.below {Bb g : Nat} {A B C : World} (h : KpR Bb g A B) (hb : Below B.heap.size B C) (h1 : Bb < B.heap.size) (h2 : g < B.heap.size) : KpR Bb g A C := ⟨(hb.block _ h1).trans h.1, (hb.block _ h2).trans h.2⟩
theorem byt_same {w w' : World} {g off c : Nat} {L : List Int} (h : Byt w (some ⟨g, off, none⟩) c L) (hg : g < w.heap.size → g < w'.heap.size) (e : w'.heap[g]? = w.heap[g]?) : Byt w' (some ⟨g, off, none⟩) c L := by
  refine ⟨h.1, h.2.1, fun hl => ?_⟩
  obtain ⟨g', o', e', hlt, hb⟩ := h.2.2 hl
  cases e'
  exact ⟨g, off, rfl, hg hlt, fun j hj => (World.cell?_of_block (a := ⟨g, off + j, none⟩) e).trans (hb j hj)⟩
theorem byt_drop {w : World} {g off c : Nat} {L : List Int} (h : Byt w (some ⟨g, off, none⟩) c L) (p : Nat) (hp : p ≤ L.length) : Byt w (some ⟨g, off + p, none⟩) (c - p) (L.drop p) := by
  refine ⟨by have := h.1; rw [List.length_drop]; omega, (fun h => by cases h), fun hl => ?_⟩
  rw [List.length_drop] at hl
  obtain ⟨g', o', e', hlt, hb⟩ := h.2.2 (by omega)
  cases e'
  refine ⟨g, off + p, rfl, hlt, fun j hj => ?_⟩
  rw [List.length_drop] at hj
  rw [Nat.add_assoc, hb _ (by omega), getD_drop']
/-- rounds whose items are records, but for the fault's. -/
def PreR (cs : List (List Int)) (e : Bool) (pre : List Nat) : Prop := ∀ x ∈ pre, x < cs.length ∨ e = true
def lenV : Value → Nat
  | .slice _ n _ => n
  | _ => 0
set_option maxRecDepth 100000 in
set_option maxHeartbeats 4000000 in
theorem records1_in (m l Bb : Nat) (hm : 2 ≤ m) (g off n cap : Nat) (L R : List Int) (cs : List (List Int)) (e : Bool) (hn : L.length = n) (hmod : n % 128 = 0) (hsm : n ≤ 4194304) (hi : InB L) (hr : Reads L cs R e) (J Jx : List Nat → World → Prop)
    (hJ : ∀ pre W W', J pre W → Below W.heap.size W W' → J pre W')
    (hY : ∀ pre x W, J pre W → pre.length < cs.length + 1 → YieldAt Fence.wide (m - 1) Try.prog l (encR g off cap cs x) W fun e W' =>
      (e = .returned (.bool true) ∧ J (pre ++ [x]) W' ∧ KpR Bb g W W') ∨ (e = .returned (.bool false) ∧ Jx (pre ++ [x]) W'))
    (W : World) (hb : Boxed W Bb 33 (.slice (some ⟨g, off, none⟩) n cap)) (hB : Byt W (some ⟨g, off, none⟩) cap L) (hgl : g < W.heap.size) (h0 : J [] W) :
    CallsIn Fence.wide m Try.prog 46 #[.func (.yield l) #[] #[], .pointer (some ⟨Bb, 0, none⟩)] W fun e' W' => (∃ v, e' = .returned v) ∧
      ((∃ ys, ys = (if e then List.range (cs.length + 1) else List.range cs.length) ∧ J ys W') ∨ (∃ pre, PreR cs e pre ∧ Jx pre W')) := by
  have hcb := hb.cell
  have Hb := Lib.hid hb
  have HB := Lib.hid hB
  have HJ := Lib.hid hJ
  have HY := Lib.hid hY
  have Hr := Lib.hid hr
  have Hgl := Lib.hid hgl
  have Hi := Lib.hid hi
  have Hn := Lib.hid hn
  have hcap : n ≤ cap := by rw [← hn]; exact hB.1
  clear hb hJ hY hB hr hgl hi hn
  refine callsIn_of_wp Try.func46 rfl trivial ?_ rfl
  simp only [Try.ntmps46, List.size_toArray, List.length_cons, List.length_nil, Nat.reduceAdd, Nat.reduceSub, Array.replicate_succ, Array.replicate_zero, List.push_toArray, List.append_toArray, List.nil_append, List.cons_append]
  gi_wp2
  gi_loopw [3] (fun v wr => ∃ i : Nat, i ≤ cs.length ∧ (∃ A, v = .slice A (n - posC cs i) (cap - posC cs i) ∧ Hid (posC cs i < n → A = some ⟨g, off + posC cs i, none⟩)) ∧ Hid (J (List.range i) wr) ∧ Hid (KpR Bb g W wr)) (fun v _ => lenV v)
  case atStart => exact ⟨0, Nat.zero_le _, ⟨_, by rw [posC_zero]; rfl, fun _ => by rw [posC_zero]; rfl⟩, h0, rfl, rfl⟩
  case round =>
    obtain ⟨i, hile, ⟨A, rfl, hA⟩, hj, hkp⟩ := hrel
    have hBr : Byt wr (some ⟨g, off, none⟩) cap L := byt_same HB.out (fun _ => (Array.getElem?_eq_some_iff.1 (hkp.out.2.trans (Array.getElem?_eq_getElem Hgl.out))).1) hkp.out.2
    have hpl := posC_le Hr.out i
    rw [Hn.out] at hpl
    have hpm := posC_mod Hr.out.good i
    by_cases hlt : i < cs.length
    · obtain ⟨g0, g1, g2, g3, g4⟩ := good_at Hr.out hlt
      rw [Hn.out] at g4
      rw [posC_next hlt] at g4
      have htk := tk_pos (lenB (cs.getD i []))
      have hpn : posC cs i < n := by omega
      have hA' := hA.out hpn
      subst hA'
      have hdl : (L.drop (posC cs i)).length = n - posC cs i := by rw [List.length_drop, Hn.out]
      have hBd := byt_drop hBr (posC cs i) (by rw [Hn.out]; omega)
      have hgb : goodB (L.drop (posC cs i)) := ⟨g0, by rw [g1]; exact g2, by rw [g1, ← g3, hdl]; omega⟩
      have hcut := cut_yes hdl (by omega) (by omega) (Hi.out.drop _) hBd hgb
      have henc : encR g off cap cs i = #[.slice (some ⟨g, off + posC cs i + 5, none⟩) (lenB (cs.getD i [])) (cap - posC cs i - 5), .int .i64 0] := by unfold encR; rw [recV_yes hlt, errR_yes hlt]
      have c0 : wr.cell? ⟨g, off + posC cs i, none⟩ = some (.int .u8 1) := by
        obtain ⟨g', o', e', _, hc⟩ := hBd.2.2 (by rw [hdl]; omega)
        cases e'
        have := hc 0 (by rw [hdl]; omega)
        rw [g0] at this
        exact this
      rw [g1] at hcut
      obtain ⟨p, hp⟩ : ∃ p, p = posC cs i := ⟨_, rfl⟩
      obtain ⟨ln, hln⟩ : ∃ ln, ln = lenB (cs.getD i []) := ⟨_, rfl⟩
      obtain ⟨k, hk⟩ : ∃ k, k = tk ln * 128 := ⟨_, rfl⟩
      have hrest : ∃ A2, restV g (off + posC cs i) (n - posC cs i) (cap - posC cs i) (tk (lenB (cs.getD i [])) * 128) = .slice A2 (n - posC cs (i + 1)) (cap - posC cs (i + 1)) ∧ (posC cs (i + 1) < n → A2 = some ⟨g, off + posC cs (i + 1), none⟩) := by
        unfold restV
        rw [posC_next hlt, g3]
        refine ⟨_, by rw [Nat.sub_sub, Nat.sub_sub], fun h => ?_⟩
        rw [if_neg (by omega), Nat.add_assoc]
      obtain ⟨A2, hA2, hA2p⟩ := hrest
      rw [hA2] at hcut
      have hmeas : n - posC cs (i + 1) < n - posC cs i := by rw [posC_next hlt]; omega
      rw [← hln, ← hp] at hcut henc
      rw [← hp] at c0 hpn hmeas
      have Hcut := Lib.hid hcut
      have Henc := Lib.hid henc
      have HA2p := Lib.hid hA2p
      have Hmeas := Lib.hid hmeas
      have Hj := Lib.hid hj.out
      have HBb : Hid (Bb < wr.heap.size) := (Array.getElem?_eq_some_iff.1 (hkp.out.1.trans (Array.getElem?_eq_getElem Hb.out.lt))).1
      have Hgr : Hid (g < wr.heap.size) := (Array.getElem?_eq_some_iff.1 (hkp.out.2.trans (Array.getElem?_eq_getElem Hgl.out))).1
      obtain ⟨N1, hN1⟩ : ∃ N1, N1 = n - p := ⟨_, rfl⟩
      have hN10 : 0 < N1 := by omega
      have hN1I : (0 : Int) < (N1 : Int) := by omega
      obtain ⟨C1, hC1⟩ : ∃ C1, C1 = cap - p := ⟨_, rfl⟩
      obtain ⟨N2, hN2⟩ : ∃ N2, N2 = n - posC cs (i + 1) := ⟨_, rfl⟩
      obtain ⟨C2, hC2⟩ : ∃ C2, C2 = cap - posC cs (i + 1) := ⟨_, rfl⟩
      rw [← hp]
      rw [← hN1] at Hcut Hmeas ⊢
      rw [← hC1] at Hcut Henc ⊢
      rw [← hN2] at Hcut Hmeas
      rw [← hC2] at Hcut
      have HN2 := Lib.hid hN2
      have HC2 := Lib.hid hC2
      clear hA hdl hBd hgb hcut henc hp hln hk hA2 hA2p hmeas hj hN1 hC1 hN2 hC2 hBr hpl hpm g0 g1 g2 g3 g4 htk hcb hpn
      gi_wp2_with (refine ⟨trivial, (fun _ => by omega), ?_⟩; gi_at_call 47; refine (callsIn_wide.2 Hcut.out).mono ?_; rintro e1 w1 ⟨rfl, hb1⟩; obtain ⟨fn, tmps, assign, body, hy, hR⟩ := HY.out (List.range i) i w1 (HJ.out _ _ _ Hj.out hb1) (by simp; omega); rw [Henc.out] at hy; have HR := Lib.hid hR; have Hb1 := Lib.hid hb1; clear hb1 hR)
      refine ⟨fun _ => by omega, HR.out.mono ?_⟩
      rintro e2 W3 (⟨rfl, hJ3, hk3⟩ | ⟨rfl, hJx3⟩)
      · have HJ3 := Lib.hid hJ3
        have Hk3 := Lib.hid (((hkp.out.below Hb1.out HBb.out Hgr.out)).trans hk3)
        clear hJ3 hk3 hy HR
        gi_wp2
        go_roundw
        case rel => exact ⟨i + 1, by omega, ⟨A2, by rw [HN2.out, HC2.out], HA2p.out⟩, by rw [range_next]; exact HJ3.out, Hk3.out⟩
        case measure => exact Hmeas.out
      · have HJx3 := Lib.hid hJx3
        clear hJx3 hy HR
        gi_wp2
        all_goals
          refine bodyPost_ret (results_none rfl _ _ _) rfl ?_
          exact ⟨⟨_, rfl⟩, .inr ⟨_, fun x hx => .inl (by rw [← range_next] at hx; have := List.mem_range.1 hx; omega), HJx3.out⟩⟩
    · obtain rfl : i = cs.length := by omega
      have hdl : (L.drop (posC cs cs.length)).length = n - posC cs cs.length := by rw [List.length_drop, Hn.out]
      have hdr : L.drop (posC cs cs.length) = R := by rw [drop_pos Hr.out (Nat.le_refl _)]; simp
      have hBd := byt_drop hBr (posC cs cs.length) (by rw [Hn.out]; omega)
      rw [hdr] at hdl hBd
      have hRi : InB R := by rw [← hdr]; exact Hi.out.drop _
      have htail := Hr.out.tail
      have HBb : Hid (Bb < wr.heap.size) := (Array.getElem?_eq_some_iff.1 (hkp.out.1.trans (Array.getElem?_eq_getElem Hb.out.lt))).1
      have Hgr : Hid (g < wr.heap.size) := (Array.getElem?_eq_some_iff.1 (hkp.out.2.trans (Array.getElem?_eq_getElem Hgl.out))).1
      have henc : encR g off cap cs cs.length = #[.slice none 0 0, .int .i64 9] := by unfold encR; rw [recV_no (Nat.lt_irrefl _), errR_no (Nat.lt_irrefl _)]
      obtain ⟨p, hp⟩ : ∃ p, p = posC cs cs.length := ⟨_, rfl⟩
      rw [← hp] at hdl hBd hA hpl hpm ⊢
      obtain ⟨N1, hN1⟩ : ∃ N1, N1 = n - p := ⟨_, rfl⟩
      obtain ⟨C1, hC1⟩ : ∃ C1, C1 = cap - p := ⟨_, rfl⟩
      rw [← hN1] at hdl ⊢
      rw [← hC1] at hBd ⊢
      by_cases hz : R = []
      · have he : e = false := by
          cases e with
          | false => rfl
          | true => exact absurd hz htail.1
        subst he
        have hN0 : N1 = 0 := by rw [← hdl, hz]; rfl
        subst hN0
        clear hdl hBd hRi htail hp hN1 hC1 hpl hpm hA hdr hBr hcb
        gi_wp2
        go_end0
        exact ⟨⟨_, rfl⟩, .inl hj.out⟩
      · have hR0 : 0 < N1 := by rw [← hdl]; exact List.length_pos_iff.2 hz
        have hN1I : (0 : Int) < (N1 : Int) := by omega
        have hA' := hA.out (by omega)
        subst hA'
        obtain ⟨x, hx⟩ : ∃ x, x = R.getD 0 0 := ⟨_, rfl⟩
        have c0 : wr.cell? ⟨g, off + p, none⟩ = some (.int .u8 x) := by
          obtain ⟨g', o', e', _, hc⟩ := hBd.2.2 (by rw [hdl]; exact hR0)
          cases e'
          have := hc 0 (by rw [hdl]; exact hR0)
          rw [← hx] at this
          exact this
        have hx8 : 0 ≤ x ∧ x < 256 := by rw [hx]; exact hRi 0
        cases e with
        | false =>
          have hx0 : x = 0 := by
            rcases htail with h | h
            · exact absurd h hz
            · rw [hx]; exact h
          subst hx0
          clear hdl hBd hRi htail hp hN1 hC1 hpl hpm hA hdr hBr hcb hx hx8
          gi_wp2
          go_end0
          exact ⟨⟨_, rfl⟩, .inl hj.out⟩
        | true =>
          have hxn : ¬ x = 0 := by rw [hx]; exact htail.2.1
          have hcut := cut_no hdl (by omega) hRi (by omega) hBd htail.2.2
          have Hcut := Lib.hid hcut
          have Henc := Lib.hid henc
          have Hj := Lib.hid hj.out
          clear hdl hBd hRi htail hp hN1 hC1 hpl hpm hA hdr hBr hcb hx hx8 hcut henc hj
          gi_wp2_with (refine ⟨trivial, (fun _ => by omega), ?_⟩; gi_at_call 47; refine (callsIn_wide.2 Hcut.out).mono ?_; rintro e1 w1 ⟨rfl, hb1⟩; obtain ⟨fn, tmps, assign, body, hy, hR⟩ := HY.out (List.range cs.length) cs.length w1 (HJ.out _ _ _ Hj.out hb1) (by simp); rw [Henc.out] at hy; have HR := Lib.hid hR; have Hb1 := Lib.hid hb1; clear hb1 hR)
          refine ⟨fun _ => by omega, HR.out.mono ?_⟩
          rintro e2 W3 (⟨rfl, hJ3, hk3⟩ | ⟨rfl, hJx3⟩)
          · have HJ3 := Lib.hid hJ3
            clear hJ3 hk3 hy HR
            gi_wp2
            refine bodyPost_ret (results_none rfl _ _ _) rfl ?_
            exact ⟨⟨_, rfl⟩, .inl HJ3.out⟩
          · have HJx3 := Lib.hid hJx3
            clear hJx3 hy HR
            gi_wp2
            refine bodyPost_ret (results_none rfl _ _ _) rfl ?_
            exact ⟨⟨_, rfl⟩, .inr ⟨_, fun _ _ => .inr rfl, HJx3.out⟩⟩
end Go.Proofs.Ythjjkbgkfikglaa.Slt
