/- DERIVED. The walk of the law ChachaStreams. -/
import Derived.Test.YtdkfofnkacmliaaDoorRefChaStream
import Derived.Test.YtdkfofnkacmliaaDoorChaStreamNo
import Derived.Test.YtdkfofnkacmliaaDoorChaBackMath
import Derived.Test.YtdkfofnkacmliaaDoorChaBack
import Derived.Laws.AppendOwnNone
namespace Go.Proofs.YtdkfofnkacmliaaDoor.Cha
open Go.RowKit
attribute [local go_sem ↓ high] loadAtK loadAtN
theorem own_byt8 {w : World} {base n : Nat} {v : Value} {L : List Int} (h : w.ownsRow base 5 1 v n (vals L)) (hl : L.length = n) : ∃ A c, v = .slice A n c ∧ Byt w A c L := by
  obtain ⟨_, h⟩ := h
  rcases h with ⟨h, h0⟩ | ⟨g, cap, cur, hv, _, hh, hcap, _, hs, ht⟩
  · subst h0
    obtain rfl : L = [] := List.eq_nil_of_length_eq_zero hl
    exact ⟨none, 0, h, Nat.le_refl _, fun _ => rfl, fun h => absurd h (Nat.lt_irrefl 0)⟩
  · refine ⟨_, cap, hv, by omega, (fun h => by cases h), fun _ => ⟨g, 0, rfl, (Array.getElem?_eq_some_iff.1 hh).1, fun j hj => ?_⟩⟩
    rw [Nat.zero_add, cell_row hh]
    have h2 : cur[j]? = cur.toList[j]? := by simp
    have h3 : (cur.toList.take (n * 1))[j]? = cur.toList[j]? := by rw [List.getElem?_take, if_pos (by omega)]
    rw [h2, ← h3, ht]
    simp [vals, hj]
/-- append([]byte{}, b...): a slice of its own that reads as b. -/
theorem wpList_append_copy {w : World} {ops : Array Oper} {rest : List Oper} {o : Oper} {a : Act} {Q : Exit → Act → World → Prop} (hgd : o.guard = none) (s x : Operand)
    (ho : o.op = .call { callee := .builtin .append, args := #[s, x], argTypes := #[38, 38] }) (base : Nat) (v : Value) (hs : a.eval s = v) (hown : w.ownsRow base 5 1 v 0 [])
    (A : Option Addr) (m c : Nat) (M : List Int) (hx : a.eval x = .slice A m c) (hm : M.length = m) (hB : Byt w A c M) (h63 : m ≤ 100000) (hbase : base ≤ w.heap.size)
    (h : ∀ A' c' w', Byt w' A' c' M → (∀ u, Below base u w → Below base u w') → wpList Tryd.prog ops Q rest (a.put o.dst (.slice A' m c')) w') : wpList Tryd.prog ops Q (o :: rest) a w := by
  obtain ⟨i0, hi0, hz00, hz10, hz20⟩ := parts3 info08
  cases A with
  | none =>
    have hc := hB.2.1 rfl
    have hm0 : m = 0 := by have := hB.1; omega
    subst hc hm0
    obtain rfl : M = [] := List.eq_nil_of_length_eq_zero hm
    refine wpList_append_own_none hgd s x 38 ho base 5 i0 1 Tryd.underlying38 hi0 v 0 [] hs hown hx ?_
    obtain ⟨A', c', rfl, hb⟩ := own_byt8 (L := []) hown rfl
    exact h A' c' w hb (fun _ h => h)
  | some ad =>
    refine wpList_append_own_at _ hgd s x 38 ho base 5 i0 (.int .u8 0) 1 1 Tryd.underlying38 hi0 hz00 hz10 hz20 rfl (by decide) v 0 [] hs hown ad m c (vals M) hx (by rw [vals_length, hm]; omega)
      (hB.cells (fun _ _ => rfl) ad rfl) (vals_one _) (by unfold maxLen; omega) (by omega) hbase ?_
    intro v' w' hown' hgrow _ _
    rw [List.nil_append, Nat.zero_add] at hown'
    obtain ⟨A', c', rfl, hb⟩ := own_byt8 hown' hm
    exact h A' c' w' hb (fun u hu => hu.grown hgrow hbase (fun k hk => (hown.lt k hk).1))
/-- both streams' answers. -/
theorem both (K Nn L : List Int) (c : Int) (n : Nat) (hK : K.length = 32) (hN : Nn.length = 12) (bK : InB K) (bN : InB Nn) (hl : L.length = n) (hn : n ≤ 2000) (c0 : 0 ≤ c) (c1 : c < 4294967296) :
    ∃ (X : List Int) (m : Nat) (E : Int), X.length = m ∧ m ≤ 2000 ∧
      (∀ (W : World) (A : Option Addr) (q : Nat), Byt W A q L → Laid W → Calls Tryd.prog 12 #[.agg (u8s K), .int .u32 c, .agg (u8s Nn), .slice A n q] W fun e w' => ∃ A' q', e = .returned (.tuple #[.slice A' m q', .int .i64 E]) ∧ Byt w' A' q' X ∧ Below W.heap.size W w' ∧ (0 < m → ∃ g, A' = some ⟨g, 0, none⟩ ∧ W.heap.size ≤ g ∧ ∀ j, w'.frozen? ⟨g, j, none⟩ = false)) ∧
      (∀ (W : World) (A : Option Addr) (q : Nat), Byt W A q L → Calls Tryd.prog 13 #[.agg (u8s K), .int .u32 c, .agg (u8s Nn), .slice A n q] W fun e w' => ∃ A' q', e = .returned (.tuple #[.slice A' m q', .int .i64 E]) ∧ Byt w' A' q' X ∧ Below W.heap.size W w') := by
  by_cases cb : c + (nbl n : Nat) ≤ 4294967296
  · refine ⟨streamL K c Nn L, n, 0, by rw [streamL_length, hl], hn, fun W A q hB hL => ?_, fun W A q hB => rstream_ok K Nn L c A n q hK hN bK bN hl (by omega) c0 c1 cb W hB⟩
    by_cases h0 : 0 < n
    · refine (stream_new K Nn L c A n q hK hN bK bN hl h0 (by omega) c0 cb W hB hL).mono ?_
      rintro e w' ⟨g, c', h1, h2, h3, h4, h5⟩
      exact ⟨_, c', h1, h2, h3, fun _ => ⟨g, rfl, h4, h5⟩⟩
    · refine (stream_any K Nn L c A n q hK hN bK bN hl (by omega) c0 c1 cb W hB hL).mono ?_
      rintro e w' ⟨A', c', h1, h2, h3⟩
      exact ⟨A', c', h1, h2, h3, fun h => absurd h h0⟩
  · have hnil : ∀ W : World, Byt W none 0 [] := fun W => ⟨Nat.le_refl _, fun _ => rfl, fun h => absurd h (Nat.lt_irrefl 0)⟩
    refine ⟨[], 0, 13, rfl, by omega, fun W A q _ _ => ?_, fun W A q _ => ?_⟩
    · refine (stream_no K Nn c A n q (by omega) c0 c1 cb W).mono ?_
      rintro e w' ⟨h1, h2⟩
      exact ⟨none, 0, h1, hnil _, h2, fun h => absurd h (Nat.lt_irrefl 0)⟩
    · refine (rstream_no K Nn c A n q (by omega) c0 c1 cb W).mono ?_
      rintro e w' ⟨h1, h2⟩
      exact ⟨none, 0, h1, hnil _, h2⟩
set_option maxRecDepth 100000 in
set_option maxHeartbeats 1000000 in
theorem streams_big (K Nn : List Int) (c : Int) (A : Option Addr) (n cap : Nat) (hn : 2000 < n) (w : World) :
    Calls Tryd.prog 4 #[.agg (caseC K c Nn), .slice A n cap] w fun e w' => e = .returned (.bool true) ∧ Below w.heap.size w w' := by
  have hn' : (2000 : Int) < (n : Int) := by omega
  clear hn
  go_enter Tryd.func4, Tryd.ntmps4
  go_wp2_with (go_at_call 11; refine (awake_any _).mono ?_; rintro e w1 ⟨rfl, low1⟩; have Low1 := Lib.hid low1; clear low1)
  go_ret
  exact ⟨rfl, (((Below.refl _ _).alloc (Nat.le_refl _) _).trans (Low1.out.mono (by simp)))⟩
/-- what stays: the Case, the table, b and own. -/
structure CS (K : List Int) (c : Int) (Nn : List Int) (w : World) (A : Option Addr) (cap : Nat) (A0 : Option Addr) (q0 : Nat) (L : List Int) (wx : World) : Prop where
  bi : BI K c Nn w wx
  b : Byt wx A cap L
  o : Byt wx A0 q0 L
theorem CS.later {K Nn L : List Int} {c : Int} {A A0 : Option Addr} {cap q0 : Nat} {w wx wy : World} (h : CS K c Nn w A cap A0 q0 L wx) (hL : Laid w) (hb : Below wx.heap.size wx wy) : CS K c Nn w A cap A0 q0 L wy :=
  ⟨h.bi.later hL hb, h.b.below hb (Nat.le_refl _), h.o.below hb (Nat.le_refl _)⟩
theorem CS.start {K Nn L : List Int} {c : Int} {A A0 : Option Addr} {cap q0 : Nat} {w w1 : World} {D : Obj} (hL : Laid w) (hB : Byt w A cap L) (hb : ∀ u, Below (w.heap.size + 1) u ((w.alloc (.cells (caseC K c Nn) 37)).alloc D) → Below (w.heap.size + 1) u w1) (ho : Byt w1 A0 q0 L) : CS K c Nn w A cap A0 q0 L w1 := by
  have hs : (w.alloc (.cells (caseC K c Nn) 37)).heap.size = w.heap.size + 1 := World.size_alloc ..
  have h1 := hb (w.alloc (.cells (caseC K c Nn) 37)) ((Below.refl _ _).alloc (by omega) _)
  rw [← hs] at h1
  have i0 : BI K c Nn w (w.alloc (.cells (caseC K c Nn) 37)) := BI.start hL
  exact ⟨i0.later hL h1, (hB.below i0.low (Nat.le_refl _)).below h1 (Nat.le_refl _), ho⟩
/-- x's cells, that the loop changes. -/
def XC (g m : Nat) (wx : World) : Prop := ∀ j, j < m → (∃ y, wx.cell? ⟨g, j, none⟩ = some (.int .u8 y)) ∧ wx.frozen? ⟨g, j, none⟩ = false
theorem XC.set {g m : Nat} {wx : World} (h : XC g m wx) (k : Nat) (v : Int) : XC g m (wx.setCell ⟨g, k, none⟩ (.int .u8 v)) := fun j hj => by
  obtain ⟨⟨y, hy⟩, hf⟩ := h j hj
  refine ⟨?_, by rw [World.frozen?_setCell]; exact hf⟩
  by_cases e : k = j
  · subst e
    exact ⟨v, World.cell?_setCell_same _ _ _ hy⟩
  · exact ⟨y, by rw [World.cell?_setCell_other wx ⟨g, k, none⟩ ⟨g, j, none⟩ _ (fun h0 => e (by injection h0))]; exact hy⟩
set_option maxRecDepth 100000 in
set_option maxHeartbeats 4000000 in
theorem streams_ok (K Nn L : List Int) (c : Int) (A : Option Addr) (n cap : Nat) (hK : K.length = 32) (hN : Nn.length = 12) (bK : InB K) (bN : InB Nn) (hl : L.length = n) (hn : n ≤ 2000) (c0 : 0 ≤ c) (c1 : c < 4294967296) (w : World) (hB : Byt w A cap L) (hL : Laid w) :
    Calls Tryd.prog 4 #[.agg (caseC K c Nn), .slice A n cap] w fun e w' => e = .returned (.bool true) ∧ Below w.heap.size w w' := by
  obtain ⟨X, m, E, hXm, hm, hs1, hs2⟩ := both K Nn L c n hK hN bK bN hl hn c0 c1
  have hn' : ¬ (2000 : Int) < (n : Int) := by omega
  have i0 : BI K c Nn w (w.alloc (.cells (caseC K c Nn) 37)) := BI.start hL
  have i1 : BI K c Nn w ((w.alloc (.cells (caseC K c Nn) 37)).alloc (.cells #[] 5)) := i0.later hL ((Below.refl _ _).alloc (Nat.le_refl _) _)
  have hmade : ((w.alloc (.cells (caseC K c Nn) 37)).alloc (.cells #[] 5)).ownsRow (w.heap.size + 1) 5 1 (.slice (some ⟨w.heap.size + 1, 0, none⟩) 0 0) 0 [] := by
    have h := World.ownsRow_made (w.alloc (.cells (caseC K c Nn) 37)) (base := w.heap.size + 1) (e := 5) (size := 1) #[] 0 (by rw [World.size_alloc]; omega) (by unfold maxLen; omega) rfl
    rw [World.size_alloc] at h
    exact h
  have HLaid := Lib.hid hL
  have HKl := Lib.hid hK
  have HNl := Lib.hid hN
  have Hl := Lib.hid hl
  have HXm := Lib.hid hXm
  have HS1 := Lib.hid hs1
  have HS2 := Lib.hid hs2
  have HB := Lib.hid hB
  have I1 := Lib.hid i1
  have Hmade := Lib.hid hmade
  have hsm : n ≤ 100000 := by omega
  clear hXm hs1 hs2 hK hN hl hB hL i0 i1 hmade c1 hn
  go_enter Tryd.func4, Tryd.ntmps4
  go_upto_region 6 with (first
    | (at_builtin; refine wpList_append_copy rfl (.tmp 16) (.tmp 17) rfl (w.heap.size + 1) _ rfl Hmade.out A n cap L rfl Hl.out (HB.out.below I1.out.low (Nat.le_refl _)) hsm (by rw [World.size_alloc, World.size_alloc]; omega) ?_; intro A0 q0 w1 byt0 low0; have hcs1 : CS K c Nn w A cap A0 q0 L w1 := CS.start HLaid.out HB.out low0 byt0; have CS1 := Lib.hid hcs1; have k1 := hcs1.bi.case.key HKl.out; have k2 := hcs1.bi.case.count HKl.out; have k3 := hcs1.bi.case.nonce HKl.out HNl.out; clear hcs1 byt0 low0)
    | (go_at_call 13; refine (HS2.out _ A cap CS2.out.b).mono ?_; rintro e w3 ⟨A3, q3, rfl, byt3, low3⟩; have CS3 := Lib.hid (CS2.out.later HLaid.out low3); have Byt3 := Lib.hid byt3; have Low3 := Lib.hid low3; clear byt3 low3)
    | (go_at_call 12; refine (HS1.out _ A0 q0 CS1.out.o CS1.out.bi.laid).mono ?_; rintro e w2 ⟨A1, q1, rfl, byt1, low1, new1⟩; have CS2 := Lib.hid (CS1.out.later HLaid.out low1); have Byt1 := Lib.hid byt1; have Low2 := Lib.hid low1; have New1 := Lib.hid new1; have m1 := CS2.out.bi.case.key HKl.out; have m2 := CS2.out.bi.case.count HKl.out; have m3 := CS2.out.bi.case.nonce HKl.out HNl.out; clear byt1 low1 new1))
  have cx : (convert 38 9 (.slice A1 m q1)).run Tryd.prog w3 = .ok (.string (strOfNums X)) w3 := conv_any (Byt1.out.below Low3.out (Nat.le_refl _)) HXm.out
  have cy : (convert 38 9 (.slice A3 m q3)).run Tryd.prog w3 = .ok (.string (strOfNums X)) w3 := conv_any Byt3.out HXm.out
  have co : (convert 38 9 (.slice A0 n q0)).run Tryd.prog w3 = .ok (.string (strOfNums L)) w3 := conv_any CS3.out.o Hl.out
  have cb : (convert 38 9 (.slice A n cap)).run Tryd.prog w3 = .ok (.string (strOfNums L)) w3 := conv_any CS3.out.b Hl.out
  obtain ⟨g, hA1, hg, hxc⟩ : ∃ g, (0 < m → A1 = some ⟨g, 0, none⟩) ∧ w1.heap.size ≤ g ∧ XC g m w3 := by
    by_cases h0 : 0 < m
    · obtain ⟨g, hA, hg, hf⟩ := New1.out h0
      obtain ⟨g2, off, hA2, hlt, hc⟩ := Byt1.out.2.2 (by rw [HXm.out]; exact h0)
      rw [hA] at hA2
      injection hA2 with hA2
      injection hA2 with e1 e2 e3
      subst e1 e2
      have hbl := Low3.out.block g hlt
      exact ⟨g, fun _ => hA, hg, fun j hj => ⟨⟨_, (World.cell?_of_block hbl).trans (by have := hc j (by rw [HXm.out]; exact hj); rw [Nat.zero_add] at this; exact this)⟩, (World.frozen?_of_block hbl).trans (hf j)⟩⟩
    · exact ⟨w1.heap.size, fun h => absurd h h0, Nat.le_refl _, fun j hj => absurd hj (by omega)⟩
  have HA1 := Lib.hid hA1
  have Hg := Lib.hid hg
  have Hxc := Lib.hid hxc
  have Hlow3 : Hid (Below w1.heap.size w1 w3) := Low2.out.trans (Low3.out.mono Low2.out.size)
  clear hA1 hg hxc k1 k2 k3 m1 m2 m3 Hmade I1 HS1 HS2
  go_wp2
  go_loopw [11] (fun i wr => ∃ k : Nat, k ≤ m ∧ i = .int .i64 k ∧ Hid (Below w1.heap.size w1 wr ∧ XC g m wr)) (fun i _ => m - (intOf i).toNat)
  case atStart => exact ⟨0, Nat.zero_le _, rfl, Hlow3.out, Hxc.out⟩
  case round =>
    clear Hlow3 Hxc cx cy co cb
    obtain ⟨k, hk, rfl, hr⟩ := hrel
    by_cases hlt : k < m
    · have hlt' : (k : Int) < (m : Int) := by omega
      obtain rfl := HA1.out (by omega)
      obtain ⟨⟨y, hy⟩, hf⟩ := hr.out.2 k hlt
      have hset := Lib.hid (hr.out.2.set k (bits .xor .u8 y 255))
      have hlow : Hid (Below w1.heap.size w1 (wr.setCell ⟨g, k, none⟩ (.int .u8 (bits .xor .u8 y 255)))) := hr.out.1.setCell Hg.out _
      go_wp2
      go_roundw
      case rel => exact ⟨k + 1, by omega, by go_num, hlow.out, hset.out⟩
      case measure => simp [intOf]; omega
    · have hge : ¬ (k : Int) < (m : Int) := by omega
      have hcs := CS1.out.later HLaid.out hr.out.1
      have co : (convert 38 9 (.slice A0 n q0)).run Tryd.prog wr = .ok (.string (strOfNums L)) wr := conv_any hcs.o Hl.out
      have cb : (convert 38 9 (.slice A n cap)).run Tryd.prog wr = .ok (.string (strOfNums L)) wr := conv_any hcs.b Hl.out
      have Hcs := Lib.hid hcs
      clear hcs hr
      go_wp2_with (go_at_call 11; refine (awake_any _).mono ?_; rintro e w9 ⟨rfl, low9⟩; have Low9 : Hid (Below w.heap.size w w9) := Hcs.out.bi.low.trans (low9.mono Hcs.out.bi.low.size); clear low9)
      go_ret
      exact ⟨rfl, Low9.out⟩
end Go.Proofs.YtdkfofnkacmliaaDoor.Cha
