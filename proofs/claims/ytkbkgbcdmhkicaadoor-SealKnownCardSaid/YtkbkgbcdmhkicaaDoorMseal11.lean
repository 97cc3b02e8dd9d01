/- DERIVED. Texts of ours, merged: XRegionCall XCopyChg XAppend XSealPad XSl XSlUntil XSealNonce XSealKey. -/
import Derived.Test.YtkbkgbcdmhkicaaDoorMseal6
import Derived.Test.YtkbkgbcdmhkicaaDoorProg
import Derived.Test.YtkbkgbcdmhkicaaDoorMseal10
import Derived.Test.YtkbkgbcdmhkicaaDoorMseal5
import Derived.Maps.AppendAt
import Derived.Laws.AppendOwnNone
import Derived.OwnWalk
import Derived.Test.YtkbkgbcdmhkicaaDoorMseal9
import Derived.Deep.DeepCutAuto
import Derived.Laws.Tables
import Derived.Laws.CopyOwn
/- DERIVED. A region that draws its order and holds one call, what comes ahead of it and behind it being pure. -/
namespace Go.Proofs.YtkbkgbcdmhkicaaDoor
section
variable {P : Program} {ops : Array Oper} {Q : Exit → Act → World → Prop} {md : Region.Mode}
/-- what has come up has come behind all that it waits for. -/
def Closed (md : Region.Mode) (ops : Array Oper) (l : Array Bool) : Prop := ∀ i j, l.getD i false = true → waitsB md ops i j = true → l.getD j false = true
theorem Closed.next {l : Array Bool} (h : Closed md ops l) (i : Nat) (hw : ∀ j, waitsB md ops i j = true → l.getD j false = true) : Closed md ops (l.setIfInBounds i true) := fun k j hk hj => by
  rcases getD_listed hk with rfl | hk
  · exact getD_set_true (hw j hj)
  · exact getD_set_true (h k j hk hj)
theorem Closed.none (n : Nat) : Closed md ops (Array.replicate n false) := fun i j h _ => by
  by_cases hi : i < n <;> simp [Array.getD_eq_getD_getElem?, hi] at h
theorem wpAny_inv2 (I : Array Bool → Act → World → Prop) (hs : ∀ l a w, I l a w → l.size = ops.size) (hb : backB md ops = true)
    (hfin : ∀ l a w, I l a w → (∀ i, i < ops.size → l.getD i false = true) → Q .normal a w)
    (hstep : ∀ l a w i, I l a w → Closed md ops l → i < ops.size → l.getD i false = false → (∀ j, waitsB md ops i j = true → l.getD j false = true) → wpOp P ops Q i (I (l.setIfInBounds i true)) a w)
    (n : Nat) (hn : n = ops.size) (a : Act) (w : World) (h0 : I (Array.replicate n false) a w) : wpAny P md ops Q n (Array.replicate n false) a w := by
  subst hn
  refine wpAny_inv (fun l a w => I l a w ∧ Closed md ops l) (fun l a w h => hs l a w h.1) hb (fun l a w h => hfin l a w h.1) ?_ _ _ _ _ (unlisted_none _) ⟨h0, Closed.none _⟩
  intro l a w i h hi hu hw
  exact wpOp_mono (fun a' w' h' => ⟨h', h.2.next i hw⟩) (hstep l a w i h.1 h.2 hi hu hw)
end
theorem Holding.swap {dsts : List Nat} {vl vl' : List (Option Value)} {l : Array Bool} {s : Nat → Value} (h : Holding dsts vl l s) (he : ∀ j, l.getD j false = true → vl'.getD j none = vl.getD j none) : Holding dsts vl' l s := fun j v hl hj => h j v hl (by rw [← he j hl]; exact hj)
/-- the world, by whether the call (operation q of n) has come. -/
structure CI (n q : Nat) (W0 : World) (P : World → Prop) (L : Array Bool) (wx : World) : Prop where
  sz : L.size = n
  bef : L.getD q false = false → wx = W0
  aft : L.getD q false = true → P wx
theorem CI.read {n q : Nat} {W0 : World} {P : World → Prop} {L : Array Bool} {wx : World} (h : CI n q W0 P L wx) (i : Nat) (hi : i ≠ q) : CI n q W0 P (L.setIfInBounds i true) wx :=
  ⟨by simp [h.sz], by rw [getD_set_ne false hi]; exact h.bef, by rw [getD_set_ne false hi]; exact h.aft⟩
theorem CI.call {n q : Nat} {W0 : World} {P P' : World → Prop} {L : Array Bool} {wx wy : World} (h : CI n q W0 P L wx) (hq : q < n) (hp : P' wy) : CI n q W0 P' (L.setIfInBounds q true) wy :=
  ⟨by simp [h.sz], fun hl => by simp [h.sz, hq] at hl, fun _ => hp⟩
theorem not_listed {a b : Bool} (h : a = true → b = true) (hb : b = false) : a = false := by
  cases a with
  | false => rfl
  | true => rw [h rfl] at hb; cases hb
end Go.Proofs.YtkbkgbcdmhkicaaDoor
/- DERIVED. copy of any slice of bytes into a row, as an operation of a plain region or of one that draws; what holds until the last operation that changes memory comes. No number of a type. -/
namespace Go.Proofs.YtkbkgbcdmhkicaaDoor
open Go.RowKit
theorem chg_row {S : List Nat} {g : Nat} (w : World) (C : Array Value) (hg : g ∈ S) : Chg S w (w.setRow g C) :=
  ⟨rfl, rfl, rfl, by simp [World.setRow], fun k _ hS => setRow_other w g k C (fun e => hS (by rw [e]; exact hg))⟩
theorem infoC1 : (Tryd.prog.info? 5).map (·.size) = some 1 := by kernel_rfl
theorem wp_copy_chg {w : World} {o : Oper} {a : Act} {K : Act → World → Prop} {Q : Exit → Act → World → Prop} (d s : Operand)
    (ho : o.op = .call { callee := .builtin .copy, args := #[d, s], argTypes := #[24, 24] })
    (dp : Option Addr) (dLen dCap : Nat) (A : Option Addr) (m c : Nat) (b : List Int) (hd : a.eval d = .slice dp dLen dCap) (hs : a.eval s = .slice A m c) (hm : b.length = m) (hB : Byt w A c b) (hmd : m ≤ dLen)
    (g off : Nat) (cur : List Value) (T : TypeId) (hg : w.heap[g]? = some (.cells cur.toArray T (0, 0))) (hdp : 0 < m → dp = some ⟨g, off, none⟩) (hfit : off + m ≤ cur.length)
    (h : ∀ w', w'.heap[g]? = some (.cells (splice cur off (vals b)).toArray T (0, 0)) → Chg [g] w w' → K (a.put o.dst (goInt m)) w') :
    Oper.wp Tryd.prog o a w K Q := by
  by_cases h0 : m = 0
  · subst h0
    obtain rfl : b = [] := List.eq_nil_of_length_eq_zero hm
    have hrun := run_copy_none (P := Tryd.prog) w 24 24 o.type 5 dp A dLen dCap 0 c Tryd.underlying24 infoC1 (by simp)
    unfold Oper.wp
    simp [execOp, ho, resolve, invoke, builtin, hd, hs, hrun, Result.andThen]
    exact h w (by simpa [splice, vals] using hg) (Chg.refl _ _)
  · have hdp' := hdp (by omega)
    subst hdp'
    obtain ⟨gb, ob, rfl, hgb, hc⟩ := hB.2.2 (by omega)
    have hv : (vals b).length = m := by rw [vals_length, hm]
    have hrun := run_copy_row (P := Tryd.prog) w 24 24 o.type 5 g off dLen dCap ⟨gb, ob, none⟩ m c cur.toArray T (vals b) Tryd.underlying24 infoC1 hg (by rw [hv]; exact (Nat.min_eq_left hmd).symm)
      (fun j v hj => by obtain ⟨hj', rfl⟩ := vals_get hj; rw [Addr.add_mid]; exact hc j hj') (by rw [hv]; simpa using hfit) (vals_one _)
    unfold Oper.wp
    simp [execOp, ho, resolve, invoke, builtin, hd, hs, hrun, Result.andThen]
    rw [hv]
    refine h _ ?_ (chg_row _ _ (List.mem_singleton.2 rfl))
    rw [setRow_heap w g _ _ T _ hg]
    simp [splice, hv]
theorem wpList_copy_chgT {w : World} {ops : Array Oper} {rest : List Oper} {o : Oper} {a : Act} {Q : Exit → Act → World → Prop} (hgd : o.guard = none) (d s : Operand)
    (ho : o.op = .call { callee := .builtin .copy, args := #[d, s], argTypes := #[24, 24] })
    (dp : Option Addr) (dLen dCap : Nat) (A : Option Addr) (m c : Nat) (b : List Int) (hd : a.eval d = .slice dp dLen dCap) (hs : a.eval s = .slice A m c) (hm : b.length = m) (hB : Byt w A c b) (hmd : m ≤ dLen)
    (g off : Nat) (cur : List Value) (T : TypeId) (hg : w.heap[g]? = some (.cells cur.toArray T (0, 0))) (hdp : 0 < m → dp = some ⟨g, off, none⟩) (hfit : off + m ≤ cur.length)
    (h : ∀ w', w'.heap[g]? = some (.cells (splice cur off (vals b)).toArray T (0, 0)) → Chg [g] w w' → wpList Tryd.prog ops Q rest (a.put o.dst (goInt m)) w') :
    wpList Tryd.prog ops Q (o :: rest) a w := by
  by_cases h0 : m = 0
  · subst h0
    obtain rfl : b = [] := List.eq_nil_of_length_eq_zero hm
    refine wpList_copy_nothing hgd d s 24 24 ho 5 Tryd.underlying24 infoC1 dp A dLen dCap 0 c hd hs (by simp) ?_
    exact h w (by simpa [splice, vals] using hg) (Chg.refl _ _)
  · have hdp' := hdp (by omega)
    subst hdp'
    obtain ⟨gb, ob, rfl, hgb, hc⟩ := hB.2.2 (by omega)
    have hv : (vals b).length = m := by rw [vals_length, hm]
    refine wpList_copy_own hgd d s 24 24 ho 5 Tryd.underlying24 infoC1 g off dLen dCap ⟨gb, ob, none⟩ m c hd hs cur.toArray T hg (vals b) (by rw [hv]; exact (Nat.min_eq_left hmd).symm)
      (fun j v hj => by obtain ⟨hj', rfl⟩ := vals_get hj; rw [Addr.add_mid]; exact hc j hj') (by rw [hv]; simpa using hfit) (vals_one _) ?_
    rw [hv]
    refine h _ ?_ (chg_row _ _ (List.mem_singleton.2 rfl))
    rw [setRow_heap w g _ _ _ _ hg]
    simp [splice, hv]
/-- until operation q comes, nothing that was there changes; then P holds. -/
structure LastR (q : Nat) (W : World) (P : World → Prop) (ll : Array Bool) (wx : World) : Prop where
  bef : ll.getD q false = false → Below W.heap.size W wx
  aft : ll.getD q false = true → P wx
theorem LastR.start {q : Nat} {W : World} {P : World → Prop} {n : Nat} : LastR q W P (Array.replicate n false) W.drew :=
  ⟨fun _ => (Below.refl _ _).drew, fun hl => by
    have : (Array.replicate n false).getD q false = false := by
      by_cases hn : q < n <;> simp [Array.getD_eq_getD_getElem?, hn]
    rw [this] at hl; cases hl⟩
theorem LastR.same {q : Nat} {W wx : World} {P : World → Prop} {ll : Array Bool} {i : Nat} (h : LastR q W P ll wx) (hi : i ≠ q) : LastR q W P (ll.setIfInBounds i true) wx :=
  ⟨by rw [getD_set_ne false hi]; exact h.bef, by rw [getD_set_ne false hi]; exact h.aft⟩
theorem LastR.call {q : Nat} {W wx w' : World} {P : World → Prop} {ll : Array Bool} {i : Nat} (h : LastR q W P ll wx) (hi : i ≠ q) (hnl : ll.getD q false = false) (hb : Below wx.heap.size wx w') : LastR q W P (ll.setIfInBounds i true) w' :=
  ⟨fun _ => (h.bef hnl).trans (hb.mono (h.bef hnl).size), fun hl => by rw [getD_set_ne false hi, hnl] at hl; cases hl⟩
theorem LastR.done {q : Nat} {W w' wx : World} {P : World → Prop} {ll : Array Bool} (_h : LastR q W P ll wx) (hs : q < ll.size) (hp : P w') : LastR q W P (ll.setIfInBounds q true) w' :=
  ⟨fun hl => by simp [hs] at hl, fun _ => hp⟩
theorem notlisted {ll : Array Bool} {i q : Nat} (hu : ll.getD i false = false) (h : ll.getD q false = true → ll.getD i false = true) : ll.getD q false = false := by
  cases e : ll.getD q false
  · rfl
  · rw [h e] at hu; cases hu
end Go.Proofs.YtkbkgbcdmhkicaaDoor
/- DERIVED. append of any slice of bytes, nil let in, to a row of the call's own. -/
namespace Go.Proofs.YtkbkgbcdmhkicaaDoor
open Go.RowKit
theorem info8z : (Tryd.prog.info? 5).map (fun i => (i.zero, i.size, i.bytes)) = some (some (.int .u8 0), 1, 1) := by kernel_rfl
theorem vals_app (L M : List Int) : vals L ++ vals M = vals (L ++ M) := by simp [vals]
theorem wpList_append_any {w : World} {ops : Array Oper} {rest : List Oper} {o : Oper} {a : Act} {Q : Exit → Act → World → Prop} (hgd : o.guard = none) (s x : Operand)
    (ho : o.op = .call { callee := .builtin .append, args := #[s, x], argTypes := #[24, 24] }) (base : Nat) (v : Value) (n : Nat) (L : List Int) (hs : a.eval s = v) (hown : w.ownsRow base 5 1 v n (vals L))
    (A : Option Addr) (m c : Nat) (M : List Int) (hx : a.eval x = .slice A m c) (hm : M.length = m) (hB : Byt w A c M) (h63 : n + m ≤ 4294967296) (hbase : base ≤ w.heap.size)
    (h : ∀ v' w', w'.ownsRow base 5 1 v' (n + m) (vals (L ++ M)) → (∀ B u, Below B u w → B ≤ base → Below B u w') → wpList Tryd.prog ops Q rest (a.put o.dst v') w') : wpList Tryd.prog ops Q (o :: rest) a w := by
  obtain ⟨i0, hi0, hz00, hz10, hz20⟩ := info_parts info8z
  cases A with
  | none =>
    have hc := hB.2.1 rfl
    have hm0 : m = 0 := by have := hB.1; omega
    subst hc hm0
    obtain rfl : M = [] := List.eq_nil_of_length_eq_zero hm
    refine wpList_append_own_none hgd s x 24 ho base 5 i0 1 Tryd.underlying24 hi0 v n (vals L) hs hown hx ?_
    exact h v w (by simpa using hown) (fun _ _ h _ => h)
  | some ad =>
    refine wpList_append_own_at _ hgd s x 24 ho base 5 i0 (.int .u8 0) 1 1 Tryd.underlying24 hi0 hz00 hz10 hz20 rfl (by decide) v n (vals L) hs hown ad m c (vals M) hx (by rw [vals_length, hm]; omega)
      (hB.cells (fun _ _ => rfl) ad rfl) (vals_one _) (by unfold maxLen; omega) (by omega) hbase ?_
    intro v' w' hown' hgrow _ _
    rw [vals_app] at hown'
    exact h v' w' hown' (fun B u hu hB' => hu.grown hgrow (by omega) (fun k hk => by have := (hown.lt k hk).1; omega))
end Go.Proofs.YtkbkgbcdmhkicaaDoor
/- DERIVED. The contracts of seal.padded and seal.joined. -/
namespace Go.Proofs.YtkbkgbcdmhkicaaDoor.Seal
open Go.RowKit
theorem splice_at {α : Type} (X Y Z : List α) : splice (X ++ Z) X.length Y = X ++ (Y ++ Z.drop Y.length) := by
  unfold splice
  rw [List.take_left, ← List.drop_drop, List.drop_left]
theorem splice_pad (L N : List Int) (hN : N.length = 4) (k : Nat) : splice (splice (vals (zeros k)) 0 (vals N)) 4 (vals L) = vals (N ++ (L ++ zeros (k - 4 - L.length))) := by
  have e1 : splice (vals (zeros k)) 0 (vals N) = vals N ++ vals (zeros (k - 4)) := by
    have := splice_at ([] : List Value) (vals N) (vals (zeros k))
    simp only [List.nil_append, List.length_nil] at this
    rw [this]
    simp [vals, zeros, hN]
  have e2 := splice_at (vals N) (vals L) (vals (zeros (k - 4)))
  rw [vals_length, hN] at e2
  rw [e1, e2]
  simp [vals, zeros]
theorem u8s_vals (L : List Int) : u8s L = (vals L).toArray := rfl
set_option maxRecDepth 100000 in
theorem padded_any (A : Option Addr) (n c B : Nat) (L : List Int) (hn : L.length = n) (hm : n ≤ 131068) (hB : B = bkt n) (w : World) (hb : Byt w A c L) : Calls Tryd.prog 23 #[.slice A n c, .int .i64 (B : Int)] w fun e w' => e = .returned (.slice (some ⟨w.heap.size, 0, none⟩) B B) ∧ w'.heap[w.heap.size]? = some (.cells (u8s (padL L)) 5 (0, 0)) ∧ Below w.heap.size w w' := by
  have hge : n + 4 ≤ B := by rw [hB]; exact bkt_ge hm
  have hle : B ≤ 131072 := by rw [hB]; exact (bkt_le hm).1
  have h64 : 64 ≤ B := by rw [hB]; exact (bkt_le hm).2
  have km := mk_any B (by omega) w
  have Hb := Lib.hid hb
  have Hn := Lib.hid hn
  have HB := Lib.hid hB
  have h4 : (4 : Int) ≤ B := by omega
  have h4' : ¬ B = 4 := by omega
  have h4n : 4 ≤ B := by omega
  clear hb hn hB
  go_enter Tryd.func23, Tryd.ntmps23
  go_upto_region 2 with (fail)
  have r0 := Go.heap_alloc_new w (.cells (u8s (zeros B)) 5)
  have b0 : Below w.heap.size w (w.alloc (.cells (u8s (zeros B)) 5)) := (Below.refl _ _).alloc (Nat.le_refl _) _
  have s0 : w.heap.size < (w.alloc (.cells (u8s (zeros B)) 5)).heap.size := by rw [World.size_alloc]; omega
  clear km
  generalize w.alloc _ = w0 at r0 b0 s0 ⊢
  have R0 := Lib.hid r0
  have B0 := Lib.hid b0
  have S0 := Lib.hid s0
  have HN := Lib.hid (number_any n 4 (by decide) (by omega) w0)
  have hnI : (n : Int) ≤ 131068 := by omega
  clear r0 b0 s0
  go_wp2_with (first
    | (go_at_call 26; refine HN.out.mono ?_; rintro e w1 ⟨rfl, hr1, hb1⟩; have R1 : Hid (w1.heap[w.heap.size]? = some (.cells (vals (zeros B)).toArray 5 (0, 0))) := (hb1.block _ S0.out).trans R0.out; have B1 := Lib.hid (B0.out.trans (hb1.mono (Nat.le_of_lt S0.out))); have N1 := Lib.hid (byt_rowF hr1 (numL_length n 4)); have S1 := Lib.hid (Nat.lt_of_lt_of_le S0.out hb1.size); clear hr1 hb1)
    | (refine wpList_copy_chgT rfl (.tmp 8) (.tmp 12) rfl _ B B _ 4 4 (numL n 4) (by rfl) (by rfl) (numL_length n 4) N1.out h4n w.heap.size 0 _ 5 R1.out (fun _ => rfl) (by rw [vals_length, zeros, List.length_replicate]; omega) ?_; intro w2 hh2 hc2; have Hh2 := Lib.hid hh2; have Hc2 := Lib.hid hc2; have B2 := Lib.hid (hc2.below B1.out (Nat.le_of_lt S1.out) (fun q hq => by simp at hq; omega)); have Hb2 := Lib.hid (Hb.out.below B2.out (Nat.le_refl _)); have S2 := Lib.hid (Nat.lt_of_lt_of_le S1.out hc2.size); clear hh2 hc2)
    | (refine wpList_copy_chgT rfl (.tmp 15) (.tmp 16) rfl _ (B - 4) (B - 4) _ n c L (by rfl) (by rfl) Hn.out Hb2.out (by omega) w.heap.size 4 _ 5 Hh2.out (fun _ => rfl) (by simp [splice, vals, zeros, numL_length]; omega) ?_; intro w3 hh3 hc3; have Hh3 := Lib.hid hh3; have B3 := Lib.hid (hc3.below B2.out (Nat.le_of_lt S2.out) (fun q hq => by simp at hq; omega)); clear hh3 hc3))
  go_ret
  refine ⟨rfl, ?_, B3.out⟩
  rw [Hh3.out, u8s_vals, splice_pad L _ (numL_length n 4) B, padL, Hn.out, ← HB.out]
/-- the parts, one behind the other. -/
def catL (ps : List Part) : List Int := ps.flatMap (·.M)
theorem catL_snoc (ps : List Part) (j : Nat) (h : j < ps.length) : catL (ps.take (j + 1)) = catL (ps.take j) ++ ps[j].M := by
  unfold catL
  rw [List.take_succ_eq_append_getElem h, List.flatMap_append]
  simp
theorem catL_le (ps : List Part) (j : Nat) : (catL (ps.take j)).length ≤ (catL ps).length := by
  have : catL ps = catL (ps.take j) ++ (ps.drop j).flatMap (·.M) := by
    unfold catL
    rw [← List.flatMap_append, List.take_append_drop]
  rw [this, List.length_append]
  omega
set_option maxRecDepth 100000 in
theorem joined_any (Ap : Option Addr) (m c : Nat) (ps : List Part) (hm : ps.length = m) (hx : m ≤ 100) (w : World) (hP : PartsAt w Ap ps) (hT : (catL ps).length ≤ 400000) : Calls Tryd.prog 25 #[.slice Ap m c] w fun e w' => ∃ v, e = .returned v ∧ w'.ownsRow w.heap.size 5 1 v (catL ps).length (vals (catL ps)) ∧ Below w.heap.size w w' := by
  have HP := Lib.hid hP
  have Hm := Lib.hid hm
  have HT := Lib.hid hT
  clear hP hm hT
  go_enter Tryd.func25, Tryd.ntmps25
  go_wp2
  go_loopw [3, 8] (fun v i wr => ∃ j : Nat, j ≤ m ∧ i = .int .i64 j ∧ Hid (wr.ownsRow w.heap.size 5 1 v (catL (ps.take j)).length (vals (catL (ps.take j)))) ∧ Hid (Below w.heap.size w wr)) (fun _ i _ => m - (intOf i).toNat)
  case atStart => exact ⟨0, Nat.zero_le _, rfl, by show World.ownsRow _ _ _ _ _ _ _; simpa [catL, vals] using World.ownsRow_nil w w.heap.size 5 1, Below.refl _ _⟩
  case round =>
    obtain ⟨j, hj, rfl, own, low⟩ := hrel
    by_cases hlt : j < m
    · have hltp : j < ps.length := by have := Hm.out; omega
      obtain ⟨g, off, rfl, hg, hcell⟩ := HP.out.row j hltp
      obtain ⟨hpb, hpi⟩ := HP.out.byt j hltp
      have hsn := catL_snoc ps j hltp
      have hle := catL_le ps (j + 1)
      obtain ⟨p, hp⟩ : ∃ p, p = ps[j] := ⟨_, rfl⟩
      rw [← hp] at hcell hpb hsn
      obtain ⟨pA, pc, pM⟩ := p
      have cc : wr.cell? ⟨g, off + j, none⟩ = some (.slice pA pM.length pc) := (low.out.cell (p := ⟨g, off + j, none⟩) hg).trans hcell
      obtain ⟨C, hC⟩ : ∃ C, C = catL (ps.take j) := ⟨_, rfl⟩
      have own' := own.out
      rw [← hC] at own' hsn
      have hbd : C.length + pM.length ≤ 400000 := by
        have h1 : (catL (ps.take (j + 1))).length = C.length + pM.length := by rw [hsn, List.length_append]
        have := HT.out
        omega
      have Own' := Lib.hid own'
      have Hpb := Lib.hid (hpb.below low.out (Nat.le_refl _))
      have Hsn := Lib.hid hsn
      have hltI : (j : Int) < m := by omega
      have hsz := low.out.size
      clear own own' hcell hpb hpi hp hC hsn hle
      go_wp2_with (at_builtin; refine wpList_append_any rfl (.tmp 12) (.tmp 13) rfl w.heap.size _ C.length C rfl Own'.out pA pM.length pc pM rfl rfl Hpb.out (by omega) hsz ?_; intro v3 w3 own3 hlow3; have Own3 := Lib.hid own3; have Low3 := Lib.hid (hlow3 _ _ low.out (Nat.le_refl _)); clear own3 hlow3)
      go_roundw
      case rel => exact ⟨j + 1, by omega, by go_num, by have h := Own3.out; show World.ownsRow _ _ _ _ _ _ _; rw [Hsn.out, List.length_append]; exact h, Low3⟩
      case measure => simp [intOf]; omega
    · obtain rfl : j = m := by omega
      have own' := own.out
      rw [List.take_of_length_le (by rw [Hm.out]; exact Nat.le_refl _)] at own'
      have Own' := Lib.hid own'
      have hltI : ¬ (j : Int) < (j : Int) := by omega
      clear own own'
      go_wp2
      go_ret
      exact ⟨_, rfl, Own'.out, low.out⟩
end Go.Proofs.YtkbkgbcdmhkicaaDoor.Seal
/- DERIVED. A slice that reads as bytes, as one word; what regions by invariants want. -/
namespace Go.Proofs.YtkbkgbcdmhkicaaDoor
open Go.RowKit
def SlB (L : List Int) (v : Value) (w : World) : Prop := ∃ A c, v = .slice A L.length c ∧ Byt w A c L
theorem SlB.later {L : List Int} {v : Value} {w w' : World} (h : SlB L v w) (hb : Below w.heap.size w w') : SlB L v w' := by
  obtain ⟨A, c, e, b⟩ := h
  exact ⟨A, c, e, b.below hb (Nat.le_refl _)⟩
theorem SlB.at {L : List Int} {v : Value} {B : Nat} {w w' : World} (h : SlB L v w) (hb : Below B w w') (hB : w.heap.size ≤ B) : SlB L v w' := h.later (hb.mono hB)
/-- what holds of a value and the world as soon as an operation has come. -/
def Whn (l : Array Bool) (i : Nat) (p : Value → World → Prop) (v : Value) (w : World) : Prop := l.getD i false = true → p v w
theorem Whn.get {l : Array Bool} {i : Nat} {p : Value → World → Prop} {v : Value} {w : World} (h : Whn l i p v w) (hl : l.getD i false = true) : p v w := h hl
theorem Whn.keep {l : Array Bool} {i k : Nat} {p : Value → World → Prop} {v : Value} {w : World} (h : Whn l i p v w) (hne : i ≠ k) : Whn (l.setIfInBounds k true) i p v w := fun hl => h ((getD_listed hl).resolve_left hne)
theorem Whn.map {l : Array Bool} {i : Nat} {p : Value → World → Prop} {v : Value} {w w' : World} (h : Whn l i p v w) (f : p v w → p v w') : Whn l i p v w' := fun hl => f (h hl)
theorem Whn.done {l : Array Bool} {i : Nat} {p : Value → World → Prop} {v : Value} {w : World} (h : p v w) : Whn l i p v w := fun _ => h
theorem Whn.none {n i : Nat} {p : Value → World → Prop} {v : Value} {w : World} (h : (Array.replicate n false).getD i false = false) : Whn (Array.replicate n false) i p v w := fun hl => by rw [h] at hl; cases hl
theorem lst {l : Array Bool} {i j : Nat} (h : (l.setIfInBounds i true).getD j false = true) (hne : j ≠ i) : l.getD j false = true := (getD_listed h).resolve_left hne
theorem wpOp_want {P : Program} {ops : Array Oper} {Q : Exit → Act → World → Prop} {i : Nat} {o : Oper} {K : Act → World → Prop} {a : Act} {w : World} (ho : ops[i]? = some o) (hg : Region.wanted o (yielded ops a.tmps) = true) (h : Oper.wp P o a w K Q) : wpOp P ops Q i K a w :=
  wpOp_step ho (fun K' hK' => by rw [if_pos hg]; exact Oper.wp_mono hK' h)
theorem wpOp_skip {P : Program} {ops : Array Oper} {Q : Exit → Act → World → Prop} {i : Nat} {o : Oper} {K : Act → World → Prop} {a : Act} {w : World} (ho : ops[i]? = some o) (hg : Region.wanted o (yielded ops a.tmps) = false) (h : K (a.put o.dst undef) w) : wpOp P ops Q i K a w :=
  wpOp_step ho (fun K' hK' => by rw [if_neg (by rw [hg]; decide)]; exact hK' _ _ h)
end Go.Proofs.YtkbkgbcdmhkicaaDoor
/- DERIVED. What holds from one operation on until another one comes. -/
namespace Go.Proofs.YtkbkgbcdmhkicaaDoor
open Go.RowKit
/-- the same as Whn, until another operation comes. -/
def Whu (l : Array Bool) (i q : Nat) (p : Value → World → Prop) (v : Value) (w : World) : Prop := l.getD i false = true → l.getD q false = false → p v w
theorem Whu.get {l : Array Bool} {i q : Nat} {p : Value → World → Prop} {v : Value} {w : World} (h : Whu l i q p v w) (hl : l.getD i false = true) (hq : l.getD q false = false) : p v w := h hl hq
theorem Whu.keep {l : Array Bool} {i q k : Nat} {p : Value → World → Prop} {v : Value} {w : World} (h : Whu l i q p v w) (hne : i ≠ k) : Whu (l.setIfInBounds k true) i q p v w := fun hl hq => h ((getD_listed hl).resolve_left hne) (by
  cases e : l.getD q false with
  | false => rfl
  | true => rw [getD_set_true e] at hq; cases hq)
theorem Whu.map {l : Array Bool} {i q : Nat} {p : Value → World → Prop} {v : Value} {w w' : World} (h : Whu l i q p v w) (f : p v w → p v w') : Whu l i q p v w' := fun hl hq => f (h hl hq)
theorem Whu.done {l : Array Bool} {i q : Nat} {p : Value → World → Prop} {v : Value} {w : World} (h : p v w) : Whu l i q p v w := fun _ _ => h
theorem Whu.none {n i q : Nat} {p : Value → World → Prop} {v : Value} {w : World} (h : (Array.replicate n false).getD i false = false) : Whu (Array.replicate n false) i q p v w := fun hl => by rw [h] at hl; cases hl
theorem Whu.past {l : Array Bool} {i q : Nat} {p : Value → World → Prop} {v : Value} {w : World} (hq : q < l.size) : Whu (l.setIfInBounds q true) i q p v w := fun _ h => by
  simp [hq] at h
theorem Whu.gone {l : Array Bool} {i q k : Nat} {p : Value → World → Prop} {v : Value} {w : World} (h : l.getD q false = true) : Whu (l.setIfInBounds k true) i q p v w := fun _ hq => by rw [getD_set_true h] at hq; cases hq
theorem Whn.never {l : Array Bool} {i k : Nat} {p : Value → World → Prop} {v : Value} {w : World} (hne : i ≠ k) (h : l.getD i false = true → l.getD k false = true) (hu : l.getD k false = false) : Whn (l.setIfInBounds k true) i p v w := fun hl => by
  have := h ((getD_listed hl).resolve_left hne)
  rw [this] at hu
  cases hu
end Go.Proofs.YtkbkgbcdmhkicaaDoor
/- DERIVED. The contract of seal.nonceOf (mknonce.py writes this text). -/
namespace Go.Proofs.YtkbkgbcdmhkicaaDoor.Seal
open Go.RowKit
/-- what nonceOf has: the place's box, the result's, the nonce's. -/
structure NI (w : World) (sl : Value) (pos ep : Nat) (N : List Int) (wx : World) : Prop where
  pl : wx.heap[w.heap.size]? = some (.cells #[sl, .int .u64 (pos : Nat), .int .u32 (ep : Nat)] 28 (0, 0))
  res : wx.heap[w.heap.size + 1]? = some (.cells (u8s (zeros 12)) 68 (0, 0))
  non : wx.heap[w.heap.size + 1 + 1]? = some (.cells (vals N).toArray 68 (0, 0))
  low : Below w.heap.size w wx
theorem NI.below {w wx wy : World} {sl : Value} {pos ep : Nat} {N : List Int} (h : NI w sl pos ep N wx) (hb : Below wx.heap.size wx wy) : NI w sl pos ep N wy :=
  ⟨(hb.block _ (Array.getElem?_eq_some_iff.1 h.pl).1).trans h.pl, (hb.block _ (Array.getElem?_eq_some_iff.1 h.res).1).trans h.res, (hb.block _ (Array.getElem?_eq_some_iff.1 h.non).1).trans h.non, h.low.trans (hb.mono h.low.size)⟩
theorem NI.set {w wx wy : World} {sl : Value} {pos ep : Nat} {N N' : List Int} (h : NI w sl pos ep N wx) (hN : wy.heap[w.heap.size + 1 + 1]? = some (.cells (vals N').toArray 68 (0, 0))) (hc : Chg [w.heap.size + 1 + 1] wx wy) : NI w sl pos ep N' wy :=
  ⟨(hc.block _ (Array.getElem?_eq_some_iff.1 h.pl).1 (by simp; omega)).trans h.pl, (hc.block _ (Array.getElem?_eq_some_iff.1 h.res).1 (by simp)).trans h.res, hN, hc.below h.low h.low.size (fun q hq => by simp at hq; omega)⟩
theorem num_sl {w : World} {g n k : Nat} (h : w.heap[g]? = some (.cells (u8s (numL n k)) 5 (0, 0))) : SlB (numL n k) (.slice (some ⟨g, 0, none⟩) k k) w :=
  ⟨_, k, by rw [numL_length], byt_rowF h (numL_length n k)⟩
theorem splice_n1 (ep : Nat) : splice (vals (zeros 12)) 0 (vals (numL ep 4)) = vals (numL ep 4 ++ zeros 8) := by
  have := splice_at ([] : List Value) (vals (numL ep 4)) (vals (zeros 12))
  simp only [List.nil_append, List.length_nil] at this
  rw [this, vals_length, numL_length]
  simp [vals, zeros]
theorem splice_n2 (pos ep : Nat) : splice (vals (numL ep 4 ++ zeros 8)) 4 (vals (numL pos 8)) = vals (nonceL pos ep) := by
  have := splice_at (vals (numL ep 4)) (vals (numL pos 8)) (vals (zeros 8))
  rw [vals_length, numL_length, vals_length, numL_length] at this
  rw [← vals_app, this]
  simp [vals, zeros, nonceL]
theorem info12 : (Tryd.prog.info? 68).map (·.size) = some 12 := by kernel_rfl
set_option maxRecDepth 100000 in
set_option maxHeartbeats 4000000 in
theorem nonce_any (sl : Value) (pos ep : Nat) (hp : pos < 18446744073709551616) (he : ep < 4294967296) (w : World) : Calls Tryd.prog 40 #[.agg #[sl, .int .u64 (pos : Nat), .int .u32 (ep : Nat)]] w fun e w' => e = .returned (.agg (u8s (nonceL pos ep))) ∧ Below w.heap.size w w' := by
  have heI : (ep : Int) < 4294967296 := by omega
  have hwe : IntKind.u64.wrap (ep : Int) = ep := by simp [IntKind.wrap, IntKind.bits, IntKind.signed]; omega
  have h3 := three_new w (.cells #[sl, .int .u64 (pos : Nat), .int .u32 (ep : Nat)] 28) (.cells (u8s (zeros 12)) 68) (.cells (u8s (zeros 12)) 68)
  have hi3 : NI w sl pos ep (zeros 12) (((w.alloc (.cells #[sl, .int .u64 (pos : Nat), .int .u32 (ep : Nat)] 28)).alloc (.cells (u8s (zeros 12)) 68)).alloc (.cells (u8s (zeros 12)) 68)) := ⟨h3.1, h3.2.1, h3.2.2, below3 w _ _ _⟩
  have ez : u8s (zeros 12) = #[.int .u8 0, .int .u8 0, .int .u8 0, .int .u8 0, .int .u8 0, .int .u8 0, .int .u8 0, .int .u8 0, .int .u8 0, .int .u8 0, .int .u8 0, .int .u8 0] := rfl
  rw [ez] at hi3
  have Hi3 := Lib.hid hi3
  clear h3 hi3 ez
  obtain ⟨N, hN⟩ : ∃ N, N = nonceL pos ep := ⟨_, rfl⟩
  rw [← hN]
  have HN := Lib.hid hN
  clear hN
  go_enter Tryd.func40, Tryd.ntmps40
  go_upto_region 2 with (fail)
  generalize World.alloc _ _ = w3 at Hi3 ⊢
  go_cut [9] from 4 to 9 (fun _ wx => NI w sl pos ep (numL ep 4 ++ zeros 8) wx)
  case first =>
    have apx : apartB [4, 5, 6, 7, 8, 9] = true := by decide
    refine wp_region_any (by kernel_rfl) ?_
    change wpAny _ _ _ _ _ _ _ (World.drew _)
    refine wpAny_inv2 (fun ll aa wx => Hid (ll.size = 6 ∧ LastR 5 w3 (NI w sl pos ep (numL ep 4 ++ zeros 8)) ll wx) ∧ ∃ (z : Nat → Value), Hid (aa = ⟨#[.agg #[sl, .int .u64 (pos : Nat), .int .u32 (ep : Nat)], .pointer (some ⟨w.heap.size, 0, none⟩), .pointer (some ⟨w.heap.size + 1, 0, none⟩), .pointer (some ⟨w.heap.size + 1 + 1, 0, none⟩), z 4, z 5, z 6, z 7, z 8, z 9, undef, undef, undef, undef, undef, undef], []⟩) ∧ Holding [4, 5, 6, 7, 8, 9] [some (.slice (some ⟨w.heap.size + 1 + 1, 0, none⟩) 4 12), some (.pointer (some ⟨w.heap.size, 2, none⟩)), some (.int .u32 (ep : Nat)), some (.int .u64 (ep : Nat)), none, none] ll z ∧ Whu ll 4 5 (SlB (numL ep 4)) (z 8) wx) ?_ (by kernel_rfl) ?_ ?_ _ rfl _ _ ?_
    · rintro ll aa wx ⟨hI, _⟩
      exact hI.out.1
    · rintro ll aa wx ⟨hI, z, ha, hz, hp4⟩ hall
      have hx := Lib.hid hI.out.2
      have e0 : z 4 = .slice (some ⟨w.heap.size + 1 + 1, 0, none⟩) 4 12 := hz 0 _ (hall 0 (by decide)) rfl
      have e1 : z 5 = .pointer (some ⟨w.heap.size, 2, none⟩) := hz 1 _ (hall 1 (by decide)) rfl
      have e2 : z 6 = .int .u32 (ep : Nat) := hz 2 _ (hall 2 (by decide)) rfl
      have e3 : z 7 = .int .u64 (ep : Nat) := hz 3 _ (hall 3 (by decide)) rfl
      have hallq := hall 5 (by decide)
      clear hall hz hI hp4
      obtain rfl := ha.out
      clear ha
      clear apx
      have HX := Lib.hid (hx.out.aft hallq)
      clear e0 e1 e2 e3 hx
      go_wp2
      go_meet
      exact HX.out
    · rintro ll aa wx i ⟨hI, z, ha, hz, hp4⟩ hcl hi hu hw
      obtain rfl := ha.out
      have hsz := Lib.hid hI.out.1
      have hx := Lib.hid hI.out.2
      clear ha hI
      have hin : i < 6 := hi
      obtain rfl | rfl | rfl | rfl | rfl | rfl : i = 0 ∨ i = 1 ∨ i = 2 ∨ i = 3 ∨ i = 4 ∨ i = 5 := by omega
      · refine wpOp_plain rfl rfl ?_
        go_simp
        exact ⟨⟨by simp [hsz.out], hx.out.same (by decide)⟩, upd z 4 (.slice (some ⟨w.heap.size + 1 + 1, 0, none⟩) 4 12), (by unfold Hid; simp [upd]), hz.next apx hsz.out 0 (by decide) _ (fun _ h => Option.some.inj h), hp4.keep (by decide)⟩
      · refine wpOp_plain rfl rfl ?_
        go_simp
        exact ⟨⟨by simp [hsz.out], hx.out.same (by decide)⟩, upd z 5 (.pointer (some ⟨w.heap.size, 2, none⟩)), (by unfold Hid; simp [upd]), hz.next apx hsz.out 1 (by decide) _ (fun _ h => Option.some.inj h), hp4.keep (by decide)⟩
      · have e1 : z 5 = .pointer (some ⟨w.heap.size, 2, none⟩) := hz 1 _ (hw 1 (by kernel_rfl)) rfl
        have hnl := notlisted hu (fun hl => hcl 3 2 (hcl 4 3 (hcl 5 4 (hl) (by kernel_rfl)) (by kernel_rfl)) (by kernel_rfl))
        have cl := cell_row (Hi3.out.below (hx.out.bef hnl)).pl 2
        simp only [List.getElem?_toArray, List.getElem?_cons_zero, List.getElem?_cons_succ] at cl
        refine wpOp_plain rfl rfl ?_
        go_simp
        exact ⟨⟨by simp [hsz.out], hx.out.same (by decide)⟩, upd z 6 (.int .u32 (ep : Nat)), (by unfold Hid; simp [upd, e1]), hz.next apx hsz.out 2 (by decide) _ (fun _ h => Option.some.inj h), hp4.keep (by decide)⟩
      · have e2 : z 6 = .int .u32 (ep : Nat) := hz 2 _ (hw 2 (by kernel_rfl)) rfl
        refine wpOp_plain rfl rfl ?_
        go_simp
        exact ⟨⟨by simp [hsz.out], hx.out.same (by decide)⟩, upd z 7 (.int .u64 (ep : Nat)), (by unfold Hid; simp [upd, e2]), hz.next apx hsz.out 3 (by decide) _ (fun _ h => Option.some.inj h), hp4.keep (by decide)⟩
      · have e3 : z 7 = .int .u64 (ep : Nat) := hz 3 _ (hw 3 (by kernel_rfl)) rfl
        have hnl := notlisted hu (fun hl => hcl 5 4 (hl) (by kernel_rfl))
        refine wpOp_plain rfl rfl ?_
        go_simp
        go_at_call 26
        refine (number_any ep 4 (by decide) (by omega) _).mono ?_
        rintro e w8 ⟨rfl, hr8, low⟩
        exact ⟨⟨by simp [hsz.out], hx.out.call (by decide) hnl low⟩, upd z 8 (Value.slice (some ⟨wx.heap.size, 0, none⟩) 4 4), (by unfold Hid; simp [upd, e3]), hz.next apx hsz.out 4 (by decide) _ (fun _ h => by cases h), Whu.done (num_sl hr8)⟩
      · have e0 : z 4 = .slice (some ⟨w.heap.size + 1 + 1, 0, none⟩) 4 12 := hz 0 _ (hw 0 (by kernel_rfl)) rfl
        have p4 := hp4.get (hw 4 (by kernel_rfl)) hu
        obtain ⟨A9, c9, e9, b9⟩ := p4
        have hn9 := Hi3.out.below (hx.out.bef hu)
        refine wpOp_plain rfl rfl (wp_copy_chg (.tmp 4) (.tmp 8) rfl _ 4 12 A9 _ c9 (numL ep 4) e0 e9 rfl b9 (by rw [numL_length]; decide) (w.heap.size + 1 + 1) 0 _ 68 hn9.non (fun _ => rfl) (by simp [vals, zeros, numL_length]) ?_)
        intro w9 hh9 hc9
        have hn := hn9.set (N' := numL ep 4 ++ zeros 8) (by rw [hh9, splice_n1]) hc9
        go_simp
        exact ⟨⟨by simp [hsz.out], hx.out.done (by rw [hsz.out]; decide) hn⟩, upd z 9 (.int .i64 ((numL ep 4).length : Nat)), (by unfold Hid; simp [upd, e0, e9]), hz.next apx hsz.out 5 (by decide) _ (fun _ h => by cases h), Whu.past (by rw [hsz.out]; decide)⟩
    · exact ⟨⟨rfl, LastR.start⟩, fun xx => (#[.agg #[sl, .int .u64 (pos : Nat), .int .u32 (ep : Nat)], .pointer (some ⟨w.heap.size, 0, none⟩), .pointer (some ⟨w.heap.size + 1, 0, none⟩), .pointer (some ⟨w.heap.size + 1 + 1, 0, none⟩), undef, undef, undef, undef, undef, undef, undef, undef, undef, undef, undef, undef] : Array Value).getD xx undef, (by rfl), Holding.start, Whu.none (by decide)⟩
  case rest =>
    have Hi4 := Lib.hid hcut
    clear hcut Hi3
    go_upto_region 3 with (fail)
    go_cut [14] from 10 to 14 (fun _ wx => NI w sl pos ep (nonceL pos ep) wx)
    case first =>
      have apx : apartB [10, 11, 12, 13, 14] = true := by decide
      refine wp_region_any (by kernel_rfl) ?_
      change wpAny _ _ _ _ _ _ _ (World.drew _)
      refine wpAny_inv2 (fun ll aa wx => Hid (ll.size = 5 ∧ LastR 4 wc (NI w sl pos ep (nonceL pos ep)) ll wx) ∧ ∃ (z : Nat → Value), Hid (aa = ⟨#[.agg #[sl, .int .u64 (pos : Nat), .int .u32 (ep : Nat)], .pointer (some ⟨w.heap.size, 0, none⟩), .pointer (some ⟨w.heap.size + 1, 0, none⟩), .pointer (some ⟨w.heap.size + 1 + 1, 0, none⟩), u4, u5, u6, u7, u8, u9, z 10, z 11, z 12, z 13, z 14, undef], []⟩) ∧ Holding [10, 11, 12, 13, 14] [some (.slice (some ⟨w.heap.size + 1 + 1, 4, none⟩) 8 8), some (.pointer (some ⟨w.heap.size, 1, none⟩)), some (.int .u64 (pos : Nat)), none, none] ll z ∧ Whu ll 3 4 (SlB (numL pos 8)) (z 13) wx) ?_ (by kernel_rfl) ?_ ?_ _ rfl _ _ ?_
      · rintro ll aa wx ⟨hI, _⟩
        exact hI.out.1
      · rintro ll aa wx ⟨hI, z, ha, hz, hp3⟩ hall
        have hx := Lib.hid hI.out.2
        have e0 : z 10 = .slice (some ⟨w.heap.size + 1 + 1, 4, none⟩) 8 8 := hz 0 _ (hall 0 (by decide)) rfl
        have e1 : z 11 = .pointer (some ⟨w.heap.size, 1, none⟩) := hz 1 _ (hall 1 (by decide)) rfl
        have e2 : z 12 = .int .u64 (pos : Nat) := hz 2 _ (hall 2 (by decide)) rfl
        have hallq := hall 4 (by decide)
        clear hall hz hI hp3
        obtain rfl := ha.out
        clear ha
        clear apx
        have HX := Lib.hid (hx.out.aft hallq)
        clear e0 e1 e2 hx
        go_wp2
        go_meet
        exact HX.out
      · rintro ll aa wx i ⟨hI, z, ha, hz, hp3⟩ hcl hi hu hw
        obtain rfl := ha.out
        have hsz := Lib.hid hI.out.1
        have hx := Lib.hid hI.out.2
        clear ha hI
        have hin : i < 5 := hi
        obtain rfl | rfl | rfl | rfl | rfl : i = 0 ∨ i = 1 ∨ i = 2 ∨ i = 3 ∨ i = 4 := by omega
        · refine wpOp_plain rfl rfl ?_
          go_simp
          exact ⟨⟨by simp [hsz.out], hx.out.same (by decide)⟩, upd z 10 (.slice (some ⟨w.heap.size + 1 + 1, 4, none⟩) 8 8), (by unfold Hid; simp [upd]), hz.next apx hsz.out 0 (by decide) _ (fun _ h => Option.some.inj h), hp3.keep (by decide)⟩
        · refine wpOp_plain rfl rfl ?_
          go_simp
          exact ⟨⟨by simp [hsz.out], hx.out.same (by decide)⟩, upd z 11 (.pointer (some ⟨w.heap.size, 1, none⟩)), (by unfold Hid; simp [upd]), hz.next apx hsz.out 1 (by decide) _ (fun _ h => Option.some.inj h), hp3.keep (by decide)⟩
        · have e1 : z 11 = .pointer (some ⟨w.heap.size, 1, none⟩) := hz 1 _ (hw 1 (by kernel_rfl)) rfl
          have hnl := notlisted hu (fun hl => hcl 3 2 (hcl 4 3 (hl) (by kernel_rfl)) (by kernel_rfl))
          have cl := cell_row (Hi4.out.below (hx.out.bef hnl)).pl 1
          simp only [List.getElem?_toArray, List.getElem?_cons_zero, List.getElem?_cons_succ] at cl
          refine wpOp_plain rfl rfl ?_
          go_simp
          exact ⟨⟨by simp [hsz.out], hx.out.same (by decide)⟩, upd z 12 (.int .u64 (pos : Nat)), (by unfold Hid; simp [upd, e1]), hz.next apx hsz.out 2 (by decide) _ (fun _ h => Option.some.inj h), hp3.keep (by decide)⟩
        · have e2 : z 12 = .int .u64 (pos : Nat) := hz 2 _ (hw 2 (by kernel_rfl)) rfl
          have hnl := notlisted hu (fun hl => hcl 4 3 (hl) (by kernel_rfl))
          refine wpOp_plain rfl rfl ?_
          go_simp
          go_at_call 26
          refine (number_any pos 8 (by decide) (by omega) _).mono ?_
          rintro e w8 ⟨rfl, hr8, low⟩
          exact ⟨⟨by simp [hsz.out], hx.out.call (by decide) hnl low⟩, upd z 13 (Value.slice (some ⟨wx.heap.size, 0, none⟩) 8 8), (by unfold Hid; simp [upd, e2]), hz.next apx hsz.out 3 (by decide) _ (fun _ h => by cases h), Whu.done (num_sl hr8)⟩
        · have e0 : z 10 = .slice (some ⟨w.heap.size + 1 + 1, 4, none⟩) 8 8 := hz 0 _ (hw 0 (by kernel_rfl)) rfl
          have p3 := hp3.get (hw 3 (by kernel_rfl)) hu
          obtain ⟨A9, c9, e9, b9⟩ := p3
          have hn9 := Hi4.out.below (hx.out.bef hu)
          refine wpOp_plain rfl rfl (wp_copy_chg (.tmp 10) (.tmp 13) rfl _ 8 8 A9 _ c9 (numL pos 8) e0 e9 rfl b9 (by rw [numL_length]; decide) (w.heap.size + 1 + 1) 4 _ 68 hn9.non (fun _ => rfl) (by simp [vals, zeros, numL_length]) ?_)
          intro w9 hh9 hc9
          have hn := hn9.set (N' := nonceL pos ep) (by rw [hh9, splice_n2]) hc9
          go_simp
          exact ⟨⟨by simp [hsz.out], hx.out.done (by rw [hsz.out]; decide) hn⟩, upd z 14 (.int .i64 ((numL pos 8).length : Nat)), (by unfold Hid; simp [upd, e0, e9]), hz.next apx hsz.out 4 (by decide) _ (fun _ h => by cases h), Whu.past (by rw [hsz.out]; decide)⟩
      · exact ⟨⟨rfl, LastR.start⟩, fun xx => (#[.agg #[sl, .int .u64 (pos : Nat), .int .u32 (ep : Nat)], .pointer (some ⟨w.heap.size, 0, none⟩), .pointer (some ⟨w.heap.size + 1, 0, none⟩), .pointer (some ⟨w.heap.size + 1 + 1, 0, none⟩), u4, u5, u6, u7, u8, u9, undef, undef, undef, undef, undef, undef] : Array Value).getD xx undef, (by rfl), Holding.start, Whu.none (by decide)⟩
    case rest =>
      have H5 := Lib.hid hcut
      clear hcut Hi4
      have hn12 : N.length = 12 := by rw [HN.out, nonceL_length]
      have Hs : Hid ((Tryd.prog.info? 68).map (·.size) = some (u8s N).size) := by show _ = _; rw [u8s_size, hn12]; exact info12
      have Hone := Lib.hid (u8s_one N)
      have Hz0 := Lib.hid (H5.out.res)
      have Hn0 : Hid (wc.heap[w.heap.size + 1 + 1]? = some (.cells (u8s N) 68 (0, 0))) := by rw [HN.out]; exact H5.out.non
      have HL := Lib.hid H5.out.low
      have Hsz : Hid ((u8s (zeros 12)).size = (u8s N).size) := by show _ = _; rw [u8s_size, u8s_size, hn12]; rfl
      clear H5 HN
      generalize u8s (zeros 12) = Z at Hz0 Hsz
      go_wp2_with (first
        | (with_reducible refine wpList_load_row rfl 68 (.tmp 3) rfl (w.heap.size + 1 + 1) rfl 68 (u8s N) (0, 0) _ Hn0.out Tryd.underlying68 rfl Hs.out ?_)
        | (refine wpList_store_row rfl 68 (.tmp 2) (.tmp 15) rfl (w.heap.size + 1) (u8s N) (by rfl) (by rfl) 68 _ Hz0.out Hs.out Hsz.out Hone.out ?_))
      exact bodyPost_ret (v := .agg (u8s N)) (results_cell_row rfl _ _ (w.heap.size + 1) 68 _ (0, 0) _ rfl (setRow_heap _ _ _ _ _ _ Hz0.out) Tryd.underlying68 rfl Hs.out) rfl ⟨rfl, below_setRow HL.out (by omega) _⟩
end Go.Proofs.YtkbkgbcdmhkicaaDoor.Seal
/- DERIVED. The tables of layers 1 and 3; a key out of a key by hmac.Derive at one part. -/
namespace Go.Proofs.YtkbkgbcdmhkicaaDoor.Seal
open Go.RowKit
structure SLaid (w : World) : Prop where
  sha : Laid w
  cha : Cha.Laid w
theorem SLaid.later {w w' : World} (h : SLaid w) (hb : Below w.heap.size w w') : SLaid w' := ⟨h.sha.below hb h.sha.sz, h.cha.below hb h.cha.lt⟩
theorem keyL_length (k nm cx : List Int) : (keyL k nm cx).length = 32 := hmacL_length _ _
theorem partsAt_one {w : World} {g : Nat} {A : Option Addr} {c : Nat} {C : List Int} (hg : w.cell? ⟨g, 0, none⟩ = some (.slice A C.length c)) (hB : Byt w A c C) (hb : InB C) : PartsAt w (some ⟨g, 0, none⟩) [⟨A, c, C⟩] :=
  ⟨fun j h => by
    obtain rfl : j = 0 := by simp at h; omega
    exact ⟨g, 0, rfl, World.block_lt_of_cell? _ _ hg, hg⟩, fun j h => by
    obtain rfl : j = 0 := by simp at h; omega
    exact ⟨hB, hb⟩⟩
theorem key_call (k C nm : List Int) (s : ByteArray) (hs : bytesOf s = nm) (A : Option Addr) (n c g : Nat) (w : World) (hk : k.length = 32) (hb : InB k) (hC : C.length = n) (hCb : InB C) (hn : n ≤ 1000) (hs2 : nm.length ≤ 100) (hL : Laid w) (hB : Byt w A c C) (hg : w.cell? ⟨g, 0, none⟩ = some (.slice A n c)) :
    Calls Tryd.prog 19 #[.agg (u8s k), .string s, .slice (some ⟨g, 0, none⟩) 1 1] w fun e w' => e = .returned (.agg (u8s (keyL k nm C))) ∧ Below w.heap.size w w' := by
  subst hs hC
  have e : canonL (bytesOf s) [⟨A, c, C⟩] = partL (bytesOf s) ++ partL C := by simp [canonL]
  have h := derive_any k s (some ⟨g, 0, none⟩) 1 1 [⟨A, c, C⟩] w hk hb rfl (partsAt_one hg hB hCb) hL (by rw [e, List.length_append, partL_length, partL_length]; omega)
  rw [e] at h
  exact h
theorem keyL_in (k nm cx : List Int) : InB (keyL k nm cx) := hmacL_in _ _
theorem wpList_store_new {ops : Array Oper} {rest : List Oper} {o : Oper} {a : Act} {w : World} {Q : Exit → Act → World → Prop} (hgd : o.guard = none) (x y : Operand) (ho : o.op = .store 23 x y) (l : List Int) (hl : l.length = 32)
    (C : Array Value) (hC : C.size = 32) (hx : a.eval x = .pointer (some ⟨w.heap.size, 0, none⟩)) (hy : a.eval y = .agg (u8s l))
    (h : ∀ w', w'.heap[w.heap.size]? = some (.cells (u8s l) 23 (0, 0)) → Below w.heap.size w w' → wpList Tryd.prog ops Q rest (a.put o.dst undef) w') : wpList Tryd.prog ops Q (o :: rest) a (w.alloc (.cells C 23)) := by
  have hi : (Tryd.prog.info? 23).map (·.size) = some (u8s l).size := by rw [u8s_size, hl]; exact info35
  refine wpList_store_row hgd 23 x y ho w.heap.size (u8s l) hx hy 23 C (Go.heap_alloc_new w _) hi (by rw [u8s_size, hl, hC]) (u8s_one _) ?_
  exact h _ (setRow_heap _ _ _ _ _ _ (Go.heap_alloc_new w _)) (below_setRow ((Below.refl _ _).alloc (Nat.le_refl _) _) (Nat.le_refl _) _)
theorem infoP : (Tryd.prog.info? 28).map (·.size) = some 3 := by kernel_rfl
theorem infoH : (Tryd.prog.info? 23).map (·.size) = some 32 := by kernel_rfl
end Go.Proofs.YtkbkgbcdmhkicaaDoor.Seal
