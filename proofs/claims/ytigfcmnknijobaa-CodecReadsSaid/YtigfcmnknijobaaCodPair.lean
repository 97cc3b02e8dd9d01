/- DERIVED. What a region wants in which one operation appends to a row of the call's own and others call: the relation, the pair of values that lie apart. -/
import Derived.Test.YtigfcmnknijobaaRefCodLabel
import Derived.Test.YtigfcmnknijobaaCodFew
import Derived.Test.YtigfcmnknijobaaCodOnceMath
namespace Go.Proofs.Ytigfcmnknijobaa.Cod
open Go.RowKit Str
theorem grown_below {w w' : World} {r : Option Nat} (h : Below w.heap.size w w') : w.grownBy w' r := ⟨h.os, h.tape, h.output, h.size, fun k hk _ => h.block k hk⟩
/-- until operation q comes nothing old changes, from then on only r. -/
def RelU (q : Nat) (r : Option Nat) (W : World) (ll : Array Bool) (wx : World) : Prop := W.grownBy wx r ∧ (ll.getD q false = false → Below W.heap.size W wx)
theorem set_false {l : Array Bool} {i j : Nat} (h : (l.setIfInBounds i true).getD j false = false) : l.getD j false = false := by
  cases e : l.getD j false with
  | false => rfl
  | true => rw [getD_set_true e] at h; cases h
theorem RelU.start {q : Nat} {r : Option Nat} {W : World} {ll : Array Bool} : RelU q r W ll W.drew := ⟨grown_below (Below.refl _ _).drew, fun _ => (Below.refl _ _).drew⟩
theorem RelU.same {q i : Nat} {r : Option Nat} {W wx : World} {ll : Array Bool} (h : RelU q r W ll wx) : RelU q r W (ll.setIfInBounds i true) wx := ⟨h.1, fun hl => h.2 (set_false hl)⟩
theorem RelU.call {q i : Nat} {r : Option Nat} {W wx w' : World} {ll : Array Bool} (h : RelU q r W ll wx) (k : Below wx.heap.size wx w') : RelU q r W (ll.setIfInBounds i true) w' :=
  ⟨h.1.trans (grown_below k), fun hl => (h.2 (set_false hl)).trans (k.mono h.1.size)⟩
theorem RelU.app {q : Nat} {r : Option Nat} {W wx w' : World} {ll : Array Bool} (h : RelU q r W ll wx) (k : wx.grownBy w' r) (hq : q < ll.size) : RelU q r W (ll.setIfInBounds q true) w' :=
  ⟨h.1.trans k, fun hl => by simp [hq] at hl⟩
theorem RelU.at {q : Nat} {r : Option Nat} {W wx : World} {ll : Array Bool} (h : RelU q r W ll wx) {g : Nat} {o : Obj} (hg : W.heap[g]? = some o) (hr : some g ≠ r) : wx.heap[g]? = some o :=
  (h.1.block g (Array.getElem?_eq_some_iff.1 hg).1 hr).trans hg
/-- two values that lie in no one block. -/
def Ap (a b : Value) : Prop := ∀ k, a.ownBlock = some k → b.ownBlock ≠ some k
theorem SlB.off {L : List Int} {v c : Value} {w w' : World} (h : SlB L v w) (hg : w.grownBy w' c.ownBlock) (ha : Ap v c) : SlB L v w' := by
  obtain ⟨A, cp, e, h1, h2, h3⟩ := h
  refine ⟨A, cp, e, h1, h2, fun hl => ?_⟩
  obtain ⟨g, off, hA, hlt, hb⟩ := h3 hl
  have hne : some g ≠ c.ownBlock := fun e2 => ha g (by rw [e, hA]; rfl) e2.symm
  exact ⟨g, off, hA, Nat.lt_of_lt_of_le hlt hg.size, fun j hj => hg.cell (hb j hj) hne⟩
/-- new bytes, and the value is just this one. -/
def NewE (B : Nat) (M : List Int) (y v : Value) (w : World) : Prop := NewB B M v w ∧ v = y
theorem NewE.later {B : Nat} {M : List Int} {y v : Value} {w w' : World} (h : NewE B M y v w) (hb : Below w.heap.size w w') : NewE B M y v w' := ⟨h.1.later hb, h.2⟩
theorem NewE.off {B : Nat} {M : List Int} {y v : Value} {w w' : World} {r : Option Nat} (h : NewE B M y v w) (hg : w.grownBy w' r) (hr : ∀ k, r = some k → k < B) : NewE B M y v w' :=
  ⟨World.ownsRow.kept h.1 hg (by
    cases e : v.ownBlock with
    | none => exact .inl rfl
    | some k => exact .inr (fun e2 => by have := (World.ownsRow.lt h.1 k e).1; have := hr k e2.symm; omega)), h.2⟩
/-- two operations' values lie apart. -/
def Pair (l : Array Bool) (i j : Nat) (a b : Value) : Prop := l.getD i false = true → l.getD j false = true → Ap a b
theorem Pair.keep {l : Array Bool} {i j k : Nat} {a b : Value} (h : Pair l i j a b) (hi : i ≠ k) (hj : j ≠ k) : Pair (l.setIfInBounds k true) i j a b := fun h1 h2 => h (lst h1 hi) (lst h2 hj)
theorem Pair.left {l : Array Bool} {i j : Nat} {a b : Value} (hne : j ≠ i) (h : l.getD j false = true → Ap a b) : Pair (l.setIfInBounds i true) i j a b := fun _ h2 => h (lst h2 hne)
theorem Pair.right {l : Array Bool} {i j : Nat} {a b : Value} (hne : i ≠ j) (h : l.getD i false = true → Ap a b) : Pair (l.setIfInBounds j true) i j a b := fun h1 _ => h (lst h1 hne)
theorem Pair.start {n i j : Nat} {a b : Value} (h : (Array.replicate n false).getD i false = false) : Pair (Array.replicate n false) i j a b := fun hl => by rw [h] at hl; cases hl
/-- what is new lies apart from what was there. -/
theorem ap_new {B B2 : Nat} {L M : List Int} {a b : Value} {w w' : World} (ha : NewB B L a w') (hb : NewB B2 M b w) (h : w.heap.size ≤ B) : Ap a b := fun k e1 e2 => by
  have := (World.ownsRow.lt ha k e1).1
  have := (World.ownsRow.lt hb k e2).2
  omega
theorem ap_app {B : Nat} {L : List Int} {a c b : Value} {w : World} (ha : NewB B L a w) (hc : ∀ k, c.ownBlock = some k → k < B) (hb : b.ownBlock = c.ownBlock ∨ b.ownBlock = some w.heap.size) : Ap a b := fun k e1 e2 => by
  have h := World.ownsRow.lt ha k e1
  rcases hb with hb | hb
  · have := hc k (hb.symm.trans e2)
    omega
  · rw [hb] at e2
    obtain rfl := Option.some.inj e2
    omega
theorem num_v {C : List Int} {v : Value} {w : World} (n : Nat) (hn : n < 18446744073709551616) (hv : SlB C v w) (hle : C.length ≤ 40000) :
    Calls Try.prog 25 #[v, .int .u64 (n : Nat)] w fun e w' => ∃ v', e = .returned v' ∧ NewB w.heap.size (C ++ encN n) v' w' ∧ Below w.heap.size w w' := by
  obtain ⟨A, c, rfl, hB⟩ := hv
  exact num_any A _ c n C hn rfl hle w hB
theorem text_v {C : List Int} {v : Value} {w : World} (s : ByteArray) (hs : s.size ≤ 5000) (hv : SlB C v w) (hle : C.length ≤ 40000) :
    Calls Try.prog 27 #[v, .string s] w fun e w' => ∃ v', e = .returned v' ∧ NewB w.heap.size (C ++ textL s) v' w' ∧ Below w.heap.size w w' := by
  obtain ⟨A, c, rfl, hB⟩ := hv
  exact text_any A _ c s C hs rfl hle w hB
theorem hash_v {C h : List Int} {v : Value} {w : World} (hh : h.length = 32) (hv : SlB C v w) (hle : C.length ≤ 40000) :
    Calls Try.prog 29 #[v, .agg (u8s h)] w fun e w' => ∃ v', e = .returned v' ∧ NewB w.heap.size (C ++ h) v' w' ∧ Below w.heap.size w w' := by
  obtain ⟨A, c, rfl, hB⟩ := hv
  exact hash_any A _ c h C hh rfl hle w hB
theorem label_v {C : List Int} {v : Value} {w : World} (lv : Int) (cp : Nat) (hv : SlB C v w) (hle : C.length ≤ 40000) :
    Calls Try.prog 31 #[v, .agg #[.int .i64 lv, .int .u64 (cp : Nat)]] w fun e w' => ∃ v', e = .returned v' ∧ NewB w.heap.size (C ++ labelL lv cp) v' w' ∧ Below w.heap.size w w' := by
  obtain ⟨A, c, rfl, hB⟩ := hv
  exact label_any A _ c lv cp C rfl hle w hB
theorem vertex_v {C h : List Int} {v : Value} {w : World} (n : Int) (hh : h.length = 32) (hv : SlB C v w) (hle : C.length ≤ 40000) :
    Calls Try.prog 33 #[v, .agg (vtxC h n)] w fun e w' => ∃ v', e = .returned v' ∧ NewB w.heap.size (C ++ vertexL h n) v' w' ∧ Below w.heap.size w w' := by
  obtain ⟨A, c, rfl, hB⟩ := hv
  exact vertex_any A _ c h n C hh rfl hle w hB
theorem wp_app_at {o : Oper} {a : Act} {K : Act → World → Prop} {Q : Exit → Act → World → Prop} {w : World} (s x : Operand)
    (ho : o.op = .call { callee := .builtin .append, args := #[s, x], argTypes := #[22, 22] }) (base : Nat) (v : Value) (L : List Int) (hs : a.eval s = v) (hown : NewB base L v w)
    (vx : Value) (M : List Int) (hx : a.eval x = vx) (hB : SlB M vx w) (hM : 0 < M.length) (h63 : L.length + M.length ≤ 100000) (hbase : base ≤ w.heap.size)
    (h : ∀ v' w', NewB base (L ++ M) v' w' → w.grownBy w' v.ownBlock → (v'.ownBlock = v.ownBlock ∨ v'.ownBlock = some w.heap.size) → K (a.put o.dst v') w') : o.wp Try.prog a w K Q := by
  obtain ⟨i0, hi0, hz00, hz10, hz20⟩ := info_parts info8z
  obtain ⟨A, c, rfl, b⟩ := hB
  obtain ⟨g, off, rfl, hg, hc⟩ := b.2.2 hM
  obtain ⟨v', w', hr, h2, h3, _, h5⟩ := run_append_own_at (P := Try.prog) w base 22 o.type 5 i0 (.int .u8 0) 1 1 Try.underlying22 hi0 hz00 hz10 hz20 rfl (by decide) v L.length (vals L) hown ⟨g, off, none⟩ M.length c (vals M) (by rw [vals_length]; omega)
    (b.cells (fun _ _ => rfl) _ rfl) (vals_one _) (by unfold maxLen; omega) (by omega) hbase
  rw [vals_app] at h2
  unfold Oper.wp execOp
  simp only [ho, resolve, invoke, builtin, Sem.run_bind, Sem.run_pure, Result.andThen_ok, List.map_toArray, List.map_cons, List.map_nil, hs, hx, hr]
  exact h v' w' (by unfold NewB; rw [List.length_append]; exact h2) h3 h5
end Go.Proofs.Ytigfcmnknijobaa.Cod
