/- DERIVED. copy of any slice of bytes into a row, as an operation of a plain region or of one that draws; what holds until the last operation that changes memory comes. No number of a type. -/
import Derived.Test.YtnpbogioehpeoaaProg
import Derived.Test.YtnpbogioehpeoaaChg
import Derived.Test.YtnpbogioehpeoaaRegionCall
namespace Go.Proofs.Ytnpbogioehpeoaa
open Go.RowKit
theorem chg_row {S : List Nat} {g : Nat} (w : World) (C : Array Value) (hg : g ∈ S) : Chg S w (w.setRow g C) :=
  ⟨rfl, rfl, rfl, by simp [World.setRow], fun k _ hS => setRow_other w g k C (fun e => hS (by rw [e]; exact hg))⟩
theorem infoC1 : (Try.prog.info? 5).map (·.size) = some 1 := by kernel_rfl
theorem wp_copy_chg {w : World} {o : Oper} {a : Act} {K : Act → World → Prop} {Q : Exit → Act → World → Prop} (d s : Operand)
    (ho : o.op = .call { callee := .builtin .copy, args := #[d, s], argTypes := #[56, 56] })
    (dp : Option Addr) (dLen dCap : Nat) (A : Option Addr) (m c : Nat) (b : List Int) (hd : a.eval d = .slice dp dLen dCap) (hs : a.eval s = .slice A m c) (hm : b.length = m) (hB : Byt w A c b) (hmd : m ≤ dLen)
    (g off : Nat) (cur : List Value) (T : TypeId) (hg : w.heap[g]? = some (.cells cur.toArray T (0, 0))) (hdp : 0 < m → dp = some ⟨g, off, none⟩) (hfit : off + m ≤ cur.length)
    (h : ∀ w', w'.heap[g]? = some (.cells (splice cur off (vals b)).toArray T (0, 0)) → Chg [g] w w' → K (a.put o.dst (goInt m)) w') :
    Oper.wp Try.prog o a w K Q := by
  by_cases h0 : m = 0
  · subst h0
    obtain rfl : b = [] := List.eq_nil_of_length_eq_zero hm
    have hrun := run_copy_none (P := Try.prog) w 56 56 o.type 5 dp A dLen dCap 0 c Try.underlying56 infoC1 (by simp)
    unfold Oper.wp
    simp [execOp, ho, resolve, invoke, builtin, hd, hs, hrun, Result.andThen]
    exact h w (by simpa [splice, vals] using hg) (Chg.refl _ _)
  · have hdp' := hdp (by omega)
    subst hdp'
    obtain ⟨gb, ob, rfl, hgb, hc⟩ := hB.2.2 (by omega)
    have hv : (vals b).length = m := by rw [vals_length, hm]
    have hrun := run_copy_row (P := Try.prog) w 56 56 o.type 5 g off dLen dCap ⟨gb, ob, none⟩ m c cur.toArray T (vals b) Try.underlying56 infoC1 hg (by rw [hv]; exact (Nat.min_eq_left hmd).symm)
      (fun j v hj => by obtain ⟨hj', rfl⟩ := vals_get hj; rw [Addr.add_mid]; exact hc j hj') (by rw [hv]; simpa using hfit) (vals_one _)
    unfold Oper.wp
    simp [execOp, ho, resolve, invoke, builtin, hd, hs, hrun, Result.andThen]
    rw [hv]
    refine h _ ?_ (chg_row _ _ (List.mem_singleton.2 rfl))
    rw [setRow_heap w g _ _ T _ hg]
    simp [splice, hv]
theorem wpList_copy_chgT {w : World} {ops : Array Oper} {rest : List Oper} {o : Oper} {a : Act} {Q : Exit → Act → World → Prop} (hgd : o.guard = none) (d s : Operand)
    (ho : o.op = .call { callee := .builtin .copy, args := #[d, s], argTypes := #[56, 56] })
    (dp : Option Addr) (dLen dCap : Nat) (A : Option Addr) (m c : Nat) (b : List Int) (hd : a.eval d = .slice dp dLen dCap) (hs : a.eval s = .slice A m c) (hm : b.length = m) (hB : Byt w A c b) (hmd : m ≤ dLen)
    (g off : Nat) (cur : List Value) (T : TypeId) (hg : w.heap[g]? = some (.cells cur.toArray T (0, 0))) (hdp : 0 < m → dp = some ⟨g, off, none⟩) (hfit : off + m ≤ cur.length)
    (h : ∀ w', w'.heap[g]? = some (.cells (splice cur off (vals b)).toArray T (0, 0)) → Chg [g] w w' → wpList Try.prog ops Q rest (a.put o.dst (goInt m)) w') :
    wpList Try.prog ops Q (o :: rest) a w := by
  by_cases h0 : m = 0
  · subst h0
    obtain rfl : b = [] := List.eq_nil_of_length_eq_zero hm
    refine wpList_copy_nothing hgd d s 56 56 ho 5 Try.underlying56 infoC1 dp A dLen dCap 0 c hd hs (by simp) ?_
    exact h w (by simpa [splice, vals] using hg) (Chg.refl _ _)
  · have hdp' := hdp (by omega)
    subst hdp'
    obtain ⟨gb, ob, rfl, hgb, hc⟩ := hB.2.2 (by omega)
    have hv : (vals b).length = m := by rw [vals_length, hm]
    refine wpList_copy_own hgd d s 56 56 ho 5 Try.underlying56 infoC1 g off dLen dCap ⟨gb, ob, none⟩ m c hd hs cur.toArray T hg (vals b) (by rw [hv]; exact (Nat.min_eq_left hmd).symm)
      (fun j v hj => by obtain ⟨hj', rfl⟩ := vals_get hj; rw [Addr.add_mid]; exact hc j hj') (by rw [hv]; simpa using hfit) (vals_one _) ?_
    rw [hv]
    refine h _ ?_ (chg_row _ _ (List.mem_singleton.2 rfl))
    rw [setRow_heap w g _ _ _ _ hg]
    simp [splice, hv]
/-- until operation q comes, nothing that was there changes; then P holds. -/
structure LastR (q : Nat) (W : World) (P : World → Prop) (ll : Array Bool) (wx : World) : Prop where
  bef : ll.getD q false = false → Below W.heap.size W wx
  aft : ll.getD q false = true → P wx
theorem LastR.start {q : Nat} {W : World} {P : World → Prop} {n : Nat} : LastR q W P (Array.replicate n false) W.drew :=
  ⟨fun _ => (Below.refl _ _).drew, fun hl => by
    have : (Array.replicate n false).getD q false = false := by
      by_cases hn : q < n <;> simp [Array.getD_eq_getD_getElem?, hn]
    rw [this] at hl; cases hl⟩
theorem LastR.same {q : Nat} {W wx : World} {P : World → Prop} {ll : Array Bool} {i : Nat} (h : LastR q W P ll wx) (hi : i ≠ q) : LastR q W P (ll.setIfInBounds i true) wx :=
  ⟨by rw [getD_set_ne false hi]; exact h.bef, by rw [getD_set_ne false hi]; exact h.aft⟩
theorem LastR.call {q : Nat} {W wx w' : World} {P : World → Prop} {ll : Array Bool} {i : Nat} (h : LastR q W P ll wx) (hi : i ≠ q) (hnl : ll.getD q false = false) (hb : Below wx.heap.size wx w') : LastR q W P (ll.setIfInBounds i true) w' :=
  ⟨fun _ => (h.bef hnl).trans (hb.mono (h.bef hnl).size), fun hl => by rw [getD_set_ne false hi, hnl] at hl; cases hl⟩
theorem LastR.done {q : Nat} {W w' wx : World} {P : World → Prop} {ll : Array Bool} (_h : LastR q W P ll wx) (hs : q < ll.size) (hp : P w') : LastR q W P (ll.setIfInBounds q true) w' :=
  ⟨fun hl => by simp [hs] at hl, fun _ => hp⟩
theorem notlisted {ll : Array Bool} {i q : Nat} (hu : ll.getD i false = false) (h : ll.getD q false = true → ll.getD i false = true) : ll.getD q false = false := by
  cases e : ll.getD q false
  · rfl
  · rw [h e] at hu; cases hu
end Go.Proofs.Ytnpbogioehpeoaa
