/- DERIVED. Texts of ours, merged: XGrfMap XGrfSpec XGrfOrd XGrfMem. -/
import Derived.Test.YtnjeppmpnaemlaaDoorMrk1
import Derived.OpenShut
import Derived.Deep.MidRow
/- DERIVED. Maps whose keys are 32 bytes and a number, told as functions. -/
set_option maxRecDepth 100000
namespace Go.Proofs.YtnjeppmpnaemlaaDoor.Grf
open Go.RowKit Str Go.Maps
/-- an element as it reads: pointers, numbers, slices, nothing. -/
def rdV : Value → Option (DataW Unit × List MemPlace)
  | .pointer none => some (.lit (.int .u64 0), [])
  | .pointer (some ⟨g, 0, none⟩) => some (.lit (.int .u64 ((g : Int) + 1)), [])
  | .int .i64 z => some (.lit (.int .i64 z), [])
  | .slice none n c => some (.agg [.nil, .lit (.int .u64 n), .lit (.int .u64 c)], [])
  | .slice (some ⟨g, 0, none⟩) n c => some (.agg [.lit (.int .u64 g), .lit (.int .u64 n), .lit (.int .u64 c)], [])
  | .agg xs => if xs.size = 0 then some (.agg [], []) else none
  | _ => none
/-- values that may be elements. -/
def ElV (v : Value) : Prop := v = .pointer none ∨ (∃ g : Nat, v = .pointer (some ⟨g, 0, none⟩)) ∨ (∃ z : Int, v = .int .i64 z) ∨ (∃ n c : Nat, v = .slice none n c) ∨ (∃ g n c : Nat, v = .slice (some ⟨g, 0, none⟩) n c) ∨ v = .agg #[]
theorem ElV.reads {v : Value} (h : ElV v) : ∃ d, rdV v = some (d, []) := by
  rcases h with rfl | ⟨g, rfl⟩ | ⟨z, rfl⟩ | ⟨n, c, rfl⟩ | ⟨g, n, c, rfl⟩ | rfl
  all_goals exact ⟨_, rfl⟩
theorem rdV_el {v : Value} {y : DataW Unit × List MemPlace} (h : rdV v = some y) : ElV v ∧ y.2 = [] := by
  unfold rdV at h
  split at h
  · cases h; exact ⟨.inl rfl, rfl⟩
  · cases h; exact ⟨.inr (.inl ⟨_, rfl⟩), rfl⟩
  · cases h; exact ⟨.inr (.inr (.inl ⟨_, rfl⟩)), rfl⟩
  · cases h; exact ⟨.inr (.inr (.inr (.inl ⟨_, _, rfl⟩))), rfl⟩
  · cases h; exact ⟨.inr (.inr (.inr (.inr (.inl ⟨_, _, _, rfl⟩)))), rfl⟩
  · rename_i xs
    by_cases h0 : xs.size = 0
    · rw [if_pos h0] at h
      cases h
      have : xs = #[] := Array.eq_empty_of_size_eq_zero h0
      subst this
      exact ⟨.inr (.inr (.inr (.inr (.inr rfl)))), rfl⟩
    · rw [if_neg h0] at h; cases h
  · cases h
theorem rdV_inj {v u : Value} {d : DataW Unit} {p q : List MemPlace} (h : rdV v = some (d, p)) (k : rdV u = some (d, q)) : v = u := by
  rcases (rdV_el h).1 with rfl | ⟨g, rfl⟩ | ⟨z, rfl⟩ | ⟨n, c, rfl⟩ | ⟨g, n, c, rfl⟩ | rfl
  all_goals
    rcases (rdV_el k).1 with rfl | ⟨g', rfl⟩ | ⟨z', rfl⟩ | ⟨n', c', rfl⟩ | ⟨g', n', c', rfl⟩ | rfl
    all_goals
      simp only [rdV, Option.some.injEq, Prod.mk.injEq, Array.size_empty, if_true] at h k
      obtain ⟨rfl, _⟩ := h
      have k1 := k.1
      simp only [DataW.lit.injEq, Lit.int.injEq, DataW.agg.injEq, List.cons.injEq, and_true, true_and, reduceCtorEq, false_and] at k1
      try rfl
  all_goals first
    | (rw [show g = g' by omega, show n = n' by omega, show c = c' by omega]; done)
    | (rw [show n = n' by omega, show c = c' by omega]; done)
    | (rw [show g = g' by omega]; done)
    | (rw [show z = z' by omega]; done)
    | (exfalso; omega)
/-- block b is a map that holds f, of s entries. -/
def MapF (k : TypeId) (w : World) (b s : Nat) (f : Vx → Option Value) : Prop :=
  ∃ D : DataW Unit, w.ownsMap Tryd.prog k rdV b s D ∧ Maps.size D = s ∧ (∀ x v, f x = some v → ∃ d, rdV v = some (d, []) ∧ Maps.has D (kl k x) = true ∧ ∀ z, D.atKey (kl k x) z = d) ∧ (∀ x, f x = none → Maps.has D (kl k x) = false) ∧ ∀ l, Maps.has D l = true → ∃ x, kl k x = l
theorem tight {k : TypeId} {w : World} {b n : Nat} {D : DataW Unit} (h : w.ownsMap Tryd.prog k rdV b n D) : w.ownsMap Tryd.prog k rdV b (Maps.size D) D := by
  obtain ⟨es, clock, hb, F, hs, rfl⟩ := h
  exact ⟨es, clock, hb, F, by simp [Maps.size, length_sorted], rfl⟩
theorem MapF.made (k : TypeId) (w : World) : MapF k (w.alloc (.map #[] 0)) w.heap.size 0 (fun _ => none) :=
  ⟨.map [], World.ownsMap_made w Tryd.prog k rdV, rfl, (fun _ _ h => by cases h), (fun _ _ => rfl), (fun l h => by cases h)⟩
theorem MapF.lt {k : TypeId} {w : World} {b s : Nat} {f : Vx → Option Value} (h : MapF k w b s f) : b < w.heap.size := by
  obtain ⟨D, h1, _⟩ := h; exact h1.lt
theorem MapF.stay {k : TypeId} {w w' : World} {b s : Nat} {f : Vx → Option Value} (h : MapF k w b s f) (hb : w'.heap[b]? = w.heap[b]?) : MapF k w' b s f := by
  obtain ⟨D, ⟨es, clock, h1, h2⟩, h3⟩ := h
  exact ⟨D, ⟨es, clock, hb.trans h1, h2⟩, h3⟩
theorem MapF.el {k : TypeId} {w : World} {b s : Nat} {f : Vx → Option Value} (h : MapF k w b s f) {x : Vx} {v : Value} (hx : f x = some v) : ElV v := by
  obtain ⟨D, _, _, h2, _⟩ := h
  obtain ⟨d, hd, _⟩ := h2 x v hx
  exact (rdV_el hd).1
theorem MapF.look {k t e : TypeId} (B : KB k) (ht : Tryd.prog.underlying t = some (.map k e)) {w : World} {b s : Nat} {f : Vx → Option Value} (h : MapF k w b s f) {z : Value} (hz : (zeroValue e).run Tryd.prog w = .ok z w) (hel : ElV z) (x : Vx) :
    (Instr.lookup t (.map (some b)) (.agg x.c) false).run Tryd.prog w = .ok ((f x).getD z) w := by
  obtain ⟨D, h1, _, h2, h3, _⟩ := h
  obtain ⟨zd, hzd⟩ := hel.reads
  obtain ⟨v, ps, hrun, hv⟩ := h1.lookup B.law ht hz hzd (B.at x)
  rw [hrun]
  cases hf : f x with
  | none =>
    rw [Maps.atKey_of_not_has (h3 x hf)] at hv
    rw [rdV_inj hv hzd]; rfl
  | some u =>
    obtain ⟨d, hd, _, hat⟩ := h2 x u hf
    rw [hat] at hv
    rw [rdV_inj hv hd]; rfl
/-- f, but for one key. -/
def upd1 (f : Vx → Option Value) (x : Vx) (v : Option Value) : Vx → Option Value := fun y => if y = x then v else f y
theorem upd1_same (f : Vx → Option Value) (x : Vx) (v : Option Value) : upd1 f x v x = v := if_pos rfl
theorem upd1_ne {f : Vx → Option Value} {x y : Vx} {v : Option Value} (h : y ≠ x) : upd1 f x v y = f y := if_neg h
theorem MapF.put_of {k : TypeId} (B : KB k) {w w' : World} {b s : Nat} {f : Vx → Option Value} {D : DataW Unit} (h1 : w.ownsMap Tryd.prog k rdV b s D) (hsz : Maps.size D = s) (h2 : ∀ x v, f x = some v → ∃ d, rdV v = some (d, []) ∧ Maps.has D (kl k x) = true ∧ ∀ z, D.atKey (kl k x) z = d) (h3 : ∀ x, f x = none → Maps.has D (kl k x) = false) (h4 : ∀ l, Maps.has D l = true → ∃ x, kl k x = l)
    (x : Vx) {val : Value} {d : DataW Unit} (hv : rdV val = some (d, [])) {n : Nat} (hown : w'.ownsMap Tryd.prog k rdV b n (D.put (kl k x) d)) : MapF k w' b (if (f x).isSome then s else s + 1) (upd1 f x (some val)) := by
  have hD := h1.isMap
  have hT := h1.tidy B.law
  have hS : Maps.size (D.put (kl k x) d) = if (f x).isSome then s else s + 1 := by
    rw [Maps.size_put hT, hsz]
    cases hf : f x with
    | none => rw [h3 x hf]; rfl
    | some u => obtain ⟨_, _, hh, _⟩ := h2 x u hf; rw [hh]; rfl
  refine ⟨D.put (kl k x) d, by rw [← hS]; exact tight hown, hS, fun y v hy => ?_, fun y hy => ?_, fun l hl => ?_⟩
  · by_cases e : y = x
    · subst e
      rw [upd1_same] at hy
      cases hy
      exact ⟨d, hv, Maps.has_put_same hD (B.isKey y) d, fun z => Maps.atKey_put_same hD (B.isKey y) d z⟩
    · rw [upd1_ne e] at hy
      obtain ⟨d', a1, a2, a3⟩ := h2 y v hy
      exact ⟨d', a1, by rw [Maps.has_put_other (B.ne e)]; exact a2, fun z => by rw [Maps.atKey_put_other (B.ne e)]; exact a3 z⟩
  · by_cases e : y = x
    · subst e; rw [upd1_same] at hy; cases hy
    · rw [upd1_ne e] at hy
      rw [Maps.has_put_other (B.ne e)]; exact h3 y hy
  · by_cases e : l = kl k x
    · exact ⟨x, e.symm⟩
    · rw [Maps.has_put_other e] at hl; exact h4 l hl
theorem MapF.put {k t e : TypeId} (B : KB k) (ht : Tryd.prog.underlying t = some (.map k e)) {w : World} {b s : Nat} {f : Vx → Option Value} (h : MapF k w b s f) (hs : s < 100000000) (x : Vx) {val : Value} (hel : ElV val) :
    ∃ w', (Instr.mapUpdate t (.map (some b)) (.agg x.c) val).run Tryd.prog w = .ok () w' ∧ MapF k w' b (if (f x).isSome then s else s + 1) (upd1 f x (some val)) ∧ Chg [b] w w' := by
  obtain ⟨D, h1, hsz, h2, h3, h4⟩ := h
  obtain ⟨d, hd⟩ := hel.reads
  obtain ⟨w', hrun, hown, hg⟩ := h1.update B.law ht (by unfold maxLen; omega) (B.at x) hd
  exact ⟨w', hrun, MapF.put_of B h1 hsz h2 h3 h4 x hd hown, ⟨hg.os, hg.tape, hg.output, hg.size, fun k hk hn => hg.block k hk (fun e => hn (List.mem_singleton.2 (Option.some.inj e)))⟩⟩
theorem MapF.del {k t e : TypeId} (B : KB k) (ht : Tryd.prog.underlying t = some (.map k e)) {w : World} {b s : Nat} {f : Vx → Option Value} (h : MapF k w b s f) (x : Vx) (ty : TypeId) :
    ∃ w', (Builtin.delete_ #[t, k] ty #[.map (some b), .agg x.c]).run Tryd.prog w = .ok (.tuple #[]) w' ∧ MapF k w' b (if (f x).isSome then s - 1 else s) (upd1 f x none) ∧ Chg [b] w w' := by
  obtain ⟨D, h1, hsz, h2, h3, h4⟩ := h
  obtain ⟨w', hrun, hown, ht2⟩ := h1.drop B.law ht (B.at x) ty
  have hg := ht2.grown
  have hT := h1.tidy B.law
  have hS : Maps.size (D.del (kl k x)) = if (f x).isSome then s - 1 else s := by
    have := Maps.size_del hT (k := kl k x)
    rw [hsz] at this
    cases hf : f x with
    | none => rw [h3 x hf] at this; simpa using this
    | some u => obtain ⟨_, _, hh, _⟩ := h2 x u hf; rw [hh] at this; simp at this ⊢; omega
  refine ⟨w', hrun, ⟨D.del (kl k x), by rw [← hS]; exact tight hown, hS, fun y v hy => ?_, fun y hy => ?_, fun l hl => ?_⟩, ⟨hg.os, hg.tape, hg.output, hg.size, fun k hk hn => hg.block k hk (fun e => hn (List.mem_singleton.2 (Option.some.inj e)))⟩⟩
  · by_cases e : y = x
    · subst e; rw [upd1_same] at hy; cases hy
    · rw [upd1_ne e] at hy
      obtain ⟨d', a1, a2, a3⟩ := h2 y v hy
      exact ⟨d', a1, by rw [Maps.has_del_other (B.ne e)]; exact a2, fun z => by rw [Maps.atKey_del_other (B.ne e)]; exact a3 z⟩
  · by_cases e : y = x
    · subst e; exact Maps.has_del_same
    · rw [upd1_ne e] at hy
      rw [Maps.has_del_other (B.ne e)]; exact h3 y hy
  · by_cases e : l = kl k x
    · exact ⟨x, e.symm⟩
    · rw [Maps.has_del_other e] at hl; exact h4 l hl
theorem MapF.len {k t e : TypeId} (ht : Tryd.prog.underlying t = some (.map k e)) {w : World} {b s : Nat} {f : Vx → Option Value} (h : MapF k w b s f) (ty : TypeId) : (Builtin.len_ #[t] ty #[.map (some b)]).run Tryd.prog w = .ok (.int .i64 s) w := by
  obtain ⟨D, h1, hsz, _⟩ := h
  rw [h1.len ht ty, hsz]
end Go.Proofs.YtnjeppmpnaemlaaDoor.Grf
/- DERIVED. PLAIN MATHEMATICS: parts of a graph, the latest first; which vertex is before which. No program. -/
set_option maxRecDepth 100000
namespace Go.Proofs.YtnjeppmpnaemlaaDoor.Grf
open Go.RowKit Str
theorem wrap_in (z : Int) : -9223372036854775808 ≤ IntKind.i64.wrap z ∧ IntKind.i64.wrap z ≤ 9223372036854775807 := by
  have := wf_wrap .i64 z
  simpa [Lit.wf, IntKind.bits, IntKind.signed, IntKind.min, IntKind.max] using this
theorem z32_in : InB (List.replicate 32 (0 : Int)) := by
  intro j
  rw [List.getD_eq_getElem?_getD]
  by_cases h : j < 32
  · rw [List.getElem?_replicate, if_pos h]; simp
  · rw [List.getElem?_replicate, if_neg h]; simp
def root : Vx := ⟨List.replicate 32 0, -1, by simp, z32_in, by omega, by omega⟩
def fin : Vx := ⟨List.replicate 32 0, -2, by simp, z32_in, by omega, by omega⟩
/-- a part, as it is given. -/
structure PD where
  nm : Vx
  first : Int
  up : Vx
  down : Vx
  lines : List ByteArray
  gone : List Vx
/-- the vertex of its line i. -/
def vert (p : PD) (i : Nat) : Vx := ⟨p.nm.h, IntKind.i64.wrap (p.first + i), p.nm.len, p.nm.inb, (wrap_in _).1, (wrap_in _).2⟩
def own (p : PD) : List Vx := (List.range p.lines.length).map (vert p)
theorem own_len (p : PD) : (own p).length = p.lines.length := by simp [own]
theorem mem_own {p : PD} {v : Vx} : v ∈ own p ↔ ∃ i, i < p.lines.length ∧ vert p i = v := by
  simp [own]
/-- all vertices, the latest parts' ahead. -/
def verts : List PD → List Vx
  | [] => [root, fin]
  | p :: ps => own p ++ verts ps
/-- may this part come behind those? -/
structure Fits (p : PD) (ps : List PD) : Prop where
  name : ∀ q ∈ ps, q.nm ≠ p.nm
  apart : ∀ v ∈ own p, v ∉ verts ps
  nodup : (own p).Nodup
  upIn : p.up ∈ verts ps
  downIn : p.down ∈ verts ps
  goneIn : ∀ v ∈ p.gone, v ∈ verts ps ∧ v ≠ root ∧ v ≠ fin
  goneNd : p.gone.Nodup
  first0 : 0 ≤ p.first
  upNe : p.up ≠ fin
  downNe : p.down ≠ root
/-- at or before. -/
def le : List PD → Vx → Vx → Prop
  | [], a, b => a = b ∨ (a = root ∧ b = fin)
  | p :: ps, a, b =>
    if a ∈ own p then (if b ∈ own p then (own p).idxOf a ≤ (own p).idxOf b else le ps p.down b)
    else (if b ∈ own p then le ps a p.up else le ps a b)
/-- parts that came one behind the other, the latest first. -/
inductive Adm : List PD → Prop
  | nil : Adm []
  | cons {p : PD} {ps : List PD} (h : Adm ps) (f : Fits p ps) (l : le ps p.up p.down) (ne : p.up ≠ p.down) : Adm (p :: ps)
theorem root_ne : root ≠ fin := fun h => by
  have : root.n = fin.n := by rw [h]
  exact absurd this (by decide)
theorem root_in (ps : List PD) : root ∈ verts ps := by
  induction ps with
  | nil => simp [verts]
  | cons p ps ih => simp [verts, ih]
theorem fin_in (ps : List PD) : fin ∈ verts ps := by
  induction ps with
  | nil => simp [verts]
  | cons p ps ih => simp [verts, ih]
theorem root_own {p : PD} {ps : List PD} (f : Fits p ps) : root ∉ own p := fun h => f.apart _ h (root_in ps)
theorem fin_own {p : PD} {ps : List PD} (f : Fits p ps) : fin ∉ own p := fun h => f.apart _ h (fin_in ps)
theorem idx_inj {l : List Vx} {a b : Vx} (ha : a ∈ l) (h : l.idxOf a = l.idxOf b) : a = b := by
  have h1 := List.idxOf_lt_length_of_mem ha
  have h2 : l.idxOf b < l.length := by omega
  have e1 := List.getElem_idxOf h1
  have e2 := List.getElem_idxOf h2
  simp only [h] at e1
  exact e1.symm.trans e2
theorem le_self : ∀ (ps : List PD) (a : Vx), le ps a a := by
  intro ps
  induction ps with
  | nil => intro a; exact .inl rfl
  | cons p ps ih =>
    intro a
    unfold le
    by_cases h : a ∈ own p
    · rw [if_pos h, if_pos h]; exact Nat.le_refl _
    · rw [if_neg h, if_neg h]; exact ih a
/-- an order: it goes through, and is never both ways. -/
theorem le_both : ∀ {ps : List PD}, Adm ps → (∀ a b c, a ∈ verts ps → b ∈ verts ps → c ∈ verts ps → le ps a b → le ps b c → le ps a c) ∧ (∀ a b, a ∈ verts ps → b ∈ verts ps → le ps a b → le ps b a → a = b) := by
  intro ps h
  induction h with
  | nil =>
    refine ⟨?_, ?_⟩
    · rintro a b c _ _ _ (rfl | ⟨rfl, rfl⟩) (rfl | ⟨h, rfl⟩)
      · exact .inl rfl
      · exact .inr ⟨h, rfl⟩
      · exact .inr ⟨rfl, rfl⟩
      · exact absurd h.symm root_ne
    · rintro a b _ _ (rfl | ⟨rfl, rfl⟩) (h | ⟨h, _⟩)
      · rfl
      · rfl
      · exact h.symm
      · exact h.symm
  | @cons p ps ha f hl hne ih =>
    obtain ⟨tr, an⟩ := ih
    have old : ∀ {v : Vx}, v ∈ verts (p :: ps) → v ∉ own p → v ∈ verts ps := fun hv hn => (List.mem_append.1 hv).resolve_left hn
    have strict : ∀ {v : Vx}, v ∈ verts ps → le ps p.down v → le ps v p.up → False := fun hv h1 h2 => by
      have := tr _ _ _ f.downIn hv f.upIn h1 h2
      exact hne (an _ _ f.upIn f.downIn hl this)
    refine ⟨?_, ?_⟩
    · intro a b c hA hB hC h1 h2
      unfold le at h1 h2 ⊢
      by_cases ia : a ∈ own p <;> by_cases ib : b ∈ own p <;> by_cases ic : c ∈ own p
      all_goals simp only [ia, ib, ic, if_true, if_false] at h1 h2 ⊢
      · exact Nat.le_trans h1 h2
      · exact h2
      · exact absurd h2 (fun k => strict (old hB ib) h1 k)
      · exact tr _ _ _ f.downIn (old hB ib) (old hC ic) h1 h2
      · exact h1
      · exact tr _ _ _ (old hA ia) f.upIn (old hC ic) h1 (tr _ _ _ f.upIn f.downIn (old hC ic) hl h2)
      · exact tr _ _ _ (old hA ia) (old hB ib) f.upIn h1 h2
      · exact tr _ _ _ (old hA ia) (old hB ib) (old hC ic) h1 h2
    · intro a b hA hB h1 h2
      unfold le at h1 h2
      by_cases ia : a ∈ own p <;> by_cases ib : b ∈ own p
      all_goals simp only [ia, ib, if_true, if_false] at h1 h2
      · exact idx_inj ia (Nat.le_antisymm h1 h2)
      · exact absurd h2 (fun k => strict (old hB ib) h1 k)
      · exact absurd h1 (fun k => strict (old hA ia) h2 k)
      · exact an _ _ (old hA ia) (old hB ib) h1 h2
theorem le_trans {ps : List PD} (h : Adm ps) {a b c : Vx} (ha : a ∈ verts ps) (hb : b ∈ verts ps) (hc : c ∈ verts ps) (h1 : le ps a b) (h2 : le ps b c) : le ps a c := (le_both h).1 a b c ha hb hc h1 h2
theorem le_anti {ps : List PD} (h : Adm ps) {a b : Vx} (ha : a ∈ verts ps) (hb : b ∈ verts ps) (h1 : le ps a b) (h2 : le ps b a) : a = b := (le_both h).2 a b ha hb h1 h2
/-- what was so stays so. -/
theorem le_old {p : PD} {ps : List PD} (f : Fits p ps) {a b : Vx} (ha : a ∈ verts ps) (hb : b ∈ verts ps) : le (p :: ps) a b ↔ le ps a b := by
  have ia : a ∉ own p := fun h => f.apart _ h ha
  have ib : b ∉ own p := fun h => f.apart _ h hb
  rw [le, if_neg ia, if_neg ib]
/-- the root is ahead of all, the end behind all. -/
theorem root_le : ∀ {ps : List PD}, Adm ps → ∀ {v : Vx}, v ∈ verts ps → le ps root v ∧ le ps v fin := by
  intro ps h
  induction h with
  | nil =>
    intro v hv
    simp only [verts, List.mem_cons, List.mem_nil_iff, or_false] at hv
    rcases hv with rfl | rfl
    · exact ⟨.inl rfl, .inr ⟨rfl, rfl⟩⟩
    · exact ⟨.inr ⟨rfl, rfl⟩, .inl rfl⟩
  | @cons p ps ha f hl hne ih =>
    intro v hv
    have r := root_own f
    have e := fin_own f
    unfold le
    by_cases iv : v ∈ own p
    · simp only [iv, r, e, if_true, if_false]
      exact ⟨(ih f.upIn).1, (ih f.downIn).2⟩
    · have hv2 := (List.mem_append.1 hv).resolve_left iv
      simp only [iv, r, e, if_false]
      exact ih hv2
/-- the chain of a part: up, its lines, down. -/
def chain (p : PD) : List Vx := p.up :: (own p ++ [p.down])
/-- the pairs that stand side by side. -/
def pairs : List Vx → List (Vx × Vx)
  | a :: b :: l => (a, b) :: pairs (b :: l)
  | _ => []
/-- the edges. -/
def edges : List PD → List (Vx × Vx)
  | [] => [(root, fin)]
  | p :: ps => pairs (chain p) ++ edges ps
theorem mem_pairs : ∀ {l : List Vx} {a b : Vx}, (a, b) ∈ pairs l ↔ ∃ i, l[i]? = some a ∧ l[i + 1]? = some b := by
  intro l
  induction l with
  | nil => intro a b; simp [pairs]
  | cons x t ih =>
    intro a b
    cases t with
    | nil => simp [pairs]
    | cons y u =>
      rw [pairs, List.mem_cons, ih]
      constructor
      · rintro (h | ⟨i, h1, h2⟩)
        · cases h; exact ⟨0, rfl, rfl⟩
        · exact ⟨i + 1, h1, h2⟩
      · rintro ⟨i, h1, h2⟩
        cases i with
        | zero => left; simp at h1 h2; rw [h1, h2]
        | succ i => exact .inr ⟨i, h1, h2⟩
end Go.Proofs.YtnjeppmpnaemlaaDoor.Grf
/- DERIVED. PLAIN MATHEMATICS: edges and the order; the vertices listed one by one, the least of those that may come ahead. No program. -/
set_option maxRecDepth 100000
namespace Go.Proofs.YtnjeppmpnaemlaaDoor.Grf
open Go.RowKit Str
/-- what is asked of edges: they go through. -/
inductive Path (E : List (Vx × Vx)) : Vx → Vx → Prop
  | refl (a : Vx) : Path E a a
  | step {a b c : Vx} (h : Path E a b) (e : (b, c) ∈ E) : Path E a c
theorem Path.trans {E : List (Vx × Vx)} {a b c : Vx} (h : Path E a b) (k : Path E b c) : Path E a c := by
  induction k with
  | refl => exact h
  | step _ e ih => exact .step ih e
theorem Path.mono {E F : List (Vx × Vx)} (hs : ∀ e ∈ E, e ∈ F) {a b : Vx} (h : Path E a b) : Path F a b := by
  induction h with
  | refl => exact .refl _
  | step _ e ih => exact .step ih (hs _ e)
theorem chain_mem {p : PD} {ps : List PD} (f : Fits p ps) {v : Vx} (h : v ∈ chain p) : v ∈ verts (p :: ps) := by
  simp only [chain, List.mem_cons, List.mem_append, List.mem_nil_iff, or_false] at h
  rcases h with rfl | h | rfl
  · exact List.mem_append.2 (.inr f.upIn)
  · exact List.mem_append.2 (.inl h)
  · exact List.mem_append.2 (.inr f.downIn)
theorem nd_inj {l : List Vx} (hn : l.Nodup) {i j : Nat} (hi : i < l.length) (hj : j < l.length) (h : l[i] = l[j]) : i = j := by
  have hp := List.pairwise_iff_getElem.1 hn
  rcases Nat.lt_trichotomy i j with hlt | e | hlt
  · exact absurd h (hp i j hi hj hlt)
  · exact e
  · exact absurd h.symm (hp j i hj hi hlt)
theorem own_idx {l : List Vx} (hn : l.Nodup) {i : Nat} {a : Vx} (h : l[i]? = some a) : a ∈ l ∧ l.idxOf a = i := by
  obtain ⟨hi, rfl⟩ := List.getElem?_eq_some_iff.1 h
  exact ⟨List.getElem_mem hi, by
    have h1 := List.idxOf_lt_length_of_mem (List.getElem_mem hi)
    have e1 := List.getElem_idxOf h1
    exact nd_inj hn h1 hi e1⟩
/-- an edge of a part's chain. -/
theorem chain_le {p : PD} {ps : List PD} (f : Fits p ps) (hl : le ps p.up p.down) (hne : p.up ≠ p.down) {a b : Vx} (h : (a, b) ∈ pairs (chain p)) : le (p :: ps) a b ∧ a ≠ b := by
  obtain ⟨i, h1, h2⟩ := mem_pairs.1 h
  have iu : p.up ∉ own p := fun k => f.apart _ k f.upIn
  have id : p.down ∉ own p := fun k => f.apart _ k f.downIn
  have last : ∀ {j : Nat} {x : Vx}, (own p ++ [p.down])[j]? = some x → (x ∈ own p ∧ (own p).idxOf x = j) ∨ (x = p.down ∧ j = (own p).length) := by
    intro j x hx
    by_cases hj : j < (own p).length
    · rw [List.getElem?_append_left hj] at hx
      exact .inl (own_idx f.nodup hx)
    · have hlt := (List.getElem?_eq_some_iff.1 hx).1
      simp only [List.length_append, List.length_singleton] at hlt
      obtain rfl : j = (own p).length := by omega
      rw [List.getElem?_append_right (Nat.le_refl _), Nat.sub_self] at hx
      exact .inr ⟨(Option.some.inj hx).symm, rfl⟩
  unfold le
  cases i with
  | zero =>
    have ea : p.up = a := by simpa [chain] using h1
    subst ea
    have h2' : (own p ++ [p.down])[0]? = some b := h2
    rw [if_neg iu]
    rcases last h2' with ⟨hb, _⟩ | ⟨rfl, _⟩
    · rw [if_pos hb]
      exact ⟨le_self ps p.up, fun e => iu (e ▸ hb)⟩
    · rw [if_neg id]; exact ⟨hl, hne⟩
  | succ i =>
    have h1' : (own p ++ [p.down])[i]? = some a := h1
    have h2' : (own p ++ [p.down])[i + 1]? = some b := h2
    have ha : a ∈ own p ∧ (own p).idxOf a = i := by
      rcases last h1' with h | ⟨_, e⟩
      · exact h
      · have hlt := (List.getElem?_eq_some_iff.1 h2').1
        simp only [List.length_append, List.length_singleton] at hlt
        omega
    rw [if_pos ha.1]
    rcases last h2' with ⟨hb, e⟩ | ⟨rfl, _⟩
    · rw [if_pos hb]
      exact ⟨by omega, fun e2 => by rw [e2] at ha; omega⟩
    · rw [if_neg id]
      exact ⟨le_self ps p.down, fun e => id (e ▸ ha.1)⟩
theorem edge_le : ∀ {ps : List PD}, Adm ps → ∀ {a b : Vx}, (a, b) ∈ edges ps → a ∈ verts ps ∧ b ∈ verts ps ∧ le ps a b ∧ a ≠ b := by
  intro ps h
  induction h with
  | nil =>
    intro a b h
    have : a = root ∧ b = fin := by simpa [edges] using h
    obtain ⟨rfl, rfl⟩ := this
    exact ⟨root_in _, fin_in _, .inr ⟨rfl, rfl⟩, root_ne⟩
  | @cons p ps ha f hl hne ih =>
    intro a b h
    rcases List.mem_append.1 h with h | h
    · obtain ⟨i, h1, h2⟩ := mem_pairs.1 h
      have := chain_le f hl hne h
      exact ⟨chain_mem f (List.mem_of_getElem? h1), chain_mem f (List.mem_of_getElem? h2), this.1, this.2⟩
    · obtain ⟨h1, h2, h3, h4⟩ := ih h
      exact ⟨List.mem_append.2 (.inr h1), List.mem_append.2 (.inr h2), (le_old f h1 h2).2 h3, h4⟩
theorem path_le {ps : List PD} (ha : Adm ps) {a b : Vx} (hm : a ∈ verts ps) (h : Path (edges ps) a b) : b ∈ verts ps ∧ le ps a b := by
  induction h with
  | refl => exact ⟨hm, le_self _ _⟩
  | step _ e ih =>
    obtain ⟨h1, h2, h3, _⟩ := edge_le ha e
    exact ⟨h2, le_trans ha hm h1 h2 ih.2 h3⟩
theorem chain_path (p : PD) (F : List (Vx × Vx)) (hF : ∀ e ∈ pairs (chain p), e ∈ F) : ∀ (j i : Nat) (a b : Vx), (chain p)[i]? = some a → (chain p)[i + j]? = some b → Path F a b := by
  intro j
  induction j with
  | zero =>
    intro i a b h1 h2
    rw [Nat.add_zero, h1] at h2
    cases h2; exact .refl _
  | succ j ih =>
    intro i a b h1 h2
    have hlt := (List.getElem?_eq_some_iff.1 h2).1
    obtain ⟨c, hc⟩ : ∃ c, (chain p)[i + j]? = some c := ⟨_, List.getElem?_eq_getElem (by omega)⟩
    exact .step (ih i a c h1 hc) (hF _ (mem_pairs.2 ⟨i + j, hc, h2⟩))
theorem le_path : ∀ {ps : List PD}, Adm ps → ∀ {a b : Vx}, a ∈ verts ps → b ∈ verts ps → le ps a b → Path (edges ps) a b := by
  intro ps h
  induction h with
  | nil =>
    rintro a b _ _ (rfl | ⟨rfl, rfl⟩)
    · exact .refl _
    · exact .step (.refl _) (by simp [edges])
  | @cons p ps ha f hl hne ih =>
    intro a b hA hB h
    have sub : ∀ e ∈ edges ps, e ∈ edges (p :: ps) := fun e he => List.mem_append.2 (.inr he)
    have subc : ∀ e ∈ pairs (chain p), e ∈ edges (p :: ps) := fun e he => List.mem_append.2 (.inl he)
    have at_own : ∀ {v : Vx}, v ∈ own p → (chain p)[(own p).idxOf v + 1]? = some v := fun {v} hv => by
      have hlt := List.idxOf_lt_length_of_mem hv
      show (own p ++ [p.down])[(own p).idxOf v]? = some v
      rw [List.getElem?_append_left hlt, List.getElem?_eq_getElem hlt, List.getElem_idxOf hlt]
    have at_up : (chain p)[0]? = some p.up := rfl
    have at_down : (chain p)[(own p).length + 1]? = some p.down := by
      show (own p ++ [p.down])[(own p).length]? = some p.down
      rw [List.getElem?_append_right (Nat.le_refl _), Nat.sub_self]; rfl
    unfold le at h
    by_cases ia : a ∈ own p <;> by_cases ib : b ∈ own p
    all_goals simp only [ia, ib, if_true, if_false] at h
    · exact chain_path p _ subc ((own p).idxOf b - (own p).idxOf a) _ a b (at_own ia) (by rw [show (own p).idxOf a + 1 + ((own p).idxOf b - (own p).idxOf a) = (own p).idxOf b + 1 by omega]; exact at_own ib)
    · have hlt := List.idxOf_lt_length_of_mem ia
      have h1 := chain_path p _ subc ((own p).length - (own p).idxOf a) _ a p.down (at_own ia) (by rw [show (own p).idxOf a + 1 + ((own p).length - (own p).idxOf a) = (own p).length + 1 by omega]; exact at_down)
      exact h1.trans ((ih f.downIn ((List.mem_append.1 hB).resolve_left ib) h).mono sub)
    · have h1 := chain_path p _ subc ((own p).idxOf b + 1) 0 p.up b at_up (by rw [Nat.zero_add]; exact at_own ib)
      exact ((ih ((List.mem_append.1 hA).resolve_left ia) f.upIn h).mono sub).trans h1
    · exact (ih ((List.mem_append.1 hA).resolve_left ia) ((List.mem_append.1 hB).resolve_left ib) h).mono sub
/-- what one graph orders, one with all its edges orders, too. -/
theorem le_more {ps qs : List PD} (hp : Adm ps) (hq : Adm qs) (hs : ∀ e ∈ edges ps, e ∈ edges qs) {a b : Vx} (ha : a ∈ verts ps) (hb : b ∈ verts ps) (hm : a ∈ verts qs) (h : le ps a b) : le qs a b :=
  (path_le hq hm ((le_path hp ha hb h).mono hs)).2
/-! the order of vertices -/
def cmpI (x y : Int) : Int := if x < y then -1 else if y < x then 1 else 0
def cmpL : List Int → List Int → Int
  | x :: xs, y :: ys => if x < y then -1 else if y < x then 1 else cmpL xs ys
  | [], [] => 0
  | [], _ => -1
  | _, [] => 1
def ordV (a b : Vx) : Int := if cmpL a.h b.h = 0 then cmpI a.n b.n else cmpL a.h b.h
theorem cmpI_three (x y : Int) : (cmpI x y = -1 ∧ x < y) ∨ (cmpI x y = 0 ∧ x = y) ∨ (cmpI x y = 1 ∧ y < x) := by
  unfold cmpI
  by_cases h : x < y
  · rw [if_pos h]; exact .inl ⟨rfl, h⟩
  · rw [if_neg h]
    by_cases k : y < x
    · rw [if_pos k]; exact .inr (.inr ⟨rfl, k⟩)
    · rw [if_neg k]; exact .inr (.inl ⟨rfl, by omega⟩)
theorem cmpL_neg : ∀ (a b : List Int), cmpL b a = - cmpL a b := by
  intro a
  induction a with
  | nil => intro b; cases b <;> simp [cmpL]
  | cons x xs ih =>
    intro b
    cases b with
    | nil => simp [cmpL]
    | cons y ys =>
      unfold cmpL
      by_cases h : x < y
      · rw [if_pos h, if_neg (by omega), if_pos h]; rfl
      · by_cases k : y < x
        · rw [if_pos k, if_neg h, if_pos k]
        · rw [if_neg h, if_neg k, if_neg k, if_neg h]; exact ih ys
theorem cmpL_eq : ∀ (a b : List Int), cmpL a b = 0 → a = b := by
  intro a
  induction a with
  | nil => intro b h; cases b with
    | nil => rfl
    | cons y ys => simp [cmpL] at h
  | cons x xs ih =>
    intro b h
    cases b with
    | nil => simp [cmpL] at h
    | cons y ys =>
      unfold cmpL at h
      by_cases k : x < y
      · rw [if_pos k] at h; omega
      · by_cases k2 : y < x
        · rw [if_neg k, if_pos k2] at h; omega
        · rw [if_neg k, if_neg k2] at h
          rw [ih ys h, show x = y by omega]
theorem cmpL_self (a : List Int) : cmpL a a = 0 := by
  have := cmpL_neg a a; omega
theorem cmpL_trans : ∀ (a b c : List Int), cmpL a b ≤ 0 → cmpL b c ≤ 0 → cmpL a c ≤ 0 := by
  intro a
  induction a with
  | nil => intro b c _ _; cases c <;> simp [cmpL]
  | cons x xs ih =>
    intro b c h1 h2
    cases b with
    | nil => simp [cmpL] at h1
    | cons y ys =>
      cases c with
      | nil => simp [cmpL] at h2
      | cons z zs =>
        unfold cmpL at h1 h2 ⊢
        by_cases a1 : x < y
        · by_cases b1 : y < z
          · rw [if_pos (by omega)]; omega
          · by_cases b2 : z < y
            · rw [if_neg b1, if_pos b2] at h2; omega
            · rw [if_pos (by omega)]; omega
        · by_cases a2 : y < x
          · rw [if_neg a1, if_pos a2] at h1; omega
          · rw [if_neg a1, if_neg a2] at h1
            by_cases b1 : y < z
            · rw [if_pos (by omega)]; omega
            · by_cases b2 : z < y
              · rw [if_neg b1, if_pos b2] at h2; omega
              · rw [if_neg b1, if_neg b2] at h2
                rw [if_neg (by omega), if_neg (by omega)]
                exact ih ys zs h1 h2
theorem ordV_neg (a b : Vx) : ordV b a = - ordV a b := by
  unfold ordV
  have h := cmpL_neg a.h b.h
  by_cases e : cmpL a.h b.h = 0
  · rw [if_pos e, if_pos (by omega)]
    rcases cmpI_three a.n b.n with ⟨h1, k⟩ | ⟨h1, k⟩ | ⟨h1, k⟩ <;> rcases cmpI_three b.n a.n with ⟨h2, l⟩ | ⟨h2, l⟩ | ⟨h2, l⟩ <;> omega
  · rw [if_neg e, if_neg (by omega)]; exact h
theorem ordV_eq {a b : Vx} (h : ordV a b = 0) : a = b := by
  unfold ordV at h
  by_cases e : cmpL a.h b.h = 0
  · rw [if_pos e] at h
    rcases cmpI_three a.n b.n with ⟨h1, k⟩ | ⟨h1, k⟩ | ⟨h1, k⟩
    · omega
    · exact Vx.eq (cmpL_eq _ _ e) k
    · omega
  · rw [if_neg e] at h; exact absurd h e
theorem ordV_self (a : Vx) : ordV a a = 0 := by have := ordV_neg a a; omega
theorem ordV_trans {a b c : Vx} (h1 : ordV a b ≤ 0) (h2 : ordV b c ≤ 0) : ordV a c ≤ 0 := by
  unfold ordV at h1 h2 ⊢
  by_cases e1 : cmpL a.h b.h = 0
  · have q1 := cmpL_eq _ _ e1
    rw [if_pos e1] at h1
    rw [q1]
    by_cases e2 : cmpL b.h c.h = 0
    · rw [if_pos e2] at h2 ⊢
      rcases cmpI_three a.n b.n with ⟨x1, k1⟩ | ⟨x1, k1⟩ | ⟨x1, k1⟩ <;> rcases cmpI_three b.n c.n with ⟨x2, k2⟩ | ⟨x2, k2⟩ | ⟨x2, k2⟩ <;> rcases cmpI_three a.n c.n with ⟨x3, k3⟩ | ⟨x3, k3⟩ | ⟨x3, k3⟩ <;> omega
    · rw [if_neg e2] at h2 ⊢; exact h2
  · rw [if_neg e1] at h1
    by_cases e2 : cmpL b.h c.h = 0
    · have q2 := cmpL_eq _ _ e2
      rw [← q2, if_neg e1]; exact h1
    · rw [if_neg e2] at h2
      have h3 := cmpL_trans _ _ _ h1 h2
      by_cases e3 : cmpL a.h c.h = 0
      · exfalso
        have q3 := cmpL_eq _ _ e3
        rw [← q3] at h2
        have := cmpL_neg a.h b.h
        omega
      · rw [if_neg e3]; exact h3
theorem ordV_anti {a b : Vx} (h1 : ordV a b ≤ 0) (h2 : ordV b a ≤ 0) : a = b := by
  have := ordV_neg a b
  exact ordV_eq (by omega)
/-! the vertices listed -/
/-- may v come next? -/
def Ready (V : List Vx) (E : List (Vx × Vx)) (L : List Vx) (v : Vx) : Prop := v ∈ V ∧ v ∉ L ∧ ∀ u, (u, v) ∈ E → u ∈ L
inductive Steps (V : List Vx) (E : List (Vx × Vx)) : List Vx → Prop
  | nil : Steps V E []
  | snoc {L : List Vx} {v : Vx} (h : Steps V E L) (r : Ready V E L v) (m : ∀ w, Ready V E L w → ordV v w ≤ 0) : Steps V E (L ++ [v])
theorem Steps.at {V : List Vx} {E : List (Vx × Vx)} {L : List Vx} (h : Steps V E L) : ∀ {k : Nat} {v : Vx}, L[k]? = some v → Ready V E (L.take k) v ∧ ∀ w, Ready V E (L.take k) w → ordV v w ≤ 0 := by
  induction h with
  | nil => intro k v h; simp at h
  | @snoc L v h r m ih =>
    intro k x hx
    by_cases hk : k < L.length
    · rw [List.getElem?_append_left hk] at hx
      rw [List.take_append_of_le_length (Nat.le_of_lt hk)]
      exact ih hx
    · have hlt := (List.getElem?_eq_some_iff.1 hx).1
      simp only [List.length_append, List.length_singleton] at hlt
      obtain rfl : k = L.length := by omega
      rw [List.getElem?_append_right (Nat.le_refl _), Nat.sub_self] at hx
      obtain rfl := Option.some.inj hx
      rw [List.take_append_of_le_length (Nat.le_refl _), List.take_length]
      exact ⟨r, m⟩
theorem Steps.one {V V' : List Vx} {E E' : List (Vx × Vx)} (hV : ∀ v, v ∈ V ↔ v ∈ V') (hE : ∀ e, e ∈ E ↔ e ∈ E') {L L' : List Vx} (h : Steps V E L) (h' : Steps V' E' L') (hl : L.length ≤ L'.length) : L = L'.take L.length := by
  have rd : ∀ {M : List Vx} {v : Vx}, Ready V E M v ↔ Ready V' E' M v := by
    intro M v
    unfold Ready
    rw [hV]
    constructor
    · rintro ⟨a, b, c⟩; exact ⟨a, b, fun u hu => c u ((hE _).2 hu)⟩
    · rintro ⟨a, b, c⟩; exact ⟨a, b, fun u hu => c u ((hE _).1 hu)⟩
  induction h with
  | nil => simp
  | @snoc L v h r m ih =>
    simp only [List.length_append, List.length_singleton] at hl ⊢
    have e := ih (by omega)
    obtain ⟨x, hx⟩ : ∃ x, L'[L.length]? = some x := ⟨_, List.getElem?_eq_getElem (by omega)⟩
    have := h'.at hx
    rw [← e] at this
    have exv : v = x := ordV_anti (m x (rd.2 this.1)) (this.2 v (rd.1 r))
    rw [List.take_add_one, hx, ← e, exv]
    rfl
theorem Steps.nodup {V : List Vx} {E : List (Vx × Vx)} {L : List Vx} (h : Steps V E L) : L.Nodup ∧ ∀ v ∈ L, v ∈ V := by
  induction h with
  | nil => simp
  | @snoc L v h r m ih =>
    refine ⟨List.nodup_append.2 ⟨ih.1, by simp, fun a ha b hb e => ?_⟩, fun x hx => ?_⟩
    · obtain rfl := List.mem_singleton.1 hb
      exact r.2.1 (e ▸ ha)
    · rcases List.mem_append.1 hx with hx | hx
      · exact ih.2 x hx
      · obtain rfl := List.mem_singleton.1 hx
        exact r.1
theorem min_of {α : Type} (lt : α → α → Prop) (tr : ∀ a b c, lt a b → lt b c → lt a c) (ir : ∀ a, ¬ lt a a) : ∀ l : List α, l ≠ [] → ∃ m ∈ l, ∀ y ∈ l, ¬ lt y m := by
  intro l
  induction l with
  | nil => intro h; exact absurd rfl h
  | cons x t ih =>
    intro _
    by_cases ht : t = []
    · subst ht
      exact ⟨x, by simp, fun y hy => by rw [List.mem_singleton.1 hy]; exact ir x⟩
    · obtain ⟨m, hm, hmin⟩ := ih ht
      by_cases hx : lt x m
      · refine ⟨x, by simp, fun y hy hlt => ?_⟩
        rcases List.mem_cons.1 hy with rfl | hy
        · exact ir y hlt
        · exact hmin y hy (tr y x m hlt hx)
      · refine ⟨m, by simp [hm], fun y hy hlt => ?_⟩
        rcases List.mem_cons.1 hy with rfl | hy
        · exact hx hlt
        · exact hmin y hy hlt
/-- where none may come, all have come. -/
theorem steps_all {ps : List PD} (ha : Adm ps) {L : List Vx} (_h : Steps (verts ps) (edges ps) L) (hno : ∀ v, ¬ Ready (verts ps) (edges ps) L v) : ∀ v ∈ verts ps, v ∈ L := by
  intro v hv
  by_cases hin : v ∈ L
  · exact hin
  exfalso
  obtain ⟨m, hm, hmin⟩ := min_of (fun a b => a ∈ verts ps ∧ b ∈ verts ps ∧ le ps a b ∧ a ≠ b)
    (fun a b c ⟨h1, h2, h3, h4⟩ ⟨_, k2, k3, k4⟩ => ⟨h1, k2, le_trans ha h1 h2 k2 h3 k3, fun e => by subst e; exact h4 (le_anti ha h1 h2 h3 k3)⟩)
    (fun _ ⟨_, _, _, h4⟩ => h4 rfl) ((verts ps).filter fun x => decide (x ∉ L)) (fun e => by
      have : v ∈ (verts ps).filter fun x => decide (x ∉ L) := List.mem_filter.2 ⟨hv, by simpa using hin⟩
      rw [e] at this; cases this)
  obtain ⟨hmv, hml⟩ := List.mem_filter.1 hm
  refine hno m ⟨hmv, by simpa using hml, fun u hu => ?_⟩
  obtain ⟨h1, h2, h3, h4⟩ := edge_le ha hu
  by_cases hul : u ∈ L
  · exact hul
  · exact absurd ⟨h1, h2, h3, h4⟩ (hmin u (List.mem_filter.2 ⟨h1, by simpa using hul⟩))
/-- what is before another one stands ahead of it. -/
theorem steps_le {ps : List PD} (ha : Adm ps) {L : List Vx} (h : Steps (verts ps) (edges ps) L) {i j : Nat} {a b : Vx} (hi : L[i]? = some a) (hj : L[j]? = some b) (hle : le ps a b) : i ≤ j := by
  have mem : ∀ {k : Nat} {x : Vx}, L[k]? = some x → x ∈ verts ps := fun hx => h.nodup.2 _ (List.mem_of_getElem? hx)
  have hp := le_path ha (mem hi) (mem hj) hle
  have key : ∀ {b : Vx}, Path (edges ps) a b → ∀ {j : Nat}, L[j]? = some b → i ≤ j := by
    intro b hp
    induction hp with
    | refl =>
      intro j hj
      have hlt := (List.getElem?_eq_some_iff.1 hi)
      have hlt2 := (List.getElem?_eq_some_iff.1 hj)
      obtain ⟨h1, e1⟩ := hlt
      obtain ⟨h2, e2⟩ := hlt2
      have := nd_inj h.nodup.1 h1 h2 (e1.trans e2.symm)
      omega
    | @step b c hp e ih =>
      intro j hj
      have hr := (h.at hj).1.2.2 b e
      obtain ⟨k, hk, e3⟩ := List.getElem_of_mem hr
      rw [List.length_take] at hk
      have : L[k]? = some b := by
        have h9 : (L.take j)[k]? = some b := by rw [List.getElem?_eq_getElem (by rw [List.length_take]; exact hk), e3]
        rw [List.getElem?_take, if_pos (by omega)] at h9
        exact h9
      have := ih this
      omega
  exact key hp hj
end Go.Proofs.YtnjeppmpnaemlaaDoor.Grf
/- DERIVED. A graph in memory: its parts, its lines, its maps. -/
set_option maxRecDepth 100000
namespace Go.Proofs.YtnjeppmpnaemlaaDoor.Grf
open Go.RowKit Str Go.Maps
abbrev ptr (b : Nat) : Value := .pointer (some ⟨b, 0, none⟩)
/-- a vertex in the middle of a row, loaded as a whole. -/
noncomputable def loadVx (v : Value) : Sem Value := Instr.loadAt 27 v
theorem loadAtVx (v : Value) : Instr.loadAt 27 v = loadVx v := rfl
theorem infoVx (v : Vx) : (Tryd.prog.info? 27).map (·.size) = some v.c.toList.length := by
  rw [Array.length_toList, v.c_size]; kernel_rfl
theorem infoVxA (v : Vx) : (Tryd.prog.info? 27).map (·.size) = some v.c.size := by
  rw [v.c_size]; kernel_rfl
theorem loadVx_eq {w : World} {b o : Nat} {v : Vx} (h : w.rangeAt b o v.c.toList) : (loadVx (.pointer (some ⟨b, o, none⟩))).run Tryd.prog w = .ok (.agg v.c) w := by
  unfold loadVx
  simp only [Instr.loadAt, Instr.sureAddr, Sem.run_bind, Sem.run_pure, Result.andThen_ok, run_loadVar_mid w b o 27 v.c.toList _ h Tryd.underlying27 rfl (infoVx v)]
attribute [irreducible] loadVx
/-- the cells of a part as it is given. -/
def givC (d : PD) (lnv gnv : Value) : Array Value := (d.nm.c.toList ++ [Value.int .i64 d.first] ++ d.up.c.toList ++ d.down.c.toList ++ [lnv, gnv]).toArray
theorem givC_list (d : PD) (lnv gnv : Value) : (givC d lnv gnv).toList = d.nm.c.toList ++ [Value.int .i64 d.first] ++ d.up.c.toList ++ d.down.c.toList ++ [lnv, gnv] := by simp [givC]
theorem givC_size (d : PD) (lnv gnv : Value) : (givC d lnv gnv).size = 102 := by
  rw [← Array.length_toList, givC_list]
  simp [Vx.c_size]
/-- the cells of a part. -/
def partC (d : PD) (lnv gnv : Value) (rank : Int) (chv : Value) (users : Int) : Array Value := ((givC d lnv gnv).toList ++ [Value.int .i64 rank, chv, .int .i64 users]).toArray
theorem partC_list (d : PD) (lnv gnv : Value) (rank : Int) (chv : Value) (users : Int) : (partC d lnv gnv rank chv users).toList = (givC d lnv gnv).toList ++ [Value.int .i64 rank, chv, .int .i64 users] := by simp [partC]
/-- a piece of a list, cell by cell. -/
theorem piece {A L B : List Value} {j : Nat} {u : Value} (h : L[j]? = some u) : (A ++ (L ++ B))[A.length + j]? = some u := by
  rw [List.getElem?_append_right (Nat.le_add_right _ _), Nat.add_sub_cancel_left]
  rw [List.getElem?_append_left (List.getElem?_eq_some_iff.1 h).1]
  exact h
theorem row_range {w : World} {b T : Nat} {C : Array Value} {fr : Nat × Nat} (h : w.heap[b]? = some (.cells C T fr)) (A L B : List Value) (hC : C.toList = A ++ (L ++ B)) (o : Nat) (ho : A.length = o) : w.rangeAt b o L := by
  intro j v hv
  rw [cell_row h, ← Array.getElem?_toList, hC, ← ho]
  exact piece hv
theorem row_cell {w : World} {b T : Nat} {C : Array Value} {fr : Nat × Nat} (h : w.heap[b]? = some (.cells C T fr)) (A B : List Value) (u : Value) (hC : C.toList = A ++ ([u] ++ B)) (o : Nat) (ho : A.length = o) : w.cell? ⟨b, o, none⟩ = some u := by
  have := row_range h A [u] B hC o ho 0 u rfl
  simpa using this
/-- a part's row in memory. -/
def PRow (w : World) (b : Nat) (d : PD) (lnv gnv : Value) (rank : Int) (chv : Value) (users : Int) : Prop := w.heap[b]? = some (.cells (partC d lnv gnv rank chv users) 90 (0, 0))
section
variable {w : World} {b : Nat} {d : PD} {lnv gnv : Value} {rank : Int} {chv : Value} {users : Int}
theorem PRow.name (h : PRow w b d lnv gnv rank chv users) : w.rangeAt b 0 d.nm.c.toList :=
  row_range h [] d.nm.c.toList ([Value.int .i64 d.first] ++ d.up.c.toList ++ d.down.c.toList ++ [lnv, gnv] ++ [Value.int .i64 rank, chv, .int .i64 users]) (by rw [partC_list, givC_list]; simp [List.append_assoc]) 0 rfl
theorem PRow.given (h : PRow w b d lnv gnv rank chv users) : w.rangeAt b 0 (givC d lnv gnv).toList :=
  row_range h [] (givC d lnv gnv).toList [Value.int .i64 rank, chv, .int .i64 users] (by rw [partC_list]; rfl) 0 rfl
theorem PRow.lines (h : PRow w b d lnv gnv rank chv users) : w.cell? ⟨b, 100, none⟩ = some lnv :=
  row_cell h (d.nm.c.toList ++ [Value.int .i64 d.first] ++ d.up.c.toList ++ d.down.c.toList) [gnv, Value.int .i64 rank, chv, .int .i64 users] lnv (by rw [partC_list, givC_list]; simp [List.append_assoc]) 100 (by simp [Vx.c_size])
theorem PRow.gone (h : PRow w b d lnv gnv rank chv users) : w.cell? ⟨b, 101, none⟩ = some gnv :=
  row_cell h (d.nm.c.toList ++ [Value.int .i64 d.first] ++ d.up.c.toList ++ d.down.c.toList ++ [lnv]) [Value.int .i64 rank, chv, .int .i64 users] gnv (by rw [partC_list, givC_list]; simp [List.append_assoc]) 101 (by simp [Vx.c_size])
theorem PRow.rk (h : PRow w b d lnv gnv rank chv users) : w.cell? ⟨b, 102, none⟩ = some (.int .i64 rank) :=
  row_cell h (givC d lnv gnv).toList [chv, .int .i64 users] (.int .i64 rank) (by rw [partC_list]; rfl) 102 (by rw [Array.length_toList, givC_size])
theorem PRow.chn (h : PRow w b d lnv gnv rank chv users) : w.cell? ⟨b, 103, none⟩ = some chv :=
  row_cell h ((givC d lnv gnv).toList ++ [Value.int .i64 rank]) [.int .i64 users] chv (by rw [partC_list]; simp [List.append_assoc]) 103 (by rw [List.length_append, Array.length_toList, givC_size]; rfl)
theorem PRow.us (h : PRow w b d lnv gnv rank chv users) : w.cell? ⟨b, 104, none⟩ = some (.int .i64 users) :=
  row_cell h ((givC d lnv gnv).toList ++ [Value.int .i64 rank, chv]) [] (.int .i64 users) (by rw [partC_list]; simp [List.append_assoc]) 104 (by rw [List.length_append, Array.length_toList, givC_size]; rfl)
end
theorem set_at (A : List Value) (u v : Value) (B : List Value) (C : Array Value) (hC : C.toList = A ++ ([u] ++ B)) (o : Nat) (ho : A.length = o) : (C.setIfInBounds o v).toList = A ++ ([v] ++ B) := by
  rw [Array.toList_setIfInBounds, hC, ← ho]
  simp
theorem arr_eq {C D : Array Value} (h : C.toList = D.toList) : C = D := Array.toList_inj.1 h
theorem PRow.setUs {w : World} {b : Nat} {d : PD} {lnv gnv : Value} {rank : Int} {chv : Value} {users : Int} (h : PRow w b d lnv gnv rank chv users) (u : Int) : PRow (w.setCell ⟨b, 104, none⟩ (.int .i64 u)) b d lnv gnv rank chv u := by
  unfold PRow
  rw [heap_setCell_same _ _ _ _ _ _ h]
  rw [arr_eq (C := (partC d lnv gnv rank chv users).setIfInBounds 104 (.int .i64 u)) (D := partC d lnv gnv rank chv u)]
  rw [set_at ((givC d lnv gnv).toList ++ [Value.int .i64 rank, chv]) (.int .i64 users) (.int .i64 u) [] _ (by rw [partC_list]; simp [List.append_assoc]) 104 (by rw [List.length_append, Array.length_toList, givC_size]; rfl), partC_list]
  simp [List.append_assoc]
theorem PRow.setChn {w : World} {b : Nat} {d : PD} {lnv gnv : Value} {rank : Int} {chv : Value} {users : Int} (h : PRow w b d lnv gnv rank chv users) (u : Value) : PRow (w.setCell ⟨b, 103, none⟩ u) b d lnv gnv rank u users := by
  unfold PRow
  rw [heap_setCell_same _ _ _ _ _ _ h]
  rw [arr_eq (C := (partC d lnv gnv rank chv users).setIfInBounds 103 u) (D := partC d lnv gnv rank u users)]
  rw [set_at ((givC d lnv gnv).toList ++ [Value.int .i64 rank]) chv u [.int .i64 users] _ (by rw [partC_list]; simp [List.append_assoc]) 103 (by rw [List.length_append, Array.length_toList, givC_size]; rfl), partC_list]
  simp [List.append_assoc]
/-- the cells of a line. -/
def lineC (v : Vx) (s : ByteArray) (pb : Nat) (at_ gone : Int) : Array Value := (v.c.toList ++ [Value.string s, ptr pb, .int .i64 at_, .int .i64 gone]).toArray
theorem lineC_list (v : Vx) (s : ByteArray) (pb : Nat) (at_ gone : Int) : (lineC v s pb at_ gone).toList = v.c.toList ++ [Value.string s, ptr pb, .int .i64 at_, .int .i64 gone] := by simp [lineC]
def LRow (w : World) (b : Nat) (v : Vx) (s : ByteArray) (pb : Nat) (at_ gone : Int) : Prop := w.heap[b]? = some (.cells (lineC v s pb at_ gone) 99 (0, 0))
section
variable {w : World} {b : Nat} {v : Vx} {s : ByteArray} {pb : Nat} {at_ gone : Int}
theorem LRow.vx (h : LRow w b v s pb at_ gone) : w.rangeAt b 0 v.c.toList :=
  row_range h [] v.c.toList [Value.string s, ptr pb, .int .i64 at_, .int .i64 gone] (by rw [lineC_list]; rfl) 0 rfl
theorem LRow.text (h : LRow w b v s pb at_ gone) : w.cell? ⟨b, 33, none⟩ = some (.string s) :=
  row_cell h v.c.toList [ptr pb, .int .i64 at_, .int .i64 gone] _ (by rw [lineC_list]; rfl) 33 (by simp [Vx.c_size])
theorem LRow.part (h : LRow w b v s pb at_ gone) : w.cell? ⟨b, 34, none⟩ = some (ptr pb) :=
  row_cell h (v.c.toList ++ [Value.string s]) [.int .i64 at_, .int .i64 gone] _ (by rw [lineC_list]; simp [List.append_assoc]) 34 (by simp [Vx.c_size])
theorem LRow.pos (h : LRow w b v s pb at_ gone) : w.cell? ⟨b, 35, none⟩ = some (.int .i64 at_) :=
  row_cell h (v.c.toList ++ [Value.string s, ptr pb]) [.int .i64 gone] _ (by rw [lineC_list]; simp [List.append_assoc]) 35 (by simp [Vx.c_size])
theorem LRow.gn (h : LRow w b v s pb at_ gone) : w.cell? ⟨b, 36, none⟩ = some (.int .i64 gone) :=
  row_cell h (v.c.toList ++ [Value.string s, ptr pb, .int .i64 at_]) [] _ (by rw [lineC_list]; simp [List.append_assoc]) 36 (by simp [Vx.c_size])
theorem LRow.setGn (h : LRow w b v s pb at_ gone) (u : Int) : LRow (w.setCell ⟨b, 36, none⟩ (.int .i64 u)) b v s pb at_ u := by
  unfold LRow
  rw [heap_setCell_same _ _ _ _ _ _ h]
  rw [arr_eq (C := (lineC v s pb at_ gone).setIfInBounds 36 (.int .i64 u)) (D := lineC v s pb at_ u)]
  rw [set_at (v.c.toList ++ [Value.string s, ptr pb, .int .i64 at_]) (.int .i64 gone) (.int .i64 u) [] _ (by rw [lineC_list]; simp [List.append_assoc]) 36 (by simp [Vx.c_size]), lineC_list]
  simp [List.append_assoc]
theorem LRow.inj {v' : Vx} {s' : ByteArray} {pb' : Nat} {at' gone' : Int} (h : LRow w b v s pb at_ gone) (k : LRow w b v' s' pb' at' gone') : v = v' := by
  unfold LRow at h k
  rw [h] at k
  have e : lineC v s pb at_ gone = lineC v' s' pb' at' gone' := by simpa using k
  have e2 : (lineC v s pb at_ gone).toList = (lineC v' s' pb' at' gone').toList := by rw [e]
  rw [lineC_list, lineC_list] at e2
  exact Vx.c_inj (arr_eq (List.append_inj e2 (by simp [Vx.c_size])).1)
end
/-- a row of pointers (a slice's), which nobody writes any more. -/
def Ptrs (w : World) (v : Value) (L : List Nat) : Prop := ∃ g cap, v = .slice (some ⟨g, 0, none⟩) L.length cap ∧ L.length ≤ cap ∧ g < w.heap.size ∧ ∀ j x, L[j]? = some x → w.cell? ⟨g, j, none⟩ = some (ptr x)
theorem Ptrs.stay {w w' : World} {v : Value} {L : List Nat} (h : Ptrs w v L) (hs : ∀ g n c, v = .slice (some ⟨g, 0, none⟩) n c → w'.heap[g]? = w.heap[g]?) (hz : w.heap.size ≤ w'.heap.size) : Ptrs w' v L := by
  obtain ⟨g, cap, e, h1, h2, h3⟩ := h
  exact ⟨g, cap, e, h1, Nat.lt_of_lt_of_le h2 hz, fun j x hx => (World.cell?_of_block (hs g _ _ e)).trans (h3 j x hx)⟩
end Go.Proofs.YtnjeppmpnaemlaaDoor.Grf
