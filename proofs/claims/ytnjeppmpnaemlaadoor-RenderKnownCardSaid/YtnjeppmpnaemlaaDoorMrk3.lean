/- DERIVED. Texts of ours, merged: XGrfGS XGrfRead XRegionInv XRegionFix XRegionCall XSl XSlUntil. -/
import Derived.Test.YtnjeppmpnaemlaaDoorMrk2
import Derived.Test.YtnjeppmpnaemlaaDoorMrk1
import Derived.Deep.CutBlock
import Derived.Lib.Hide
import Derived.KernelRfl
import Derived.BigQuiet
import Derived.Deep.QuietTactic
import Derived.Deep.RegionWith
import Derived.LaidEqlPtr
import Derived.Lib.Builder
import Derived.RegionTactic
/- DERIVED. A graph: its parts with their places in memory; what a step to an earlier part does to the order. -/
set_option maxRecDepth 100000
namespace Go.Proofs.YtnjeppmpnaemlaaDoor.Grf
open Go.RowKit Str Go.Maps
/-- a part, and where it lies. -/
structure PA where
  d : PD
  b : Nat
  ls : List Nat
  rank : Nat
  lnv : Value
  gnv : Value
  chv : Value
/-- a graph, and where it lies: its parts, the latest first. -/
structure GS where
  g : Nat
  fr : Nat
  mp : Nat
  mv : Nat
  rb : Nat
  eb : Nat
  fcv : Value
  added : Nat
  nv : Nat
  ps : List PA
abbrev ds (ps : List PA) : List PD := ps.map (·.d)
/-- the part whose line a vertex is, and which one. -/
def find : List PA → Vx → Option (PA × Nat)
  | [], _ => none
  | p :: ps, v => if v ∈ own p.d then some (p, (own p.d).idxOf v) else find ps v
theorem own_at {p : PD} {i : Nat} (h : i < (own p).length) : (own p)[i] = vert p i := by simp [own]
theorem find_some : ∀ {ps : List PA} {v : Vx} {p : PA} {i : Nat}, find ps v = some (p, i) → p ∈ ps ∧ i < p.d.lines.length ∧ vert p.d i = v ∧ v ∈ own p.d ∧ (own p.d).idxOf v = i := by
  intro ps
  induction ps with
  | nil => intro v p i h; simp [find] at h
  | cons q t ih =>
    intro v p i h
    unfold find at h
    by_cases hv : v ∈ own q.d
    · rw [if_pos hv] at h
      cases h
      have hlt := List.idxOf_lt_length_of_mem hv
      have e := List.getElem_idxOf hlt
      refine ⟨by simp, by rw [← own_len]; exact hlt, ?_, hv, rfl⟩
      rw [own_at hlt] at e
      exact e
    · rw [if_neg hv] at h
      obtain ⟨h1, h2⟩ := ih h
      exact ⟨by simp [h1], h2⟩
theorem find_none : ∀ {ps : List PA} {v : Vx}, find ps v = none → v ∈ verts (ds ps) → v = root ∨ v = fin := by
  intro ps
  induction ps with
  | nil => intro v _ h; simpa [verts] using h
  | cons q t ih =>
    intro v h hv
    unfold find at h
    by_cases k : v ∈ own q.d
    · rw [if_pos k] at h; cases h
    · rw [if_neg k] at h
      exact ih h ((List.mem_append.1 hv).resolve_left k)
theorem find_verts : ∀ {ps : List PA} {v : Vx} {x : PA × Nat}, find ps v = some x → v ∈ verts (ds ps) := by
  intro ps
  induction ps with
  | nil => intro v x h; simp [find] at h
  | cons q t ih =>
    intro v x h
    unfold find at h
    by_cases k : v ∈ own q.d
    · exact List.mem_append.2 (.inl k)
    · rw [if_neg k] at h
      exact List.mem_append.2 (.inr (ih h))
/-- ranks fall. -/
def Falls (ps : List PA) : Prop := ps.Pairwise (fun p q => q.rank < p.rank) ∧ ∀ p ∈ ps, 1 ≤ p.rank
theorem Falls.tail {p : PA} {ps : List PA} (h : Falls (p :: ps)) : Falls ps := ⟨(List.pairwise_cons.1 h.1).2, fun q hq => h.2 q (by simp [hq])⟩
def rankV (ps : List PA) (v : Vx) : Nat := match find ps v with | some (p, _) => p.rank | none => 0
theorem adm_tail {p : PD} {ps : List PD} (h : Adm (p :: ps)) : Adm ps ∧ Fits p ps ∧ le ps p.up p.down ∧ p.up ≠ p.down := by
  cases h with
  | cons h f l n => exact ⟨h, f, l, n⟩
theorem part_in : ∀ {ps : List PA}, Adm (ds ps) → ∀ {p : PA}, p ∈ ps → p.d.up ∈ verts (ds ps) ∧ p.d.down ∈ verts (ds ps) := by
  intro ps
  induction ps with
  | nil => intro _ p h; simp at h
  | cons q t ih =>
    intro ha p hp
    obtain ⟨h1, f, _⟩ := adm_tail ha
    rcases List.mem_cons.1 hp with rfl | hp
    · exact ⟨List.mem_append.2 (.inr f.upIn), List.mem_append.2 (.inr f.downIn)⟩
    · obtain ⟨a, b⟩ := ih h1 hp
      exact ⟨List.mem_append.2 (.inr a), List.mem_append.2 (.inr b)⟩
theorem le_down : ∀ {ps : List PA}, Adm (ds ps) → Falls ps → ∀ {a b : Vx} {p : PA} {i : Nat}, find ps a = some (p, i) → rankV ps b < p.rank → (le (ds ps) a b ↔ le (ds ps) p.d.down b) ∧ rankV ps p.d.down < p.rank := by
  intro ps
  induction ps with
  | nil => intro _ _ a b p i h; simp [find] at h
  | cons q t ih =>
    intro ha hf a b p i h hr
    obtain ⟨ha2, f, _⟩ := adm_tail ha
    have hf2 := (List.pairwise_cons.1 hf.1).1
    unfold rankV find at hr
    unfold find at h
    have hb : b ∉ own q.d := fun hb => by
      rw [if_pos hb] at hr
      simp only at hr
      by_cases k : a ∈ own q.d
      · rw [if_pos k] at h; cases h; omega
      · rw [if_neg k] at h
        have := hf2 p (find_some h).1
        omega
    rw [if_neg hb] at hr
    by_cases k : a ∈ own q.d
    · rw [if_pos k] at h
      cases h
      have kd : q.d.down ∉ own q.d := fun e => f.apart _ e f.downIn
      refine ⟨?_, ?_⟩
      · show le (q.d :: ds t) a b ↔ le (q.d :: ds t) q.d.down b
        unfold le
        rw [if_pos k, if_neg hb, if_neg kd, if_neg hb]
      · unfold rankV find
        rw [if_neg kd]
        cases hfd : find t q.d.down with
        | none => exact hf.2 q (by simp)
        | some x => exact hf2 x.1 (find_some (p := x.1) (i := x.2) hfd).1
    · rw [if_neg k] at h
      have hpt := (find_some h).1
      have kd : p.d.down ∉ own q.d := fun e => f.apart _ e (part_in ha2 hpt).2
      obtain ⟨i1, i2⟩ := ih ha2 hf.tail h hr
      refine ⟨?_, ?_⟩
      · show le (q.d :: ds t) a b ↔ le (q.d :: ds t) p.d.down b
        unfold le
        rw [if_neg k, if_neg hb, if_neg kd, if_neg hb]
        exact i1
      · unfold rankV find
        rw [if_neg kd]
        exact i2
theorem le_up : ∀ {ps : List PA}, Adm (ds ps) → Falls ps → ∀ {a b : Vx} {p : PA} {i : Nat}, find ps b = some (p, i) → rankV ps a < p.rank → (le (ds ps) a b ↔ le (ds ps) a p.d.up) ∧ rankV ps p.d.up < p.rank := by
  intro ps
  induction ps with
  | nil => intro _ _ a b p i h; simp [find] at h
  | cons q t ih =>
    intro ha hf a b p i h hr
    obtain ⟨ha2, f, _⟩ := adm_tail ha
    have hf2 := (List.pairwise_cons.1 hf.1).1
    unfold rankV find at hr
    unfold find at h
    have hb : a ∉ own q.d := fun hb => by
      rw [if_pos hb] at hr
      simp only at hr
      by_cases k : b ∈ own q.d
      · rw [if_pos k] at h; cases h; omega
      · rw [if_neg k] at h
        have := hf2 p (find_some h).1
        omega
    rw [if_neg hb] at hr
    by_cases k : b ∈ own q.d
    · rw [if_pos k] at h
      cases h
      have kd : q.d.up ∉ own q.d := fun e => f.apart _ e f.upIn
      refine ⟨?_, ?_⟩
      · show le (q.d :: ds t) a b ↔ le (q.d :: ds t) a q.d.up
        unfold le
        rw [if_neg hb, if_pos k, if_neg hb, if_neg kd]
      · unfold rankV find
        rw [if_neg kd]
        cases hfd : find t q.d.up with
        | none => exact hf.2 q (by simp)
        | some x => exact hf2 x.1 (find_some (p := x.1) (i := x.2) hfd).1
    · rw [if_neg k] at h
      have hpt := (find_some h).1
      have kd : p.d.up ∉ own q.d := fun e => f.apart _ e (part_in ha2 hpt).1
      obtain ⟨i1, i2⟩ := ih ha2 hf.tail h hr
      refine ⟨?_, ?_⟩
      · show le (q.d :: ds t) a b ↔ le (q.d :: ds t) a p.d.up
        unfold le
        rw [if_neg hb, if_neg k, if_neg hb, if_neg kd]
        exact i1
      · unfold rankV find
        rw [if_neg kd]
        exact i2
theorem le_same : ∀ {ps : List PA}, Falls ps → ∀ {a b : Vx} {p q : PA} {i j : Nat}, find ps a = some (p, i) → find ps b = some (q, j) → p.rank = q.rank → p = q ∧ (le (ds ps) a b ↔ i ≤ j) := by
  intro ps
  induction ps with
  | nil => intro _ a b p q i j h; simp [find] at h
  | cons r t ih =>
    intro hf a b p q i j h k e
    have hf2 := (List.pairwise_cons.1 hf.1).1
    unfold find at h k
    by_cases ka : a ∈ own r.d <;> by_cases kb : b ∈ own r.d
    all_goals simp only [ka, kb, if_true, if_false] at h k
    · cases h; cases k
      refine ⟨rfl, ?_⟩
      show le (r.d :: ds t) a b ↔ _
      unfold le
      rw [if_pos ka, if_pos kb]
    · cases h
      have := hf2 q (find_some k).1
      omega
    · cases k
      have := hf2 p (find_some h).1
      omega
    · obtain ⟨e1, e2⟩ := ih hf.tail h k e
      refine ⟨e1, ?_⟩
      show le (r.d :: ds t) a b ↔ _
      unfold le
      rw [if_neg ka, if_neg kb]
      exact e2
theorem le_frame : ∀ {ps : List PA} {a b : Vx}, find ps a = none → find ps b = none → (le (ds ps) a b ↔ (a = b ∨ (a = root ∧ b = fin))) := by
  intro ps
  induction ps with
  | nil => intro a b _ _; exact Iff.rfl
  | cons r t ih =>
    intro a b h k
    unfold find at h k
    by_cases ka : a ∈ own r.d <;> by_cases kb : b ∈ own r.d
    all_goals simp only [ka, kb, if_true, if_false] at h k
    · cases h
    · cases h
    · cases k
    · show le (r.d :: ds t) a b ↔ _
      unfold le
      rw [if_neg ka, if_neg kb]
      exact ih h k
/-- a vertex's line. -/
def lineB (S : GS) (v : Vx) : Option Nat :=
  match find S.ps v with
  | some (p, i) => p.ls[i]?
  | none => if v = root then some S.rb else if v = fin then some S.eb else none
abbrev nils : Value := .slice none 0 0
def zeroVx : Vx := ⟨List.replicate 32 0, 0, by simp, z32_in, by omega, by omega⟩
def pd0 : PD := ⟨zeroVx, 0, zeroVx, zeroVx, [], []⟩
/-- vertices one behind the other, as cells. -/
def vxs (l : List Vx) : List Value := l.flatMap (·.c.toList)
/-- a slice that reads as vertices. -/
def RdV (w : World) (v : Value) (l : List Vx) : Prop := ∃ A c, v = .slice A l.length c ∧ l.length ≤ c ∧ (0 < l.length → ∃ g off, A = some ⟨g, off, none⟩ ∧ g < w.heap.size ∧ ∀ (j : Nat) (x : Vx), l[j]? = some x → w.rangeAt g (off + j * 33) x.c.toList)
/-- a slice that reads as texts. -/
def RdS (w : World) (v : Value) (l : List ByteArray) : Prop := ∃ A c, v = .slice A l.length c ∧ l.length ≤ c ∧ (0 < l.length → ∃ g off, A = some ⟨g, off, none⟩ ∧ g < w.heap.size ∧ ∀ (j : Nat) (x : ByteArray), l[j]? = some x → w.cell? ⟨g, off + j, none⟩ = some (.string x))
/-- the cells of vertices, one behind the other. -/
def flatV (l : List Vx) : List Value := l.flatMap fun x => x.c.toList
theorem flatV_len (l : List Vx) : (flatV l).length = l.length * 33 := by
  induction l with
  | nil => rfl
  | cons x t ih =>
    show (x.c.toList ++ flatV t).length = _
    rw [List.length_append, ih, Array.length_toList, Vx.c_size, List.length_cons]
    omega
theorem flatV_cell : ∀ (l : List Vx) (j : Nat) (u : Value), (flatV l)[j]? = some u → ∃ i r x, l[i]? = some x ∧ j = i * 33 + r ∧ x.c.toList[r]? = some u
  | [], j, u, h => by simp [flatV] at h
  | x :: t, j, u, h => by
    have e : flatV (x :: t) = x.c.toList ++ flatV t := rfl
    rw [e] at h
    by_cases hj : j < 33
    · rw [List.getElem?_append_left (by rw [Array.length_toList, Vx.c_size]; exact hj)] at h
      exact ⟨0, j, x, rfl, by omega, h⟩
    · rw [List.getElem?_append_right (by rw [Array.length_toList, Vx.c_size]; omega), Array.length_toList, Vx.c_size] at h
      obtain ⟨i, r, y, h1, h2, h3⟩ := flatV_cell t _ u h
      exact ⟨i + 1, r, y, h1, by omega, h3⟩
theorem flatV_at : ∀ (l : List Vx) (i r : Nat) (x : Vx) (u : Value), l[i]? = some x → x.c.toList[r]? = some u → (flatV l)[i * 33 + r]? = some u
  | [], i, r, x, u, h, _ => by simp at h
  | y :: t, 0, r, x, u, h, hu => by
    obtain rfl := Option.some.inj h
    show (y.c.toList ++ flatV t)[0 * 33 + r]? = _
    rw [show 0 * 33 + r = r by omega, List.getElem?_append_left (List.getElem?_eq_some_iff.1 hu).1]
    exact hu
  | y :: t, i + 1, r, x, u, h, hu => by
    show (y.c.toList ++ flatV t)[(i + 1) * 33 + r]? = _
    rw [List.getElem?_append_right (by rw [Array.length_toList, Vx.c_size]; omega), Array.length_toList, Vx.c_size, show (i + 1) * 33 + r - 33 = i * 33 + r by omega]
    exact flatV_at t i r x u h hu
theorem flatV_one (l : List Vx) : ∀ u ∈ flatV l, u.oneCell' = true := by
  intro u hu
  obtain ⟨x, _, h⟩ := List.mem_flatMap.1 hu
  have := Array.all_eq_true_iff_forall_mem.1 (Vx.one x) u (by simpa using h)
  exact this
/-- an own slice of texts, of vertices. -/
def OwnS (base : Nat) (l : List ByteArray) (v : Value) (w : World) : Prop := w.ownsRow base 9 1 v l.length (l.map Value.string)
def OwnV (base : Nat) (l : List Vx) (v : Value) (w : World) : Prop := w.ownsRow base 27 33 v l.length (flatV l)
/-- a graph in memory. -/
structure GM (w : World) (S : GS) (us : Nat → Int) (gn : Vx → Int) : Prop where
  gr : w.heap[S.g]? = some (.cells #[ptr S.g, ptr S.fr, .map (some S.mp), .map (some S.mv), .int .i64 S.added] 38 (0, 0))
  mapP : MapF 95 w S.mp S.ps.length (fun x => (S.ps.find? fun p => decide (p.d.nm = x)).map fun p => ptr p.b)
  mapV : MapF 27 w S.mv S.nv (fun v => (lineB S v).map ptr)
  frm : PRow w S.fr pd0 nils nils 0 S.fcv (us S.fr)
  frc : Ptrs w S.fcv [S.rb, S.eb]
  lr : LRow w S.rb root ByteArray.empty S.fr 0 (gn root)
  lf : LRow w S.eb fin ByteArray.empty S.fr 1 (gn fin)
  prt : ∀ p ∈ S.ps, PRow w p.b p.d p.lnv p.gnv p.rank p.chv (us p.b)
  lsl : ∀ p ∈ S.ps, p.ls.length = p.d.lines.length
  ln : ∀ p ∈ S.ps, ∀ (i b : Nat) (s : ByteArray), p.ls[i]? = some b → p.d.lines[i]? = some s → LRow w b (vert p.d i) s p.b ((i : Int) + 1) (gn (vert p.d i))
  chn : ∀ p ∈ S.ps, ∃ u dn, lineB S p.d.up = some u ∧ lineB S p.d.down = some dn ∧ Ptrs w p.chv (u :: (p.ls ++ [dn]))
  lns : ∀ p ∈ S.ps, OwnS 0 p.d.lines p.lnv w
  gns : ∀ p ∈ S.ps, OwnV 0 p.d.gone p.gnv w
/-- what is plain of it. -/
structure GOk (S : GS) : Prop where
  adm : Adm (ds S.ps)
  falls : Falls S.ps
  top : ∀ p ∈ S.ps, p.rank ≤ S.added
/-- the part of a vertex's line, its rank, and its place in the chain. -/
theorem GM.line {w : World} {S : GS} {us : Nat → Int} {gn : Vx → Int} (h : GM w S us gn) {v : Vx} {b : Nat} (hb : lineB S v = some b) :
    ∃ s pb at_, LRow w b v s pb at_ (gn v) ∧ ((∃ p i, find S.ps v = some (p, i) ∧ p ∈ S.ps ∧ pb = p.b ∧ at_ = (i : Int) + 1 ∧ p.ls[i]? = some b) ∨ (find S.ps v = none ∧ pb = S.fr ∧ ((v = root ∧ at_ = 0 ∧ b = S.rb) ∨ (v = fin ∧ at_ = 1 ∧ b = S.eb)))) := by
  unfold lineB at hb
  cases hf : find S.ps v with
  | none =>
    rw [hf] at hb
    simp only at hb
    by_cases h1 : v = root
    · rw [if_pos h1] at hb
      cases hb
      subst h1
      exact ⟨_, _, _, h.lr, .inr ⟨rfl, rfl, .inl ⟨rfl, rfl, rfl⟩⟩⟩
    · rw [if_neg h1] at hb
      by_cases h2 : v = fin
      · rw [if_pos h2] at hb
        cases hb
        subst h2
        exact ⟨_, _, _, h.lf, .inr ⟨rfl, rfl, .inr ⟨rfl, rfl, rfl⟩⟩⟩
      · rw [if_neg h2] at hb; cases hb
  | some x =>
    obtain ⟨p, i⟩ := x
    rw [hf] at hb
    simp only at hb
    obtain ⟨h1, h2, h3, _⟩ := find_some hf
    have := h.ln p h1 i b _ hb (List.getElem?_eq_getElem h2)
    rw [h3] at this
    exact ⟨_, _, _, this, .inl ⟨p, i, rfl, h1, rfl, rfl, hb⟩⟩
theorem lineB_in {S : GS} (hl : ∀ p ∈ S.ps, p.ls.length = p.d.lines.length) {v : Vx} : (∃ b, lineB S v = some b) ↔ v ∈ verts (ds S.ps) := by
  unfold lineB
  cases hf : find S.ps v with
  | none =>
    simp only
    constructor
    · rintro ⟨b, hb⟩
      by_cases h1 : v = root
      · rw [h1]; exact root_in _
      · rw [if_neg h1] at hb
        by_cases h2 : v = fin
        · rw [h2]; exact fin_in _
        · rw [if_neg h2] at hb; cases hb
    · intro hv
      rcases find_none hf hv with rfl | rfl
      · exact ⟨S.rb, if_pos rfl⟩
      · exact ⟨S.eb, by rw [if_neg (fun e => root_ne e.symm), if_pos rfl]⟩
  | some x =>
    obtain ⟨p, i⟩ := x
    simp only
    obtain ⟨h1, h2, _⟩ := find_some hf
    exact ⟨fun _ => find_verts hf, fun _ => ⟨_, List.getElem?_eq_getElem (by rw [hl p h1]; exact h2)⟩⟩
end Go.Proofs.YtnjeppmpnaemlaaDoor.Grf
/- DERIVED. What only reads a graph: made, Has, up, down, before, Before. -/
set_option maxRecDepth 100000
namespace Go.Proofs.YtnjeppmpnaemlaaDoor.Grf
open Go.RowKit Str Go.Maps
attribute [local go_sem ↓ high] loadAtVx
theorem infoG : ∃ j, Tryd.prog.info? 38 = some j ∧ j.size = 5 := by
  have h : (Tryd.prog.info? 38).map (·.size) = some 5 := by kernel_rfl
  simpa [Option.map_eq_some_iff] using h
theorem infoL : ∃ j, Tryd.prog.info? 99 = some j ∧ j.size = 37 := by
  have h : (Tryd.prog.info? 99).map (·.size) = some 37 := by kernel_rfl
  simpa [Option.map_eq_some_iff] using h
theorem infoP : ∃ j, Tryd.prog.info? 90 = some j ∧ j.size = 105 := by
  have h : (Tryd.prog.info? 90).map (·.size) = some 105 := by kernel_rfl
  simpa [Option.map_eq_some_iff] using h
theorem eqG (g : Nat) (w : World) : (binOp .eql 22 (ptr g) (ptr g)).run Tryd.prog w = .ok (.bool true) w := by
  obtain ⟨j, hj, _⟩ := infoG
  exact run_eql_ptr_same w ⟨g, 0, none⟩ Tryd.underlying22 hj
theorem eqG0 (g : Nat) (w : World) : (binOp .eql 22 (.pointer none) (ptr g)).run Tryd.prog w = .ok (.bool false) w := by
  have h : ∀ d : Nat, (Op.equalIn (d + 1) 22 (.pointer none) (ptr g)).run Tryd.prog w = .ok false w := fun d => by
    simp [Op.equalIn, run_underlying Tryd.underlying22, sizeOf, typeInfo]
  simp only [binOp]
  simp [Op.equal, Op.maxDepth, h 9999]
theorem eqL (a b : Nat) (w : World) {ca cb : Array Value} {ta tb : TypeId} (ha : w.heap[a]? = some (.cells ca ta (0, 0))) (hb : w.heap[b]? = some (.cells cb tb (0, 0))) : (binOp .eql 87 (ptr a) (ptr b)).run Tryd.prog w = .ok (.bool (decide (a = b))) w := by
  obtain ⟨j, hj, hs⟩ := infoL
  by_cases e : a = b
  · subst e
    rw [decide_eq_true rfl]
    exact run_eql_ptr_same w ⟨a, 0, none⟩ Tryd.underlying87 hj
  · rw [decide_eq_false e]
    exact run_eql_ptr_other w Tryd.underlying87 hj (by rw [hs]; decide) (fun k => e (congrArg Addr.block k)) ha hb
theorem neL0 (w : World) : (binOp .neq 87 (.pointer none) (.pointer none)).run Tryd.prog w = .ok (.bool false) w := by
  have h : ∀ d : Nat, (Op.equalIn (d + 1) 87 (.pointer none) (.pointer none)).run Tryd.prog w = .ok true w := fun d => by
    simp [Op.equalIn, run_underlying Tryd.underlying87, sizeOf, typeInfo]
  simp only [binOp]
  simp [Op.equal, Op.maxDepth, h 9999]
theorem neL1 (b : Nat) (w : World) : (binOp .neq 87 (ptr b) (.pointer none)).run Tryd.prog w = .ok (.bool true) w := by
  have h : ∀ d : Nat, (Op.equalIn (d + 1) 87 (ptr b) (.pointer none)).run Tryd.prog w = .ok false w := fun d => by
    simp [Op.equalIn, run_underlying Tryd.underlying87, sizeOf, typeInfo]
  simp only [binOp]
  simp [Op.equal, Op.maxDepth, h 9999]
theorem neP (a b : Nat) (w : World) {ca cb : Array Value} {ta tb : TypeId} (ha : w.heap[a]? = some (.cells ca ta (0, 0))) (hb : w.heap[b]? = some (.cells cb tb (0, 0))) : (binOp .neq 34 (ptr a) (ptr b)).run Tryd.prog w = .ok (.bool (!decide (a = b))) w := by
  obtain ⟨j, hj, hs⟩ := infoP
  by_cases e : a = b
  · subst e
    rw [decide_eq_true rfl]
    exact Lib.run_neq_ptr_same w ⟨a, 0, none⟩ Tryd.underlying34 hj
  · rw [decide_eq_false e]
    have h : ∀ d : Nat, (Op.equalIn (d + 1) 34 (ptr a) (ptr b)).run Tryd.prog w = .ok false w := fun d => by
      simp [Op.equalIn, run_underlying Tryd.underlying34, sizeOf, typeInfo, hj, hs, run_sameAddr_other w (a := ⟨a, 0, none⟩) (b := ⟨b, 0, none⟩) (fun k => e (congrArg Addr.block k)) ha hb]
    simp only [binOp]
    simp [Op.equal, Op.maxDepth, h 9999]
theorem made_yes (g : Nat) (w : World) (h0 : w.cell? ⟨g, 0, none⟩ = some (ptr g)) : Calls Tryd.prog 46 #[ptr g] w fun e w' => e = .returned (.bool true) ∧ ∃ m, w' = w.drewN m := by
  have he := eqG g w
  go_enter Tryd.func46, Tryd.ntmps46
  go_wp2
  go_ret
  exact ⟨rfl, 0, rfl⟩
theorem made_nil (w : World) : Calls Tryd.prog 46 #[.pointer none] w fun e w' => e = .returned (.bool false) ∧ ∃ m, w' = w.drewN m := by
  go_enter Tryd.func46, Tryd.ntmps46
  go_wp2
  go_ret
  exact ⟨rfl, 0, rfl⟩
theorem made_zero (g : Nat) (w : World) (h0 : w.cell? ⟨g, 0, none⟩ = some (.pointer none)) : Calls Tryd.prog 46 #[ptr g] w fun e w' => e = .returned (.bool false) ∧ ∃ m, w' = w.drewN m := by
  have he := eqG0 g w
  go_enter Tryd.func46, Tryd.ntmps46
  go_wp2
  go_ret
  exact ⟨rfl, 0, rfl⟩
theorem zeroL (w : World) : (zeroValue 87).run Tryd.prog w = .ok (.pointer none) w := by kernel_rfl
theorem zeroP (w : World) : (zeroValue 34).run Tryd.prog w = .ok (.pointer none) w := by kernel_rfl
theorem isPtr : ElV (.pointer none) := .inl rfl
/-- a vertex looked up. -/
theorem GM.look {w : World} {S : GS} {us : Nat → Int} {gn : Vx → Int} (h : GM w S us gn) (v : Vx) : (Instr.lookup 36 (.map (some S.mv)) (.agg v.c) false).run Tryd.prog w = .ok (((lineB S v).map ptr).getD (.pointer none)) w :=
  h.mapV.look kbV Tryd.underlying36 (zeroL w) isPtr v
theorem GM.drewN {w : World} {S : GS} {us : Nat → Int} {gn : Vx → Int} (h : GM w S us gn) (m : Nat) : GM (w.drewN m) S us gn := ⟨h.gr, h.mapP.stay rfl, h.mapV.stay rfl, h.frm, h.frc, h.lr, h.lf, h.prt, h.lsl, h.ln, h.chn, h.lns, h.gns⟩
/-- nothing old has turned: the graph stands. -/
theorem Ptrs.below {w w' : World} {v : Value} {L : List Nat} (h : Ptrs w v L) (hb : Below w.heap.size w w') : Ptrs w' v L := by
  obtain ⟨g, cap, e, h1, h2, h3⟩ := h
  exact ⟨g, cap, e, h1, Nat.lt_of_lt_of_le h2 hb.size, fun j x hx => (hb.cell (p := ⟨g, j, none⟩) h2).trans (h3 j x hx)⟩
theorem RdS.below {w w' : World} {v : Value} {l : List ByteArray} (h : RdS w v l) (hb : Below w.heap.size w w') : RdS w' v l := by
  obtain ⟨A, c, e, h1, h2⟩ := h
  refine ⟨A, c, e, h1, fun h0 => ?_⟩
  obtain ⟨g, off, eA, hg, hc⟩ := h2 h0
  exact ⟨g, off, eA, Nat.lt_of_lt_of_le hg hb.size, fun j x hx => (hb.cell (p := ⟨g, off + j, none⟩) hg).trans (hc j x hx)⟩
theorem RdV.below {w w' : World} {v : Value} {l : List Vx} (h : RdV w v l) (hb : Below w.heap.size w w') : RdV w' v l := by
  obtain ⟨A, c, e, h1, h2⟩ := h
  refine ⟨A, c, e, h1, fun h0 => ?_⟩
  obtain ⟨g, off, eA, hg, hc⟩ := h2 h0
  exact ⟨g, off, eA, Nat.lt_of_lt_of_le hg hb.size, fun j x hx k u hu => (hb.cell (p := ⟨g, off + j * 33 + k, none⟩) hg).trans (hc j x hx k u hu)⟩
theorem at_below {w w' : World} {b : Nat} {o : Obj} (h : w.heap[b]? = some o) (hb : Below w.heap.size w w') : w'.heap[b]? = some o :=
  (hb.block b (Array.getElem?_eq_some_iff.1 h).1).trans h
theorem GM.below {w w' : World} {S : GS} {us : Nat → Int} {gn : Vx → Int} (h : GM w S us gn) (hb : Below w.heap.size w w') : GM w' S us gn :=
  ⟨at_below h.gr hb, h.mapP.stay (hb.block _ h.mapP.lt), h.mapV.stay (hb.block _ h.mapV.lt), at_below h.frm hb, h.frc.below hb, at_below h.lr hb, at_below h.lf hb, fun p hp => at_below (h.prt p hp) hb, h.lsl,
    fun p hp i b s h1 h2 => at_below (h.ln p hp i b s h1 h2) hb, fun p hp => let ⟨u, dn, a, b, c⟩ := h.chn p hp; ⟨u, dn, a, b, c.below hb⟩, fun p hp => own_stays (h.lns p hp) hb, fun p hp => own_stays (h.gns p hp) hb⟩
/-- a graph's own cells. -/
theorem GM.g0 {w : World} {S : GS} {us : Nat → Int} {gn : Vx → Int} (h : GM w S us gn) : w.cell? ⟨S.g, 0, none⟩ = some (ptr S.g) := cell_row h.gr 0
theorem GM.g1 {w : World} {S : GS} {us : Nat → Int} {gn : Vx → Int} (h : GM w S us gn) : w.cell? ⟨S.g, 1, none⟩ = some (ptr S.fr) := cell_row h.gr 1
theorem GM.g2 {w : World} {S : GS} {us : Nat → Int} {gn : Vx → Int} (h : GM w S us gn) : w.cell? ⟨S.g, 2, none⟩ = some (.map (some S.mp)) := cell_row h.gr 2
theorem GM.g3 {w : World} {S : GS} {us : Nat → Int} {gn : Vx → Int} (h : GM w S us gn) : w.cell? ⟨S.g, 3, none⟩ = some (.map (some S.mv)) := cell_row h.gr 3
theorem GM.g4 {w : World} {S : GS} {us : Nat → Int} {gn : Vx → Int} (h : GM w S us gn) : w.cell? ⟨S.g, 4, none⟩ = some (.int .i64 S.added) := cell_row h.gr 4
/-- a vertex in a box of its own. -/
theorem box_vx {w : World} {b : Nat} {v : Vx} {T : TypeId} (h : w.heap[b]? = some (.cells v.c T (0, 0))) : (loadVx (ptr b)).run Tryd.prog w = .ok (.agg v.c) w :=
  loadVx_eq (row_range h [] v.c.toList [] (by simp) 0 rfl)
set_option maxHeartbeats 2000000 in
theorem has_any (S : GS) (us : Nat → Int) (gn : Vx → Int) (v : Vx) (w : World) (h : GM w S us gn) :
    Calls Tryd.prog 25 #[ptr S.g, .agg v.c] w fun e w' => e = .returned (.bool (lineB S v).isSome) ∧ Below w.heap.size w w' := by
  have hlow := (Below.refl w.heap.size w).alloc (Nat.le_refl _) (.cells v.c 27)
  have hnew := Go.heap_alloc_new w (.cells v.c 27)
  obtain ⟨w1, hw1⟩ : ∃ w1, w1 = w.alloc (.cells v.c 27) := ⟨_, rfl⟩
  rw [← hw1] at hlow hnew
  have h1 := h.below hlow
  have Hw1 := Lib.hid hw1
  have Hlow := Lib.hid hlow
  obtain ⟨bx, hbx⟩ : ∃ bx, bx = w.heap.size := ⟨_, rfl⟩
  rw [← hbx] at hnew
  have Hbx := Lib.hid hbx
  have hl := h1.look v
  have hv := box_vx hnew
  have g3 := h1.g3
  have HM : Hid (∀ n, Calls Tryd.prog 46 #[ptr S.g] (w1.drewN n) fun e w' => e = .returned (.bool true) ∧ ∃ m, w' = (w1.drewN n).drewN m) := fun n => made_yes S.g (w1.drewN n) h1.g0
  have hdl : ∀ n, (Instr.lookup 36 (.map (some S.mv)) (.agg v.c) false).run Tryd.prog (w1.drewN n) = .ok (((lineB S v).map ptr).getD (.pointer none)) (w1.drewN n) := fun n => (h1.drewN n).look v
  have hdv : ∀ n, (loadVx (ptr bx)).run Tryd.prog (w1.drewN n) = .ok (.agg v.c) (w1.drewN n) := fun n => box_vx (w := w1.drewN n) hnew
  have hd3 : ∀ n, (w1.drewN n).cell? ⟨S.g, 3, none⟩ = some (.map (some S.mv)) := fun n => g3
  clear h h1 hw1 hlow hnew hbx hl hv g3
  cases hq : lineB S v
  all_goals
    rw [hq] at hdl
    simp only [Option.map_none, Option.map_some, Option.getD_none, Option.getD_some, Option.isSome_none, Option.isSome_some] at hdl ⊢
    clear hq
    go_enter Tryd.func25, Tryd.ntmps25
    go_upto_region 1 with (fail)
    rw [← Hw1.out, ← Hbx.out]
    go_quiet ((go_at_call 46; exact Calls.quiet_of (HM.out _)))
    go_wp2
    go_ret
    exact ⟨rfl, Hlow.out.trans ⟨rfl, rfl, rfl, Nat.le_refl _, fun _ _ => rfl⟩⟩
set_option maxHeartbeats 1000000 in
theorem up_any (b : Nat) (L : List Nat) (u : Nat) (v : Value) (w : World) (h3 : w.cell? ⟨b, 103, none⟩ = some v) (hL : Ptrs w v (u :: L)) (hn : L.length ≤ 1000000) :
    Calls Tryd.prog 67 #[ptr b] w fun e w' => e = .returned (ptr u) ∧ ∃ m, w' = w.drewN m := by
  obtain ⟨g, cap, rfl, h1, _, hc⟩ := hL
  have c0 := hc 0 u rfl
  have hlen : (u :: L).length = L.length + 1 := rfl
  rw [hlen] at h1 h3
  have hpos : (0 : Int) < ((L.length + 1 : Nat) : Int) := by omega
  clear hc hlen
  generalize L.length + 1 = n at *
  go_enter Tryd.func67, Tryd.ntmps67
  go_wp2
  go_ret
  exact ⟨rfl, 0, rfl⟩
set_option maxHeartbeats 1000000 in
theorem down_any (b : Nat) (L : List Nat) (d : Nat) (v : Value) (w : World) (h3 : w.cell? ⟨b, 103, none⟩ = some v) (hL : Ptrs w v (L ++ [d])) (hn : L.length ≤ 1000000) :
    Calls Tryd.prog 66 #[ptr b] w fun e w' => e = .returned (ptr d) ∧ ∃ m, w' = w.drewN m := by
  obtain ⟨g, cap, rfl, h1, _, hc⟩ := hL
  have c0 := hc L.length d (by simp)
  have hlen : (L ++ [d]).length = L.length + 1 := by simp
  rw [hlen] at h1 h3
  have hq : ((L.length + 1 : Nat) : Int) - 1 = (L.length : Int) := by omega
  have hw : IntKind.i64.wrap (L.length : Int) = (L.length : Int) := IntWalk.i64_in _ (by omega)
  have hlt : (L.length : Int) < ((L.length + 1 : Nat) : Int) := by omega
  have h0 : (0 : Int) ≤ (L.length : Int) := by omega
  have ht : ((L.length : Nat) : Int).toNat = L.length := rfl
  clear hc hlen
  generalize hm : L.length + 1 = n at *
  generalize hk : L.length = k at *
  have Hd3 : ∀ m, (w.drewN m).cell? ⟨b, 103, none⟩ = some (.slice (some ⟨g, 0, none⟩) n cap) := fun _ => h3
  have Hd0 : ∀ m, (w.drewN m).cell? ⟨g, k, none⟩ = some (ptr d) := fun _ => c0
  clear hm hk h3 c0
  go_enter Tryd.func66, Tryd.ntmps66
  go_wp2
  go_quiet (fail)
  go_wp2
  go_ret
  exact ⟨rfl, _, rfl⟩
end Go.Proofs.YtnjeppmpnaemlaaDoor.Grf
/- DERIVED. A region that draws its order, by an invariant over what has come up already. -/
namespace Go.Proofs.YtnjeppmpnaemlaaDoor
theorem filter_more (xs : List Nat) (p q : Nat → Bool) (h : ∀ j, q j = true → p j = true) : (xs.filter q).length ≤ (xs.filter p).length := by
  induction xs with
  | nil => simp
  | cons x xs ih =>
    cases hq : q x
    · cases hp : p x <;> simp [hq, hp] <;> omega
    · have hp := h x hq
      simp [hq, hp]; exact ih
theorem filter_less (xs : List Nat) (p q : Nat → Bool) (h : ∀ j, q j = true → p j = true) (i : Nat) (hi : i ∈ xs) (hp : p i = true) (hq : q i = false) : (xs.filter q).length < (xs.filter p).length := by
  induction xs with
  | nil => cases hi
  | cons x xs ih =>
    by_cases e : x = i
    · subst e
      have := filter_more xs p q h
      simp [hq, hp]; omega
    · have := ih (by simpa [Ne.symm e] using hi)
      cases hq' : q x
      · cases hp' : p x <;> simp [hq', hp'] <;> omega
      · have hp' := h x hq'
        simp [hq', hp']; exact this
section
variable {P : Program} {ops : Array Oper} {Q : Exit → Act → World → Prop} {md : Region.Mode}
/-- every operation waits for earlier ones alone (of the edges that bind). -/
def backB (md : Region.Mode) (ops : Array Oper) : Bool := (List.range ops.size).all fun i => ((ops[i]?).map fun o => o.after.all fun e => !Region.binds md e || decide (e.on < i)).getD true
/-- operation i waits for j. -/
def waitsB (md : Region.Mode) (ops : Array Oper) (i j : Nat) : Bool := ((ops[i]?).map fun o => o.after.any fun e => Region.binds md e && e.on == j).getD false
def unlisted (n : Nat) (l : Array Bool) : Nat := ((List.range n).filter fun i => !l.getD i true).length
theorem ready_lt {l : Array Bool} {i : Nat} (h : i ∈ Region.ready md ops l) : i < ops.size := by
  obtain ⟨_, o, ho, _⟩ := mem_ready.1 h
  exact (Array.getElem?_eq_some_iff.1 ho).1
theorem ready_pred {l : Array Bool} {i : Nat} (h : i ∈ Region.ready md ops l) (j : Nat) (hw : waitsB md ops i j = true) : l.getD j false = true := by
  obtain ⟨_, o, ho, hall⟩ := mem_ready.1 h
  simp only [waitsB, ho, Option.map_some, Option.getD_some, Array.any_eq_true', Bool.and_eq_true, beq_iff_eq] at hw
  obtain ⟨e, he, hb, rfl⟩ := hw
  exact hall e he hb
theorem all_listed {l : Array Bool} (hs : l.size = ops.size) (hb : backB md ops = true) (h : Region.ready md ops l = []) : ∀ i, i < ops.size → l.getD i false = true := by
  intro i
  induction i using Nat.strongRecOn with
  | ind i ih =>
    intro hi
    cases hl : l.getD i false with
    | true => rfl
    | false =>
      have hb' := List.all_eq_true.1 hb i (List.mem_range.2 hi)
      have ho : ops[i]? = some ops[i] := Array.getElem?_eq_getElem hi
      rw [ho, Option.map_some, Option.getD_some] at hb'
      have hm : i ∈ Region.ready md ops l := by
        refine mem_ready.2 ⟨?_, _, ho, fun e he hbd => ?_⟩
        · rw [← hl]
          simp only [Array.getD_eq_getD_getElem?]
          rw [Array.getElem?_eq_getElem (by omega)]
          rfl
        · have := Array.all_eq_true_iff_forall_mem.1 hb' e he
          have hlt : e.on < i := by
            have h2 : Region.binds md e = false ∨ e.on < i := by simpa using this
            exact h2.resolve_left (by rw [hbd]; decide)
          exact ih _ hlt (by omega)
      rw [h] at hm
      cases hm
theorem getD_un {l : Array Bool} {i : Nat} (h : l.getD i true = false) : l.getD i false = false := by
  rw [Array.getD_eq_getD_getElem?] at h ⊢
  cases e : l[i]? with
  | none => rfl
  | some b => rw [e] at h; exact h
theorem wpAny_inv (I : Array Bool → Act → World → Prop) (hs : ∀ l a w, I l a w → l.size = ops.size) (hb : backB md ops = true)
    (hfin : ∀ l a w, I l a w → (∀ i, i < ops.size → l.getD i false = true) → Q .normal a w)
    (hstep : ∀ l a w i, I l a w → i < ops.size → l.getD i false = false → (∀ j, waitsB md ops i j = true → l.getD j false = true) → wpOp P ops Q i (I (l.setIfInBounds i true)) a w) :
    ∀ (fuel : Nat) (l : Array Bool) (a : Act) (w : World), unlisted ops.size l ≤ fuel → I l a w → wpAny P md ops Q fuel l a w := by
  intro fuel
  induction fuel with
  | zero =>
    intro l a w hu h
    have hr : Region.ready md ops l = [] := by
      cases he : Region.ready md ops l with
      | nil => rfl
      | cons i rest =>
        have hm : i ∈ Region.ready md ops l := by rw [he]; exact List.mem_cons_self ..
        have hlt := ready_lt hm
        have h0 := (mem_ready.1 hm).1
        have : i ∈ (List.range ops.size).filter fun i => !l.getD i true := List.mem_filter.2 ⟨List.mem_range.2 hlt, by simp only [h0]; rfl⟩
        have := List.length_pos_of_mem this
        unfold unlisted at hu
        omega
    exact ⟨hr, hfin l a w h (all_listed (hs l a w h) hb hr)⟩
  | succ fuel ih =>
    intro l a w hu h
    refine ⟨fun hr => hfin l a w h (all_listed (hs l a w h) hb hr), fun i hi => ?_⟩
    have hlt := ready_lt hi
    have h0 := (mem_ready.1 hi).1
    refine wpOp_mono (fun a' w' h' => ih _ _ _ ?_ h') (hstep l a w i h hlt (getD_un h0) (ready_pred hi))
    have hl := hs l a w h
    have : unlisted ops.size (l.setIfInBounds i true) < unlisted ops.size l := by
      unfold unlisted
      refine filter_less _ _ _ (fun j hj => ?_) i (List.mem_range.2 hlt) (by simp only [h0]; rfl) ?_
      · by_cases e : i = j
        · subst e
          simp [hl, hlt] at hj
        · rw [getD_set_ne true e] at hj; exact hj
      · simp [hl, hlt]
    omega
theorem unlisted_none (n : Nat) : unlisted n (Array.replicate n false) ≤ n := by
  unfold unlisted
  have := List.length_filter_le (fun i => !(Array.replicate n false).getD i true) (List.range n)
  simpa using this
/-- what an entry tells behind one more. -/
theorem getD_listed {l : Array Bool} {i j : Nat} (h : (l.setIfInBounds i true).getD j false = true) : j = i ∨ l.getD j false = true := by
  by_cases e : i = j
  · exact .inl e.symm
  · rw [getD_set_ne false e] at h; exact .inr h
end
section
variable {P : Program} {ops : Array Oper} {Q : Exit → Act → World → Prop}
theorem wpOp_plain {i : Nat} {o : Oper} {K : Act → World → Prop} {a : Act} {w : World} (ho : ops[i]? = some o) (hg : o.guard = none) (h : Oper.wp P o a w K Q) : wpOp P ops Q i K a w :=
  wpOp_step ho (fun K' hK' => by rw [if_pos (by simp [Region.wanted, hg])]; exact Oper.wp_mono hK' h)
end
end Go.Proofs.YtnjeppmpnaemlaaDoor
/- DERIVED. A region that draws its order and whose operations each yield one value, whenever they come up: what its slots hold, by what has come up. -/
namespace Go.Proofs.YtnjeppmpnaemlaaDoor
/-- a frame's slots, one of them written. -/
def upd (s : Nat → Value) (d : Nat) (v : Value) : Nat → Value := fun x => if x = d then v else s x
/-- what has come up has yielded its value; an operation with no value of its own: none. -/
def Holding (dsts : List Nat) (vl : List (Option Value)) (l : Array Bool) (s : Nat → Value) : Prop := ∀ j v, l.getD j false = true → vl.getD j none = some v → s (dsts.getD j 0) = v
/-- no two operations write one slot. -/
def apartB (dsts : List Nat) : Bool := (List.range dsts.length).all fun i => (List.range dsts.length).all fun j => i == j || dsts.getD i 0 != dsts.getD j 0
theorem apart_of {dsts : List Nat} (h : apartB dsts = true) {i j : Nat} (hi : i < dsts.length) (hj : j < dsts.length) (e : dsts.getD j 0 = dsts.getD i 0) : j = i := by
  have := List.all_eq_true.1 (List.all_eq_true.1 h j (List.mem_range.2 hj)) i (List.mem_range.2 hi)
  simp only [Bool.or_eq_true, beq_iff_eq, bne_iff_ne, ne_eq] at this
  exact this.resolve_right (fun hn => hn e)
theorem Holding.start {dsts : List Nat} {vl : List (Option Value)} {n : Nat} {s : Nat → Value} : Holding dsts vl (Array.replicate n false) s := fun j v h => by
  by_cases hj : j < n
  · simp [Array.getD_eq_getD_getElem?, hj] at h
  · simp [Array.getD_eq_getD_getElem?, hj] at h
theorem Holding.next {dsts : List Nat} {vl : List (Option Value)} {l : Array Bool} {s : Nat → Value} (h : Holding dsts vl l s) (hd : apartB dsts = true) (hs : l.size = dsts.length) (i : Nat) (hi : i < dsts.length) (v : Value) (hv : ∀ v', vl.getD i none = some v' → v = v') :
    Holding dsts vl (l.setIfInBounds i true) (upd s (dsts.getD i 0) v) := fun j v' hl hj => by
  by_cases e : j = i
  · subst e
    unfold upd
    rw [if_pos rfl]
    exact hv v' hj
  · have hl' := (getD_listed hl).resolve_left e
    have hjn : j < dsts.length := by
      by_cases hj' : j < dsts.length
      · exact hj'
      · rw [Array.getD_eq_getD_getElem?, Array.getElem?_eq_none (by omega)] at hl'
        cases hl'
    unfold upd
    rw [if_neg]
    · exact h j v' hl' hj
    · intro he
      exact e (apart_of hd hi hjn he)
theorem Holding.pass {dsts : List Nat} {vl : List (Option Value)} {l : Array Bool} {s : Nat → Value} (h : Holding dsts vl l s) (i : Nat) (hv : vl.getD i none = none) : Holding dsts vl (l.setIfInBounds i true) s := fun j v' hl hj => by
  by_cases e : j = i
  · subst e; rw [hv] at hj; cases hj
  · exact h j v' ((getD_listed hl).resolve_left e) hj
end Go.Proofs.YtnjeppmpnaemlaaDoor
/- DERIVED. A region that draws its order and holds one call, what comes ahead of it and behind it being pure. -/
namespace Go.Proofs.YtnjeppmpnaemlaaDoor
section
variable {P : Program} {ops : Array Oper} {Q : Exit → Act → World → Prop} {md : Region.Mode}
/-- what has come up has come behind all that it waits for. -/
def Closed (md : Region.Mode) (ops : Array Oper) (l : Array Bool) : Prop := ∀ i j, l.getD i false = true → waitsB md ops i j = true → l.getD j false = true
theorem Closed.next {l : Array Bool} (h : Closed md ops l) (i : Nat) (hw : ∀ j, waitsB md ops i j = true → l.getD j false = true) : Closed md ops (l.setIfInBounds i true) := fun k j hk hj => by
  rcases getD_listed hk with rfl | hk
  · exact getD_set_true (hw j hj)
  · exact getD_set_true (h k j hk hj)
theorem Closed.none (n : Nat) : Closed md ops (Array.replicate n false) := fun i j h _ => by
  by_cases hi : i < n <;> simp [Array.getD_eq_getD_getElem?, hi] at h
theorem wpAny_inv2 (I : Array Bool → Act → World → Prop) (hs : ∀ l a w, I l a w → l.size = ops.size) (hb : backB md ops = true)
    (hfin : ∀ l a w, I l a w → (∀ i, i < ops.size → l.getD i false = true) → Q .normal a w)
    (hstep : ∀ l a w i, I l a w → Closed md ops l → i < ops.size → l.getD i false = false → (∀ j, waitsB md ops i j = true → l.getD j false = true) → wpOp P ops Q i (I (l.setIfInBounds i true)) a w)
    (n : Nat) (hn : n = ops.size) (a : Act) (w : World) (h0 : I (Array.replicate n false) a w) : wpAny P md ops Q n (Array.replicate n false) a w := by
  subst hn
  refine wpAny_inv (fun l a w => I l a w ∧ Closed md ops l) (fun l a w h => hs l a w h.1) hb (fun l a w h => hfin l a w h.1) ?_ _ _ _ _ (unlisted_none _) ⟨h0, Closed.none _⟩
  intro l a w i h hi hu hw
  exact wpOp_mono (fun a' w' h' => ⟨h', h.2.next i hw⟩) (hstep l a w i h.1 h.2 hi hu hw)
end
theorem Holding.swap {dsts : List Nat} {vl vl' : List (Option Value)} {l : Array Bool} {s : Nat → Value} (h : Holding dsts vl l s) (he : ∀ j, l.getD j false = true → vl'.getD j none = vl.getD j none) : Holding dsts vl' l s := fun j v hl hj => h j v hl (by rw [← he j hl]; exact hj)
/-- the world, by whether the call (operation q of n) has come. -/
structure CI (n q : Nat) (W0 : World) (P : World → Prop) (L : Array Bool) (wx : World) : Prop where
  sz : L.size = n
  bef : L.getD q false = false → wx = W0
  aft : L.getD q false = true → P wx
theorem CI.read {n q : Nat} {W0 : World} {P : World → Prop} {L : Array Bool} {wx : World} (h : CI n q W0 P L wx) (i : Nat) (hi : i ≠ q) : CI n q W0 P (L.setIfInBounds i true) wx :=
  ⟨by simp [h.sz], by rw [getD_set_ne false hi]; exact h.bef, by rw [getD_set_ne false hi]; exact h.aft⟩
theorem CI.call {n q : Nat} {W0 : World} {P P' : World → Prop} {L : Array Bool} {wx wy : World} (h : CI n q W0 P L wx) (hq : q < n) (hp : P' wy) : CI n q W0 P' (L.setIfInBounds q true) wy :=
  ⟨by simp [h.sz], fun hl => by simp [h.sz, hq] at hl, fun _ => hp⟩
theorem not_listed {a b : Bool} (h : a = true → b = true) (hb : b = false) : a = false := by
  cases a with
  | false => rfl
  | true => rw [h rfl] at hb; cases hb
end Go.Proofs.YtnjeppmpnaemlaaDoor
/- DERIVED. A slice that reads as bytes, as one word; what regions by invariants want. -/
namespace Go.Proofs.YtnjeppmpnaemlaaDoor
open Go.RowKit
def SlB (L : List Int) (v : Value) (w : World) : Prop := ∃ A c, v = .slice A L.length c ∧ Byt w A c L
theorem SlB.later {L : List Int} {v : Value} {w w' : World} (h : SlB L v w) (hb : Below w.heap.size w w') : SlB L v w' := by
  obtain ⟨A, c, e, b⟩ := h
  exact ⟨A, c, e, b.below hb (Nat.le_refl _)⟩
theorem SlB.at {L : List Int} {v : Value} {B : Nat} {w w' : World} (h : SlB L v w) (hb : Below B w w') (hB : w.heap.size ≤ B) : SlB L v w' := h.later (hb.mono hB)
/-- what holds of a value and the world as soon as an operation has come. -/
def Whn (l : Array Bool) (i : Nat) (p : Value → World → Prop) (v : Value) (w : World) : Prop := l.getD i false = true → p v w
theorem Whn.get {l : Array Bool} {i : Nat} {p : Value → World → Prop} {v : Value} {w : World} (h : Whn l i p v w) (hl : l.getD i false = true) : p v w := h hl
theorem Whn.keep {l : Array Bool} {i k : Nat} {p : Value → World → Prop} {v : Value} {w : World} (h : Whn l i p v w) (hne : i ≠ k) : Whn (l.setIfInBounds k true) i p v w := fun hl => h ((getD_listed hl).resolve_left hne)
theorem Whn.map {l : Array Bool} {i : Nat} {p : Value → World → Prop} {v : Value} {w w' : World} (h : Whn l i p v w) (f : p v w → p v w') : Whn l i p v w' := fun hl => f (h hl)
theorem Whn.done {l : Array Bool} {i : Nat} {p : Value → World → Prop} {v : Value} {w : World} (h : p v w) : Whn l i p v w := fun _ => h
theorem Whn.none {n i : Nat} {p : Value → World → Prop} {v : Value} {w : World} (h : (Array.replicate n false).getD i false = false) : Whn (Array.replicate n false) i p v w := fun hl => by rw [h] at hl; cases hl
theorem lst {l : Array Bool} {i j : Nat} (h : (l.setIfInBounds i true).getD j false = true) (hne : j ≠ i) : l.getD j false = true := (getD_listed h).resolve_left hne
theorem wpOp_want {P : Program} {ops : Array Oper} {Q : Exit → Act → World → Prop} {i : Nat} {o : Oper} {K : Act → World → Prop} {a : Act} {w : World} (ho : ops[i]? = some o) (hg : Region.wanted o (yielded ops a.tmps) = true) (h : Oper.wp P o a w K Q) : wpOp P ops Q i K a w :=
  wpOp_step ho (fun K' hK' => by rw [if_pos hg]; exact Oper.wp_mono hK' h)
theorem wpOp_skip {P : Program} {ops : Array Oper} {Q : Exit → Act → World → Prop} {i : Nat} {o : Oper} {K : Act → World → Prop} {a : Act} {w : World} (ho : ops[i]? = some o) (hg : Region.wanted o (yielded ops a.tmps) = false) (h : K (a.put o.dst undef) w) : wpOp P ops Q i K a w :=
  wpOp_step ho (fun K' hK' => by rw [if_neg (by rw [hg]; decide)]; exact hK' _ _ h)
end Go.Proofs.YtnjeppmpnaemlaaDoor
/- DERIVED. What holds from one operation on until another one comes. -/
namespace Go.Proofs.YtnjeppmpnaemlaaDoor
open Go.RowKit
/-- the same as Whn, until another operation comes. -/
def Whu (l : Array Bool) (i q : Nat) (p : Value → World → Prop) (v : Value) (w : World) : Prop := l.getD i false = true → l.getD q false = false → p v w
theorem Whu.get {l : Array Bool} {i q : Nat} {p : Value → World → Prop} {v : Value} {w : World} (h : Whu l i q p v w) (hl : l.getD i false = true) (hq : l.getD q false = false) : p v w := h hl hq
theorem Whu.keep {l : Array Bool} {i q k : Nat} {p : Value → World → Prop} {v : Value} {w : World} (h : Whu l i q p v w) (hne : i ≠ k) : Whu (l.setIfInBounds k true) i q p v w := fun hl hq => h ((getD_listed hl).resolve_left hne) (by
  cases e : l.getD q false with
  | false => rfl
  | true => rw [getD_set_true e] at hq; cases hq)
theorem Whu.map {l : Array Bool} {i q : Nat} {p : Value → World → Prop} {v : Value} {w w' : World} (h : Whu l i q p v w) (f : p v w → p v w') : Whu l i q p v w' := fun hl hq => f (h hl hq)
theorem Whu.done {l : Array Bool} {i q : Nat} {p : Value → World → Prop} {v : Value} {w : World} (h : p v w) : Whu l i q p v w := fun _ _ => h
theorem Whu.none {n i q : Nat} {p : Value → World → Prop} {v : Value} {w : World} (h : (Array.replicate n false).getD i false = false) : Whu (Array.replicate n false) i q p v w := fun hl => by rw [h] at hl; cases hl
theorem Whu.past {l : Array Bool} {i q : Nat} {p : Value → World → Prop} {v : Value} {w : World} (hq : q < l.size) : Whu (l.setIfInBounds q true) i q p v w := fun _ h => by
  simp [hq] at h
theorem Whu.gone {l : Array Bool} {i q k : Nat} {p : Value → World → Prop} {v : Value} {w : World} (h : l.getD q false = true) : Whu (l.setIfInBounds k true) i q p v w := fun _ hq => by rw [getD_set_true h] at hq; cases hq
theorem Whn.never {l : Array Bool} {i k : Nat} {p : Value → World → Prop} {v : Value} {w : World} (hne : i ≠ k) (h : l.getD i false = true → l.getD k false = true) (hu : l.getD k false = false) : Whn (l.setIfInBounds k true) i p v w := fun hl => by
  have := h ((getD_listed hl).resolve_left hne)
  rw [this] at hu
  cases hu
end Go.Proofs.YtnjeppmpnaemlaaDoor
