/- DERIVED. A parameter []string, opened; append([]string{}, l...). -/
import Derived.Test.YtnpbogioehpeoaaLnsRow
import Derived.SliceStrings
import Derived.ProofKit
import Derived.OpenShut
import Derived.SizedLaws
import Derived.Laws.AppendOwnNone
namespace Go.Proofs.Ytnpbogioehpeoaa.Lns
open Go.ChangeShapes Go.WideShapes Go.ChangeAt Go.RowKit
theorem cellsStr : Try.prog.cellsOf 9 = 1 := by kernel_rfl
theorem weightsAll_mem {H : Type} {P : Program} {e : TypeId} : ∀ {l : List (DataW H)} {d : DataW H}, d ∈ l → ∀ n ∈ d.weights P e, n ∈ DataW.weightsAll P e l
  | d' :: r, d, hd, n, hn => by
    simp only [DataW.weightsAll, List.mem_append]
    rcases List.mem_cons.1 hd with rfl | h
    · exact Or.inl hn
    · exact Or.inr (weightsAll_mem h n hn)
/-- how long the texts of a slice among the arguments may be. -/
theorem strs_sized {H : Type} {P : Program} {ts : List TypeId} {ds : List (DataW H)} (h : (DataW.weightsEach P ts ds).all (· ≤ reachBytes) = true) {j : Nat} {t e : TypeId} {ss : List ByteArray} {sp : List (DataW H)}
    (ht : ts[j]? = some t) (hd : ds[j]? = some (.slice (strs ss) sp)) (hu : P.underlying t = some (.slice e)) (hb : 1 ≤ P.bytesOf e) : ss.length ≤ 140737488355328 ∧ ∀ x ∈ ss, x.size ≤ 140737488355328 := by
  have hr : reachBytes ≤ 140737488355328 := by decide
  constructor
  · have := sized_slice h ht hd hu
    have hl : (strs (H := H) ss).length = ss.length := by simp [strs]
    rw [hl] at this
    have : ss.length * 1 ≤ (ss.length + sp.length) * P.bytesOf e := Nat.mul_le_mul (by omega) hb
    omega
  · intro x hx
    have hm : (DataW.lit (.string x.data.toList) : DataW H) ∈ strs ss := List.mem_map.2 ⟨x, hx, rfl⟩
    have := of_decide_eq_true (List.all_eq_true.1 h _ (DataW.weights_mem_each ht hd x.data.toList.length (by
      simp only [DataW.weights, hu, List.mem_cons, List.mem_append]
      exact Or.inr (Or.inl (weightsAll_mem hm _ (by simp [DataW.weights]))))))
    rw [← Lib.size_eq] at this
    omega
/-- a parameter []string. -/
theorem open_strs {H : Type} {enc : TypeId × Value → H} {W : World} {base : Nat} {v : Value} {d : DataW H} {p : List MemPlace} (hv : Value.okWide Try.prog W .any base 22 v)
    (h : DataW.Trod enc Try.prog W 0 (fun _ => true) true 22 v d p) : ∃ L : List ByteArray, RdT L v W ∧ (∀ n c, v = .slice none n c → c = 0) ∧ (L = [] ∨ ∃ sp, d = .slice (strs L) sp) := by
  obtain ⟨a0, len0, cap0, rfl⟩ := okWide_slice Try.underlying22 hv
  obtain ⟨fuel, hf⟩ := h
  rcases open_strings Try.underlying22 Try.underlying9 cellsStr hf with ⟨hcs, _⟩ | ⟨a, len, cap, ss, hcs, _, hl, hm, hz, hx, hcell, hsz⟩
  · simp [Value.cells] at hcs
    obtain ⟨rfl, rfl, rfl⟩ := hcs
    exact ⟨[], RdT.none W, fun n c e => by cases e; rfl, .inl rfl⟩
  · simp [Value.cells] at hcs
    obtain ⟨rfl, rfl, rfl⟩ := hcs
    simp only [if_true] at hz
    have hlen : (ss.take len0).length = len0 := by simp; omega
    refine ⟨ss.take len0, ⟨some a, cap0, by rw [hlen], by rw [hlen]; exact hl, fun h0 => ?_⟩, (fun n c e => by cases e), .inr ⟨_, congrArg Prod.fst hx⟩⟩
    rw [hlen] at h0
    obtain ⟨b, off, spot⟩ := a
    have hspot : spot = none := by simpa [Addr.add] using World.cell?_spot (hcell 0 (by omega))
    subst hspot
    refine ⟨b, off, rfl, ?_, fun j hj => ?_⟩
    · have := World.block_lt_of_cell? W _ (hcell 0 (by omega))
      simpa [Addr.add] using this
    · rw [hlen] at hj
      rw [← Addr.add_mid, hcell j (by omega)]
      simp [nth, List.getD_eq_getElem?_getD, hj]
theorem own_emptyT (w : World) : OwnT w.heap.size [] (.slice (some ⟨w.heap.size, 0, none⟩) 0 0) (w.alloc (.cells #[] 9)) :=
  ⟨rfl, .inr ⟨w.heap.size, 0, #[], rfl, Nat.le_refl _, Go.heap_alloc_new w _, Nat.le_refl _, Nat.zero_le _, rfl, rfl⟩⟩
/-- append([]string{}, l...): a row of one's own that reads as l. -/
theorem wpList_append_txts {w : World} {ops : Array Oper} {rest : List Oper} {o : Oper} {a : Act} {Q : Exit → Act → World → Prop} (hgd : o.guard = none) (s x : Operand)
    (ho : o.op = .call { callee := .builtin .append, args := #[s, x], argTypes := #[22, 22] }) (base : Nat) (v : Value) (hs : a.eval s = v) (hown : OwnT base [] v w)
    (A : Option Addr) (m c : Nat) (M : List ByteArray) (hx : a.eval x = .slice A m c) (hm : m = M.length) (hB : RdT M (.slice A m c) w) (hnil : A = none → c = 0) (h63 : m ≤ 100000) (hbase : base ≤ w.heap.size)
    (h : ∀ v' w', OwnT base M v' w' → (∀ u, Below base u w → Below base u w') → wpList Try.prog ops Q rest (a.put o.dst v') w') : wpList Try.prog ops Q (o :: rest) a w := by
  obtain ⟨i0, hi0, hz00, hz10, hz20⟩ := info_parts infoTz
  obtain ⟨A', c', e, hc, hk⟩ := hB
  cases e
  cases A with
  | none =>
    have hc0 := hnil rfl
    subst hc0
    have hm0 : M.length = 0 := by omega
    obtain rfl : M = [] := List.eq_nil_of_length_eq_zero hm0
    refine wpList_append_own_none hgd s x 22 ho base 9 i0 1 Try.underlying22 hi0 v 0 [] hs hown hx ?_
    exact h v w hown (fun _ h => h)
  | some ad =>
    refine wpList_append_own_at _ hgd s x 22 ho base 9 i0 (.string ByteArray.empty) 1 16 Try.underlying22 hi0 hz00 hz10 hz20 rfl (by decide) v 0 [] hs hown ad M.length c (M.map Value.string) hx (by rw [List.length_map]; omega)
      (fun j u hu => ?_) (fun u hu => ?_) (by unfold maxLen; omega) (by omega) hbase ?_
    · have hj : j < M.length := by have := (List.getElem?_eq_some_iff.1 hu).1; rwa [List.length_map] at this
      obtain ⟨g, off, e, _, hcell⟩ := hk (by omega)
      cases e
      rw [Addr.add_mid, hcell j hj]
      rw [List.getElem?_map, List.getElem?_eq_getElem hj] at hu
      rw [nth_lt hj]
      exact hu
    · obtain ⟨y, _, rfl⟩ := List.mem_map.1 hu
      rfl
    · intro v' w' hown' hgrow _ _
      rw [List.nil_append, Nat.zero_add] at hown'
      exact h v' w' hown' (fun u hu => hu.grown hgrow hbase (fun k hk => (hown.lt k hk).1))
end Go.Proofs.Ytnpbogioehpeoaa.Lns
