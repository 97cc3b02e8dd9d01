/- DERIVED. The walk of MyersLeft. -/
import Derived.Test.YtnpbogioehpeoaaMyrKept
namespace Go.Proofs.Ytnpbogioehpeoaa.Myr
open Go.RowKit Lns
theorem wpList_append_txt2 {w : World} {ops : Array Oper} {rest : List Oper} {o : Oper} {a : Act} {Q : Exit → Act → World → Prop} (hgd : o.guard = none) (s y : Operand)
    (ho : o.op = .call { callee := .builtin .append, args := #[s, y], argTypes := #[22, 22] }) (base : Nat) (v : Value) (L : List ByteArray) (x : ByteArray) (hs : a.eval s = v) (hown : OwnT base L v w)
    (hy : a.eval y = .slice (some ⟨w.heap.size, 0, none⟩) 1 1) (h63 : L.length ≤ 100000) (hbase : base ≤ w.heap.size)
    (h : ∀ v' w', OwnT base (L ++ [x]) v' w' → w.grownBy w' v.ownBlock → (v'.ownBlock = v.ownBlock ∨ v'.ownBlock = some (w.heap.size + 1)) → wpList Try.prog ops Q rest (a.put o.dst v') w') : wpList Try.prog ops Q (o :: rest) a (w.alloc (.cells #[.string x] 9)) := by
  obtain ⟨i0, hi0, hz00, hz10, hz20⟩ := info_parts infoTz
  refine wpList_append_own_at _ hgd s y 22 ho base 9 i0 (.string ByteArray.empty) 1 16 Try.underlying22 hi0 hz00 hz10 hz20 rfl (by decide) v L.length (L.map Value.string) hs (hown.alloc _) ⟨w.heap.size, 0, none⟩ 1 1 [.string x] hy rfl
    (fun j u hu => ?_) (fun u hu => ?_) (by unfold maxLen; omega) (by omega) (by rw [World.size_alloc]; omega) ?_
  · have hg : (w.alloc (.cells #[.string x] 9)).heap[w.heap.size]? = some (.cells #[.string x] 9 (0, 0)) := heap_alloc_new _ _
    rw [Addr.add_mid, Nat.zero_add, cell_row hg]
    simpa using hu
  · simp only [List.mem_cons, List.mem_nil_iff, or_false] at hu
    subst hu; rfl
  · intro v' w' hown' hgrow _ hloc
    refine h v' w' ?_ ((World.grownBy_alloc w _ _).trans hgrow) (by rw [World.size_alloc] at hloc; exact hloc)
    unfold OwnT
    rw [List.length_append, List.map_append]
    exact hown'
def keepA (a : List ByteArray) (S : List Sti) : List ByteArray := (S.filter fun s => s.1 ≠ 2).map fun s => nth a s.2.1.toNat
def keepB (b : List ByteArray) (S : List Sti) : List ByteArray := (S.filter fun s => s.1 ≠ 1).map fun s => nth b s.2.2.toNat
theorem keepA_yes {a : List ByteArray} {S : List Sti} {k : Nat} (h : k < S.length) (e : (sth S k).1 ≠ 2) : keepA a (S.take (k + 1)) = keepA a (S.take k) ++ [nth a (sth S k).2.1.toNat] := by
  unfold keepA; rw [takeS h, List.filter_append, List.map_append]; simp [e]
theorem keepA_no {a : List ByteArray} {S : List Sti} {k : Nat} (h : k < S.length) (e : (sth S k).1 = 2) : keepA a (S.take (k + 1)) = keepA a (S.take k) := by
  unfold keepA; rw [takeS h, List.filter_append, List.map_append]; simp [e]
theorem keepB_yes {b : List ByteArray} {S : List Sti} {k : Nat} (h : k < S.length) (e : (sth S k).1 ≠ 1) : keepB b (S.take (k + 1)) = keepB b (S.take k) ++ [nth b (sth S k).2.2.toNat] := by
  unfold keepB; rw [takeS h, List.filter_append, List.map_append]; simp [e]
theorem keepB_no {b : List ByteArray} {S : List Sti} {k : Nat} (h : k < S.length) (e : (sth S k).1 = 1) : keepB b (S.take (k + 1)) = keepB b (S.take k) := by
  unfold keepB; rw [takeS h, List.filter_append, List.map_append]; simp [e]
theorem keepA_len (a : List ByteArray) (S : List Sti) : (keepA a S).length ≤ S.length := by unfold keepA; rw [List.length_map]; exact List.length_filter_le _ _
theorem keepB_len (a : List ByteArray) (S : List Sti) : (keepB a S).length ≤ S.length := by unfold keepB; rw [List.length_map]; exact List.length_filter_le _ _
theorem nth_range (a : List ByteArray) : (List.range' 0 a.length).map (nth a) = a := by
  apply List.ext_getElem
  · simp
  · intro i h1 h2
    simp only [List.getElem_map, List.getElem_range', Nat.zero_add, Nat.one_mul]
    exact nth_lt h2
theorem keepA_sel (a b : List ByteArray) : keepA a ((sel a b).map up) = a := by
  have h := (sel_left (a.length + b.length) a b 0 0 (Nat.le_refl _)).1
  have e : keepA a ((sel a b).map up) = (leftA (sel a b)).map (nth a) := by
    unfold keepA leftA
    rw [List.filter_map, List.map_map, List.map_map]
    have : (List.filter ((fun s => decide (s.1 ≠ 2)) ∘ up) (sel a b)) = List.filter (fun x => decide (x.1 ≠ 2)) (sel a b) := List.filter_congr fun s _ => by simp only [Function.comp, up]; exact decide_eq_decide.2 (by omega)
    rw [this]
    rfl
  rw [e, sel, h, nth_range]
theorem keepB_sel (a b : List ByteArray) : keepB b ((sel a b).map up) = b := by
  have h := (sel_left (a.length + b.length) a b 0 0 (Nat.le_refl _)).2
  have e : keepB b ((sel a b).map up) = (leftB (sel a b)).map (nth b) := by
    unfold keepB leftB
    rw [List.filter_map, List.map_map, List.map_map]
    have : (List.filter ((fun s => decide (s.1 ≠ 1)) ∘ up) (sel a b)) = List.filter (fun x => decide (x.1 ≠ 1)) (sel a b) := List.filter_congr fun s _ => by simp only [Function.comp, up]; exact decide_eq_decide.2 (by omega)
    rw [this]
    rfl
  rw [e, sel, h, nth_range]
/-- each step names places that are there. -/
theorem sel_at {a b : List ByteArray} {s : St} (h : s ∈ sel a b) : (s.1 ≠ 2 → s.2.1 < a.length) ∧ (s.1 ≠ 1 → s.2.2 < b.length) := by
  have hl := sel_left (a.length + b.length) a b 0 0 (Nat.le_refl _)
  refine ⟨fun e => ?_, fun e => ?_⟩
  · have : s.2.1 ∈ leftA (sel a b) := List.mem_map.2 ⟨s, List.mem_filter.2 ⟨h, by simpa using e⟩, rfl⟩
    rw [sel, hl.1, List.mem_range'_1] at this
    omega
  · have : s.2.2 ∈ leftB (sel a b) := List.mem_map.2 ⟨s, List.mem_filter.2 ⟨h, by simpa using e⟩, rfl⟩
    rw [sel, hl.2, List.mem_range'_1] at this
    omega
theorem sth_up {a b : List ByteArray} {k : Nat} (h : k < ((sel a b).map up).length) : ∃ s ∈ sel a b, sth ((sel a b).map up) k = up s := by
  rw [List.length_map] at h
  exact ⟨(sel a b)[k], List.getElem_mem h, by rw [sth_lt (by rw [List.length_map]; exact h), List.getElem_map]⟩
/-- the two lists so far, in rows of the call's own that lie apart. -/
structure LI (w1 : World) (a b : List ByteArray) (S : List Sti) (k : Nat) (x y : Value) (wr : World) : Prop where
  ox : OwnT w1.heap.size (keepA a (S.take k)) x wr
  oy : OwnT w1.heap.size (keepB b (S.take k)) y wr
  ap : ∀ q, x.ownBlock = some q → y.ownBlock ≠ some q
  low : Below w1.heap.size w1 wr
/-- the same within a round: the step in its box, the lists at kx and ky. -/
structure L5 (w1 : World) (a b : List ByteArray) (S : List Sti) (s : Sti) (g0 kx ky : Nat) (x y : Value) (wr : World) : Prop where
  ox : OwnT w1.heap.size (keepA a (S.take kx)) x wr
  oy : OwnT w1.heap.size (keepB b (S.take ky)) y wr
  ap : ∀ q, x.ownBlock = some q → y.ownBlock ≠ some q
  low : Below w1.heap.size w1 wr
  box : wr.heap[g0]? = some (.cells #[.int .i64 s.1, .int .i64 s.2.1, .int .i64 s.2.2] 43 (0, 0))
  gx : x.ownBlock ≠ some g0
  gy : y.ownBlock ≠ some g0
theorem LI.box {w1 wr : World} {a b : List ByteArray} {S : List Sti} {k : Nat} {x y : Value} (h : LI w1 a b S k x y wr) (s : Sti) :
    L5 w1 a b S s wr.heap.size k k x y (wr.alloc (.cells #[.int .i64 s.1, .int .i64 s.2.1, .int .i64 s.2.2] 43)) :=
  ⟨own_alloc h.ox _, own_alloc h.oy _, h.ap, h.low.alloc h.low.size _, heap_alloc_new _ _, fun e => by have := (h.ox.lt _ e).2; omega, fun e => by have := (h.oy.lt _ e).2; omega⟩
theorem L5.done {w1 wr : World} {a b : List ByteArray} {S : List Sti} {s : Sti} {g0 k : Nat} {x y : Value} (h : L5 w1 a b S s g0 k k x y wr) : LI w1 a b S k x y wr := ⟨h.ox, h.oy, h.ap, h.low⟩
theorem own_but {w w' : World} {base : Nat} {L : List ByteArray} {v : Value} {row : Option Nat} (h : OwnT base L v w) (hg : w.grownBy w' row) (hne : ∀ q, v.ownBlock = some q → row ≠ some q) : OwnT base L v w' := by
  obtain ⟨h1, h⟩ := h
  refine ⟨h1, ?_⟩
  rcases h with h | ⟨g, cap, cur, e1, h2, h3, h4⟩
  · exact .inl h
  · subst e1
    exact .inr ⟨g, cap, cur, rfl, h2, (hg.block _ (Array.getElem?_eq_some_iff.1 h3).1 (fun e => hne g rfl e.symm)).trans h3, h4⟩
theorem L5.addA {w1 wr w' : World} {a b : List ByteArray} {S : List Sti} {s : Sti} {g0 k ky : Nat} {x y x' : Value} (h : L5 w1 a b S s g0 k ky x y wr) (ho : OwnT w1.heap.size (keepA a (S.take (k + 1))) x' w') (hg : wr.grownBy w' x.ownBlock) (hl : x'.ownBlock = x.ownBlock ∨ x'.ownBlock = some (wr.heap.size + 1)) : L5 w1 a b S s g0 (k + 1) ky x' y w' := by
  have hb := (Array.getElem?_eq_some_iff.1 h.box).1
  have hlow := h.low.size
  refine ⟨ho, own_but h.oy hg (fun q e e2 => h.ap q e2 e), fun q e e2 => ?_, h.low.grown hg hlow (fun j e => (h.ox.lt j e).1), (hg.block _ hb (fun e => h.gx e.symm)).trans h.box, fun e => ?_, h.gy⟩
  · rcases hl with k | k
    · exact h.ap q (k ▸ e) e2
    · rw [k] at e; have := (h.oy.lt _ e2).2; injection e with e; omega
  · rcases hl with k | k
    · exact h.gx (k ▸ e)
    · rw [k] at e; injection e with e; omega
theorem L5.addB {w1 wr w' : World} {a b : List ByteArray} {S : List Sti} {s : Sti} {g0 k kx : Nat} {x y y' : Value} (h : L5 w1 a b S s g0 kx k x y wr) (ho : OwnT w1.heap.size (keepB b (S.take (k + 1))) y' w') (hg : wr.grownBy w' y.ownBlock) (hl : y'.ownBlock = y.ownBlock ∨ y'.ownBlock = some (wr.heap.size + 1)) : L5 w1 a b S s g0 kx (k + 1) x y' w' := by
  have hb := (Array.getElem?_eq_some_iff.1 h.box).1
  have hlow := h.low.size
  refine ⟨own_but h.ox hg (fun q e e2 => h.ap q e e2), ho, fun q e e2 => ?_, h.low.grown hg hlow (fun j e => (h.oy.lt j e).1), (hg.block _ hb (fun e => h.gy e.symm)).trans h.box, h.gx, fun e => ?_⟩
  · rcases hl with k | k
    · exact h.ap q e (k ▸ e2)
    · rw [k] at e2; have := (h.ox.lt _ e).2; injection e2 with e2; omega
  · rcases hl with k | k
    · exact h.gy (k ▸ e)
    · rw [k] at e; injection e with e; omega
theorem L5.skipA {w1 wr : World} {a b : List ByteArray} {S : List Sti} {s : Sti} {g0 k ky : Nat} {x y : Value} (h : L5 w1 a b S s g0 k ky x y wr) (e : keepA a (S.take (k + 1)) = keepA a (S.take k)) : L5 w1 a b S s g0 (k + 1) ky x y wr := ⟨e ▸ h.ox, h.oy, h.ap, h.low, h.box, h.gx, h.gy⟩
theorem L5.skipB {w1 wr : World} {a b : List ByteArray} {S : List Sti} {s : Sti} {g0 k kx : Nat} {x y : Value} (h : L5 w1 a b S s g0 kx k x y wr) (e : keepB b (S.take (k + 1)) = keepB b (S.take k)) : L5 w1 a b S s g0 kx (k + 1) x y wr := ⟨h.ox, e ▸ h.oy, h.ap, h.low, h.box, h.gx, h.gy⟩
set_option maxRecDepth 100000 in
set_option maxHeartbeats 4000000 in
theorem left_walk (La Lb : List ByteArray) (va vb : Value) (w : World) (hA : RdT La va w) (hB : RdT Lb vb w) : Calls Try.prog 6 #[va, vb] w fun e w' => e = .returned (.bool true) ∧ Below w.heap.size w w' := by
  have HA := Lib.hid hA
  have HB := Lib.hid hB
  clear hA hB
  go_enter Try.func6, Try.ntmps6
  go_wp2_with fail
  refine (cut_any La va w HA.out).mono ?_
  rintro e w1 ⟨v1, rfl, o1, b1⟩
  have hB1 := HB.out.later b1
  go_wp2_with fail
  refine (cut_any Lb vb w1 hB1).mono ?_
  rintro e w2 ⟨v2, rfl, o2, b2⟩
  have R1 := Lib.hid (o1.later b2).rd
  have R2 := Lib.hid o2.rd
  have B2 := Lib.hid (b1.trans (b2.mono b1.size))
  have l1 := cutL_len La
  have l2 := cutL_len Lb
  have z1 : Hid (∀ x ∈ cutL La, x.size ≤ 100000) := fun x hx => by have := cutL_size hx; omega
  have z2 : Hid (∀ x ∈ cutL Lb, x.size ≤ 100000) := fun x hx => by have := cutL_size hx; omega
  generalize cutL La = a at o1 R1 l1 z1
  generalize cutL Lb = b at o2 R2 l2 z2
  clear HA HB hB1 o1 o2 b1 b2
  go_wp2_with fail
  refine (diff_any a b v1 v2 w2 R1.out R2.out (by omega) (by omega) z1.out z2.out).mono ?_
  rintro e w3 ⟨v3, rfl, o3, b3⟩
  have hsl : ((sel a b).map up).length ≤ 120 := by have h := sel_len a b; rw [List.length_map]; omega
  have hsat : Hid (∀ k, k < ((sel a b).map up).length → ((sth ((sel a b).map up) k).1 ≠ 2 → ∃ p : Nat, (sth ((sel a b).map up) k).2.1 = p ∧ p < a.length) ∧ ((sth ((sel a b).map up) k).1 ≠ 1 → ∃ p : Nat, (sth ((sel a b).map up) k).2.2 = p ∧ p < b.length)) := fun k hk => by
    obtain ⟨s, hs, e⟩ := sth_up hk
    rw [e]
    have h := sel_at hs
    exact ⟨fun g => ⟨s.2.1, rfl, h.1 (by simpa [up] using fun q => g (by simp [up, q]))⟩, fun g => ⟨s.2.2, rfl, h.2 (by simpa [up] using fun q => g (by simp [up, q]))⟩⟩
  have hKA := Lib.hid (keepA_sel a b)
  have hKB := Lib.hid (keepB_sel a b)
  have R3 := Lib.hid o3.rd
  have B3 := Lib.hid (B2.out.trans (b3.mono B2.out.size))
  have R1' := Lib.hid (R1.out.later b3)
  have R2' := Lib.hid (R2.out.later b3)
  generalize (sel a b).map up = S at o3 hsl hsat hKA hKB R3
  have Hst : Hid (LI w3 a b S 0 (.slice none 0 0) (.slice none 0 0) w3) := ⟨OwnT.nil _ _, OwnT.nil _ _, (fun q h => by cases h), Below.refl _ _⟩
  obtain ⟨A3, c3, rfl, hc3, hk3⟩ := R3.out
  obtain ⟨N, hN⟩ : ∃ N, N = S.length := ⟨_, rfl⟩
  have HN := Lib.hid hN
  rw [← hN] at hsl ⊢
  have HK3 := Lib.hid hk3
  obtain ⟨A1, cc1, rfl, hcc1, hka⟩ := R1'.out
  obtain ⟨A2, cc2, rfl, hcc2, hkb⟩ := R2'.out
  obtain ⟨n1, hn1⟩ : ∃ n1, n1 = a.length := ⟨_, rfl⟩
  obtain ⟨m, hm⟩ : ∃ m, m = b.length := ⟨_, rfl⟩
  rw [← hn1] at R1' hka ⊢
  rw [← hm] at R2' hkb ⊢
  have HN1 := Lib.hid hn1
  have HM := Lib.hid hm
  have HKA := Lib.hid hka
  have HKB := Lib.hid hkb
  clear R1 R2 B2 z1 z2 o3 b3 R3 hc3 hk3 hN hcc1 hcc2 hka hkb hn1 hm
  go_wp2
  go_loopw [7, 8, 9] (fun x y i wr => ∃ k : Nat, i = .int .i64 k ∧ k ≤ N ∧ Hid (LI w3 a b S k x y wr)) (fun _ _ i _ => N - (intOf i).toNat)
  case atStart => exact ⟨0, rfl, Nat.zero_le _, Hst⟩
  case round =>
    obtain ⟨k, rfl, hk, HI⟩ := hrel
    clear Hst
    by_cases hp : k < N
    · have hpI : (k : Int) < N := by omega
      have hpl : k < S.length := by rw [← HN.out]; exact hp
      obtain ⟨g, off, rfl, hg, hc⟩ := HK3.out (by omega)
      obtain ⟨c0, c1, c2⟩ := hc k hpl
      have c0 := (HI.out.low.cell (p := ⟨g, off + k * 3, none⟩) hg).trans c0
      have c1 := (HI.out.low.cell (p := ⟨g, off + k * 3 + 1, none⟩) hg).trans c1
      have c2 := (HI.out.low.cell (p := ⟨g, off + k * 3 + 2, none⟩) hg).trans c2
      skip
      have H5 := Lib.hid (HI.out.box (sth S k))
      obtain ⟨fA, fB⟩ := hsat.out k hpl
      have kAy := Lib.hid (keepA_yes (a := a) hpl)
      have kAn := Lib.hid (keepA_no (a := a) hpl)
      have kBy := Lib.hid (keepB_yes (b := b) hpl)
      have kBn := Lib.hid (keepB_no (b := b) hpl)
      have hl1 : Hid ((keepA a (S.take k)).length ≤ 100000) := by have h := keepA_len a (S.take k); rw [List.length_take] at h; show _ ≤ 100000; omega
      have hl2 : Hid ((keepB b (S.take k)).length ≤ 100000) := by have h := keepB_len b (S.take k); rw [List.length_take] at h; show _ ≤ 100000; omega
      obtain ⟨g0, hg0⟩ : ∃ g0, g0 = wr.heap.size := ⟨_, rfl⟩
      rw [← hg0] at H5
      have Hg0 := Lib.hid hg0
      obtain ⟨⟨t0, t1, t2⟩, ht⟩ : ∃ t, t = sth S k := ⟨_, rfl⟩
      rw [← ht] at c0 c1 c2 H5 fA fB kAy kAn kBy kBn
      clear ht HI hg0 hc
      dsimp only at c0 c1 c2 H5 fA fB kAy kAn kBy kBn
      go_upto_region 10 with (fail)
      generalize wr.alloc (.cells #[.int .i64 t0, .int .i64 t1, .int .i64 t2] 43) = w5 at H5 ⊢
      rw [← Hg0.out]
      clear c0 c1 c2
      obtain ⟨d0, d1, d2⟩ : w5.cell? ⟨g0, 0, none⟩ = some (.int .i64 t0) ∧ w5.cell? ⟨g0, 1, none⟩ = some (.int .i64 t1) ∧ w5.cell? ⟨g0, 2, none⟩ = some (.int .i64 t2) := ⟨cell_row H5.out.box 0, cell_row H5.out.box 1, cell_row H5.out.box 2⟩
      by_cases h2 : t0 = 2
      · subst h2
        have H6 := Lib.hid (H5.out.skipA (kAn.out rfl))
        obtain ⟨q, rfl, hqb⟩ := fB (by decide)
        rw [← HM.out] at hqb
        obtain ⟨gb, ob, rfl, hgb, hcb⟩ := HKB.out (by omega)
        have cb' := (H6.out.low.cell (p := ⟨gb, ob + q, none⟩) hgb).trans (hcb q hqb)
        have hws : Hid (w3.heap.size ≤ w5.heap.size) := H6.out.low.size
        have hB2 := kBy.out (by decide)
        rw [show ((q : Int)).toNat = q from rfl] at hB2
        have HB2 := Lib.hid hB2
        have q1 : ¬ ((q : Int) < 0) := by omega
        have q2 : ¬ ((m : Int) ≤ q) := by omega
        have q3 : (q : Int) < m := by omega
        clear H5 fA fB kAy kAn kBy kBn hcb hB2
        go_wp2_with (at_builtin; refine wpList_append_txt2 rfl _ _ rfl w3.heap.size u8 (keepB b (S.take k)) (nth b q) rfl H6.out.oy rfl hl2.out hws.out ?_; intro v8 w8 ho8 hg8 hl8; rw [← HB2.out] at ho8; have H8 := Lib.hid (H6.out.addB ho8 hg8 hl8).done; clear ho8 hg8 hl8)
        go_roundw
        case rel => exact ⟨k + 1, by go_num, by omega, H8⟩
        case measure => simp [intOf]; omega
      · have h2b : (t0 == 2) = false := by simpa using h2
        obtain ⟨p, rfl, hpa⟩ := fA h2
        rw [← HN1.out] at hpa
        obtain ⟨ga, oa, rfl, hga, hca⟩ := HKA.out (by omega)
        have ca' := (H5.out.low.cell (p := ⟨ga, oa + p, none⟩) hga).trans (hca p hpa)
        have hws : Hid (w3.heap.size ≤ w5.heap.size) := H5.out.low.size
        have hA2 := kAy.out h2
        rw [show ((p : Int)).toNat = p from rfl] at hA2
        have HA2 := Lib.hid hA2
        have p1 : ¬ ((p : Int) < 0) := by omega
        have p2 : ¬ ((n1 : Int) ≤ p) := by omega
        have p3 : (p : Int) < n1 := by omega
        by_cases h1 : t0 = 1
        · subst h1
          have Hsk := Lib.hid (kBn.out rfl)
          clear fB kAy kAn kBy kBn hca hA2 h2
          go_upto_region 14 with (at_builtin; refine wpList_append_txt2 rfl _ _ rfl w3.heap.size u7 (keepA a (S.take k)) (nth a p) rfl H5.out.ox rfl hl1.out hws.out ?_; intro v8 w8 ho8 hg8 hl8; rw [← HA2.out] at ho8; have H8 := Lib.hid (H5.out.addA ho8 hg8 hl8); clear ho8 hg8 hl8)
          clear d0 d1 d2 ca'
          obtain ⟨d0, d1, d2⟩ : w8.cell? ⟨g0, 0, none⟩ = some (.int .i64 1) ∧ w8.cell? ⟨g0, 1, none⟩ = some (.int .i64 p) ∧ w8.cell? ⟨g0, 2, none⟩ = some (.int .i64 t2) := ⟨cell_row H8.out.box 0, cell_row H8.out.box 1, cell_row H8.out.box 2⟩
          have H9 := Lib.hid (H8.out.skipB Hsk.out).done
          go_wp2
          go_roundw
          case rel => exact ⟨k + 1, by go_num, by omega, H9⟩
          case measure => simp [intOf]; omega
        · have h1b : (t0 == 1) = false := by simpa using h1
          obtain ⟨q, rfl, hqb⟩ := fB h1
          rw [← HM.out] at hqb
          obtain ⟨gb, ob, rfl, hgb, hcb⟩ := HKB.out (by omega)
          have hB2 := kBy.out h1
          rw [show ((q : Int)).toNat = q from rfl] at hB2
          have HB2 := Lib.hid hB2
          have q1 : ¬ ((q : Int) < 0) := by omega
          have q2 : ¬ ((m : Int) ≤ q) := by omega
          have q3 : (q : Int) < m := by omega
          have HCB := Lib.hid (hcb q hqb)
          clear fB kAy kAn kBy kBn hca hA2 h2 h1 hcb hB2
          go_upto_region 14 with (at_builtin; refine wpList_append_txt2 rfl _ _ rfl w3.heap.size u7 (keepA a (S.take k)) (nth a p) rfl H5.out.ox rfl hl1.out hws.out ?_; intro v8 w8 ho8 hg8 hl8; rw [← HA2.out] at ho8; have H8 := Lib.hid (H5.out.addA ho8 hg8 hl8); clear ho8 hg8 hl8)
          clear d0 d1 d2 ca' hws
          obtain ⟨d0, d1, d2⟩ : w8.cell? ⟨g0, 0, none⟩ = some (.int .i64 t0) ∧ w8.cell? ⟨g0, 1, none⟩ = some (.int .i64 p) ∧ w8.cell? ⟨g0, 2, none⟩ = some (.int .i64 q) := ⟨cell_row H8.out.box 0, cell_row H8.out.box 1, cell_row H8.out.box 2⟩
          have hws : Hid (w3.heap.size ≤ w8.heap.size) := H8.out.low.size
          have cb' := (H8.out.low.cell (p := ⟨gb, ob + q, none⟩) hgb).trans HCB.out
          go_wp2_with (at_builtin; refine wpList_append_txt2 rfl _ _ rfl w3.heap.size u8 (keepB b (S.take k)) (nth b q) rfl H8.out.oy rfl hl2.out hws.out ?_; intro v9 w9 ho9 hg9 hl9; rw [← HB2.out] at ho9; have H9 := Lib.hid (H8.out.addB ho9 hg9 hl9).done; clear ho9 hg9 hl9)
          go_roundw
          case rel => exact ⟨k + 1, by go_num, by omega, H9⟩
          case measure => simp [intOf]; omega
    · have hpI : ¬ (k : Int) < N := by omega
      obtain ⟨h1, h2, _, h4⟩ := HI.out
      have e : S.take k = S := List.take_of_length_le (by rw [← HN.out]; omega)
      rw [e, hKA.out] at h1
      rw [e, hKB.out] at h2
      have Q1 := Lib.hid h1.rd
      have Q2 := Lib.hid h2.rd
      have RA := Lib.hid (R1'.out.later h4)
      have RB := Lib.hid (R2'.out.later h4)
      have BB := Lib.hid (B3.out.trans (h4.mono B3.out.size))
      have la : Hid (a.length ≤ 1000000) := by show _ ≤ 1000000; omega
      have lb : Hid (b.length ≤ 1000000) := by show _ ≤ 1000000; omega
      clear h1 h2 h4 e HI
      go_wp2_with fail
      refine (same_any a a u7 _ wr Q1.out RA.out la.out).mono ?_
      rw [decide_eq_true rfl]
      rintro e w5 ⟨rfl, b5⟩
      have BB5 := Lib.hid (BB.out.trans (b5.mono BB.out.size))
      have Q2' := Lib.hid (Q2.out.later b5)
      have RB' := Lib.hid (RB.out.later b5)
      clear b5
      go_wp2_with fail
      refine (same_any b b u8 _ w5 Q2'.out RB'.out lb.out).mono ?_
      rw [decide_eq_true rfl]
      rintro e w6 ⟨rfl, b6⟩
      have BB6 := Lib.hid (BB5.out.trans (b6.mono BB5.out.size))
      clear b6
      go_wp2_with fail
      refine (works_any w6).mono ?_
      rintro e w7 ⟨rfl, b7⟩
      have BB7 := Lib.hid (BB6.out.trans (b7.mono BB6.out.size))
      clear b7
      go_wp2
      go_ret
      exact ⟨rfl, BB7.out⟩
end Go.Proofs.Ytnpbogioehpeoaa.Myr
