/- DERIVED. bytes.Clone of any slice of bytes, nil let in; append to a slice of slices. -/
import Derived.Test.YthjjkbgkfikglaaSltLog
import Derived.Test.YthjjkbgkfikglaaSlUntil
import Derived.Maps.AppendAt
namespace Go.Proofs.Ythjjkbgkfikglaa.Slt
open Go.RowKit Dsk
set_option maxHeartbeats 1000000 in
theorem clone_some {L : List Int} {ad : Addr} {c n : Nat} {w : World} (hB : Byt w (some ad) c L) (hn : L.length = n) (hle : n ≤ 4294967296) :
    Calls Try.prog 28 #[.slice (some ad) n c] w fun e w' => ∃ v', e = .returned v' ∧ w'.ownsRow w.heap.size 5 1 v' n (vals L) ∧ Below w.heap.size w w' := by
  have HB := Lib.hid hB
  have Hn := Lib.hid hn
  have Hle := Lib.hid hle
  have hmade := World.ownsRow_made w (base := w.heap.size) (e := 5) (size := 1) #[] 0 (Nat.le_refl _) (Nat.zero_le _) rfl
  have Hmade := Lib.hid hmade
  have hne := fun (w : World) => Lib.run_eql_slice_nil w 33 5 (some ad) n c 0 0 Try.underlying33
  clear hB hn hmade hle
  go_enter Try.func28, Try.ntmps28
  go_wp2_with (at_builtin; refine wpList_append_any rfl (.tmp 5) (.tmp 6) rfl w.heap.size _ 0 [] rfl Hmade.out (some ad) n c L rfl Hn.out (HB.out.alloc _) (by have := Hle.out; omega) (by rw [World.size_alloc]; omega) ?_; intro v1 w1 hown1 hlow1; have Hown1 := Lib.hid hown1; have Hlow1 := Lib.hid hlow1; clear hown1 hlow1)
  go_ret
  have ho := Hown1.out
  rw [List.nil_append, Nat.zero_add] at ho
  exact ⟨_, rfl, ho, Hlow1.out _ _ ((Below.refl _ _).alloc (Nat.le_refl _) _) (Nat.le_refl _)⟩
theorem clone_none {w : World} : Calls Try.prog 28 #[.slice none 0 0] w fun e w' => ∃ v', e = .returned v' ∧ w'.ownsRow w.heap.size 5 1 v' 0 (vals []) ∧ Below w.heap.size w w' := by
  have hne := fun (w : World) => Lib.run_eql_slice_nil w 33 5 none 0 0 0 0 Try.underlying33
  go_enter Try.func28, Try.ntmps28
  go_wp2
  go_ret
  exact ⟨_, rfl, World.ownsRow_nil w _ _ _, Below.refl _ _⟩
theorem clone_sl {L : List Int} {v : Value} {w : World} (hv : SlB L v w) (hle : L.length ≤ 4294967296) :
    Calls Try.prog 28 #[v] w fun e w' => ∃ v', e = .returned v' ∧ w'.ownsRow w.heap.size 5 1 v' L.length (vals L) ∧ Below w.heap.size w w' := by
  obtain ⟨A, c, rfl, hB⟩ := hv
  cases A with
  | none =>
    have hc := hB.2.1 rfl
    have h1 := hB.1
    subst hc
    obtain rfl : L = [] := List.eq_nil_of_length_eq_zero (by omega)
    exact clone_none
  | some ad => exact clone_some hB rfl hle
theorem info_slz : (Try.prog.info? 33).map (fun i => (i.zero, i.size, i.bytes)) = some (some (.slice none 0 0), 1, 24) := by kernel_rfl
/-- append of one slice to a row of slices. -/
theorem wp_app_sl {w : World} {o : Oper} {a : Act} {K : Act → World → Prop} {Q : Exit → Act → World → Prop} (s y : Operand)
    (ho : o.op = .call { callee := .builtin .append, args := #[s, y], argTypes := #[46, 46] }) (base : Nat) (v : Value) (n : Nat) (xs : List Value) (x : Value) (hx1 : x.oneCell' = true) (hs : a.eval s = v) (hown : w.ownsRow base 33 1 v n xs)
    (g : Nat) (hy : a.eval y = .slice (some ⟨g, 0, none⟩) 1 1) (hg : w.heap[g]? = some (.cells #[x] 33 (0, 0))) (h63 : n ≤ 100000) (hbase : base ≤ w.heap.size)
    (h : ∀ v' w', w'.ownsRow base 33 1 v' (n + 1) (xs ++ [x]) → w.grownBy w' v.ownBlock → (v'.ownBlock = v.ownBlock ∨ v'.ownBlock = some w.heap.size) → K (a.put o.dst v') w') : o.wp Try.prog a w K Q := by
  obtain ⟨i0, hi0, hz00, hz10, hz20⟩ := info_parts info_slz
  obtain ⟨v', w', hr, h2, h3, _, h5⟩ := run_append_own_at (P := Try.prog) w base 46 o.type 33 i0 (.slice none 0 0) 1 24 Try.underlying46 hi0 hz00 hz10 hz20 rfl (by decide) v n xs hown ⟨g, 0, none⟩ 1 1 [x] (by rfl)
    (fun j u hu => by rw [Addr.add_mid, Nat.zero_add, cell_row hg]; simpa using hu) (fun u hu => by simp at hu; subst hu; exact hx1) (by unfold maxLen; omega) (by omega) hbase
  unfold Oper.wp execOp
  simp only [ho, resolve, invoke, builtin, Sem.run_bind, Sem.run_pure, Result.andThen_ok, List.map_toArray, List.map_cons, List.map_nil, hs, hy, hr]
  exact h v' w' h2 h3 h5
theorem chg_grown {w w' : World} {r : Option Nat} (h : w.grownBy w' r) : Chg r.toList w w' :=
  ⟨h.os, h.tape, h.output, h.size, fun k hk hS => h.block k hk (fun e => hS (by rw [← e]; simp))⟩
end Go.Proofs.Ythjjkbgkfikglaa.Slt
