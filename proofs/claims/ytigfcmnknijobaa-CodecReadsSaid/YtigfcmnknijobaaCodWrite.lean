/- DERIVED. The contracts of codec.Num, codec.Text, codec.Hash. -/
import Derived.Test.YtigfcmnknijobaaCodNum
import Derived.Test.YtigfcmnknijobaaStr
namespace Go.Proofs.Ytigfcmnknijobaa.Cod
open Go.RowKit Str
theorem own_base {w : World} {B B' n : Nat} {e : TypeId} {v : Value} {xs : List Value} (h : w.ownsRow B e 1 v n xs) (hb : B' ≤ B) : w.ownsRow B' e 1 v n xs :=
  ⟨h.1, h.2.imp id (by rintro ⟨g, cap, cur, h1, h2, h3⟩; exact ⟨g, cap, cur, h1, Nat.le_trans hb h2, h3⟩)⟩
/-- Concat's row, just built. -/
theorem concat_new (ps : List Part) (m : Nat) (w0 : World) (hm : ps.length = m) (hm5 : m ≤ 1000) (hp : 0 < (catP ps).length) (hle : (catP ps).length ≤ 50000) (hb : ∀ p ∈ ps, Byt w0 p.A p.c p.M) (cs : Array Value) (hcs : cs = (ps.map Part.val).toArray) (g : Nat) (hg : g = w0.heap.size) :
    Calls Try.prog 46 #[.slice (some ⟨g, 0, none⟩) m m] (w0.alloc (.cells cs 22)) fun e' w' => ∃ v, e' = .returned v ∧ w'.ownsRow w0.heap.size 5 1 v (catP ps).length (vals (catP ps)) ∧ Below w0.heap.size w0 w' := by
  subst hcs hg
  refine (concat_any ps w0.heap.size m _ hm hm5 hp hle (fun j h => ?_) (fun j h => (hb _ (List.getElem_mem h)).alloc _)).mono ?_
  · rw [cell_row (Go.heap_alloc_new w0 _)]
    simp [h]
  · rintro e' w' ⟨c, rfl, own, low⟩
    have hs : (w0.alloc (.cells (ps.map Part.val).toArray 22)).heap.size = w0.heap.size + 1 := by rw [World.size_alloc]
    exact ⟨_, rfl, own_base own (by omega), ((Below.refl _ _).alloc (Nat.le_refl _) _).trans (low.mono (by omega))⟩
set_option maxRecDepth 100000 in
set_option maxHeartbeats 1000000 in
theorem num_any (A : Option Addr) (x c n : Nat) (L : List Int) (hn : n < 18446744073709551616) (hx : L.length = x) (hle : x ≤ 40000) (w : World) (hB : Byt w A c L) :
    Calls Try.prog 25 #[.slice A x c, .int .u64 (n : Nat)] w fun e w' => ∃ v, e = .returned v ∧ w'.ownsRow w.heap.size 5 1 v (L ++ encN n).length (vals (L ++ encN n)) ∧ Below w.heap.size w w' := by
  have Hn := Lib.hid hn
  have Hx := Lib.hid hx
  have HB := Lib.hid hB
  clear hn hx hB
  go_enter Try.func25, Try.ntmps25
  go_wp2_with (first
    | (go_at_call 46; refine (concat_new [⟨A, c, L⟩, ⟨A1, c1, encN n⟩] 2 w1 rfl (by omega) (by have := encN_pos n; simp [catP]; omega) (by have := encN_le n; have := Hx.out; simp [catP]; omega) (by intro p hp; rcases List.mem_cons.1 hp with rfl | hp; exact HB.out.below Low1.out (Nat.le_refl _); rcases List.mem_cons.1 hp with rfl | hp; exact Hb1.out; cases hp) _ (by simp [Part.val, Hx.out]) _ rfl).mono ?_; rintro e w2 ⟨v2, rfl, own2, low2⟩; have Own2 := Lib.hid own2; have Low2 := Lib.hid low2; clear own2 low2)
    | (go_at_call 47; refine (digits_any n Hn.out w).mono ?_; rintro e w1 ⟨v1, rfl, own1, low1⟩; obtain ⟨A1, c1, rfl, _, hb1⟩ := own_byt own1; have Hb1 := Lib.hid hb1; have Low1 := Lib.hid low1; have hs1 := low1.size; clear own1 low1 hb1))
  go_ret
  refine ⟨_, rfl, ?_, Low1.out.trans (Low2.out.mono hs1)⟩
  have := own_base Own2.out hs1
  simpa [catP] using this
set_option maxRecDepth 100000 in
set_option maxHeartbeats 1000000 in
theorem text_any (A : Option Addr) (x c : Nat) (s : ByteArray) (L : List Int) (hs : s.size ≤ 5000) (hx : L.length = x) (hle : x ≤ 40000) (w : World) (hB : Byt w A c L) :
    Calls Try.prog 27 #[.slice A x c, .string s] w fun e w' => ∃ v, e = .returned v ∧ w'.ownsRow w.heap.size 5 1 v (L ++ (encN s.size ++ bOf s)).length (vals (L ++ (encN s.size ++ bOf s))) ∧ Below w.heap.size w w' := by
  have Hx := Lib.hid hx
  have HB := Lib.hid hB
  have hsI : (s.size : Int) ≤ 5000 := by omega
  have kc := fun (w : World) => run_bytes w s
  clear hx hB
  go_enter Try.func27, Try.ntmps27
  go_wp2_with (first
    | (go_at_call 46; refine (concat_new [⟨A, c, L⟩, ⟨A1, c1, encN s.size⟩, ⟨some ⟨w1.heap.size, 0, none⟩, grownCap w1 s.size 0 5, bOf s⟩] 3 (Lib.bytesWorld w1 5 s) rfl (by omega) (by have := encN_pos s.size; simp [catP]; omega) (by have := encN_le s.size; have := Hx.out; have := bOf_length s; simp [catP]; omega) (by intro p hp; rcases List.mem_cons.1 hp with rfl | hp; exact (HB.out.below Low1.out (Nat.le_refl _)).below (below_string w1 s) (Nat.le_refl _); rcases List.mem_cons.1 hp with rfl | hp; exact Hb1.out.below (below_string w1 s) (Nat.le_refl _); rcases List.mem_cons.1 hp with rfl | hp; exact byt_string w1 s; cases hp) _ (by simp [Part.val, Hx.out, bOf_length]) _ (by rw [Lib.bytesWorld_size])).mono ?_; rintro e w2 ⟨v2, rfl, own2, low2⟩; have Own2 := Lib.hid own2; have Low2 := Lib.hid low2; clear own2 low2)
    | (go_at_call 47; refine (digits_any s.size (by omega) w).mono ?_; rintro e w1 ⟨v1, rfl, own1, low1⟩; obtain ⟨A1, c1, rfl, _, hb1⟩ := own_byt own1; have Hb1 := Lib.hid hb1; have Low1 := Lib.hid low1; have hs1 := low1.size; clear own1 low1 hb1))
  go_ret
  have hs2 : w.heap.size ≤ (Lib.bytesWorld w1 5 s).heap.size := Nat.le_trans hs1 (below_string w1 s).size
  refine ⟨_, rfl, ?_, (Low1.out.trans ((below_string w1 s).mono hs1)).trans (Low2.out.mono hs2)⟩
  have := own_base Own2.out hs2
  simpa [catP] using this
set_option maxRecDepth 100000 in
set_option maxHeartbeats 1000000 in
theorem hash_any (A : Option Addr) (x c : Nat) (h L : List Int) (hh : h.length = 32) (hx : L.length = x) (hle : x ≤ 40000) (w : World) (hB : Byt w A c L) :
    Calls Try.prog 29 #[.slice A x c, .agg (u8s h)] w fun e w' => ∃ v, e = .returned v ∧ w'.ownsRow w.heap.size 5 1 v (L ++ h).length (vals (L ++ h)) ∧ Below w.heap.size w w' := by
  have Hx := Lib.hid hx
  have HB := Lib.hid hB
  have Hh := Lib.hid hh
  have hs : (w.alloc (.cells (u8s h) 32)).heap.size = w.heap.size + 1 := by rw [World.size_alloc]
  have low0 := Lib.hid ((Below.refl w.heap.size w).alloc (Nat.le_refl _) (.cells (u8s h) 32))
  have hb := Lib.hid (byt_rowT (Go.heap_alloc_new w (.cells (u8s h) 32)) hh)
  clear hx hB hh
  go_enter Try.func29, Try.ntmps29
  go_wp2_with (go_at_call 46; refine (concat_new [⟨A, c, L⟩, ⟨some ⟨w.heap.size, 0, none⟩, 32, h⟩] 2 (w.alloc (.cells (u8s h) 32)) rfl (by omega) (by have := Hh.out; simp [catP]; omega) (by have := Hh.out; have := Hx.out; simp [catP]; omega) (by intro p hp; rcases List.mem_cons.1 hp with rfl | hp; exact HB.out.below low0.out (Nat.le_refl _); rcases List.mem_cons.1 hp with rfl | hp; exact hb.out; cases hp) _ (by simp [Part.val, Hx.out, Hh.out]) _ (by simp)).mono ?_; rintro e w2 ⟨v2, rfl, own2, low2⟩; have Own2 := Lib.hid own2; have Low2 := Lib.hid low2; clear own2 low2)
  go_ret
  refine ⟨_, rfl, ?_, low0.out.trans (Low2.out.mono (by omega))⟩
  have := own_base Own2.out (B' := w.heap.size) (by omega)
  simpa [catP] using this
end Go.Proofs.Ytigfcmnknijobaa.Cod
