/- DERIVED. Texts of ours, merged: XSltOf XSltLog XSlUntil XSltClone. -/
import Derived.Test.YtpeioogkbcejmaaMplays4
import Derived.BigQuiet
import Derived.Test.YtpeioogkbcejmaaMplays3
import Derived.Maps.AppendAt
/- DERIVED. The contract of slots.slotOf. -/
namespace Go.Proofs.Ytpeioogkbcejmaa.Slt
open Go.RowKit Dsk
theorem splice_slot (t : List Int) (k n : Nat) (hn : t.length = n) (h : n + 5 ≤ k * 128) : splice (splice (vals (List.replicate (k * 128) 0)) 0 (vals (0 :: be4 n))) 5 (vals t) = vals (slotB 0 t k) := by
  have e1 : k * 128 = n + 5 + (k * 128 - 5 - n) := by omega
  obtain ⟨r, hr⟩ : ∃ r, r = k * 128 - 5 - n := ⟨_, rfl⟩
  have e2 : slotB 0 t k = 0 :: (be4 n ++ (t ++ List.replicate r 0)) := by rw [slotB, hn, ← hr]
  rw [← hr] at e1
  rw [e1, e2]
  simp only [splice, vals, be4, List.map_cons, List.map_nil, List.length_cons, List.length_nil, List.length_map, List.take_zero, List.nil_append, List.map_replicate, List.drop_replicate, hn, List.map_append]
  rw [show n + 5 + r - 5 = n + r by omega]
  simp only [List.take_succ_cons, List.take_zero, List.cons_append, List.nil_append]
  rw [Nat.add_comm 5 n]
  have e3 : ∀ a b c d e : Value, List.drop (n + 5) (a :: b :: c :: d :: e :: List.replicate (n + r) (Value.int .u8 0)) = List.replicate r (Value.int .u8 0) := fun a b c d e => by
    show List.drop n (List.replicate (n + r) (Value.int .u8 0)) = _
    rw [List.drop_replicate, Nat.add_sub_cancel_left]
  rw [e3]
set_option maxRecDepth 100000 in
set_option maxHeartbeats 1000000 in
theorem slotOf_walk {w : World} (A : Option Addr) (n c F k : Nat) (t : List Int) (hl : t.length = n) (hn : n ≤ 262144) (hB : Byt w A c t) (hF2 : F ≤ 16384) (hk : k * 128 ≤ 300000) (hfit : n + 5 ≤ k * 128)
    (hmin : (if (F : Int) < ((tk n : Nat) : Int) + 1 then (F : Int) else ((tk n : Nat) : Int) + 1) = (k : Int)) :
    Calls Try.prog 43 #[.slice A n c, .int .i64 F] w fun e w' => ∃ g, e = .returned (.slice (some ⟨g, 0, none⟩) (k * 128) (k * 128)) ∧ w'.heap[g]? = some (.cells (vals (slotB 0 t k)).toArray 5 (0, 0)) ∧ w.heap.size ≤ g ∧ Below w.heap.size w w' := by
  have hmk := mk_any (k * 128) (by omega)
  rw [show ((k * 128 : Nat) : Int) = (k : Int) * 128 by omega] at hmk
  have Hs := Lib.hid (sectorsOf_any n (by omega))
  have Hh := Lib.hid (headOf_any n hn)
  have ht : tk n ≤ 3000 := by unfold tk; omega
  obtain ⟨T, hT⟩ : ∃ T, T = tk n := ⟨_, rfl⟩
  rw [← hT] at ht hmin Hs
  have Hl := Lib.hid hl
  have HB := Lib.hid hB
  have Hfit := Lib.hid hfit
  have Hmin := Lib.hid hmin
  have Hn := Lib.hid hn
  clear hB hmin hT hl hfit
  have Hone := Lib.hid (u8s_one (0 :: be4 n))
  have Hsz : Hid ((Try.prog.info? 90).map (·.size) = some (u8s (0 :: be4 n)).size) := info_head
  go_enter Try.func43, Try.ntmps43
  by_cases hc1 : (F : Int) < (T : Int) + 1
  all_goals
    have hk1 := Hmin.out
    first | rw [if_pos hc1] at hk1 | rw [if_neg hc1] at hk1
    rw [← hk1] at hmk
    clear hk1
    go_upto_region 3 with (first
      | (go_at_call 31; refine (Hs.out _).mono ?_; rintro e w' ⟨rfl, rfl⟩)
      | (go_at_call 48; refine (Hh.out _).mono ?_; rintro e w2 ⟨rfl, hb2⟩; have Hb2 := Lib.hid hb2; clear hb2)
      | (refine wpList_store_row rfl 90 (.tmp 6) (.tmp 17) rfl w2.heap.size (u8s (0 :: be4 n)) rfl rfl 90 _ (Go.heap_alloc_new w2 _) Hsz.out (by rfl) Hone.out ?_; rw [World.setRow_alloc_new]))
    have hb2 := Hb2.out
    have hs2 := hb2.size
    rw [World.size_alloc] at hs2
    have hz0 : w2.heap[w.heap.size]? = some (.cells (vals (List.replicate (k * 128) 0)).toArray 5 (0, 0)) := (hb2.block _ (by rw [World.size_alloc]; omega)).trans (Go.heap_alloc_new w _)
    have hz := (Go.heap_alloc_old w2 (.cells (u8s (0 :: be4 n)) 90) (by omega)).trans hz0
    have hh := Go.heap_alloc_new w2 (.cells (u8s (0 :: be4 n)) 90)
    have hlow : Below w.heap.size w (w2.alloc (.cells (u8s (0 :: be4 n)) 90)) := (((Below.refl w.heap.size w).alloc (Nat.le_refl _) _).trans (hb2.mono (by rw [World.size_alloc]; omega))).alloc (by omega) _
    have hs3 := World.size_alloc w2 (.cells (u8s (0 :: be4 n)) 90)
    obtain ⟨w3, hw3⟩ : ∃ w3, w3 = w2.alloc (.cells (u8s (0 :: be4 n)) 90) := ⟨_, rfl⟩
    rw [← hw3] at hz hh hlow hs3 ⊢
    have hbh : Byt w3 (some ⟨w2.heap.size, 0, none⟩) 5 (0 :: be4 n) := ⟨Nat.le_refl _, (fun h => by cases h), fun _ => ⟨w2.heap.size, 0, rfl, by omega, fun j hj => by rw [Nat.zero_add]; exact row8_cell hh j hj⟩⟩
    have hbt : Byt w3 A c t := HB.out.below hlow (Nat.le_refl _)
    have Hz := Lib.hid hz
    have Hbh := Lib.hid hbh
    have Hbt := Lib.hid hbt
    have Hlow := Lib.hid hlow
    have Hs3 : Hid (w.heap.size < w3.heap.size) := by show _ < _; omega
    have h5 : 5 ≤ k * 128 := by have := Hfit.out; omega
    have h5' : ¬ k * 128 = 5 := by omega
    clear hb2 hs2 hz0 hz hh hlow hs3 hw3 hbh hbt Hb2
    go_wp2_with (first
      | (refine wpList_copy_chg rfl (.tmp 18) (.tmp 19) rfl _ (k * 128) (k * 128) _ 5 5 (0 :: be4 n) (by rfl) (by rfl) rfl Hbh.out h5 w.heap.size 0 _ Hz.out (fun _ => rfl) (by rw [vals_length, List.length_replicate]; omega) ?_; intro w4 hh4 hc4; have Hh4 := Lib.hid hh4; have Hc4 := Lib.hid hc4; have Hb4 := Lib.hid (HB.out.below (hc4.below Hlow.out (Nat.le_of_lt Hs3.out) (fun q hq => by simp at hq; omega)) (Nat.le_refl _)); clear hh4 hc4)
      | (refine wpList_copy_chg rfl (.tmp 22) (.tmp 23) rfl _ (k * 128 - 5) (k * 128 - 5) _ n c t (by rfl) (by rfl) Hl.out Hb4.out (by have := Hfit.out; omega) w.heap.size 5 _ Hh4.out (fun _ => rfl) (by rw [splice_len _ _ _ (by simp [vals, be4]; omega), vals_length, List.length_replicate]; have := Hfit.out; omega) ?_; intro w5 hh5 hc5; have Hh5 := Lib.hid hh5; have Hc5 := Lib.hid hc5; clear hh5 hc5))
    go_ret
    refine ⟨_, rfl, ?_, Nat.le_refl _, ?_⟩
    · rw [Hh5.out, splice_slot t k n Hl.out Hfit.out]
    · exact Hc5.out.below (Hc4.out.below Hlow.out (Nat.le_of_lt Hs3.out) (fun q hq => by simp at hq; omega)) (Nat.le_trans (Nat.le_of_lt Hs3.out) Hc4.out.size) (fun q hq => by simp at hq; omega)
/-- the sectors of a first write: the slot, and one of zeros, if one is left. -/
def firstK (n F : Nat) : Nat := min (tk n + 1) F
theorem slotOf_any {w : World} (A : Option Addr) (n c F : Nat) (t : List Int) (hl : t.length = n) (hn : n ≤ 262144) (hB : Byt w A c t) (hF : tk n ≤ F) (hF2 : F ≤ 16384) :
    Calls Try.prog 43 #[.slice A n c, .int .i64 F] w fun e w' => ∃ g, e = .returned (.slice (some ⟨g, 0, none⟩) (firstK n F * 128) (firstK n F * 128)) ∧ w'.heap[g]? = some (.cells (vals (slotB 0 t (firstK n F))).toArray 5 (0, 0)) ∧ w.heap.size ≤ g ∧ Below w.heap.size w w' := by
  have h1 := tk_fit n
  have h2 : tk n ≤ 2100 := by unfold tk; omega
  have h3 : tk n ≤ firstK n F := by unfold firstK; omega
  have h4 : firstK n F ≤ tk n + 1 := by unfold firstK; omega
  exact slotOf_walk A n c F (firstK n F) t hl hn hB hF2 (by omega) (by omega) (by unfold firstK; split <;> omega)
end Go.Proofs.Ytpeioogkbcejmaa.Slt
/- DERIVED. A log in memory; the contracts of its small methods. -/
namespace Go.Proofs.Ytpeioogkbcejmaa.Slt
open Go.RowKit Dsk
/-- where a log lies: its struct, the slice of its records, and their slices. -/
structure LK where
  g : Nat
  v : Value
  ts : List Value
/-- what a log is. -/
structure LS where
  from_ : Nat
  secs : Nat
  used : Nat
  texts : List (List Int)
  lost : Bool
def LK.ptr (J : LK) : Value := .pointer (some ⟨J.g, 0, none⟩)
/-- the blocks that its calls may turn; those of its texts. -/
def LK.bl (J : LK) : List Nat := J.g :: J.v.ownBlock.toList
def LK.tx (J : LK) : List Nat := J.ts.flatMap fun v => v.ownBlock.toList
def rowL (K : DK) (J : LK) (S : LS) : Array Value := #[J.ptr, K.ptr, .int .i64 S.from_, .int .i64 S.secs, .int .i64 S.used, J.v, .bool S.lost]
structure Lg0 (w : World) (K : DK) (J : LK) (S : LS) : Prop where
  row : w.heap[J.g]? = some (.cells (rowL K J S) 61 (0, 0))
  own : w.ownsRow 0 33 1 J.v S.texts.length J.ts
  gv : ∀ q, J.v.ownBlock = some q → q ≠ J.g
  txt : ∀ i, i < S.texts.length → SlB (S.texts.getD i []) (J.ts.getD i undef) w
  tlt : ∀ q ∈ J.tx, q < w.heap.size
  tap : ∀ q ∈ J.tx, q ∉ K.bl ∧ q ∉ J.bl
  kap : ∀ q ∈ J.bl, q ∉ K.bl
  inb : ∀ t ∈ S.texts, InB t ∧ t.length ≤ 262144
/-- and its numbers fit. -/
structure Lg (w : World) (K : DK) (J : LK) (S : LS) : Prop extends Lg0 w K J S where
  fit : S.used ≤ S.secs
  end_ : S.from_ + S.secs ≤ 16384
  cnt : S.texts.length ≤ S.used
theorem Lg0.glt {w : World} {K : DK} {J : LK} {S : LS} (h : Lg0 w K J S) : J.g < w.heap.size := (Array.getElem?_eq_some_iff.1 h.row).1
theorem Lg0.len {w : World} {K : DK} {J : LK} {S : LS} (h : Lg0 w K J S) : J.ts.length = S.texts.length := by have := h.own.1; omega
/-- a row of the call's own stays where its block does not turn. -/
theorem own_chg {S : List Nat} {w w' : World} {base n s : Nat} {t : TypeId} {v : Value} {L : List Value} (h : w.ownsRow base t s v n L) (hc : Chg S w w') (hS : ∀ q, v.ownBlock = some q → q ∉ S) : w'.ownsRow base t s v n L := by
  obtain ⟨h1, h⟩ := h
  refine ⟨h1, ?_⟩
  rcases h with h | ⟨g, cap, cur, h1, h2, h3, h4, h5, h6, h7⟩
  · exact .inl h
  · exact .inr ⟨g, cap, cur, h1, h2, hc.at h3 (hS g (by rw [h1]; rfl)), h4, h5, h6, h7⟩
theorem mem_tx {J : LK} {i : Nat} {a : Addr} {n c : Nat} (hi : J.ts.getD i undef = .slice (some a) n c) (hl : i < J.ts.length) : a.block ∈ J.tx := by
  unfold LK.tx
  rw [List.mem_flatMap]
  refine ⟨J.ts.getD i undef, ?_, by rw [hi]; simp [Value.ownBlock]⟩
  rw [List.getD_eq_getElem?_getD, List.getElem?_eq_getElem hl, Option.getD_some]
  exact List.getElem_mem hl
theorem Lg0.chg {T : List Nat} {w w' : World} {K : DK} {J : LK} {S : LS} (h : Lg0 w K J S) (hc : Chg T w w') (h1 : ∀ q ∈ J.bl, q ∉ T) (h2 : ∀ q ∈ J.tx, q ∉ T) : Lg0 w' K J S where
  row := hc.at h.row (h1 _ (by simp [LK.bl]))
  own := own_chg h.own hc (fun q hq => h1 q (by simp [LK.bl, hq]))
  gv := h.gv
  txt i hi := by
    obtain ⟨A, c, e, hB⟩ := h.txt i hi
    refine ⟨A, c, e, hB.chg hc (fun a ha => h2 _ (mem_tx (by rw [e, ha]) (by rw [h.len]; exact hi)))⟩
  tlt q hq := Nat.lt_of_lt_of_le (h.tlt q hq) hc.size
  tap := h.tap
  kap := h.kap
  inb := h.inb
theorem Lg.chg {T : List Nat} {w w' : World} {K : DK} {J : LK} {S : LS} (h : Lg w K J S) (hc : Chg T w w') (h1 : ∀ q ∈ J.bl, q ∉ T) (h2 : ∀ q ∈ J.tx, q ∉ T) : Lg w' K J S :=
  ⟨h.toLg0.chg hc h1 h2, h.fit, h.end_, h.cnt⟩
theorem Lg.later {w w' : World} {K : DK} {J : LK} {S : LS} (h : Lg w K J S) (hb : Below w.heap.size w w') : Lg w' K J S :=
  h.chg (T := []) (Chg.of_below hb) (by simp) (by simp)
/-- the disk changed alone. -/
theorem Lg.disk {w w' : World} {K : DK} {J : LK} {S : LS} (h : Lg w K J S) (hc : Chg K.bl w w') : Lg w' K J S :=
  h.chg hc h.kap (fun q hq => (h.tap q hq).1)
theorem Lg0.cells {w : World} {K : DK} {J : LK} {S : LS} (h : Lg0 w K J S) : w.cell? ⟨J.g, 0, none⟩ = some (.pointer (some ⟨J.g, 0, none⟩)) ∧ w.cell? ⟨J.g, 1, none⟩ = some (.pointer (some ⟨K.g, 0, none⟩)) ∧ w.cell? ⟨J.g, 2, none⟩ = some (.int .i64 S.from_) ∧ w.cell? ⟨J.g, 3, none⟩ = some (.int .i64 S.secs) ∧ w.cell? ⟨J.g, 4, none⟩ = some (.int .i64 S.used) ∧ w.cell? ⟨J.g, 5, none⟩ = some J.v ∧ w.cell? ⟨J.g, 6, none⟩ = some (.bool S.lost) := by
  refine ⟨?_, ?_, ?_, ?_, ?_, ?_, ?_⟩ <;> rw [cell_row h.row] <;> rfl
theorem leq_same (a : Addr) (w : World) : (binOp .eql 37 (.pointer (some a)) (.pointer (some a))).run Try.prog w = .ok (.bool true) w := by
  obtain ⟨j, hj⟩ : ∃ j, Try.prog.info? 61 = some j := Option.isSome_iff_exists.1 (by kernel_rfl)
  exact Go.run_eql_ptr_same w a (te := 61) Try.underlying37 hj
theorem lmade_any {w : World} {K : DK} {J : LK} {S : LS} (h : Lg w K J S) : Calls Try.prog 29 #[J.ptr] w fun e w' => e = .returned (.bool true) ∧ w = w' := by
  obtain ⟨c0, _⟩ := h.cells
  have he := leq_same ⟨J.g, 0, none⟩
  unfold LK.ptr
  clear h
  go_enter Try.func29, Try.ntmps29
  go_wp2
  go_ret
  exact ⟨rfl, rfl⟩
theorem free_any {w : World} {K : DK} {J : LK} {S : LS} (h : Lg w K J S) : Calls Try.prog 32 #[J.ptr] w fun e w' => e = .returned (.int .i64 (S.secs - S.used : Nat)) ∧ Below w.heap.size w w' := by
  obtain ⟨_, _, _, c3, c4, _⟩ := h.cells
  have h1 := h.fit
  have h2 := h.end_
  have h3 : S.secs ≤ 16384 := by omega
  have hr : Hid (((S.secs - S.used : Nat) : Int) = (S.secs : Int) - (S.used : Int)) := by show _ = _; omega
  unfold LK.ptr
  clear h h2
  obtain ⟨s, hs⟩ : ∃ s, s = S.secs := ⟨_, rfl⟩
  obtain ⟨u, hu⟩ : ∃ u, u = S.used := ⟨_, rfl⟩
  rw [← hs] at c3 h1 h3 hr ⊢
  rw [← hu] at c4 h1 hr ⊢
  clear hs hu
  go_enter Try.func32, Try.ntmps32
  go_upto_region 1 with (fail)
  go_quiet (fail)
  go_wp2
  go_ret
  exact ⟨ret_i64 hr.out.symm, Below.drewN (Below.refl _ _) _⟩
theorem used_any {w : World} {K : DK} {J : LK} {S : LS} (h : Lg w K J S) : Calls Try.prog 22 #[J.ptr] w fun e w' => e = .returned (.int .i64 S.used) ∧ w = w' := by
  have Hm := Lib.hid (lmade_any h)
  obtain ⟨_, _, _, _, c4, _⟩ := h.cells
  unfold LK.ptr at *
  clear h
  go_enter Try.func22, Try.ntmps22
  go_wp2_with (go_at_call 29; refine Hm.out.mono ?_; rintro e w' ⟨rfl, rfl⟩)
  go_ret
  exact ⟨rfl, rfl⟩
/-- how long a record may be that still fits. -/
def roomI (F : Nat) : Int := if F = 0 then -1 else if F * 128 - 5 < 262144 then ((F * 128 - 5 : Nat) : Int) else 262144
theorem room_any {w : World} {K : DK} {J : LK} {S : LS} (h : Lg w K J S) : Calls Try.prog 16 #[J.ptr] w fun e w' => e = .returned (.int .i64 (roomI (S.secs - S.used))) ∧ Below w.heap.size w w' := by
  have Hm := Lib.hid (lmade_any h)
  have Hf := Lib.hid (free_any h)
  have Hf2 := Lib.hid (fun w' hb => free_any (w := w') (h.later hb))
  have hF : S.secs - S.used ≤ 16384 := by have := h.end_; omega
  obtain ⟨F, hFe⟩ : ∃ F, F = S.secs - S.used := ⟨_, rfl⟩
  rw [← hFe] at Hf Hf2 hF ⊢
  unfold LK.ptr at *
  clear h hFe
  by_cases h0 : F = 0
  · subst h0
    rw [show roomI 0 = -1 by rfl]
    go_enter Try.func16, Try.ntmps16
    go_wp2_with (first
      | (go_at_call 29; refine Hm.out.mono ?_; rintro e w' ⟨rfl, rfl⟩)
      | (go_at_call 32; refine Hf.out.mono ?_; rintro e w1 ⟨rfl, hb1⟩; have Hb1 := Lib.hid hb1; clear hb1))
    go_ret
    exact ⟨rfl, Hb1.out⟩
  · have h0' : ¬ (F : Int) = 0 := by omega
    have hr : Hid (roomI F = if (F : Int) * 128 - 5 < 262144 then (F : Int) * 128 - 5 else 262144) := by
      show _ = _
      unfold roomI
      rw [if_neg h0]
      split
      · rw [if_pos (by omega)]; omega
      · rw [if_neg (by omega)]
    by_cases h1 : (262144 : Int) < (F : Int) * 128 - 5
    all_goals
      go_enter Try.func16, Try.ntmps16
      go_wp2_with (first
        | (go_at_call 29; refine Hm.out.mono ?_; rintro e w' ⟨rfl, rfl⟩)
        | (go_at_call 32; refine (Hf2.out _ Hb1.out).mono ?_; rintro e w2 ⟨rfl, hb2⟩; have Hb2 := Lib.hid hb2; clear hb2)
        | (go_at_call 32; refine Hf.out.mono ?_; rintro e w1 ⟨rfl, hb1⟩; have Hb1 := Lib.hid hb1; clear hb1))
      go_ret
      have hq := hr.out
      first | rw [if_neg (by omega)] at hq | (split at hq)
      all_goals exact ⟨ret_i64 (by show _ = _; omega), Hb1.out.trans (Hb2.out.mono Hb1.out.size)⟩
end Go.Proofs.Ytpeioogkbcejmaa.Slt
/- DERIVED. What holds from one operation on until another one comes. -/
namespace Go.Proofs.Ytpeioogkbcejmaa
open Go.RowKit
/-- the same as Whn, until another operation comes. -/
def Whu (l : Array Bool) (i q : Nat) (p : Value → World → Prop) (v : Value) (w : World) : Prop := l.getD i false = true → l.getD q false = false → p v w
theorem Whu.get {l : Array Bool} {i q : Nat} {p : Value → World → Prop} {v : Value} {w : World} (h : Whu l i q p v w) (hl : l.getD i false = true) (hq : l.getD q false = false) : p v w := h hl hq
theorem Whu.keep {l : Array Bool} {i q k : Nat} {p : Value → World → Prop} {v : Value} {w : World} (h : Whu l i q p v w) (hne : i ≠ k) : Whu (l.setIfInBounds k true) i q p v w := fun hl hq => h ((getD_listed hl).resolve_left hne) (by
  cases e : l.getD q false with
  | false => rfl
  | true => rw [getD_set_true e] at hq; cases hq)
theorem Whu.map {l : Array Bool} {i q : Nat} {p : Value → World → Prop} {v : Value} {w w' : World} (h : Whu l i q p v w) (f : p v w → p v w') : Whu l i q p v w' := fun hl hq => f (h hl hq)
theorem Whu.done {l : Array Bool} {i q : Nat} {p : Value → World → Prop} {v : Value} {w : World} (h : p v w) : Whu l i q p v w := fun _ _ => h
theorem Whu.none {n i q : Nat} {p : Value → World → Prop} {v : Value} {w : World} (h : (Array.replicate n false).getD i false = false) : Whu (Array.replicate n false) i q p v w := fun hl => by rw [h] at hl; cases hl
theorem Whu.past {l : Array Bool} {i q : Nat} {p : Value → World → Prop} {v : Value} {w : World} (hq : q < l.size) : Whu (l.setIfInBounds q true) i q p v w := fun _ h => by
  simp [hq] at h
theorem Whu.gone {l : Array Bool} {i q k : Nat} {p : Value → World → Prop} {v : Value} {w : World} (h : l.getD q false = true) : Whu (l.setIfInBounds k true) i q p v w := fun _ hq => by rw [getD_set_true h] at hq; cases hq
theorem Whn.never {l : Array Bool} {i k : Nat} {p : Value → World → Prop} {v : Value} {w : World} (hne : i ≠ k) (h : l.getD i false = true → l.getD k false = true) (hu : l.getD k false = false) : Whn (l.setIfInBounds k true) i p v w := fun hl => by
  have := h ((getD_listed hl).resolve_left hne)
  rw [this] at hu
  cases hu
end Go.Proofs.Ytpeioogkbcejmaa
/- DERIVED. bytes.Clone of any slice of bytes, nil let in; append to a slice of slices. -/
namespace Go.Proofs.Ytpeioogkbcejmaa.Slt
open Go.RowKit Dsk
set_option maxHeartbeats 1000000 in
theorem clone_some {L : List Int} {ad : Addr} {c n : Nat} {w : World} (hB : Byt w (some ad) c L) (hn : L.length = n) (hle : n ≤ 4294967296) :
    Calls Try.prog 28 #[.slice (some ad) n c] w fun e w' => ∃ v', e = .returned v' ∧ w'.ownsRow w.heap.size 5 1 v' n (vals L) ∧ Below w.heap.size w w' := by
  have HB := Lib.hid hB
  have Hn := Lib.hid hn
  have Hle := Lib.hid hle
  have hmade := World.ownsRow_made w (base := w.heap.size) (e := 5) (size := 1) #[] 0 (Nat.le_refl _) (Nat.zero_le _) rfl
  have Hmade := Lib.hid hmade
  have hne := fun (w : World) => Lib.run_eql_slice_nil w 33 5 (some ad) n c 0 0 Try.underlying33
  clear hB hn hmade hle
  go_enter Try.func28, Try.ntmps28
  go_wp2_with (at_builtin; refine wpList_append_any rfl (.tmp 5) (.tmp 6) rfl w.heap.size _ 0 [] rfl Hmade.out (some ad) n c L rfl Hn.out (HB.out.alloc _) (by have := Hle.out; omega) (by rw [World.size_alloc]; omega) ?_; intro v1 w1 hown1 hlow1; have Hown1 := Lib.hid hown1; have Hlow1 := Lib.hid hlow1; clear hown1 hlow1)
  go_ret
  have ho := Hown1.out
  rw [List.nil_append, Nat.zero_add] at ho
  exact ⟨_, rfl, ho, Hlow1.out _ _ ((Below.refl _ _).alloc (Nat.le_refl _) _) (Nat.le_refl _)⟩
theorem clone_none {w : World} : Calls Try.prog 28 #[.slice none 0 0] w fun e w' => ∃ v', e = .returned v' ∧ w'.ownsRow w.heap.size 5 1 v' 0 (vals []) ∧ Below w.heap.size w w' := by
  have hne := fun (w : World) => Lib.run_eql_slice_nil w 33 5 none 0 0 0 0 Try.underlying33
  go_enter Try.func28, Try.ntmps28
  go_wp2
  go_ret
  exact ⟨_, rfl, World.ownsRow_nil w _ _ _, Below.refl _ _⟩
theorem clone_sl {L : List Int} {v : Value} {w : World} (hv : SlB L v w) (hle : L.length ≤ 4294967296) :
    Calls Try.prog 28 #[v] w fun e w' => ∃ v', e = .returned v' ∧ w'.ownsRow w.heap.size 5 1 v' L.length (vals L) ∧ Below w.heap.size w w' := by
  obtain ⟨A, c, rfl, hB⟩ := hv
  cases A with
  | none =>
    have hc := hB.2.1 rfl
    have h1 := hB.1
    subst hc
    obtain rfl : L = [] := List.eq_nil_of_length_eq_zero (by omega)
    exact clone_none
  | some ad => exact clone_some hB rfl hle
theorem info_slz : (Try.prog.info? 33).map (fun i => (i.zero, i.size, i.bytes)) = some (some (.slice none 0 0), 1, 24) := by kernel_rfl
/-- append of one slice to a row of slices. -/
theorem wp_app_sl {w : World} {o : Oper} {a : Act} {K : Act → World → Prop} {Q : Exit → Act → World → Prop} (s y : Operand)
    (ho : o.op = .call { callee := .builtin .append, args := #[s, y], argTypes := #[46, 46] }) (base : Nat) (v : Value) (n : Nat) (xs : List Value) (x : Value) (hx1 : x.oneCell' = true) (hs : a.eval s = v) (hown : w.ownsRow base 33 1 v n xs)
    (g : Nat) (hy : a.eval y = .slice (some ⟨g, 0, none⟩) 1 1) (hg : w.heap[g]? = some (.cells #[x] 33 (0, 0))) (h63 : n ≤ 100000) (hbase : base ≤ w.heap.size)
    (h : ∀ v' w', w'.ownsRow base 33 1 v' (n + 1) (xs ++ [x]) → w.grownBy w' v.ownBlock → (v'.ownBlock = v.ownBlock ∨ v'.ownBlock = some w.heap.size) → K (a.put o.dst v') w') : o.wp Try.prog a w K Q := by
  obtain ⟨i0, hi0, hz00, hz10, hz20⟩ := info_parts info_slz
  obtain ⟨v', w', hr, h2, h3, _, h5⟩ := run_append_own_at (P := Try.prog) w base 46 o.type 33 i0 (.slice none 0 0) 1 24 Try.underlying46 hi0 hz00 hz10 hz20 rfl (by decide) v n xs hown ⟨g, 0, none⟩ 1 1 [x] (by rfl)
    (fun j u hu => by rw [Addr.add_mid, Nat.zero_add, cell_row hg]; simpa using hu) (fun u hu => by simp at hu; subst hu; exact hx1) (by unfold maxLen; omega) (by omega) hbase
  unfold Oper.wp execOp
  simp only [ho, resolve, invoke, builtin, Sem.run_bind, Sem.run_pure, Result.andThen_ok, List.map_toArray, List.map_cons, List.map_nil, hs, hy, hr]
  exact h v' w' h2 h3 h5
theorem chg_grown {w w' : World} {r : Option Nat} (h : w.grownBy w' r) : Chg r.toList w w' :=
  ⟨h.os, h.tape, h.output, h.size, fun k hk hS => h.block k hk (fun e => hS (by rw [← e]; simp))⟩
end Go.Proofs.Ytpeioogkbcejmaa.Slt
