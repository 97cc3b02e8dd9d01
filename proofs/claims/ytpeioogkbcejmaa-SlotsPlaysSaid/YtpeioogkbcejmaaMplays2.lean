/- DERIVED. Texts of ours, merged: XSltSpec XDsk XDskCut XAppend XOwn XOwn2. -/
import Derived.Test.YtpeioogkbcejmaaMplays1
import Derived.Test.YtpeioogkbcejmaaProg
import Derived.Lib.Builder
import Derived.LaidEqlPtr
import Derived.Maps.AppendAt
import Derived.Laws.AppendOwnNone
import Derived.OwnWalk
import Derived.Deep.DeepCutAuto
/- DERIVED. A log on lists: the slots' bytes, and what is read of bytes. No program. -/
namespace Go.Proofs.Ytpeioogkbcejmaa.Slt
open Go.RowKit Dsk
/-- the sectors of a record of n bytes. -/
def tk (n : Nat) : Nat := (n + 132) / 128
theorem tk_pos (n : Nat) : 1 ≤ tk n := by unfold tk; omega
theorem tk_fit (n : Nat) : n + 5 ≤ tk n * 128 := by unfold tk; omega
def be4 (n : Nat) : List Int := [((n / 16777216 % 256 : Nat) : Int), ((n / 65536 % 256 : Nat) : Int), ((n / 256 % 256 : Nat) : Int), ((n % 256 : Nat) : Int)]
/-- k sectors: a mark, a length, a text, zeros. -/
def slotB (m : Int) (t : List Int) (k : Nat) : List Int := m :: (be4 t.length ++ (t ++ List.replicate (k * 128 - 5 - t.length) 0))
theorem slotB_len (m : Int) (t : List Int) (k : Nat) (h : t.length + 5 ≤ k * 128) : (slotB m t k).length = k * 128 := by
  simp [slotB, be4]; omega
theorem inb_nil : InB [] := fun j => by simp
theorem inb_cons {x : Int} {L : List Int} (hx : 0 ≤ x ∧ x < 256) (h : InB L) : InB (x :: L) := by
  intro j
  cases j with
  | zero => simpa using hx
  | succ j => simpa using h j
theorem inb_rep (n : Nat) : InB (List.replicate n 0) := by
  intro j
  simp only [List.getD_eq_getElem?_getD, List.getElem?_replicate]
  split <;> simp
theorem be4_in (n : Nat) : InB (be4 n) := by
  unfold be4
  exact inb_cons (by omega) (inb_cons (by omega) (inb_cons (by omega) (inb_cons (by omega) inb_nil)))
theorem slotB_in {m : Int} {t : List Int} {k : Nat} (hm : 0 ≤ m ∧ m < 256) (ht : InB t) : InB (slotB m t k) :=
  inb_cons hm ((be4_in _).append (ht.append (inb_rep _)))
/-- the length that a slot's head tells. -/
def lenB (b : List Int) : Nat := (b.getD 1 0).toNat * 16777216 + (b.getD 2 0).toNat * 65536 + (b.getD 3 0).toNat * 256 + (b.getD 4 0).toNat
theorem lenB_slot (m : Int) (t : List Int) (k : Nat) (R : List Int) (h : t.length < 4294967296) : lenB (slotB m t k ++ R) = t.length := by
  simp only [lenB, slotB, be4, List.cons_append, List.getD_cons_succ, List.getD_cons_zero, Int.toNat_natCast]
  omega
/-- a right slot, as bytes. -/
def Good (c : List Int) : Prop := c.getD 0 0 = 1 ∧ lenB c ≤ 262144 ∧ c.length = tk (lenB c) * 128
def textC (c : List Int) : List Int := (c.drop 5).take (lenB c)
theorem textC_len {c : List Int} (h : Good c) : (textC c).length = lenB c := by
  have := tk_fit (lenB c)
  simp [textC, h.2.2]; omega
theorem slotB_good (t : List Int) (h : t.length ≤ 262144) : Good (slotB 1 t (tk t.length)) := by
  have e : lenB (slotB 1 t (tk t.length)) = t.length := by simpa using lenB_slot 1 t (tk t.length) [] (by omega)
  exact ⟨rfl, by rw [e]; exact h, by rw [e]; exact slotB_len _ _ _ (tk_fit _)⟩
theorem slotB_text (t : List Int) (h : t.length ≤ 262144) : textC (slotB 1 t (tk t.length)) = t := by
  have e : lenB (slotB 1 t (tk t.length)) = t.length := by simpa using lenB_slot 1 t (tk t.length) [] (by omega)
  rw [textC, e]
  simp [slotB, be4]
/-- a slot that is not right, ahead of all that is left. -/
def BadB (R : List Int) : Prop := R ≠ [] ∧ R.getD 0 0 ≠ 0 ∧ ¬ (R.getD 0 0 = 1 ∧ lenB R ≤ 262144 ∧ tk (lenB R) * 128 ≤ R.length)
def Done (R : List Int) : Prop := R = [] ∨ R.getD 0 0 = 0
/-- the bytes are right slots, and what is left; e: is it a fault? -/
structure Reads (L : List Int) (cs : List (List Int)) (R : List Int) (e : Bool) : Prop where
  eq : L = cs.flatten ++ R
  good : ∀ c ∈ cs, Good c
  tail : if e then BadB R else Done R
theorem getD_append_lt {L R : List Int} {j : Nat} (h : j < L.length) : (L ++ R).getD j 0 = L.getD j 0 := by
  simp [List.getD_eq_getElem?_getD, List.getElem?_append_left h]
theorem getD_append_ge {L R : List Int} {j : Nat} (h : L.length ≤ j) : (L ++ R).getD j 0 = R.getD (j - L.length) 0 := by
  simp [List.getD_eq_getElem?_getD, List.getElem?_append_right h]
theorem getD_take' {L : List Int} {n j : Nat} (h : j < n) : (L.take n).getD j 0 = L.getD j 0 := by
  simp [List.getD_eq_getElem?_getD, h]
theorem getD_drop' {L : List Int} {n j : Nat} : (L.drop n).getD j 0 = L.getD (n + j) 0 := by
  simp [List.getD_eq_getElem?_getD]
theorem lenB_app {c : List Int} (h : 5 ≤ c.length) (R : List Int) : lenB (c ++ R) = lenB c := by
  unfold lenB
  rw [getD_append_lt (by omega), getD_append_lt (by omega), getD_append_lt (by omega), getD_append_lt (by omega)]
theorem lenB_take {c : List Int} {n : Nat} (h : 5 ≤ n) : lenB (c.take n) = lenB c := by
  unfold lenB
  rw [getD_take' (by omega), getD_take' (by omega), getD_take' (by omega), getD_take' (by omega)]
theorem Good.len {c : List Int} (h : Good c) : 128 ≤ c.length := by have := h.2.2; have := tk_pos (lenB c); omega
/-- each row of bytes is read so. -/
theorem reads_all : ∀ (n : Nat) (L : List Int), L.length ≤ n → ∃ cs R e, Reads L cs R e := by
  intro n
  induction n with
  | zero =>
    intro L h
    obtain rfl : L = [] := List.eq_nil_of_length_eq_zero (by omega)
    exact ⟨[], [], false, rfl, by simp, .inl rfl⟩
  | succ n ih =>
    intro L h
    by_cases h0 : L = [] ∨ L.getD 0 0 = 0
    · exact ⟨[], L, false, rfl, by simp, h0⟩
    · have h1 : L ≠ [] := fun e => h0 (.inl e)
      have h2 : L.getD 0 0 ≠ 0 := fun e => h0 (.inr e)
      by_cases hg : L.getD 0 0 = 1 ∧ lenB L ≤ 262144 ∧ tk (lenB L) * 128 ≤ L.length
      · have ht := tk_pos (lenB L)
        obtain ⟨cs, R, e, hr⟩ := ih (L.drop (tk (lenB L) * 128)) (by rw [List.length_drop]; omega)
        refine ⟨L.take (tk (lenB L) * 128) :: cs, R, e, ?_, ?_, hr.tail⟩
        · rw [List.flatten_cons, List.append_assoc, ← hr.eq, List.take_append_drop]
        · intro c hc
          rcases List.mem_cons.1 hc with rfl | hc
          · have e5 : lenB (L.take (tk (lenB L) * 128)) = lenB L := lenB_take (by omega)
            exact ⟨by rw [getD_take' (by omega)]; exact hg.1, by rw [e5]; exact hg.2.1, by rw [e5, List.length_take]; omega⟩
          · exact hr.good c hc
      · exact ⟨[], L, true, rfl, by simp, h1, h2, hg⟩
/-- and in no other way. -/
theorem reads_one : ∀ (cs cs' : List (List Int)) (L R R' : List Int) (e e' : Bool), Reads L cs R e → Reads L cs' R' e' → cs = cs' ∧ R = R' ∧ e = e' := by
  have key : ∀ (c R : List Int) (e : Bool), Good c → ∀ X, (if e then BadB R else Done R) → R = c ++ X → False := by
    intro c R e hc X ht hR
    have hl := hc.len
    have h0 : R.getD 0 0 = 1 := by rw [hR, getD_append_lt (by omega)]; exact hc.1
    have h1 : lenB R = lenB c := by rw [hR]; exact lenB_app (by omega) X
    cases e with
    | true =>
      obtain ⟨_, _, h⟩ := ht
      refine h ⟨h0, by rw [h1]; exact hc.2.1, ?_⟩
      rw [h1, ← hc.2.2, hR, List.length_append]; omega
    | false =>
      rcases ht with h | h
      · rw [h] at hR
        have := congrArg List.length hR
        simp at this; omega
      · rw [h0] at h; omega
  intro cs
  induction cs with
  | nil =>
    intro cs' L R R' e e' h h'
    cases cs' with
    | nil =>
      have : R = R' := by have := h.eq.symm.trans h'.eq; simpa using this
      subst this
      refine ⟨rfl, rfl, ?_⟩
      cases e <;> cases e'
      · rfl
      · rcases h.tail with a | a
        · exact absurd a h'.tail.1
        · exact absurd a h'.tail.2.1
      · rcases h'.tail with a | a
        · exact absurd a h.tail.1
        · exact absurd a h.tail.2.1
      · rfl
    | cons c cs' =>
      have hR : R = c ++ (cs'.flatten ++ R') := by have := h.eq.symm.trans h'.eq; simpa using this
      exact (key c R e (h'.good c (by simp)) _ h.tail hR).elim
  | cons c cs ih =>
    intro cs' L R R' e e' h h'
    cases cs' with
    | nil =>
      have hR : R' = c ++ (cs.flatten ++ R) := by have := h'.eq.symm.trans h.eq; simpa using this
      exact (key c R' e' (h.good c (by simp)) _ h'.tail hR).elim
    | cons c' cs' =>
      have hc := h.good c (by simp)
      have hc' := h'.good c' (by simp)
      have h2 : c ++ (cs.flatten ++ R) = c' ++ (cs'.flatten ++ R') := by have := h.eq.symm.trans h'.eq; simpa using this
      have hl := hc.len
      have hl' := hc'.len
      have e1 : lenB c = lenB c' := by
        have := congrArg lenB h2
        rwa [lenB_app (by omega), lenB_app (by omega)] at this
      have e2 : c.length = c'.length := by rw [hc.2.2, hc'.2.2, e1]
      obtain ⟨rfl, h3⟩ := List.append_inj h2 e2
      obtain ⟨rfl, rfl, rfl⟩ := ih cs' (cs.flatten ++ R) R R' e e' ⟨rfl, fun x hx => h.good x (by simp [hx]), h.tail⟩ ⟨h3, fun x hx => h'.good x (by simp [hx]), h'.tail⟩
      exact ⟨rfl, rfl, rfl⟩
/-- where the i-th slot begins. -/
def posC (cs : List (List Int)) (i : Nat) : Nat := (cs.take i).flatten.length
end Go.Proofs.Ytpeioogkbcejmaa.Slt
/- DERIVED. A disk in memory; the contracts of disk's small methods. -/
namespace Go.Proofs.Ytpeioogkbcejmaa.Dsk
open Go.RowKit
/-- where a disk lies: its struct, its bytes, and what lies behind them. -/
structure DK where
  g : Nat
  h : Nat
  sp : List Value
def cutC (l : Bool) (k : Int) (m : List Int) : List Value := .bool l :: .int .i64 k :: vals m
def rowC (K : DK) (n : Nat) (wr : Int) (off : Bool) (c : List Value) : Array Value := (.pointer (some ⟨K.g, 0, none⟩) :: .slice (some ⟨K.h, 0, none⟩) n (n + K.sp.length) :: .int .i64 wr :: .bool off :: c).toArray
structure Dsk (w : World) (K : DK) (D : DS) : Prop where
  row : w.heap[K.g]? = some (.cells (rowC K D.data.length D.writes D.off (cutC D.laid D.whole D.mask)) 66 (0, 0))
  body : w.heap[K.h]? = some (.cells (vals D.data ++ K.sp).toArray 5 (0, 0))
  ne : K.g ≠ K.h
  ok : D.Ok
/-- its blocks. -/
def DK.bl (K : DK) : List Nat := [K.g, K.h]
theorem Dsk.glt {w : World} {K : DK} {D : DS} (h : Dsk w K D) : K.g < w.heap.size := (Array.getElem?_eq_some_iff.1 h.row).1
theorem Dsk.hlt {w : World} {K : DK} {D : DS} (h : Dsk w K D) : K.h < w.heap.size := (Array.getElem?_eq_some_iff.1 h.body).1
theorem Dsk.chg {w w' : World} {K : DK} {D : DS} {S : List Nat} (h : Dsk w K D) (hc : Chg S w w') (hg : K.g ∉ S) (hh : K.h ∉ S) : Dsk w' K D :=
  ⟨hc.at h.row hg, hc.at h.body hh, h.ne, h.ok⟩
theorem Dsk.later {w w' : World} {K : DK} {D : DS} (h : Dsk w K D) (hb : Below w.heap.size w w') : Dsk w' K D := h.chg (S := []) (Chg.of_below hb) (by simp) (by simp)
def DK.ptr (K : DK) : Value := .pointer (some ⟨K.g, 0, none⟩)
theorem row0 {w : World} {K : DK} {n : Nat} {wr : Int} {off l : Bool} {k : Int} {m : List Int} {T : Nat} {fr : Nat × Nat} (h : w.heap[K.g]? = some (.cells (rowC K n wr off (cutC l k m)) T fr)) :
    w.cell? ⟨K.g, 0, none⟩ = some (.pointer (some ⟨K.g, 0, none⟩)) ∧ w.cell? ⟨K.g, 1, none⟩ = some (.slice (some ⟨K.h, 0, none⟩) n (n + K.sp.length)) ∧ w.cell? ⟨K.g, 2, none⟩ = some (.int .i64 wr) ∧ w.cell? ⟨K.g, 3, none⟩ = some (.bool off) ∧ w.cell? ⟨K.g, 4, none⟩ = some (.bool l) ∧ w.cell? ⟨K.g, 5, none⟩ = some (.int .i64 k) ∧ ∀ j, j < m.length → w.cell? ⟨K.g, 6 + j, none⟩ = some (.int .u8 (m.getD j 0)) := by
  refine ⟨?_, ?_, ?_, ?_, ?_, ?_, fun j hj => ?_⟩ <;> rw [cell_row h]
  · rfl
  · rfl
  · rfl
  · rfl
  · rfl
  · rfl
  · rw [rowC, cutC, List.getElem?_toArray, show 6 + j = j + 6 by omega]
    simp [vals, hj]
theorem body_cell {w : World} {K : DK} {L : List Int} {T : Nat} {fr : Nat × Nat} (h : w.heap[K.h]? = some (.cells (vals L ++ K.sp).toArray T fr)) (j : Nat) (hj : j < L.length) : w.cell? ⟨K.h, j, none⟩ = some (.int .u8 (L.getD j 0)) := by
  rw [cell_row h, List.getElem?_toArray, List.getElem?_append_left (by rw [vals_length]; exact hj)]
  simp [vals, hj]
theorem eq_same (a : Addr) (w : World) : (binOp .eql 27 (.pointer (some a)) (.pointer (some a))).run Try.prog w = .ok (.bool true) w := by
  obtain ⟨j, hj⟩ : ∃ j, Try.prog.info? 66 = some j := Option.isSome_iff_exists.1 (by kernel_rfl)
  exact Go.run_eql_ptr_same w a (te := 66) Try.underlying27 hj
theorem made_any {w : World} {K : DK} {D : DS} (h : Dsk w K D) : Calls Try.prog 27 #[K.ptr] w fun e w' => e = .returned (.bool true) ∧ w = w' := by
  obtain ⟨c0, _⟩ := row0 h.row
  have he := eq_same ⟨K.g, 0, none⟩
  unfold DK.ptr
  clear h
  go_enter Try.func27, Try.ntmps27
  go_wp2
  go_ret
  exact ⟨rfl, rfl⟩
theorem within_any (k n o : Int) (w : World) (hk : k ≤ 9223372036854775807) (h0 : 0 ≤ o) (ho : o ≤ 9223372036854775807) : Calls Try.prog 35 #[.int .i64 k, .int .i64 n, .int .i64 o] w fun e w' => e = .returned (.bool (withinI k n o)) ∧ w = w' := by
  by_cases a1 : 0 ≤ k
  · by_cases a2 : 0 ≤ n
    · by_cases a3 : n ≤ o - k
      · rw [show withinI k n o = true by rw [withinI, decide_eq_true a1, decide_eq_true a2, decide_eq_true a3]; rfl]
        go_enter Try.func35, Try.ntmps35
        go_wp2
        go_ret
        exact ⟨rfl, rfl⟩
      · rw [show withinI k n o = false by rw [withinI, decide_eq_true a1, decide_eq_true a2, decide_eq_false a3]; rfl]
        go_enter Try.func35, Try.ntmps35
        go_wp2
        go_ret
        exact ⟨rfl, rfl⟩
    · rw [show withinI k n o = false by rw [withinI, decide_eq_true a1, decide_eq_false a2]; rfl]
      go_enter Try.func35, Try.ntmps35
      go_wp2
      go_ret
      exact ⟨rfl, rfl⟩
  · rw [show withinI k n o = false by rw [withinI, decide_eq_false a1]; rfl]
    go_enter Try.func35, Try.ntmps35
    go_wp2
    go_ret
    exact ⟨rfl, rfl⟩
theorem refuses_any {w : World} {K : DK} {D : DS} (h : Dsk w K D) (b : Bool) : Calls Try.prog 39 #[K.ptr, .bool b] w fun e w' => e = .returned (.int .i64 (refE D b)) ∧ w = w' := by
  have Hm := Lib.hid (made_any h)
  obtain ⟨_, _, _, c3, _⟩ := row0 h.row
  unfold refE DK.ptr at *
  obtain ⟨off, ho⟩ : ∃ off, off = D.off := ⟨_, rfl⟩
  rw [← ho] at c3 ⊢
  clear h ho
  cases b <;> cases off <;>
  · go_enter Try.func39, Try.ntmps39
    go_wp2_with (go_at_call 27; refine Hm.out.mono ?_; rintro e w' ⟨rfl, rfl⟩)
    go_ret
    exact ⟨rfl, rfl⟩
theorem sectors_count {w : World} {K : DK} {D : DS} (h : Dsk w K D) : Calls Try.prog 36 #[K.ptr] w fun e w' => e = .returned (.int .i64 D.secs) ∧ w = w' := by
  have Hm := Lib.hid (made_any h)
  obtain ⟨_, c1, _⟩ := row0 h.row
  have hn := h.ok.whole128
  have hm := h.ok.most
  unfold DK.ptr at *
  obtain ⟨s, hs⟩ : ∃ s, s = D.secs := ⟨_, rfl⟩
  rw [hn, ← hs] at c1
  rw [← hs] at hm ⊢
  clear h hn hs
  go_enter Try.func36, Try.ntmps36
  go_wp2_with (go_at_call 27; refine Hm.out.mono ?_; rintro e w' ⟨rfl, rfl⟩)
  go_ret
  refine ⟨?_, rfl⟩
  congr 3
/-- the slice of n sectors from the k-th on. -/
def secV (K : DK) (k n cap : Nat) : Value := .slice (if cap = k * 128 then some ⟨K.h, 0, none⟩ else some ⟨K.h, k * 128, none⟩) (n * 128) (cap - k * 128)
theorem secV_yes (K : DK) (k n cap : Nat) (h : cap = k * 128) : secV K k n cap = .slice (some ⟨K.h, 0, none⟩) ((k + n) * 128 - k * 128) (k * 128 - k * 128) := by
  unfold secV; rw [if_pos h, h]; congr 1; omega
theorem secV_no (K : DK) (k n cap : Nat) (h : ¬ cap = k * 128) : secV K k n cap = .slice (some ⟨K.h, k * 128, none⟩) ((k + n) * 128 - k * 128) (cap - k * 128) := by
  unfold secV; rw [if_neg h]; congr 1; omega
theorem sectors_any {w : World} {K : DK} {D : DS} (h : Dsk w K D) (k n : Nat) (hk : k + n ≤ D.secs) : Calls Try.prog 45 #[K.ptr, .int .i64 k, .int .i64 n] w fun e w' => e = .returned (secV K k n (D.data.length + K.sp.length)) ∧ w = w' := by
  obtain ⟨_, c1, _⟩ := row0 h.row
  have hn := h.ok.whole128
  have hm := h.ok.most
  unfold DK.ptr at *
  obtain ⟨s, hs⟩ : ∃ s, s = D.secs := ⟨_, rfl⟩
  rw [hn, ← hs] at c1
  rw [hn]
  rw [← hs] at hm hk ⊢
  obtain ⟨c, hc⟩ : ∃ c, c = s * 128 + K.sp.length := ⟨_, rfl⟩
  rw [← hc] at c1 ⊢
  have hcs : s * 128 ≤ c := by omega
  clear h hn hs hc
  by_cases e : c = k * 128
  · have hV := secV_yes K k n c e
    rw [hV]
    clear hV
    go_enter Try.func45, Try.ntmps45
    go_wp2
    go_ret
    exact ⟨rfl, rfl⟩
  · have hV := secV_no K k n c e
    rw [hV]
    clear hV
    go_enter Try.func45, Try.ntmps45
    go_wp2
    go_ret
    exact ⟨rfl, rfl⟩
end Go.Proofs.Ytpeioogkbcejmaa.Dsk
/- DERIVED. The contracts of disk's cut: due, count, tear. -/
namespace Go.Proofs.Ytpeioogkbcejmaa.Dsk
open Go.RowKit
/-- the pointer to a disk's cut. -/
def DK.cutp (K : DK) : Value := .pointer (some ⟨K.g, 4, none⟩)
theorem due_any {w : World} {K : DK} {D : DS} (h : Dsk w K D) : Calls Try.prog 51 #[K.cutp] w fun e w' => e = .returned (.bool D.due) ∧ w = w' := by
  obtain ⟨_, _, _, _, c4, c5, _⟩ := row0 h.row
  unfold DK.cutp DS.due
  obtain ⟨l, hl⟩ : ∃ l, l = D.laid := ⟨_, rfl⟩
  obtain ⟨k, hk⟩ : ∃ k, k = D.whole := ⟨_, rfl⟩
  rw [← hl] at c4 ⊢
  rw [← hk] at c5 ⊢
  clear h hl hk
  cases l
  · go_enter Try.func51, Try.ntmps51
    go_wp2
    go_ret
    exact ⟨rfl, rfl⟩
  · by_cases e : k = 0
    · subst e
      go_enter Try.func51, Try.ntmps51
      go_wp2
      go_ret
      exact ⟨rfl, rfl⟩
    · rw [show (true && decide (k = 0)) = (k == 0) by rfl]
      go_enter Try.func51, Try.ntmps51
      go_wp2
      go_ret
      exact ⟨rfl, rfl⟩
theorem chg_one (w : World) (g off : Nat) (u : Value) : Chg [g] w (w.setCell ⟨g, off, none⟩ u) := (Chg.refl [g] w).setCell (p := ⟨g, off, none⟩) (List.mem_singleton.2 rfl) u
/-- the same disk, its struct's cells told anew. -/
theorem Dsk.setWhole {w : World} {K : DK} {D : DS} (h : Dsk w K D) (k : Int) (h0 : 0 ≤ k) (h1 : k ≤ 9223372036854775807) : Dsk (w.setCell ⟨K.g, 5, none⟩ (.int .i64 k)) K { D with whole := k } :=
  ⟨heap_setCell_same _ _ _ _ _ _ h.row, (Below.heap_setCell _ _ _ _ (Ne.symm h.ne)).trans h.body, h.ne, { h.ok with wh := ⟨h0, h1⟩ }⟩
theorem Dsk.setWrites {w : World} {K : DK} {D : DS} (h : Dsk w K D) (k : Int) (h0 : 0 ≤ k) : Dsk (w.setCell ⟨K.g, 2, none⟩ (.int .i64 k)) K { D with writes := k } :=
  ⟨heap_setCell_same _ _ _ _ _ _ h.row, (Below.heap_setCell _ _ _ _ (Ne.symm h.ne)).trans h.body, h.ne, { h.ok with wr := h0 }⟩
theorem Dsk.setOff {w : World} {K : DK} {D : DS} (h : Dsk w K D) (b : Bool) : Dsk (w.setCell ⟨K.g, 3, none⟩ (.bool b)) K { D with off := b } :=
  ⟨heap_setCell_same _ _ _ _ _ _ h.row, (Below.heap_setCell _ _ _ _ (Ne.symm h.ne)).trans h.body, h.ne, { h.ok with }⟩
theorem row_len {K : DK} {n : Nat} {wr : Int} {off l : Bool} {k : Int} {m : List Int} (hm : m.length = 16) : (rowC K n wr off (cutC l k m)).size = 22 := by
  simp [rowC, cutC, vals, hm]
theorem Dsk.there {w : World} {K : DK} {D : DS} (h : Dsk w K D) : w.there K.g 4 18 := fun j hj => by
  refine ⟨?_, free_row h.row _⟩
  rw [cell_row h.row, Array.getElem?_eq_getElem (by rw [row_len h.ok.mlen]; omega)]
  rfl
theorem Dsk.setCut {w : World} {K : DK} {D : DS} (h : Dsk w K D) (l : Bool) (k : Int) (m : List Int) (hm : m.length = 16) (hb : InB m) (h0 : 0 ≤ k) (h1 : k ≤ 9223372036854775807) : Dsk (w.setCells K.g 4 (cutC l k m)) K { D with laid := l, whole := k, mask := m } := by
  have hl : (cutC l k m).length = 18 := by simp [cutC, vals, hm]
  refine ⟨?_, ((Chg.refl [K.g] w).setCells (List.mem_singleton.2 rfl) _ _).at h.body (by simpa using Ne.symm h.ne), h.ne, { h.ok with mlen := hm, minb := hb, wh := ⟨h0, h1⟩ }⟩
  rw [heap_setCells _ _ _ _ h.row (by rw [row_len h.ok.mlen, hl]; omega)]
  congr 2
  have h2 : (cutC D.laid D.whole D.mask).length = 18 := by simp [cutC, vals, h.ok.mlen]
  simp only [rowC, splice, hl]
  simp [h2]
theorem count_any {w : World} {K : DK} {D : DS} (h : Dsk w K D) (hd : D.due = false) : Calls Try.prog 53 #[K.cutp] w fun e w' => e = .returned (.tuple #[]) ∧ Dsk w' K { D with whole := if D.laid then D.whole - 1 else D.whole } ∧ Chg [K.g] w w' := by
  obtain ⟨_, _, _, _, c4, c5, _⟩ := row0 h.row
  have f5 := free_row h.row 5
  have hw := h.ok.wh
  have H := Lib.hid h
  have hs := fun (h1 : D.whole ≠ 0) => Lib.hid (h.setWhole (D.whole - 1) (by omega) (by omega))
  unfold DK.cutp
  obtain ⟨data, writes, off, laid, whole, mask⟩ := D
  simp only at c4 c5 hw hs ⊢
  cases laid
  · clear h hd hw hs
    go_enter Try.func53, Try.ntmps53
    go_wp2
    refine bodyPost_end (results_none rfl _ _ _) rfl ?_
    exact ⟨rfl, H.out, Chg.refl _ _⟩
  · have hne : whole ≠ 0 := by
      intro h0
      simp [DS.due, h0] at hd
    have HS := hs hne
    clear h hd hs
    go_enter Try.func53, Try.ntmps53
    go_wp2
    refine bodyPost_end (results_none rfl _ _ _) rfl ?_
    exact ⟨rfl, HS.out, chg_one _ _ _ _⟩
/-- what the loop of tear keeps. -/
structure TInv (w : World) (K : DK) (D : DS) (at_ k : Nat) (b : List Int) (wr : World) : Prop where
  body : wr.heap[K.h]? = some (.cells (splice (vals D.data ++ K.sp) (at_ * 128) (vals ((tornL D.mask (secL D.data at_) b).take k))).toArray 5 (0, 0))
  chg : Chg [K.h] w wr
set_option maxRecDepth 100000 in
set_option maxHeartbeats 1000000 in
theorem tear_any {w : World} {K : DK} {D : DS} (h : Dsk w K D) (at_ : Nat) (hat : at_ < D.secs) (c1 c2 : Nat) (A : Option Addr) (b : List Int) (hb : b.length = 128) (hB : Byt w A c2 b) (hA : ∀ a, A = some a → a.block ∉ K.bl) :
    Calls Try.prog 52 #[K.cutp, .slice (some ⟨K.h, at_ * 128, none⟩) 128 c1, .slice A 128 c2] w fun e w' => e = .returned (.tuple #[]) ∧ TInv w K D at_ 128 b w' := by
  obtain ⟨_, _, _, _, _, _, cm⟩ := row0 h.row
  obtain ⟨gb, ob, rfl, hgb, hcb⟩ := hB.2.2 (by omega)
  have hAb := hA _ rfl
  unfold DK.cutp
  go_enter Try.func52, Try.ntmps52
  go_wp2
  go_loopw [9] (fun i wr => ∃ k : Nat, k ≤ 128 ∧ i = .int .i64 k ∧ TInv w K D at_ k b wr) (fun i _ => 128 - (intOf i).toNat)
  case atStart => exact ⟨0, Nat.zero_le _, rfl, ⟨by rw [h.body]; simp [splice, vals], Chg.refl _ _⟩⟩
  case round =>
    obtain ⟨k, hk, rfl, hinv⟩ := hrel
    by_cases hlt : k < 128
    · have hw := h.ok.whole128
      have hgh : K.g ∉ [K.h] := by simpa using h.ne
      have hbh : gb ∉ [K.h] := fun hm => hAb (List.mem_cons_of_mem _ hm)
      have cm1 : wr.cell? ⟨K.g, 6 + k / 8, none⟩ = some (.int .u8 (D.mask.getD (k / 8) 0)) := (World.cell?_of_block (hinv.chg.block K.g h.glt hgh)).trans (cm (k / 8) (by rw [h.ok.mlen]; omega))
      have cb1 : wr.cell? ⟨gb, ob + k, none⟩ = some (.int .u8 (b.getD k 0)) := (World.cell?_of_block (hinv.chg.block gb hgb hbh)).trans (hcb k (by omega))
      have lT : (tornL D.mask (secL D.data at_) b).length = 128 := torn_len _ _ _
      have lL : (vals D.data ++ K.sp).length = D.data.length + K.sp.length := by rw [List.length_append, vals_length]
      have lk : (vals ((tornL D.mask (secL D.data at_) b).take k)).length = k := by rw [vals_length, List.length_take, lT]; omega
      have old : (vals D.data ++ K.sp)[at_ * 128 + k]? = some (.int .u8 (D.data.getD (at_ * 128 + k) 0)) := by
        rw [List.getElem?_append_left (by rw [vals_length]; omega)]
        simp [vals, show at_ * 128 + k < D.data.length by omega]
      have ch1 : wr.cell? ⟨K.h, at_ * 128 + k, none⟩ = some (.int .u8 (D.data.getD (at_ * 128 + k) 0)) := by
        rw [cell_row hinv.body, List.getElem?_toArray, splice_get _ _ _ (by omega), if_neg (by omega), if_neg (by omega), old]
      have fh1 : wr.frozen? ⟨K.h, at_ * 128 + k, none⟩ = false := free_row hinv.body _
      have hT := torn_get D.mask (secL D.data at_) b k hlt
      rw [secL_get _ _ _ hlt] at hT
      have Hbit : bitM D.mask k = bitX (D.mask.getD (k / 8) 0) (k % 8) := rfl
      have Hat := Lib.hid (show at_ * 128 ≤ 2097152 by have := h.ok.most; omega)
      obtain ⟨x, hx⟩ : ∃ x, x = D.mask.getD (k / 8) 0 := ⟨_, rfl⟩
      rw [← hx] at cm1 Hbit
      have hx0 : 0 ≤ x ∧ x < 256 := by rw [hx]; exact h.ok.minb _
      obtain ⟨y, hy⟩ : ∃ y, y = b.getD k 0 := ⟨_, rfl⟩
      rw [← hy] at cb1 hT
      obtain ⟨z, hz⟩ : ∃ z, z = D.data.getD (at_ * 128 + k) 0 := ⟨_, rfl⟩
      rw [← hz] at ch1 old hT
      have hnext : (∀ v : Int, v = (tornL D.mask (secL D.data at_) b).getD k 0 → TInv w K D at_ (k + 1) b (wr.setCell ⟨K.h, at_ * 128 + k, none⟩ (.int .u8 v))) := fun v hv => ⟨by
        have := heap_setCell_same wr K.h (at_ * 128 + k) _ _ (.int .u8 v) hinv.body
        rwa [splice_more _ _ _ _ _ (by omega) (by omega) hv] at this, hinv.chg.setCell (p := ⟨K.h, at_ * 128 + k, none⟩) (List.mem_singleton.2 rfl) _⟩
      have hstay : z = (tornL D.mask (secL D.data at_) b).getD k 0 → TInv w K D at_ (k + 1) b wr := fun hv => ⟨by
        rw [← splice_same _ _ _ _ (by omega) (by omega) (by rw [old, hv])]; exact hinv.body, hinv.chg⟩
      have Hn := Lib.hid hnext
      have Hs := Lib.hid hstay
      have HT := Lib.hid hT
      have hlt' : (k : Int) < 128 := by omega
      clear hw hgh hbh lT lL lk old hT hx hy hz hnext hstay cm hcb hB hA hAb
      cases hbit : bitX x (k % 8)
      · rw [Hbit, hbit, if_neg (by decide)] at HT
        have hb2 : (bits .and .u8 (x / 2 ^ (k % 8)) 1 == 1) = false := hbit
        clear Hbit hbit
        go_wp2
        go_roundw
        case rel => exact ⟨k + 1, by omega, by go_num, Hs.out HT.out.symm⟩
        case measure => simp [intOf]; omega
      · rw [Hbit, hbit, if_pos rfl] at HT
        have hb2 : (bits .and .u8 (x / 2 ^ (k % 8)) 1 == 1) = true := hbit
        clear Hbit hbit
        go_wp2
        go_roundw
        case rel => exact ⟨k + 1, by omega, by go_num, Hn.out y HT.out.symm⟩
        case measure => simp [intOf]; omega
    · go_wp2
      refine bodyPost_end (results_none rfl _ _ _) rfl ?_
      obtain rfl : k = 128 := by omega
      exact ⟨rfl, hinv⟩
end Go.Proofs.Ytpeioogkbcejmaa.Dsk
/- DERIVED. append of any slice of bytes, nil let in, to a row of the call's own. -/
namespace Go.Proofs.Ytpeioogkbcejmaa
open Go.RowKit
theorem info8z : (Try.prog.info? 5).map (fun i => (i.zero, i.size, i.bytes)) = some (some (.int .u8 0), 1, 1) := by kernel_rfl
theorem vals_app (L M : List Int) : vals L ++ vals M = vals (L ++ M) := by simp [vals]
theorem wpList_append_any {w : World} {ops : Array Oper} {rest : List Oper} {o : Oper} {a : Act} {Q : Exit → Act → World → Prop} (hgd : o.guard = none) (s x : Operand)
    (ho : o.op = .call { callee := .builtin .append, args := #[s, x], argTypes := #[33, 33] }) (base : Nat) (v : Value) (n : Nat) (L : List Int) (hs : a.eval s = v) (hown : w.ownsRow base 5 1 v n (vals L))
    (A : Option Addr) (m c : Nat) (M : List Int) (hx : a.eval x = .slice A m c) (hm : M.length = m) (hB : Byt w A c M) (h63 : n + m ≤ 4294967296) (hbase : base ≤ w.heap.size)
    (h : ∀ v' w', w'.ownsRow base 5 1 v' (n + m) (vals (L ++ M)) → (∀ B u, Below B u w → B ≤ base → Below B u w') → wpList Try.prog ops Q rest (a.put o.dst v') w') : wpList Try.prog ops Q (o :: rest) a w := by
  obtain ⟨i0, hi0, hz00, hz10, hz20⟩ := info_parts info8z
  cases A with
  | none =>
    have hc := hB.2.1 rfl
    have hm0 : m = 0 := by have := hB.1; omega
    subst hc hm0
    obtain rfl : M = [] := List.eq_nil_of_length_eq_zero hm
    refine wpList_append_own_none hgd s x 33 ho base 5 i0 1 Try.underlying33 hi0 v n (vals L) hs hown hx ?_
    exact h v w (by simpa using hown) (fun _ _ h _ => h)
  | some ad =>
    refine wpList_append_own_at _ hgd s x 33 ho base 5 i0 (.int .u8 0) 1 1 Try.underlying33 hi0 hz00 hz10 hz20 rfl (by decide) v n (vals L) hs hown ad m c (vals M) hx (by rw [vals_length, hm]; omega)
      (hB.cells (fun _ _ => rfl) ad rfl) (vals_one _) (by unfold maxLen; omega) (by omega) hbase ?_
    intro v' w' hown' hgrow _ _
    rw [vals_app] at hown'
    exact h v' w' hown' (fun B u hu hB' => hu.grown hgrow (by omega) (fun k hk => by have := (hown.lt k hk).1; omega))
end Go.Proofs.Ytpeioogkbcejmaa
/- DERIVED. Rows of numbers of any kind that a call makes by append: what they hold, how they grow, what stays. No program. -/
namespace Go.Proofs.Ytpeioogkbcejmaa
open Go.RowKit
def valsK (k : IntKind) (L : List Int) : List Value := L.map (Value.int k)
theorem valsK_length (k : IntKind) (L : List Int) : (valsK k L).length = L.length := by simp [valsK]
theorem valsK_one (k : IntKind) (L : List Int) : ∀ u ∈ valsK k L, u.oneCell' = true := by
  intro u hu
  simp only [valsK, List.mem_map] at hu
  obtain ⟨x, _, rfl⟩ := hu
  rfl
theorem one_oneK (k : IntKind) (x : Int) : ∀ u ∈ [Value.int k x], u.oneCell' = true := by
  intro u hu
  simp at hu
  subst hu
  rfl
theorem valsK_u8 (L : List Int) : valsK .u8 L = vals L := rfl
theorem moreK (k : IntKind) (L : List Int) (x : Int) : valsK k L ++ [.int k x] = valsK k (L ++ [x]) := by simp [valsK]
theorem take_moreK (k : IntKind) {L : List Int} {j : Nat} (h : j < L.length) : valsK k (L.take j) ++ [.int k (L.getD j 0)] = valsK k (L.take (j + 1)) := by
  have e : L.getD j 0 = L[j] := by simp [List.getD_eq_getElem?_getD, h]
  rw [e, List.take_succ_eq_append_getElem h]
  simp only [valsK, List.map_append, List.map_cons, List.map_nil]
theorem take_getD {L : List Int} {j : Nat} (h : j < L.length) : L.take j ++ [L.getD j 0] = L.take (j + 1) := by
  have e : L.getD j 0 = L[j] := by simp [List.getD_eq_getElem?_getD, h]
  rw [e, List.take_succ_eq_append_getElem h]
/-- numbers that lie in a row, from its beginning on. -/
def RowK (k : IntKind) (w : World) (g : Nat) (L : List Int) : Prop := g < w.heap.size ∧ ∀ j, j < L.length → w.cell? ⟨g, j, none⟩ = some (.int k (L.getD j 0))
theorem RowK.below {k : IntKind} {w w' : World} {g B : Nat} {L : List Int} (h : RowK k w g L) (hb : Below B w w') (hB : g < B) : RowK k w' g L :=
  ⟨Nat.lt_of_lt_of_le h.1 hb.size, fun j hj => (World.cell?_of_block (hb.block _ hB)).trans (h.2 j hj)⟩
theorem RowK.later {k : IntKind} {w w' : World} {g : Nat} {L : List Int} (h : RowK k w g L) (hb : Below w.heap.size w w') : RowK k w' g L := h.below hb h.1
/-- what a value of the call's own holds: nothing, or a row of its own. -/
theorem own_rowK {k : IntKind} {w : World} {base n : Nat} {t : TypeId} {v : Value} {L : List Int} (h : w.ownsRow base t 1 v n (valsK k L)) (hl : L.length = n) (h0 : 0 < n) : ∃ g c, v = .slice (some ⟨g, 0, none⟩) n c ∧ n ≤ c ∧ base ≤ g ∧ RowK k w g L := by
  obtain ⟨_, h⟩ := h
  rcases h with ⟨_, h⟩ | ⟨g, cap, cur, hv, hb, hh, hcap, _, hs, ht⟩
  · omega
  · refine ⟨g, cap, hv, hcap, hb, (Array.getElem?_eq_some_iff.1 hh).1, fun j hj => ?_⟩
    rw [cell_row hh]
    have h2 : cur[j]? = cur.toList[j]? := by simp
    have h3 : (cur.toList.take (n * 1))[j]? = cur.toList[j]? := by rw [List.getElem?_take, if_pos (by omega)]
    rw [h2, ← h3, ht]
    simp [valsK, show j < L.length by omega]
theorem own_nilK {w : World} {base : Nat} {t : TypeId} {v : Value} {L : List Value} {n : Nat} (h : w.ownsRow base t 1 v n L) : ∃ A c, v = .slice A n c := by
  obtain ⟨_, h⟩ := h
  rcases h with ⟨h, h0⟩ | ⟨g, cap, cur, hv, _⟩
  · subst h0; exact ⟨none, 0, h⟩
  · exact ⟨_, cap, hv⟩
theorem RowK.byt {w : World} {g c : Nat} {L : List Int} (h : RowK .u8 w g L) (hc : L.length ≤ c) : Byt w (some ⟨g, 0, none⟩) c L :=
  ⟨hc, (fun h => by cases h), fun _ => ⟨g, 0, rfl, h.1, fun j hj => by rw [Nat.zero_add]; exact h.2 j hj⟩⟩
/-- a row of the call's own stays where nothing below a bound above it turns. -/
theorem own_stays {w w' : World} {base n s : Nat} {t : TypeId} {v : Value} {L : List Value} (h : w.ownsRow base t s v n L) (hb : Below w.heap.size w w') : w'.ownsRow base t s v n L := by
  obtain ⟨h1, h⟩ := h
  refine ⟨h1, ?_⟩
  rcases h with h | ⟨g, cap, cur, h1, h2, h3, h4, h5, h6, h7⟩
  · exact .inl h
  · exact .inr ⟨g, cap, cur, h1, h2, (hb.block _ (Array.getElem?_eq_some_iff.1 h3).1).trans h3, h4, h5, h6, h7⟩
theorem partsK {P : Program} {t : TypeId} {z : Value} {s b : Nat} (h : (P.info? t).map (fun i => (i.zero, i.size, i.bytes)) = some (some z, s, b)) : ∃ i, P.info? t = some i ∧ i.zero = some z ∧ i.size = s ∧ i.bytes = b := by
  cases hq : P.info? t with
  | none => rw [hq] at h; cases h
  | some i =>
    rw [hq] at h
    simp at h
    exact ⟨i, rfl, h.1, h.2.1, h.2.2⟩
theorem own_alloc {w : World} {base n s : Nat} {t : TypeId} {v : Value} {L : List Value} (h : w.ownsRow base t s v n L) (o : Obj) : (w.alloc o).ownsRow base t s v n L :=
  own_stays h ((Below.refl w.heap.size w).alloc (Nat.le_refl _) o)
/-- a row of the call's own, one number longer: what it holds then, what is as it was. -/
structure Grew (k : IntKind) (base : Nat) (e : TypeId) (n : Nat) (L : List Int) (y : Int) (wr : World) (v v' : Value) (w' : World) : Prop where
  own : w'.ownsRow base e 1 v' (n + 1) (valsK k (L ++ [y]))
  low : ∀ B u, Below B u wr → B ≤ base → Below B u w'
  keep : ∀ q b, wr.heap[q]? = some b → v.ownBlock ≠ some q → w'.heap[q]? = some b
  size : wr.heap.size ≤ w'.heap.size
theorem wpList_append_mine {P : Program} {k : IntKind} {wr : World} {ops : Array Oper} {rest : List Oper} {o : Oper} {a : Act} {Q : Exit → Act → World → Prop} (hgd : o.guard = none) (s x : Operand) (t : TypeId)
    (ho : o.op = .call { callee := .builtin .append, args := #[s, x], argTypes := #[t, t] }) (base : Nat) (e : TypeId) (i : TypeInfo) (z : Value) (bytes : Nat) (ht : P.underlying t = some (.slice e)) (hi : P.info? e = some i) (hz : i.zero = some z)
    (hsize : i.size = 1) (hby : i.bytes = bytes) (hzs : z.cells.size = 1) (hb8 : bytes ≤ 8) (v : Value) (n : Nat) (L : List Int) (y : Int) (hs : a.eval s = v) (hown : wr.ownsRow base e 1 v n (valsK k L)) (hx : a.eval x = .slice (some ⟨wr.heap.size, 0, none⟩) 1 1)
    (hn : n ≤ 100000) (hbase : base ≤ wr.heap.size) (h : ∀ v' w', Grew k base e n L y wr v v' w' → wpList P ops Q rest (a.put o.dst v') w') : wpList P ops Q (o :: rest) a (wr.alloc (.cells #[.int k y] e)) := by
  have hsz : (wr.alloc (.cells #[.int k y] e)).heap.size = wr.heap.size + 1 := by rw [World.size_alloc]
  have hge : ∀ q, v.ownBlock = some q → base ≤ q := fun q hq => (hown.lt q hq).1
  have hlt : ∀ q, v.ownBlock = some q → q < wr.heap.size := fun q hq => (hown.lt q hq).2
  refine wpList_append_own_at _ hgd s x t ho base e i z 1 bytes ht hi hz hsize hby hzs (by decide) v n (valsK k L) hs (own_alloc hown _) ⟨wr.heap.size, 0, none⟩ 1 1 [.int k y] hx rfl (cell_one_new _ _ _) (one_oneK k y) (by unfold maxLen; omega) (by have : (n + 1) * bytes ≤ (n + 1) * 8 := Nat.mul_le_mul_left _ hb8; omega) (by omega) ?_
  intro v' w' hown' hgrow _ _
  rw [moreK] at hown'
  have hs2 := hgrow.size
  exact h v' w' ⟨hown', fun B u hb hB => (hb.alloc (Nat.le_trans hB hbase) _).grown hgrow (by omega) (fun q hq => Nat.le_trans hB (hge q hq)), fun q b hq hne => by
    have hq2 := (Array.getElem?_eq_some_iff.1 hq).1
    rw [hgrow.block q (by omega) (fun e => hne (by rw [e]))]
    exact (Go.heap_alloc_old _ _ hq2).trans hq, by omega⟩
end Go.Proofs.Ytpeioogkbcejmaa
/- DERIVED. A row of the call's own, empty or not, as bytes. No program. -/
namespace Go.Proofs.Ytpeioogkbcejmaa
open Go.RowKit
/-- a row of the call's own, empty or not, as bytes. -/
theorem own_bytK {w : World} {base n : Nat} {t : TypeId} {v : Value} {L : List Int} (h : w.ownsRow base t 1 v n (valsK .u8 L)) (hl : L.length = n) : ∃ A c, v = .slice A n c ∧ Byt w A c L := by
  by_cases h0 : 0 < n
  · obtain ⟨g, c, hv, hc, _, hr⟩ := own_rowK h hl h0
    exact ⟨_, c, hv, by omega, (fun h => by cases h), fun _ => ⟨g, 0, rfl, hr.1, fun j hj => by rw [Nat.zero_add]; exact hr.2 j hj⟩⟩
  · obtain rfl : n = 0 := by omega
    obtain rfl : L = [] := List.eq_nil_of_length_eq_zero hl
    obtain ⟨_, h⟩ := h
    rcases h with ⟨h, _⟩ | ⟨g, cap, cur, hv, _⟩
    · exact ⟨none, 0, h, Nat.le_refl _, fun _ => rfl, fun h => absurd h (Nat.lt_irrefl 0)⟩
    · exact ⟨_, cap, hv, Nat.zero_le _, (fun h => by cases h), fun h => absurd h (Nat.lt_irrefl 0)⟩
theorem own_lower {w : World} {base b s n : Nat} {t : TypeId} {v : Value} {L : List Value} (h : w.ownsRow base t s v n L) (hb : b ≤ base) : w.ownsRow b t s v n L := by
  obtain ⟨h1, h⟩ := h
  refine ⟨h1, ?_⟩
  rcases h with h | ⟨g, cap, cur, h1, h2, h3⟩
  · exact .inl h
  · exact .inr ⟨g, cap, cur, h1, by omega, h3⟩
end Go.Proofs.Ytpeioogkbcejmaa
