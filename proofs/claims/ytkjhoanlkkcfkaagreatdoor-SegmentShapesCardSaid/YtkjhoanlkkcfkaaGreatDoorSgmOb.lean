/- DERIVED. What segment.Open's closures share; a region that stores into one row; the counter's next epoch. -/
import Derived.Test.YtkjhoanlkkcfkaaGreatDoorSgmOpened
import Derived.Test.YtkjhoanlkkcfkaaGreatDoorSgmCtx
namespace Go.Proofs.YtkjhoanlkkcfkaaGreatDoor.Sgm
open Go.RowKit Dsk Slt Epo
/-- the world of a region that stores into the row g by operation q, and whose calls may change the blocks X besides. -/
structure RSt (T0 : TypeId) (g : Nat) (R : Array Value) (q : Nat) (X : List Nat) (W : World) (ll : Array Bool) (wx : World) : Prop where
  chg : Chg (g :: X) W wx
  row : ll.getD q false = false → wx.heap[g]? = some (.cells R T0 (0, 0))
section
variable {T0 : TypeId} {g q : Nat} {R : Array Value} {X : List Nat} {W wx w' : World} {ll : Array Bool}
theorem RSt.start {n : Nat} (h : W.heap[g]? = some (.cells R T0 (0, 0))) : RSt T0 g R q X W (Array.replicate n false) W.drew := ⟨Chg.of_below (Below.refl _ _).drew, fun _ => h⟩
theorem RSt.same {i : Nat} (h : RSt T0 g R q X W ll wx) (hi : i ≠ q) : RSt T0 g R q X W (ll.setIfInBounds i true) wx := ⟨h.chg, by rw [getD_set_ne false hi]; exact h.row⟩
theorem RSt.call {i : Nat} (h : RSt T0 g R q X W ll wx) (hg : g < W.heap.size) (hi : i ≠ q) (hb : Below wx.heap.size wx w') : RSt T0 g R q X W (ll.setIfInBounds i true) w' :=
  ⟨h.chg.trans (Chg.of_below hb), by rw [getD_set_ne false hi]; exact fun a => (hb.block _ (Nat.lt_of_lt_of_le hg h.chg.size)).trans (h.row a)⟩
theorem RSt.callX {i : Nat} (h : RSt T0 g R q X W ll wx) (hi : i ≠ q) (hgX : g ∉ X) (hb : Chg X wx w') : RSt T0 g R q X W (ll.setIfInBounds i true) w' :=
  ⟨h.chg.trans (hb.mono (fun k hk => .inl (by simp [hk]))), by rw [getD_set_ne false hi]; exact fun a => hb.at (h.row a) hgX⟩
theorem RSt.store {o : Nat} {z : Value} (h : RSt T0 g R q X W ll wx) (hs : q < ll.size) : RSt T0 g R q X W (ll.setIfInBounds q true) (wx.setCell ⟨g, o, none⟩ z) := ⟨h.chg.setCell (by simp) z, fun a => by simp [hs] at a⟩
end
/-- what the store leaves. -/
def RowAt (T0 : TypeId) (g : Nat) (R : Array Value) (_v : Value) (w : World) : Prop := w.heap[g]? = some (.cells R T0 (0, 0))
theorem RowAt.later {T0 : TypeId} {g : Nat} {R : Array Value} {v : Value} {w w' : World} (h : RowAt T0 g R v w) (hb : Below w.heap.size w w') : RowAt T0 g R v w' := (hb.block _ (Array.getElem?_eq_some_iff.1 h).1).trans h
/-- the counter's step. -/
def nxtD (D : DS) (v : Nat) : DS := if v = 1024 then D else (nextD D 0 v).1
def nxtE (D : DS) (v : Nat) : Int := if v = 1024 then 0 else (nextD D 0 v).2
def nxtP (D : DS) (v : Nat) : Nat := if v = 1024 then 0 else if (nextD D 0 v).2 = 0 then v + 1 else 0
theorem nextE_cases (D : DS) (f v : Nat) (ho : D.off = false) (hfit : (f + v / 128) * 128 + 128 ≤ D.data.length) : (nextD D f v).2 = 0 ∨ (nextD D f v).2 = 12 := by
  have h := next_q D f v ho hfit
  cases hd : D.due
  · exact .inl (h.yes hd).1
  · exact .inr (h.no hd).1
set_option maxRecDepth 100000 in
set_option maxHeartbeats 1000000 in
theorem nextEpoch_any {w : World} {K : DK} {gC v : Nat} {D : DS} (h : Dsk w K D) (hc : Ct w K gC ⟨0, 1024, v⟩) (hg : gC ∉ K.bl) (hv : v ≤ 1024) (hfit : 1024 ≤ D.data.length) (ho : D.off = false) (hw : D.writes ≤ 1152921504606846976) :
    Calls Tryz.prog 50 #[.pointer (some ⟨gC, 0, none⟩)] w fun e w' => e = .returned (.tuple #[.int .u32 (nxtP D v : Nat), .int .i64 (nxtE D v)]) ∧ Dsk w' K (nxtD D v) ∧ Chg (gC :: K.bl) w w' := by
  by_cases hf : v = 1024
  · have Hn := Lib.hid (next_full hc (by simpa using hf))
    have e1 : nxtP D v = 0 := by unfold nxtP; rw [if_pos hf]
    have e2 : nxtE D v = 0 := by unfold nxtE; rw [if_pos hf]
    have e3 : nxtD D v = D := by unfold nxtD; rw [if_pos hf]
    rw [e1, e2, e3]
    have HD := Lib.hid h
    clear h hc hg hv hfit ho hw hf e1 e2 e3
    go_enter Tryz.func50, Tryz.ntmps50
    go_wp2_with (go_at_call 84; refine Hn.out.mono ?_; rintro e w2 ⟨rfl, hb2⟩; have Hb2 := Lib.hid hb2; clear hb2)
    go_ret2
    exact ⟨rfl, HD.out.later Hb2.out, Chg.of_below Hb2.out⟩
  · have hlt : v < 1024 := by omega
    have hn := next_on h hc hg (C := ⟨0, 1024, v⟩) hlt (by simpa using hfit) ho hw
    have hcs := nextE_cases D 0 v ho (by omega)
    obtain ⟨x, hx⟩ : ∃ x, x = (nextD D 0 v).2 := ⟨_, rfl⟩
    have e2 : nxtE D v = x := by unfold nxtE; rw [if_neg hf, hx]
    have e3 : nxtD D v = (nextD D 0 v).1 := by unfold nxtD; rw [if_neg hf]
    have e1 : nxtP D v = if x = 0 then v + 1 else 0 := by unfold nxtP; rw [if_neg hf, hx]
    rw [e1, e2, e3]
    rw [← hx] at hcs
    have Hn : Hid (Calls Tryz.prog 84 #[.pointer (some ⟨gC, 0, none⟩)] w fun e w' => e = .returned (.int .i64 x) ∧ Dsk w' K (nextD D 0 v).1 ∧ Ct w' K gC (CV.step ⟨0, 1024, v⟩ x) ∧ Chg (gC :: K.bl) w w') := by rw [hx]; exact hn
    clear h hc hg hv hfit ho hw hf e1 e2 e3 hn hx
    rcases hcs with rfl | rfl
    · obtain ⟨u, hu⟩ : ∃ u, u = v + 1 := ⟨_, rfl⟩
      have huI : (u : Int) ≤ 1024 := by omega
      rw [if_pos rfl, ← hu]
      have HVv : Hid (∀ W, Ct W K gC (CV.step ⟨0, 1024, v⟩ 0) → Calls Tryz.prog 48 #[.pointer (some ⟨gC, 0, none⟩)] W fun e w' => e = .returned (.int .i64 (u : Nat)) ∧ W = w') := fun W hW => by rw [hu]; exact value_any hW
      clear hlt hu
      go_enter Tryz.func50, Tryz.ntmps50
      go_wp2_with (first
        | (go_at_call 84; refine Hn.out.mono ?_; rintro e w2 ⟨rfl, hd2, hc2, hch2⟩; have Hd2 := Lib.hid hd2; have Hch2 := Lib.hid hch2; have Hv := Lib.hid (HVv.out _ hc2); clear hd2 hc2 hch2)
        | (go_at_call 48; refine Hv.out.mono ?_; rintro e w3 ⟨rfl, rfl⟩))
      go_ret2
      exact ⟨rfl, Hd2.out, Hch2.out⟩
    · rw [if_neg (by decide)]
      clear hlt
      go_enter Tryz.func50, Tryz.ntmps50
      go_wp2_with (go_at_call 84; refine Hn.out.mono ?_; rintro e w2 ⟨rfl, hd2, hc2, hch2⟩; have Hd2 := Lib.hid hd2; have Hch2 := Lib.hid hch2; clear hd2 hc2 hch2)
      go_ret2
      exact ⟨rfl, Hd2.out, Hch2.out⟩
/-- what the closures of Open share: the boxes, and the segment that comes. -/
structure OB (w0 w : World) (K : DK) (bd bs bc gS : Nat) (lg cp : Option Addr) (key : List Int) (A : Option Addr) (c : Nat) (C : List Int) (ep : Nat) (tv : Value) (D : DS) : Prop where
  d : w.heap[bd]? = some (.cells #[K.ptr] 32 (0, 0))
  s : w.heap[bs]? = some (.cells #[.pointer (some ⟨gS, 0, none⟩)] 42 (0, 0))
  cc : w.heap[bc]? = some (.cells #[.pointer cp] 93 (0, 0))
  r : w.heap[gS]? = some (.cells (rowG none K lg key (.slice A C.length c) ep tv false) 92 (0, 0))
  dsk : Dsk w K D
  low : Chg K.bl w0 w
  ctx : Byt w A c C
  base : w0.heap.size ≤ bd ∧ w0.heap.size ≤ bs ∧ w0.heap.size ≤ bc ∧ w0.heap.size ≤ gS
  ne : bd ≠ bc ∧ bd ≠ gS ∧ bs ≠ bc ∧ bs ≠ gS ∧ bc ≠ gS
  ctxn : ∀ a, A = some a → w0.heap.size ≤ a.block ∧ a.block ≠ bd ∧ a.block ≠ bs ∧ a.block ≠ bc ∧ a.block ≠ gS
  ctxl : ∀ a, A = some a → a.block < w.heap.size
  kin : ∀ q ∈ K.bl, q < w0.heap.size
section
variable {w0 w w' : World} {K : DK} {bd bs bc gS : Nat} {lg cp : Option Addr} {key : List Int} {A : Option Addr} {c : Nat} {C : List Int} {ep : Nat} {tv : Value} {D D' : DS}
theorem OB.lt (h : OB w0 w K bd bs bc gS lg cp key A c C ep tv D) : bd < w.heap.size ∧ bs < w.heap.size ∧ bc < w.heap.size ∧ gS < w.heap.size :=
  ⟨(Array.getElem?_eq_some_iff.1 h.d).1, (Array.getElem?_eq_some_iff.1 h.s).1, (Array.getElem?_eq_some_iff.1 h.cc).1, (Array.getElem?_eq_some_iff.1 h.r).1⟩
theorem OB.chg {X : List Nat} (h : OB w0 w K bd bs bc gS lg cp key A c C ep tv D) (hc : Chg X w w') (hd : Dsk w' K D') (hX : ∀ q ∈ X, q ∈ K.bl ∨ (w.heap.size ≤ q ∨ (w0.heap.size ≤ q ∧ q ≠ bd ∧ q ≠ bs ∧ q ≠ bc ∧ q ≠ gS ∧ ∀ a, A = some a → a.block ≠ q))) : OB w0 w' K bd bs bc gS lg cp key A c C ep tv D' := by
  obtain ⟨l1, l2, l3, l4⟩ := h.lt
  obtain ⟨b1, b2, b3, b4⟩ := h.base
  have key : ∀ q, w0.heap.size ≤ q → q < w.heap.size → (q = bd ∨ q = bs ∨ q = bc ∨ q = gS ∨ ∃ a, A = some a ∧ a.block = q) → q ∉ X := by
    intro q hq hlt ho hm
    rcases hX q hm with hk | hk | ⟨_, n1, n2, n3, n4, n5⟩
    · have := h.kin q hk; omega
    · omega
    · rcases ho with e | e | e | e | ⟨a, ea, e⟩
      · exact n1 e
      · exact n2 e
      · exact n3 e
      · exact n4 e
      · exact n5 a ea e
  refine ⟨hc.at h.d (key _ b1 l1 (.inl rfl)), hc.at h.s (key _ b2 l2 (.inr (.inl rfl))), hc.at h.cc (key _ b3 l3 (.inr (.inr (.inl rfl)))), hc.at h.r (key _ b4 l4 (.inr (.inr (.inr (.inl rfl))))), hd, ?_, ?_, h.base, h.ne, h.ctxn, fun a ha => Nat.lt_of_lt_of_le (h.ctxl a ha) hc.size, h.kin⟩
  · refine ((h.low.mono (T := K.bl ++ X) (fun k hk => .inl (by simp [hk]))).trans (hc.mono (T := K.bl ++ X) (fun k hk => .inl (by simp [hk])))).mono (fun k hk => ?_)
    rcases List.mem_append.1 hk with hk | hk
    · exact .inl hk
    · rcases hX k hk with h1 | h1 | h1
      · exact .inl h1
      · exact .inr (Nat.le_trans h.low.size h1)
      · exact .inr h1.1
  · exact h.ctx.chg hc (fun a ha => key _ (h.ctxn a ha).1 (h.ctxl a ha) (.inr (.inr (.inr (.inr ⟨a, ha, rfl⟩)))))
theorem OB.later (h : OB w0 w K bd bs bc gS lg cp key A c C ep tv D) (hb : Below w.heap.size w w') : OB w0 w' K bd bs bc gS lg cp key A c C ep tv D :=
  h.chg (X := []) (Chg.of_below hb) (h.dsk.later hb) (by simp)
theorem OB.kn (h : OB w0 w K bd bs bc gS lg cp key A c C ep tv D) : bd ∉ K.bl ∧ bs ∉ K.bl ∧ bc ∉ K.bl ∧ gS ∉ K.bl := by
  obtain ⟨b1, b2, b3, b4⟩ := h.base
  exact ⟨fun h1 => by have := h.kin _ h1; omega, fun h1 => by have := h.kin _ h1; omega, fun h1 => by have := h.kin _ h1; omega, fun h1 => by have := h.kin _ h1; omega⟩
theorem OB.dskc {X : List Nat} (h : OB w0 w K bd bs bc gS lg cp key A c C ep tv D) (hc : Chg X w w') (hX : ∀ q ∈ X, w0.heap.size ≤ q) : Dsk w' K D :=
  h.dsk.chg hc (fun hm => by have := h.kin K.g (by simp [DK.bl]); have := hX _ hm; omega) (fun hm => by have := h.kin K.h (by simp [DK.bl]); have := hX _ hm; omega)
theorem OB.lowc {X : List Nat} (h : OB w0 w K bd bs bc gS lg cp key A c C ep tv D) (hc : Chg X w w') (hX : ∀ q ∈ X, w0.heap.size ≤ q) : Chg K.bl w0 w' := by
  refine ((h.low.mono (T := K.bl ++ X) (fun k hk => .inl (by simp [hk]))).trans (hc.mono (T := K.bl ++ X) (fun k hk => .inl (by simp [hk])))).mono (fun k hk => ?_)
  rcases List.mem_append.1 hk with hk | hk
  · exact .inl hk
  · exact .inr (hX k hk)
/-- the counter's box is written. -/
theorem OB.setC (h : OB w0 w K bd bs bc gS lg cp key A c C ep tv D) (x : Option Addr) : OB w0 (w.setCell ⟨bc, 0, none⟩ (.pointer x)) K bd bs bc gS lg x key A c C ep tv D := by
  have hc : Chg [bc] w (w.setCell ⟨bc, 0, none⟩ (.pointer x)) := (Chg.refl [bc] w).setCell (by simp) _
  obtain ⟨n1, n2, n3, n4, n5⟩ := h.ne
  have hX : ∀ q ∈ [bc], w0.heap.size ≤ q := by simp; exact h.base.2.2.1
  exact ⟨hc.at h.d (by simp; exact n1), hc.at h.s (by simp; exact n3), heap_setCell_same _ _ _ _ _ _ h.cc, hc.at h.r (by simp; exact fun e => n5 e.symm), h.dskc hc hX, h.lowc hc hX, h.ctx.chg hc (fun a ha => by simp; exact (h.ctxn a ha).2.2.2.1), h.base, h.ne, h.ctxn, fun a ha => Nat.lt_of_lt_of_le (h.ctxl a ha) hc.size, h.kin⟩
/-- the segment's row is another one. -/
theorem OB.setR {lg' : Option Addr} {ep' : Nat} {tv' : Value} {X : List Nat} (h : OB w0 w K bd bs bc gS lg cp key A c C ep tv D) (hc : Chg (gS :: X) w w') (hd : Dsk w' K D') (hX : ∀ q ∈ X, q ∈ K.bl ∨ (w.heap.size ≤ q ∨ (w0.heap.size ≤ q ∧ q ≠ bd ∧ q ≠ bs ∧ q ≠ bc ∧ q ≠ gS ∧ ∀ a, A = some a → a.block ≠ q)))
    (hr : w'.heap[gS]? = some (.cells (rowG none K lg' key (.slice A C.length c) ep' tv' false) 92 (0, 0))) : OB w0 w' K bd bs bc gS lg' cp key A c C ep' tv' D' := by
  obtain ⟨l1, l2, l3, l4⟩ := h.lt
  obtain ⟨b1, b2, b3, b4⟩ := h.base
  obtain ⟨n1, n2, n3, n4, n5⟩ := h.ne
  have hk : ∀ q, w0.heap.size ≤ q → q < w.heap.size → q ≠ gS → (q = bd ∨ q = bs ∨ q = bc ∨ ∃ a, A = some a ∧ a.block = q) → q ∉ gS :: X := by
    intro q hq hlt hne ho hm
    rcases List.mem_cons.1 hm with hm | hm
    · exact hne hm
    rcases hX q hm with hk | hk | ⟨_, m1, m2, m3, m4, m5⟩
    · have := h.kin q hk; omega
    · omega
    · rcases ho with e | e | e | ⟨a, ea, e⟩
      · exact m1 e
      · exact m2 e
      · exact m3 e
      · exact m5 a ea e
  refine ⟨hc.at h.d (hk _ b1 l1 n2 (.inl rfl)), hc.at h.s (hk _ b2 l2 n4 (.inr (.inl rfl))), hc.at h.cc (hk _ b3 l3 n5 (.inr (.inr (.inl rfl)))), hr, hd, ?_, ?_, h.base, h.ne, h.ctxn, fun a ha => Nat.lt_of_lt_of_le (h.ctxl a ha) hc.size, h.kin⟩
  · refine ((h.low.mono (T := K.bl ++ (gS :: X)) (fun k hk => .inl (by simp [hk]))).trans (hc.mono (T := K.bl ++ (gS :: X)) (fun k hk => .inl (List.mem_append.2 (.inr hk))))).mono (fun k hk => ?_)
    rcases List.mem_append.1 hk with hk | hk
    · exact .inl hk
    · rcases List.mem_cons.1 hk with rfl | hk
      · exact .inr b4
      · rcases hX k hk with h1 | h1 | h1
        · exact .inl h1
        · exact .inr (Nat.le_trans h.low.size h1)
        · exact .inr h1.1
  · exact h.ctx.chg hc (fun a ha => hk _ (h.ctxn a ha).1 (h.ctxl a ha) (h.ctxn a ha).2.2.2.2 (.inr (.inr (.inr ⟨a, ha, rfl⟩))))
end
end Go.Proofs.YtkjhoanlkkcfkaaGreatDoor.Sgm
