/- DERIVED. The contract of slots.Log.Append. -/
import Derived.Test.YthjjkbgkfikglaaSltWrite
namespace Go.Proofs.Ythjjkbgkfikglaa.Slt
open Go.RowKit Dsk
/-- what Append does to the disk and to the log; what it returns. -/
def appD (D : DS) (S : LS) (t : List Int) : DS × LS × Int :=
  if S.lost = true ∨ D.off = true then (D, S, 12)
  else if 262144 < t.length then (D, S, 3)
  else if S.secs - S.used < tk t.length then (D, S, 7)
  else if (writD D (S.from_ + S.used) t (firstK t.length (S.secs - S.used))).2 = 0 then
    ((writD D (S.from_ + S.used) t (firstK t.length (S.secs - S.used))).1, { S with used := S.used + tk t.length, texts := S.texts ++ [t] }, 0)
  else ((writD D (S.from_ + S.used) t (firstK t.length (S.secs - S.used))).1, { S with lost := true }, (writD D (S.from_ + S.used) t (firstK t.length (S.secs - S.used))).2)
/-- what a call leaves of a disk and its log. -/
structure AppQ (w w' : World) (K : DK) (J J' : LK) (D : DS) (S : LS) : Prop where
  dsk : Dsk w' K D
  lg : Lg w' K J' S
  g : J'.g = J.g
  chg : Chg (K.bl ++ J.bl) w w'
  bl : ∀ q ∈ J'.bl, q ∈ J.bl ∨ w.heap.size ≤ q
  tx : ∀ q ∈ J'.tx, q ∈ J.tx ∨ w.heap.size ≤ q
theorem AppQ.same {w w' : World} {K : DK} {J : LK} {D : DS} {S : LS} (hd : Dsk w K D) (h : Lg w K J S) (hb : Below w.heap.size w w') : AppQ w w' K J J D S :=
  ⟨hd.later hb, h.later hb, rfl, Chg.of_below hb, fun _ h => .inl h, fun _ h => .inl h⟩
theorem rowL_lost {K : DK} {J : LK} {S : LS} : (rowL K J S).setIfInBounds 6 (.bool true) = rowL K J { S with lost := true } := rfl
theorem Lg.lose {w w' : World} {K : DK} {J : LK} {S : LS} (h : Lg w K J S) (hc : Chg [J.g] w w') (hr : w'.heap[J.g]? = some (.cells (rowL K J { S with lost := true }) 61 (0, 0))) : Lg w' K J { S with lost := true } where
  row := hr
  own := own_chg h.own hc (fun q hq => by simp; exact h.gv q hq)
  gv := h.gv
  txt i hi := (h.txt i hi).chg hc (fun q hq => by
    simp
    rintro rfl
    refine (h.tap J.g ?_).2 (by simp [LK.bl])
    unfold LK.tx
    rw [List.mem_flatMap]
    have hl : i < J.ts.length := by rw [h.len]; exact hi
    refine ⟨J.ts.getD i undef, ?_, by simpa using hq⟩
    rw [List.getD_eq_getElem?_getD, List.getElem?_eq_getElem hl, Option.getD_some]
    exact List.getElem_mem hl)
  tlt q hq := Nat.lt_of_lt_of_le (h.tlt q hq) hc.size
  tap := h.tap
  kap := h.kap
  inb := h.inb
  fit := h.fit
  end_ := h.end_
  cnt := h.cnt
theorem byt_chg {w w' : World} {A : Option Addr} {c : Nat} {L : List Int} {T : List Nat} (h : Byt w A c L) (hc : Chg T w w') (hA : 0 < L.length → ∀ a, A = some a → a.block ∉ T) : Byt w' A c L := by
  by_cases h0 : 0 < L.length
  · exact h.chg hc (hA h0)
  · exact ⟨h.1, h.2.1, fun hl => absurd hl h0⟩
section
variable {w : World} {K : DK} {D : DS} {J : LK} {S : LS}
theorem append_off (hd : Dsk w K D) (h : Lg w K J S) (v : Value) (hl : S.lost = true ∨ D.off = true) :
    Calls Try.prog 15 #[J.ptr, v] w fun e w' => e = .returned (.int .i64 12) ∧ w = w' := by
  have Hm := Lib.hid (lmade_any h)
  have Ho := Lib.hid (off_any hd)
  obtain ⟨_, c1, _, _, _, _, c6⟩ := h.cells
  unfold LK.ptr DK.ptr at *
  cases el : S.lost
  · have eo : D.off = true := by rcases hl with e | e; rw [el] at e; cases e; exact e
    rw [el] at c6
    rw [eo] at Ho
    clear hd h hl
    go_enter Try.func15, Try.ntmps15
    go_wp2_with (first
      | (go_at_call 29; refine Hm.out.mono ?_; rintro e w' ⟨rfl, rfl⟩)
      | (go_at_call 30; refine Ho.out.mono ?_; rintro e w' ⟨rfl, rfl⟩))
    go_ret
    exact ⟨rfl, rfl⟩
  · rw [el] at c6
    clear hd h hl
    go_enter Try.func15, Try.ntmps15
    go_wp2_with (first
      | (go_at_call 29; refine Hm.out.mono ?_; rintro e w' ⟨rfl, rfl⟩)
      | (go_at_call 30; refine Ho.out.mono ?_; rintro e w' ⟨rfl, rfl⟩))
    go_ret
    exact ⟨rfl, rfl⟩
theorem append_long (hd : Dsk w K D) (h : Lg w K J S) (A : Option Addr) (n c : Nat) (hl : S.lost = false) (ho : D.off = false) (hn : 262144 < n) :
    Calls Try.prog 15 #[J.ptr, .slice A n c] w fun e w' => e = .returned (.int .i64 3) ∧ w = w' := by
  have Hm := Lib.hid (lmade_any h)
  have Ho := Lib.hid (off_any hd)
  obtain ⟨_, c1, _, _, _, _, c6⟩ := h.cells
  unfold LK.ptr DK.ptr at *
  rw [hl] at c6
  rw [ho] at Ho
  have hnI : (262144 : Int) < (n : Int) := by omega
  clear hd h hl ho
  go_enter Try.func15, Try.ntmps15
  go_wp2_with (first
    | (go_at_call 29; refine Hm.out.mono ?_; rintro e w' ⟨rfl, rfl⟩)
    | (go_at_call 30; refine Ho.out.mono ?_; rintro e w' ⟨rfl, rfl⟩))
  go_ret
  exact ⟨rfl, rfl⟩
theorem append_full (hd : Dsk w K D) (h : Lg w K J S) (A : Option Addr) (n c : Nat) (hl : S.lost = false) (ho : D.off = false) (hn : n ≤ 262144) (hf : S.secs - S.used < tk n) :
    Calls Try.prog 15 #[J.ptr, .slice A n c] w fun e w' => e = .returned (.int .i64 7) ∧ Below w.heap.size w w' := by
  have Hm := Lib.hid (lmade_any h)
  have Ho := Lib.hid (off_any hd)
  have Hf := Lib.hid (free_any h)
  have Hs := Lib.hid (sectorsOf_any n (by omega))
  obtain ⟨_, c1, _, _, _, _, c6⟩ := h.cells
  unfold LK.ptr DK.ptr at *
  rw [hl] at c6
  rw [ho] at Ho
  have hnI : (n : Int) ≤ 262144 := by omega
  obtain ⟨F, hF⟩ : ∃ F, F = S.secs - S.used := ⟨_, rfl⟩
  obtain ⟨k, hk⟩ : ∃ k, k = tk n := ⟨_, rfl⟩
  rw [← hF] at Hf hf
  rw [← hk] at Hs hf
  have hfI : (F : Int) < (k : Int) := by omega
  clear hd h hl ho hF hk
  go_enter Try.func15, Try.ntmps15
  go_wp2_with (first
    | (go_at_call 29; refine Hm.out.mono ?_; rintro e w' ⟨rfl, rfl⟩)
    | (go_at_call 30; refine Ho.out.mono ?_; rintro e w' ⟨rfl, rfl⟩)
    | (go_at_call 31; refine (Hs.out _).mono ?_; rintro e w' ⟨rfl, rfl⟩)
    | (go_at_call 32; refine Hf.out.mono ?_; rintro e w1 ⟨rfl, hb1⟩; have Hb1 := Lib.hid hb1; clear hb1))
  go_ret
  exact ⟨rfl, Hb1.out⟩
set_option maxHeartbeats 1000000 in
theorem append_goes (hd : Dsk w K D) (h : Lg w K J S) (A : Option Addr) (n c : Nat) (t : List Int) (htl : t.length = n) (hB : Byt w A c t) (hA : 0 < t.length → ∀ a, A = some a → a.block ∉ K.bl) (ht : InB t) (hl : S.lost = false) (ho : D.off = false) (hn : n ≤ 262144) (hf : tk n ≤ S.secs - S.used) (hend : S.from_ + S.secs ≤ D.secs) (hw : D.writes ≤ 576460752303423488) :
    Calls Try.prog 15 #[J.ptr, .slice A n c] w fun e w' => ∃ J', e = .returned (.int .i64 (appD D S t).2.2) ∧ AppQ w w' K J J' (appD D S t).1 (appD D S t).2.1 := by
  have hgK : ∀ q ∈ K.bl, q < w.heap.size := by
    intro q hq; simp [DK.bl] at hq
    rcases hq with rfl | rfl
    · exact hd.glt
    · exact hd.hlt
  have Hm := Lib.hid (lmade_any h)
  have Ho := Lib.hid (off_any hd)
  have Hf := Lib.hid (free_any h)
  have Hs := Lib.hid (sectorsOf_any n (by omega))
  have hfu := h.fit
  have hF : S.used + tk n ≤ S.secs := by omega
  have Hw := Lib.hid (fun (w1 : World) (hb : Below w.heap.size w w1) => lwrite_any (w := w1) (hd.later hb) (h.later hb) A n c t htl hn (hB.below hb (Nat.le_refl _)) ht hF hend ho hw)
  obtain ⟨R, hR⟩ : ∃ R, R = writD D (S.from_ + S.used) t (firstK n (S.secs - S.used)) := ⟨_, rfl⟩
  have happ : appD D S t = if R.2 = 0 then (R.1, { S with used := S.used + tk n, texts := S.texts ++ [t] }, 0) else (R.1, { S with lost := true }, R.2) := by
    unfold appD
    rw [if_neg (by rw [hl, ho]; simp), htl, if_neg (by omega), if_neg (by omega), ← hR]
  rw [happ]
  rw [← hR] at Hw
  obtain ⟨_, c1, _, _, _, _, c6⟩ := h.cells
  rw [hl] at c6
  rw [ho] at Ho
  have H := Lib.hid h
  have HB := Lib.hid hB
  have HA := Lib.hid hA
  have Ht := Lib.hid ht
  have Htl := Lib.hid htl
  have HgK := Lib.hid hgK
  have HF := Lib.hid hF
  have Hn := Lib.hid hn
  have hnI : (n : Int) ≤ 262144 := by omega
  obtain ⟨F, hFe⟩ : ∃ F, F = S.secs - S.used := ⟨_, rfl⟩
  obtain ⟨k, hk⟩ : ∃ k, k = tk n := ⟨_, rfl⟩
  rw [← hFe] at Hf hf
  rw [← hk] at Hs hf
  have hfI : (k : Int) ≤ (F : Int) := by omega
  have hk' : ((tk n : Nat) : Int) = (k : Int) := by rw [hk]
  clear hd h hB hA ht htl ho hR happ hgK hF hFe hk hfu hw hl hend hk'
  by_cases e0 : R.2 = 0
  · rw [if_pos e0]
    rw [e0] at Hw
    have Hkeep := Lib.hid (fun (w1 : World) (hc : Chg K.bl w w1) => keep_any (w := w1) (H.out.disk hc) (fun q hq => Nat.lt_of_lt_of_le (HgK.out q hq) hc.size) (t := t) (v := .slice A n c) ⟨A, c, by rw [Htl.out], byt_chg HB.out hc HA.out⟩ Ht.out (by rw [Htl.out]; exact Hn.out) (by rw [Htl.out]; exact HF.out))
    unfold LK.ptr DK.ptr at *
    clear e0
    go_enter Try.func15, Try.ntmps15
    go_wp2_with (first
      | (go_at_call 29; refine Hm.out.mono ?_; rintro e w' ⟨rfl, rfl⟩)
      | (go_at_call 30; refine Ho.out.mono ?_; rintro e w' ⟨rfl, rfl⟩)
      | (go_at_call 31; refine (Hs.out _).mono ?_; rintro e w' ⟨rfl, rfl⟩)
      | (go_at_call 32; refine Hf.out.mono ?_; rintro e w1 ⟨rfl, hb1⟩; have Hb1 := Lib.hid hb1; clear hb1)
      | (go_at_call 33; refine (Hw.out _ Hb1.out).mono ?_; rintro e w2 ⟨rfl, hd2, hc2⟩; have Hd2 := Lib.hid hd2; have Hc2 := Lib.hid ((Chg.of_below Hb1.out).trans hc2); clear hd2 hc2)
      | (go_at_call 34; refine (Hkeep.out _ Hc2.out).mono ?_; rintro e w3 ⟨rfl, J', hq⟩; have Hq := Lib.hid hq; clear hq))
    go_ret
    have q := Hq.out
    rw [← Htl.out]
    exact ⟨J', rfl, Hd2.out.chg q.chg (fun hm => H.out.kap _ hm (by simp [DK.bl])) (fun hm => H.out.kap _ hm (by simp [DK.bl])), q.lg, q.g, (Hc2.out.mono (fun x hx => .inl (List.mem_append_left _ hx))).trans (q.chg.mono (fun x hx => .inl (List.mem_append_right _ hx))), fun x hx => (q.bl x hx).imp id (fun y => Nat.le_trans Hc2.out.size y), fun x hx => (q.tx x hx).imp id (fun y => Nat.le_trans Hc2.out.size y)⟩
  · rw [if_neg e0]
    obtain ⟨er, her⟩ : ∃ er, er = R.2 := ⟨_, rfl⟩
    rw [← her] at Hw e0 ⊢
    clear her
    unfold LK.ptr DK.ptr at *
    go_enter Try.func15, Try.ntmps15
    go_wp2_with (first
      | (go_at_call 29; refine Hm.out.mono ?_; rintro e w' ⟨rfl, rfl⟩)
      | (go_at_call 30; refine Ho.out.mono ?_; rintro e w' ⟨rfl, rfl⟩)
      | (go_at_call 31; refine (Hs.out _).mono ?_; rintro e w' ⟨rfl, rfl⟩)
      | (go_at_call 32; refine Hf.out.mono ?_; rintro e w1 ⟨rfl, hb1⟩; have Hb1 := Lib.hid hb1; clear hb1)
      | (go_at_call 33; refine (Hw.out _ Hb1.out).mono ?_; rintro e w2 ⟨rfl, hd2, hc2⟩; have hc := (Chg.of_below Hb1.out).trans hc2; have h2 := H.out.disk hc; have c62 := h2.cells.2.2.2.2.2.2; have f62 := free_row h2.row 6; have Hd2 := Lib.hid hd2; have Hc2 := Lib.hid hc; have H2 := Lib.hid h2; clear hd2 hc2 hc h2))
    go_ret
    have hc3 : Chg [J.g] w2 (w2.setCell ⟨J.g, 6, none⟩ (.bool true)) := (Chg.refl _ _).setCell (by simp) _
    have hjk : J.g ∉ K.bl := H.out.kap _ (by simp [LK.bl])
    refine ⟨J, rfl, Hd2.out.chg hc3 (fun hm => hjk (by simp at hm; simp [DK.bl, hm])) (fun hm => hjk (by simp at hm; simp [DK.bl, hm])), H2.out.lose hc3 (by rw [heap_setCell_same _ _ _ _ _ _ H2.out.row, rowL_lost]), rfl, (Hc2.out.mono (fun x hx => .inl (List.mem_append_left _ hx))).trans (hc3.mono (fun x hx => .inl (List.mem_append_right _ (by simp at hx; subst hx; simp [LK.bl])))), fun x hx => .inl hx, fun x hx => .inl hx⟩
/-- Append, whatever the state. -/
theorem append_any (hd : Dsk w K D) (h : Lg w K J S) (A : Option Addr) (n c : Nat) (t : List Int) (htl : t.length = n) (hB : Byt w A c t) (hA : 0 < t.length → ∀ a, A = some a → a.block ∉ K.bl) (ht : InB t) (hend : S.from_ + S.secs ≤ D.secs) (hw : D.writes ≤ 576460752303423488) :
    Calls Try.prog 15 #[J.ptr, .slice A n c] w fun e w' => ∃ J', e = .returned (.int .i64 (appD D S t).2.2) ∧ AppQ w w' K J J' (appD D S t).1 (appD D S t).2.1 := by
  by_cases h1 : S.lost = true ∨ D.off = true
  · have e : appD D S t = (D, S, 12) := by unfold appD; rw [if_pos h1]
    rw [e]
    refine (append_off hd h _ h1).mono ?_
    rintro e w' ⟨rfl, rfl⟩
    exact ⟨J, rfl, .same hd h (Below.refl _ _)⟩
  · have hl : S.lost = false := by cases e : S.lost; rfl; exact absurd (.inl e) h1
    have ho : D.off = false := by cases e : D.off; rfl; exact absurd (.inr e) h1
    by_cases h2 : 262144 < n
    · have e : appD D S t = (D, S, 3) := by unfold appD; rw [if_neg h1, htl, if_pos h2]
      rw [e]
      refine (append_long hd h A n c hl ho h2).mono ?_
      rintro e w' ⟨rfl, rfl⟩
      exact ⟨J, rfl, .same hd h (Below.refl _ _)⟩
    · by_cases h3 : S.secs - S.used < tk n
      · have e : appD D S t = (D, S, 7) := by unfold appD; rw [if_neg h1, htl, if_neg h2, if_pos h3]
        rw [e]
        refine (append_full hd h A n c hl ho (by omega) h3).mono ?_
        rintro e w' ⟨rfl, hb⟩
        exact ⟨J, rfl, .same hd h hb⟩
      · exact append_goes hd h A n c t htl hB hA ht hl ho (by omega) (by omega) hend hw
end
end Go.Proofs.Ythjjkbgkfikglaa.Slt
