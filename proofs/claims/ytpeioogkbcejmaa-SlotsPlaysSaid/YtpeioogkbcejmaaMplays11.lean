/- DERIVED. Texts of ours, merged: XRef9Small XRef9Slot XRef9No XRef9Keep XRef9Zeros. -/
import Derived.Test.YtpeioogkbcejmaaMplays7
import Derived.Test.YtpeioogkbcejmaaMplays8
import Derived.Test.YtpeioogkbcejmaaMplays10
import Derived.Test.YtpeioogkbcejmaaMplays2
import Derived.BigQuiet
import Derived.Lib.AppendZerosOnto
/- DERIVED. Layer 9's reference: Taken, Same; its log, and Room. -/
namespace Go.Proofs.Ytpeioogkbcejmaa.Slt
open Go.RowKit Dsk
set_option maxHeartbeats 1000000 in
theorem taken_any (n : Nat) (hn : n ≤ 262144) (w : World) : Calls Try.prog 40 #[.int .i64 n] w fun e w' => e = .returned (.int .i64 (tk n : Nat)) ∧ w = w' := by
  have hfit := tk_fit n
  have htk : tk n ≤ 2100 := by unfold tk; omega
  have hmin : ∀ k : Nat, 1 ≤ k → k < tk n → k * 128 < n + 5 := fun k h1 h2 => by unfold tk at h2; omega
  have hpos := tk_pos n
  have Hfit := Lib.hid hfit
  have Hmin := Lib.hid hmin
  have Htk := Lib.hid htk
  obtain ⟨T, hT⟩ : ∃ T, T = tk n := ⟨_, rfl⟩
  rw [← hT] at Hfit Hmin Htk hpos ⊢
  clear hfit hmin htk hT
  go_enter Try.func40, Try.ntmps40
  go_wp2
  go_loopw [3] (fun v wr => ∃ k : Nat, 1 ≤ k ∧ k ≤ T ∧ v = .int .i64 k ∧ wr = w) (fun v _ => T - (intOf v).toNat)
  case atStart => exact ⟨1, Nat.le_refl _, hpos, rfl, by first | rfl | trivial⟩
  case round =>
    obtain ⟨k, h1, hk, rfl, rfl⟩ := hrel
    have hk2 : (k : Int) ≤ 2100 := by have := Htk.out; omega
    by_cases hlt : k < T
    · have hltI : (128 : Int) * (k : Int) < (n : Int) + 5 := by have := Hmin.out k h1 hlt; omega
      go_wp2
      exact ⟨⟨k + 1, by omega, by omega, by go_num, trivial⟩, by simp [intOf]; omega⟩
    · obtain rfl : k = T := by omega
      have hltI : ¬ (128 : Int) * (k : Int) < (n : Int) + 5 := by have := Hfit.out; omega
      go_wp2
      go_ret
      exact ⟨rfl, rfl⟩
def rowRL (M : MK) (J : LK) (S : LS) : Array Value := #[M.ptr, .int .i64 S.from_, .int .i64 S.secs, J.v, .int .i64 S.used, .bool S.lost]
/-- the reference's log is S. -/
structure RL (w : World) (M : MK) (J : LK) (S : LS) : Prop where
  row : w.heap[J.g]? = some (.cells (rowRL M J S) 49 (0, 0))
  own : w.ownsRow 0 33 1 J.v S.texts.length J.ts
  gv : ∀ q, J.v.ownBlock = some q → q ≠ J.g
  txt : ∀ i, i < S.texts.length → SlB (S.texts.getD i []) (J.ts.getD i undef) w
  tlt : ∀ q ∈ J.tx, q < w.heap.size
  tap : ∀ q ∈ J.tx, q ∉ M.bl ∧ q ∉ J.bl
  kap : ∀ q ∈ J.bl, q ∉ M.bl
  inb : ∀ t ∈ S.texts, InB t ∧ t.length ≤ 262144
  fit : S.used ≤ S.secs
  end_ : S.from_ + S.secs ≤ 16384
  cnt : S.texts.length ≤ S.used
theorem RL.glt {w : World} {M : MK} {J : LK} {S : LS} (h : RL w M J S) : J.g < w.heap.size := (Array.getElem?_eq_some_iff.1 h.row).1
theorem RL.len {w : World} {M : MK} {J : LK} {S : LS} (h : RL w M J S) : J.ts.length = S.texts.length := by have := h.own.1; omega
theorem RL.chg {T : List Nat} {w w' : World} {M : MK} {J : LK} {S : LS} (h : RL w M J S) (hc : Chg T w w') (h1 : ∀ q ∈ J.bl, q ∉ T) (h2 : ∀ q ∈ J.tx, q ∉ T) : RL w' M J S where
  row := hc.at h.row (h1 _ (by simp [LK.bl]))
  own := own_chg h.own hc (fun q hq => h1 q (by simp [LK.bl, hq]))
  gv := h.gv
  txt i hi := by
    obtain ⟨A, c, e, hB⟩ := h.txt i hi
    refine ⟨A, c, e, hB.chg hc (fun a ha => h2 _ (mem_tx (by rw [e, ha]) (by rw [h.len]; exact hi)))⟩
  tlt q hq := Nat.lt_of_lt_of_le (h.tlt q hq) hc.size
  tap := h.tap
  kap := h.kap
  inb := h.inb
  fit := h.fit
  end_ := h.end_
  cnt := h.cnt
theorem RL.later {w w' : World} {M : MK} {J : LK} {S : LS} (h : RL w M J S) (hb : Below w.heap.size w w') : RL w' M J S :=
  h.chg (T := []) (Chg.of_below hb) (by simp) (by simp)
theorem RL.disk {w w' : World} {M : MK} {J : LK} {S : LS} (h : RL w M J S) (hc : Chg M.bl w w') : RL w' M J S :=
  h.chg hc h.kap (fun q hq => (h.tap q hq).1)
theorem RL.cells {w : World} {M : MK} {J : LK} {S : LS} (h : RL w M J S) : w.cell? ⟨J.g, 0, none⟩ = some (.pointer (some ⟨M.g, 0, none⟩)) ∧ w.cell? ⟨J.g, 1, none⟩ = some (.int .i64 S.from_) ∧ w.cell? ⟨J.g, 2, none⟩ = some (.int .i64 S.secs) ∧ w.cell? ⟨J.g, 3, none⟩ = some J.v ∧ w.cell? ⟨J.g, 4, none⟩ = some (.int .i64 S.used) ∧ w.cell? ⟨J.g, 5, none⟩ = some (.bool S.lost) := by
  refine ⟨?_, ?_, ?_, ?_, ?_, ?_⟩ <;> rw [cell_row h.row] <;> rfl
set_option maxHeartbeats 1000000 in
theorem rroom_any {w : World} {M : MK} {J : LK} {S : LS} (h : RL w M J S) : Calls Try.prog 26 #[.pointer (some ⟨J.g, 0, none⟩)] w fun e w' => e = .returned (.int .i64 (roomI (S.secs - S.used))) ∧ Below w.heap.size w w' := by
  obtain ⟨_, _, c2, _, c4, _⟩ := h.cells
  have h1 := h.fit
  have h2 := h.end_
  obtain ⟨s, hs⟩ : ∃ s, s = S.secs := ⟨_, rfl⟩
  obtain ⟨u, hu⟩ : ∃ u, u = S.used := ⟨_, rfl⟩
  rw [← hs] at c2 h1 h2 ⊢
  rw [← hu] at c4 h1 ⊢
  have hw1 : IntKind.i64.wrap ((s : Int) - (u : Int)) = (s : Int) - (u : Int) := by rw [IntKind.wrap_i64]; omega
  have hw2 : IntKind.i64.wrap (128 * ((s : Int) - (u : Int))) = 128 * ((s : Int) - (u : Int)) := by rw [IntKind.wrap_i64]; omega
  have hw3 : IntKind.i64.wrap (128 * ((s : Int) - (u : Int)) - 5) = 128 * ((s : Int) - (u : Int)) - 5 := by rw [IntKind.wrap_i64]; omega
  have hr : Hid (roomI (s - u) = if 128 * ((s : Int) - (u : Int)) - 5 > 262144 then 262144 else if 128 * ((s : Int) - (u : Int)) - 5 < 0 then -1 else 128 * ((s : Int) - (u : Int)) - 5) := by
    show _ = _
    unfold roomI
    by_cases h0 : s - u = 0
    · rw [if_pos h0, if_neg (by omega), if_pos (by omega)]
    · rw [if_neg h0]
      by_cases h3 : (s - u) * 128 - 5 < 262144
      · rw [if_pos h3, if_neg (by omega), if_neg (by omega)]; omega
      · rw [if_neg h3]
        by_cases h4 : 128 * ((s : Int) - (u : Int)) - 5 > 262144
        · rw [if_pos h4]
        · rw [if_neg h4, if_neg (by omega)]; omega
  clear h hs hu h2
  go_enter Try.func26, Try.ntmps26
  go_upto_region 1 with (fail)
  go_quiet (fail)
  clear hw1 hw2 hw3
  obtain ⟨x, hx⟩ : ∃ x, x = 128 * ((s : Int) - (u : Int)) - 5 := ⟨_, rfl⟩
  rw [← hx] at hr ⊢
  clear hx
  by_cases ha : x > 262144
  · have ha' : (262144 : Int) < x := ha
    go_wp2
    go_ret
    exact ⟨by rw [hr.out, if_pos ha]; rfl, Below.drewN (Below.refl _ _) _⟩
  · have ha' : ¬ (262144 : Int) < x := ha
    by_cases hb : x < 0
    · go_wp2
      go_ret
      exact ⟨by rw [hr.out, if_neg (by omega), if_pos hb]; rfl, Below.drewN (Below.refl _ _) _⟩
    · go_wp2
      go_ret
      exact ⟨by rw [hr.out, if_neg (by omega), if_neg (by omega)]; rfl, Below.drewN (Below.refl _ _) _⟩
end Go.Proofs.Ytpeioogkbcejmaa.Slt
/- DERIVED. Layer 9's reference: slot. -/
namespace Go.Proofs.Ytpeioogkbcejmaa.Slt
open Go.RowKit Dsk
theorem own_full {w : World} {base n : Nat} (L : List Int) (hl : L.length = n) (hb : base ≤ w.heap.size) (hm : n ≤ maxLen) : (w.alloc (.cells (vals L).toArray 5)).ownsRow base 5 1 (.slice (some ⟨w.heap.size, 0, none⟩) n n) n (vals L) :=
  ⟨by rw [vals_length, hl, Nat.mul_one], .inr ⟨w.heap.size, n, (vals L).toArray, rfl, hb, Go.heap_alloc_new w _, Nat.le_refl _, hm, by rw [List.size_toArray, vals_length, hl, Nat.mul_one], by rw [Nat.mul_one]; exact List.take_of_length_le (by rw [vals_length, hl]; exact Nat.le_refl _)⟩⟩
/-- a slot and its first zeros. -/
def slotP (m : Int) (t : List Int) (i : Nat) : List Int := m :: (be4 t.length ++ (t ++ List.replicate i 0))
theorem slotP_len (m : Int) (t : List Int) (i : Nat) : (slotP m t i).length = 5 + t.length + i := by simp [slotP, be4]; omega
theorem slotP_next (m : Int) (t : List Int) (i : Nat) : slotP m t (i + 1) = slotP m t i ++ [0] := by
  simp [slotP, List.replicate_succ']
theorem slotP_full (m : Int) (t : List Int) (k : Nat) : slotP m t (k * 128 - 5 - t.length) = slotB m t k := rfl
set_option maxRecDepth 100000 in
set_option maxHeartbeats 2000000 in
theorem rslot_any {w : World} (A : Option Addr) (n c : Nat) (t : List Int) (m : Int) (hl : t.length = n) (hn : n ≤ 262144) (hB : Byt w A c t) :
    Calls Try.prog 41 #[.slice A n c, .int .u8 m] w fun e w' => ∃ v, e = .returned v ∧ w'.ownsRow w.heap.size 5 1 v (tk n * 128) (vals (slotB m t (tk n))) ∧ Below w.heap.size w w' := by
  have hfit := tk_fit n
  have htk : tk n ≤ 2100 := by unfold tk; omega
  have Ht := Lib.hid (fun w' : World => taken_any n hn w')
  obtain ⟨T, hT⟩ : ∃ T, T = tk n := ⟨_, rfl⟩
  rw [← hT] at Ht hfit htk ⊢
  have HB := Lib.hid hB
  have Hl := Lib.hid hl
  have Hfit := Lib.hid hfit
  have hT2 : (T : Int) ≤ 2100 := by omega
  have hb4 : be4 n = [(n : Int) / 16777216, (n : Int) / 65536 % 256, (n : Int) / 256 % 256, (n : Int) % 256] := by
    unfold be4
    rw [show (n / 16777216 % 256 : Nat) = n / 16777216 by omega]
    simp
  have own0 := own_full (w := w) (base := w.heap.size) (n := 5) (m :: be4 n) (by simp [be4]) (Nat.le_refl _) (by decide)
  rw [hb4] at own0
  have Own0 := Lib.hid own0
  have Hb4 := Lib.hid hb4
  clear hT hB hl hfit htk own0 hb4
  go_enter Try.func41, Try.ntmps41
  go_upto_region 3 with (fail)
  have hbt := HB.out.below ((Below.refl w.heap.size w).alloc (Nat.le_refl _) (.cells (vals [m, (n : Int) / 16777216, (n : Int) / 65536 % 256, (n : Int) / 256 % 256, (n : Int) % 256]).toArray 5)) (Nat.le_refl _)
  have Hbt := Lib.hid hbt
  clear hbt
  go_upto_region 4 with (at_builtin; refine wpList_append_any rfl (.tmp 25) (.tmp 26) rfl w.heap.size _ 5 _ rfl Own0.out A n c t rfl Hl.out Hbt.out (by omega) (by rw [World.size_alloc]; omega) ?_; intro v1 w1 hown1 hlow1; obtain ⟨A1, c1, hv1⟩ := own_nilK hown1; subst hv1; have Own1 := Lib.hid hown1; have Low1 := Lib.hid (hlow1 _ _ ((Below.refl _ _).alloc (Nat.le_refl _) _) (Nat.le_refl _)); clear hown1 hlow1)
  have own1 := Own1.out
  rw [show ([m, (n : Int) / 16777216, (n : Int) / 65536 % 256, (n : Int) / 256 % 256, (n : Int) % 256] ++ t : List Int) = slotP m t 0 by unfold slotP; rw [Hl.out, Hb4.out]; simp] at own1
  have Own2 := Lib.hid own1
  clear own1 Own1 Own0
  go_loopw [6] (fun v wr => ∃ (i : Nat) (A6 : Option Addr) (c6 : Nat), v = .slice A6 (5 + n + i) c6 ∧ 5 + n + i ≤ T * 128 ∧ Hid (wr.ownsRow w.heap.size 5 1 (.slice A6 (5 + n + i) c6) (5 + n + i) (vals (slotP m t i))) ∧ Hid (Below w.heap.size w wr)) (fun v _ => T * 128 - lenV v)
  case atStart => exact ⟨0, A1, c1, rfl, by have := Hfit.out; omega, Own2.out, Low1.out⟩
  case round =>
    obtain ⟨i, A6, c6, rfl, hi, hown, hlow⟩ := hrel
    clear Own2 Low1
    obtain ⟨q, hq⟩ : ∃ q, q = 5 + n + i := ⟨_, rfl⟩
    rw [← hq] at hown hi ⊢
    have Hq := Lib.hid hq
    clear hq
    have hqb : (q : Int) ≤ 268800 := by omega
    by_cases hlt : q < T * 128
    · have hltI : (q : Int) < 128 * (T : Int) := by omega
      have hby := Str.byt_rowT (l := [0]) (n := 1) (Go.heap_alloc_new wr (.cells #[.int .u8 0] 5)) rfl
      have Hby := Lib.hid hby
      have Hown := Lib.hid (own_stays hown.out ((Below.refl wr.heap.size wr).alloc (Nat.le_refl _) (.cells #[.int .u8 0] 5)))
      clear hby hown
      go_wp2_with (first
        | (go_at_call 40; refine (Ht.out _).mono ?_; rintro e w' ⟨rfl, rfl⟩)
        | (at_builtin; refine wpList_append_any rfl (.tmp 34) (.tmp 35) rfl w.heap.size _ q _ rfl Hown.out (some ⟨_, 0, none⟩) 1 1 [0] rfl rfl Hby.out (by omega) (Nat.le_trans hlow.out.size (by rw [World.size_alloc]; omega)) ?_; intro v3 w3 hown3 hlow3; obtain ⟨A3, c3, hv3⟩ := own_nilK hown3; subst hv3; have Own3 := Lib.hid hown3; have Low3 := Lib.hid (hlow3 _ _ (hlow.out.alloc hlow.out.size _) (Nat.le_refl _)); clear hown3 hlow3))
      have own3 := Own3.out
      rw [← slotP_next] at own3
      have hq2 : q + 1 = 5 + n + (i + 1) := by have := Hq.out; omega
      refine ⟨⟨i + 1, A3, c3, by rw [hq2], by rw [← hq2]; omega, by rw [← hq2]; exact own3, Low3.out⟩, ?_⟩
      show T * 128 - lenV (.slice A3 (q + 1) c3) < T * 128 - lenV (.slice A6 q c6)
      simp only [lenV]
      omega
    · have hltI : ¬ (q : Int) < 128 * (T : Int) := by omega
      have hqe : q = T * 128 := by omega
      go_wp2_with (go_at_call 40; refine (Ht.out _).mono ?_; rintro e w' ⟨rfl, rfl⟩)
      go_ret
      have own3 := hown.out
      have hi2 : i = T * 128 - 5 - t.length := by have := Hq.out; have := Hl.out; omega
      rw [hi2, slotP_full] at own3
      exact ⟨_, rfl, by rw [← hqe]; exact own3, hlow.out⟩
end Go.Proofs.Ytpeioogkbcejmaa.Slt
/- DERIVED. Layer 9's reference: Append, where it refuses. -/
namespace Go.Proofs.Ytpeioogkbcejmaa.Slt
open Go.RowKit Dsk
section
variable {w : World} {M : MK} {D : DS} {J : LK} {S : LS}
set_option maxHeartbeats 1000000 in
theorem rappend_off (hd : RD w M D) (h : RL w M J S) (v : Value) (hl : S.lost = true ∨ D.off = true) :
    Calls Try.prog 25 #[.pointer (some ⟨J.g, 0, none⟩), v] w fun e w' => e = .returned (.int .i64 12) ∧ w = w' := by
  obtain ⟨wh, m, hrow, _⟩ := hd.row
  have d1 := (rowR_cells hrow).2.1
  obtain ⟨c0, _, _, _, _, c5⟩ := h.cells
  cases el : S.lost
  · have eo : D.off = true := by rcases hl with e | e; rw [el] at e; cases e; exact e
    rw [el] at c5
    rw [eo] at d1
    clear hd h hl hrow
    go_enter Try.func25, Try.ntmps25
    go_wp2
    go_ret
    exact ⟨rfl, rfl⟩
  · rw [el] at c5
    clear hd h hl hrow d1
    go_enter Try.func25, Try.ntmps25
    go_wp2
    go_ret
    exact ⟨rfl, rfl⟩
set_option maxHeartbeats 1000000 in
theorem rappend_long (hd : RD w M D) (h : RL w M J S) (A : Option Addr) (n c : Nat) (hl : S.lost = false) (ho : D.off = false) (hn : 262144 < n) :
    Calls Try.prog 25 #[.pointer (some ⟨J.g, 0, none⟩), .slice A n c] w fun e w' => e = .returned (.int .i64 3) ∧ w = w' := by
  obtain ⟨wh, m, hrow, _⟩ := hd.row
  have d1 := (rowR_cells hrow).2.1
  obtain ⟨c0, _, _, _, _, c5⟩ := h.cells
  rw [hl] at c5
  rw [ho] at d1
  have hnI : (262144 : Int) < (n : Int) := by omega
  clear hd h hl ho hrow
  go_enter Try.func25, Try.ntmps25
  go_wp2
  go_ret
  exact ⟨rfl, rfl⟩
set_option maxHeartbeats 2000000 in
theorem rappend_full (hd : RD w M D) (h : RL w M J S) (A : Option Addr) (n c : Nat) (hl : S.lost = false) (ho : D.off = false) (hn : n ≤ 262144) (hf : S.secs - S.used < tk n) :
    Calls Try.prog 25 #[.pointer (some ⟨J.g, 0, none⟩), .slice A n c] w fun e w' => e = .returned (.int .i64 7) ∧ Below w.heap.size w w' := by
  have Ht := Lib.hid (fun w' : World => taken_any n hn w')
  obtain ⟨wh, m, hrow, _⟩ := hd.row
  have d1 := (rowR_cells hrow).2.1
  obtain ⟨c0, _, c2, _, c4, c5⟩ := h.cells
  rw [hl] at c5
  rw [ho] at d1
  have hnI : (n : Int) ≤ 262144 := by omega
  have hfu := h.fit
  have hen := h.end_
  have htk : tk n ≤ 2100 := by unfold tk; omega
  obtain ⟨k, hk⟩ : ∃ k, k = tk n := ⟨_, rfl⟩
  rw [← hk] at Ht hf htk
  obtain ⟨s, hs⟩ : ∃ s, s = S.secs := ⟨_, rfl⟩
  obtain ⟨u, hu⟩ : ∃ u, u = S.used := ⟨_, rfl⟩
  rw [← hs] at c2 hf hfu hen
  rw [← hu] at c4 hf hfu
  have hw1 : IntKind.i64.wrap ((u : Int) + (k : Int)) = (u : Int) + (k : Int) := by rw [IntKind.wrap_i64]; omega
  have hfI : (s : Int) < (u : Int) + (k : Int) := by omega
  clear hd h hl ho hk hs hu hrow
  go_enter Try.func25, Try.ntmps25
  go_upto_region 6 with (go_at_call 40; refine (Ht.out _).mono ?_; rintro e w' ⟨rfl, rfl⟩)
  go_quiet (fail)
  go_wp2
  go_ret
  exact ⟨rfl, Below.drewN (Below.refl _ _) _⟩
end
end Go.Proofs.Ytpeioogkbcejmaa.Slt
/- DERIVED. Layer 9's reference: what its Append leaves of its disk and its log. -/
namespace Go.Proofs.Ytpeioogkbcejmaa.Slt
open Go.RowKit Dsk
/-- what a call leaves of the reference's disk and its log. -/
structure RAppQ (w w' : World) (M : MK) (J J' : LK) (D : DS) (S : LS) : Prop where
  rd : RD w' M D
  rl : RL w' M J' S
  g : J'.g = J.g
  chg : Chg (M.bl ++ J.bl) w w'
  bl : ∀ q ∈ J'.bl, q ∈ J.bl ∨ w.heap.size ≤ q
  tx : ∀ q ∈ J'.tx, q ∈ J.tx ∨ w.heap.size ≤ q
theorem RAppQ.same {w w' : World} {M : MK} {J : LK} {D : DS} {S : LS} (hd : RD w M D) (h : RL w M J S) (hb : Below w.heap.size w w') : RAppQ w w' M J J D S :=
  ⟨hd.later hb, h.later hb, rfl, Chg.of_below hb, fun _ h => .inl h, fun _ h => .inl h⟩
theorem rowRL_lost {M : MK} {J : LK} {S : LS} : (rowRL M J S).setIfInBounds 5 (.bool true) = rowRL M J { S with lost := true } := rfl
theorem RL.gtx {w : World} {M : MK} {J : LK} {S : LS} (h : RL w M J S) : J.g ∉ J.tx := fun hm => (h.tap _ hm).2 (by simp [LK.bl])
theorem RL.lose {w w' : World} {M : MK} {J : LK} {S : LS} (h : RL w M J S) (hc : Chg [J.g] w w') (hr : w'.heap[J.g]? = some (.cells (rowRL M J { S with lost := true }) 49 (0, 0))) : RL w' M J { S with lost := true } where
  row := hr
  own := own_chg h.own hc (fun q hq => by simp; exact h.gv q hq)
  gv := h.gv
  txt i hi := by
    obtain ⟨A, c, e, hB⟩ := h.txt i hi
    refine ⟨A, c, e, hB.chg hc (fun a ha hm => h.gtx ?_)⟩
    have := mem_tx (J := J) (i := i) (by rw [e, ha]) (by rw [h.len]; exact hi)
    simp at hm
    rw [← hm]
    exact this
  tlt q hq := Nat.lt_of_lt_of_le (h.tlt q hq) hc.size
  tap := h.tap
  kap := h.kap
  inb := h.inb
  fit := h.fit
  end_ := h.end_
  cnt := h.cnt
/-- the record's copy and its row, the store past: the log has one more. -/
structure RKept (M : MK) (J : LK) (S : LS) (t : List Int) (w : World) (J' : LK) (w' : World) : Prop where
  g : J'.g = J.g
  rl : RL w' M J' { S with used := S.used + tk t.length, texts := S.texts ++ [t] }
  chg : Chg J.bl w w'
  bl : ∀ q ∈ J'.bl, q ∈ J.bl ∨ w.heap.size ≤ q
  tx : ∀ q ∈ J'.tx, q ∈ J.tx ∨ w.heap.size ≤ q
theorem rkept_of {w w' : World} {M : MK} {J : LK} {S : LS} {t : List Int} {y z : Value} (h : RL w M J S) (hK : ∀ q ∈ M.bl, q < w.heap.size) (ht : InB t) (hl : t.length ≤ 262144) (hf : S.used + tk t.length ≤ S.secs)
    (hr : w'.heap[J.g]? = some (.cells (rowRL M ⟨J.g, z, J.ts ++ [y]⟩ { S with used := S.used + tk t.length, texts := S.texts ++ [t] }) 49 (0, 0))) (ho : OX S.texts.length J.ts J.v w.heap.size y z w') (hy : YX t w.heap.size y w') (hc : Chg J.bl w w') : RKept M J S t w ⟨J.g, z, J.ts ++ [y]⟩ w' := by
  have hbl : ∀ q ∈ (⟨J.g, z, J.ts ++ [y]⟩ : LK).bl, q ∈ J.bl ∨ w.heap.size ≤ q := by
    intro q hq
    simp only [LK.bl, List.mem_cons, Option.mem_toList] at hq ⊢
    rcases hq with rfl | hq
    · exact .inl (.inl rfl)
    · rcases ho.blk with e | ⟨q', e, hq', _⟩
      · rw [e] at hq; exact .inl (.inr hq)
      · rw [e] at hq; cases hq; exact .inr hq'
  have htx : ∀ q ∈ (⟨J.g, z, J.ts ++ [y]⟩ : LK).tx, q ∈ J.tx ∨ (y.ownBlock = some q) := by
    intro q hq
    simp only [LK.tx, List.flatMap_append, List.mem_append, List.flatMap_cons, List.flatMap_nil, List.append_nil, Option.mem_toList] at hq ⊢
    exact hq
  have hbw : ∀ q ∈ J.bl, q < w.heap.size := by
    intro q hq
    simp only [LK.bl, List.mem_cons, Option.mem_toList] at hq
    rcases hq with rfl | hq
    · exact h.glt
    · exact (h.own.lt q hq).2
  have hz : z.ownBlock ≠ some J.g := ho.ne (fun e => h.gv _ e rfl) h.glt
  have h1 := h.cnt
  have h2 := tk_pos t.length
  refine ⟨rfl, ⟨hr, by rw [List.length_append]; exact ho.own, fun q hq e => hz (by rw [← e]; exact hq), ?_, ?_, ?_, ?_, ?_, hf, h.end_, by simp only [List.length_append, List.length_cons, List.length_nil]; omega⟩, hc, hbl, fun q hq => (htx q hq).imp id (fun e => (hy.own q e).1)⟩
  · intro i hi
    simp only [List.length_append, List.length_cons, List.length_nil] at hi
    by_cases e : i < S.texts.length
    · have h1 : (S.texts ++ [t]).getD i [] = S.texts.getD i [] := by simp [List.getD_eq_getElem?_getD, List.getElem?_append_left e]
      have h2 : (J.ts ++ [y]).getD i undef = J.ts.getD i undef := by simp [List.getD_eq_getElem?_getD, List.getElem?_append_left (show i < J.ts.length by rw [h.len]; exact e)]
      simp only [h1, h2]
      obtain ⟨A, c, e1, hB⟩ := h.txt i e
      exact ⟨A, c, e1, hB.chg hc (fun a ha => (h.tap _ (mem_tx (by rw [e1, ha]) (by rw [h.len]; exact e))).2)⟩
    · obtain rfl : i = S.texts.length := by omega
      have h1 : (S.texts ++ [t]).getD S.texts.length [] = t := by simp [List.getD_eq_getElem?_getD]
      have h2 : (J.ts ++ [y]).getD S.texts.length undef = y := by rw [← h.len]; simp [List.getD_eq_getElem?_getD]
      simp only [h1, h2]
      exact hy.sl
  · intro q hq
    rcases htx q hq with a | a
    · exact Nat.lt_of_lt_of_le (h.tlt q a) hc.size
    · exact (hy.own q a).2
  · intro q hq
    rcases htx q hq with a | a
    · refine ⟨(h.tap q a).1, fun hm => ?_⟩
      rcases hbl q hm with b | b
      · exact (h.tap q a).2 b
      · have := h.tlt q a; omega
    · have hge := (hy.own q a).1
      refine ⟨fun hm => by have := hK q hm; omega, fun hm => ?_⟩
      simp only [LK.bl, List.mem_cons, Option.mem_toList] at hm
      rcases hm with rfl | hm
      · have := h.glt; omega
      · rcases ho.blk with e | ⟨q', e, _, hn⟩
        · rw [e] at hm; have := (h.own.lt q hm).2; omega
        · rw [e] at hm; cases hm; exact hn q a rfl
  · intro q hq hm
    rcases hbl q hq with b | b
    · exact h.kap q b hm
    · have := hK q hm; omega
  · intro x hx
    rcases List.mem_append.1 hx with a | a
    · exact h.inb x a
    · simp at a; subst a; exact ⟨ht, hl⟩
end Go.Proofs.Ytpeioogkbcejmaa.Slt
/- DERIVED. append of some zeros (append of a made slice) to an own row of bytes. -/
namespace Go.Proofs.Ytpeioogkbcejmaa.Slt
open Go.RowKit Dsk
theorem zero_cells (m : Nat) : (Builtin.zeroCells (Value.int .u8 0).cells m).toList = vals (List.replicate m 0) := by
  have h1 : (Value.int .u8 0).cells = #[.int .u8 0] := rfl
  apply List.ext_getElem?
  intro i
  simp only [Builtin.zeroCells, h1, vals, Array.toList_map, Array.toList_range, List.size_toArray, List.length_cons, List.length_nil, Nat.mul_one, Nat.zero_add, Nat.mod_one]
  by_cases hi : i < m
  · simp [hi]
  · simp [hi]
theorem info8t : (Try.prog.info? 5).map (fun i => (i.zero, i.size, i.bytes)) = some (some (.int .u8 0), 1, 1) := info8z
set_option maxHeartbeats 1000000 in
theorem wpList_append_zeros {w : World} {ops : Array Oper} {rest : List Oper} {o : Oper} {a : Act} {Q : Exit → Act → World → Prop} (hgd : o.guard = none) (s x : Operand)
    (ho : o.op = .call { callee := .builtin .append, args := #[s, x], argTypes := #[33, 3] }) (base : Nat) (v : Value) (n : Nat) (L : List Int) (hs : a.eval s = v) (hown : w.ownsRow base 5 1 v n (vals L)) (h0 : 0 < n)
    (m : Nat) (hx : a.eval x = .int .i64 m) (hm0 : 0 < m) (h63 : n + m ≤ 4294967296) (hbase : base ≤ w.heap.size)
    (h : ∀ v' w', w'.ownsRow base 5 1 v' (n + m) (vals (L ++ List.replicate m 0)) → (∀ B u, Below B u w → B ≤ base → Below B u w') → wpList Try.prog ops Q rest (a.put o.dst v') w') : wpList Try.prog ops Q (o :: rest) a w := by
  obtain ⟨i0, hi0, hz00, hz10, hz20⟩ := info_parts info8t
  have hll : (vals L ++ vals (List.replicate m 0)).length = (n + m) * 1 := by rw [List.length_append, hown.1, vals_length, List.length_replicate]; omega
  rcases hown.2 with ⟨_, e⟩ | ⟨g, cap, cur, rfl, hbg, hg, hnc, hcm, hcs, htake⟩
  · omega
  have hzc := zero_cells m
  have fin : ∀ v' w', (Builtin.append_ #[33, 3] o.type #[.slice (some ⟨g, 0, none⟩) n cap, .int .i64 m]).run Try.prog w = .ok v' w' → w'.ownsRow base 5 1 v' (n + m) (vals L ++ vals (List.replicate m 0)) → w.grownBy w' (some g) → wpList Try.prog ops Q (o :: rest) a w := fun v' w' hr ho' hgr => by
    refine Lib.wpList_append_run w hgd s x _ _ ho _ _ hs hx v' w' hr (h v' w' (by rw [← vals_app]; exact ho') (fun B u hu hB => hu.grown hgr (by omega) (fun k hk => by cases hk; omega)))
  by_cases hroom : n + m ≤ cap
  · have hfit : n * 1 + (vals (List.replicate m 0)).length ≤ cur.size := by rw [vals_length, List.length_replicate, hcs]; omega
    have hst := run_storeCells_at Try.prog g (n * 1) 5 (vals (List.replicate m 0)) 0 cur w hg (by simpa using hfit) (vals_one _)
    simp only [Nat.add_zero] at hst
    have hw : IntKind.i64.wrap (m : Int) = m := by rw [IntKind.wrap_i64]; omega
    have hneg : ¬ ((m : Int) < 0) := by omega
    have h48i : ¬ (281474976710656 < (m : Int)) := by omega
    have hmn : m ≠ 0 := by omega
    have hr : (Builtin.append_ #[33, 3] o.type #[.slice (some ⟨g, 0, none⟩) n cap, .int .i64 m]).run Try.prog w = .ok (.slice (some ⟨g, 0, none⟩) (n + m) cap) (w.setRow g (cur.toList.take (n * 1) ++ vals (List.replicate m 0) ++ cur.toList.drop (n * 1 + (vals (List.replicate m 0)).length)).toArray) := by
      simp only [Nat.mul_one] at hst ⊢
      simp [Builtin.append_, run_underlying Try.underlying33, run_underlying Try.underlying3, sizeOf, typeInfo, zeroValue, hi0, hz00, hz10, hz20, asInt, asIntOf, hw, hneg, h48i, hmn, hroom, Addr.add_lit, hzc, hst]
    refine fin _ _ hr ⟨hll, .inr ⟨g, cap, _, rfl, hbg, setRow_heap w g cur _ _ _ hg, hroom, hcm, ?_, ?_⟩⟩ ⟨rfl, rfl, rfl, by simp, fun k _ hk => setRow_other w g k _ (fun e => hk (by simp [e]))⟩
    · simp only [List.size_toArray, List.length_append, List.length_take, List.length_drop, Array.length_toList]
      omega
    · rw [htake, ← hll]
      exact List.take_left
  · have holds : ∀ j u, (vals L)[j]? = some u → w.drew.cell? ((⟨g, 0, none⟩ : Addr).add j) = some u := hown.cells (g := g) rfl
    have hf := run_firstCells_some (P := Try.prog) w.drew 1 n ⟨g, 0, none⟩ n cap (vals L) hown.1 holds
    have hr := Lib.run_append_grow_zeros (P := Try.prog) w 33 3 o.type 5 i0 (.int .u8 0) .i64 .i64 Try.underlying33 Try.underlying3 hi0 hz00 (some ⟨g, 0, none⟩) n cap (vals L) (by rw [hz10]; exact hf) m hm0 (by omega) (by omega) (by omega) (by rw [hz20]; omega) (growslice_fits (by omega) (by rw [hz20]; omega))
    have hge := grownCap_ge w (n + m) cap 5
    have hcm2 : grownCap w (n + m) cap 5 ≤ maxLen := grownCap_le_maxLen w (n + m) cap _ (by unfold maxLen; omega)
    refine fin _ _ hr ⟨hll, .inr ⟨w.heap.size, _, _, rfl, hbase, Go.heap_alloc_new w.drew _, hge, hcm2, ?_, ?_⟩⟩ ⟨rfl, rfl, rfl, by simp, fun k hk _ => Go.heap_alloc_old w.drew _ (r := k) hk⟩
    · have h1 : (Value.int .u8 0).cells.size = 1 := rfl
      simp only [Array.size_append, List.size_toArray, size_zeroCells, h1, hown.1]
      omega
    · simp only [Array.toList_append, List.append_assoc, hzc]
      rw [← List.append_assoc, ← hll]
      exact List.take_left
end Go.Proofs.Ytpeioogkbcejmaa.Slt
